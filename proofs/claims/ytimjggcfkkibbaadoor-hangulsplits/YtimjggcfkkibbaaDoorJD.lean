import Derived.Test.YtimjggcfkkibbaaDoorJC
namespace Go.Proofs.YtimjggcfkkibbaaDoor.Ha
open Go.RowKit

theorem ret_is {a : Int} {b c : Bool} (h : b = c) : Ending.returned (.tuple #[.int .i32 a, .bool b]) = .returned (.tuple #[.int .i32 a, .bool c]) := by rw [h]
set_option maxHeartbeats 400000 in
theorem stands0 (r : Int) (w : World) (hT : Tab w) : Calls Tryd.prog 26 #[.int .i64 0, .int .i32 r] w fun e w' => e = .returned (.bool (decide (4352 ≤ r ∧ r ≤ 4370))) ∧ w' = w := by
  have hpos := hT.pos
  obtain ⟨f, l, -, -, -, -, -, -, -, -, -, -⟩ := hT
  by_cases h1 : 4352 ≤ r
  · by_cases h2 : r ≤ 4370
    · have H := Lib.hid (show decide (4352 ≤ r ∧ r ≤ 4370) = true from decide_eq_true ⟨h1, h2⟩)
      go_enter Tryd.func26, Tryd.ntmps26
      go_wp2
      go_ret
      exact ⟨ret_bool (by simp; omega), rfl⟩
    · have H := Lib.hid (show decide (4352 ≤ r ∧ r ≤ 4370) = false from decide_eq_false (by omega))
      go_enter Tryd.func26, Tryd.ntmps26
      go_wp2
      go_ret
      exact ⟨ret_bool (by simp; omega), rfl⟩
  · have H := Lib.hid (show decide (4352 ≤ r ∧ r ≤ 4370) = false from decide_eq_false (by omega))
    go_enter Tryd.func26, Tryd.ntmps26
    go_wp2
    go_ret
    exact ⟨ret_bool (by simp; omega), rfl⟩
set_option maxHeartbeats 400000 in
theorem adds0 (r : Int) (w : World) (hT : Tab w) (hr : 4352 ≤ r ∧ r ≤ 4370) : Calls Tryd.prog 23 #[.int .i64 0, .int .i32 r] w fun e w' => e = .returned (.int .i32 ((r - 4352) * 588)) ∧ ∃ m, w' = w.drewN m := by
  have hpos := hT.pos
  obtain ⟨f, -, c, u, -, -, -, -, -, -, -, -⟩ := hT
  obtain ⟨d, hd⟩ : ∃ d, d = r - 4352 := ⟨_, rfl⟩
  have n1 : IntKind.i32.wrap (r - 4352) = d := by rw [IntKind.wrap_i32]; omega
  have n2 : IntKind.i32.wrap (d + 0) = d + 0 := by rw [IntKind.wrap_i32]; omega
  have n3 : IntKind.i32.wrap d = d := by rw [IntKind.wrap_i32]; omega
  have n4 : IntKind.i32.wrap ((d) * 588) = (d) * 588 := by rw [IntKind.wrap_i32]; omega
  have H := Lib.hid (show (d) * 588 = (r - 4352) * 588 by omega)
  clear hd hr
  go_enter Tryd.func23, Tryd.ntmps23
  go_wp2_with fail
  go_quiet (fail)
  go_wp2_with fail
  go_ret
  exact ⟨ret_int (by rw [← H.out]), _, rfl⟩
set_option maxHeartbeats 400000 in
theorem stands1 (r : Int) (w : World) (hT : Tab w) : Calls Tryd.prog 26 #[.int .i64 1, .int .i32 r] w fun e w' => e = .returned (.bool (decide (4449 ≤ r ∧ r ≤ 4469))) ∧ w' = w := by
  have hpos := hT.pos
  obtain ⟨-, -, -, -, f, l, -, -, -, -, -, -⟩ := hT
  by_cases h1 : 4449 ≤ r
  · by_cases h2 : r ≤ 4469
    · have H := Lib.hid (show decide (4449 ≤ r ∧ r ≤ 4469) = true from decide_eq_true ⟨h1, h2⟩)
      go_enter Tryd.func26, Tryd.ntmps26
      go_wp2
      go_ret
      exact ⟨ret_bool (by simp; omega), rfl⟩
    · have H := Lib.hid (show decide (4449 ≤ r ∧ r ≤ 4469) = false from decide_eq_false (by omega))
      go_enter Tryd.func26, Tryd.ntmps26
      go_wp2
      go_ret
      exact ⟨ret_bool (by simp; omega), rfl⟩
  · have H := Lib.hid (show decide (4449 ≤ r ∧ r ≤ 4469) = false from decide_eq_false (by omega))
    go_enter Tryd.func26, Tryd.ntmps26
    go_wp2
    go_ret
    exact ⟨ret_bool (by simp; omega), rfl⟩
set_option maxHeartbeats 400000 in
theorem adds1 (r : Int) (w : World) (hT : Tab w) (hr : 4449 ≤ r ∧ r ≤ 4469) : Calls Tryd.prog 23 #[.int .i64 1, .int .i32 r] w fun e w' => e = .returned (.int .i32 ((r - 4449) * 28)) ∧ ∃ m, w' = w.drewN m := by
  have hpos := hT.pos
  obtain ⟨-, -, -, -, f, -, c, u, -, -, -, -⟩ := hT
  obtain ⟨d, hd⟩ : ∃ d, d = r - 4449 := ⟨_, rfl⟩
  have n1 : IntKind.i32.wrap (r - 4449) = d := by rw [IntKind.wrap_i32]; omega
  have n2 : IntKind.i32.wrap (d + 0) = d + 0 := by rw [IntKind.wrap_i32]; omega
  have n3 : IntKind.i32.wrap d = d := by rw [IntKind.wrap_i32]; omega
  have n4 : IntKind.i32.wrap ((d) * 28) = (d) * 28 := by rw [IntKind.wrap_i32]; omega
  have H := Lib.hid (show (d) * 28 = (r - 4449) * 28 by omega)
  clear hd hr
  go_enter Tryd.func23, Tryd.ntmps23
  go_wp2_with fail
  go_quiet (fail)
  go_wp2_with fail
  go_ret
  exact ⟨ret_int (by rw [← H.out]), _, rfl⟩
set_option maxHeartbeats 400000 in
theorem stands2 (r : Int) (w : World) (hT : Tab w) : Calls Tryd.prog 26 #[.int .i64 2, .int .i32 r] w fun e w' => e = .returned (.bool (decide (4520 ≤ r ∧ r ≤ 4546))) ∧ w' = w := by
  have hpos := hT.pos
  obtain ⟨-, -, -, -, -, -, -, -, f, l, -, -⟩ := hT
  by_cases h1 : 4520 ≤ r
  · by_cases h2 : r ≤ 4546
    · have H := Lib.hid (show decide (4520 ≤ r ∧ r ≤ 4546) = true from decide_eq_true ⟨h1, h2⟩)
      go_enter Tryd.func26, Tryd.ntmps26
      go_wp2
      go_ret
      exact ⟨ret_bool (by simp; omega), rfl⟩
    · have H := Lib.hid (show decide (4520 ≤ r ∧ r ≤ 4546) = false from decide_eq_false (by omega))
      go_enter Tryd.func26, Tryd.ntmps26
      go_wp2
      go_ret
      exact ⟨ret_bool (by simp; omega), rfl⟩
  · have H := Lib.hid (show decide (4520 ≤ r ∧ r ≤ 4546) = false from decide_eq_false (by omega))
    go_enter Tryd.func26, Tryd.ntmps26
    go_wp2
    go_ret
    exact ⟨ret_bool (by simp; omega), rfl⟩
set_option maxHeartbeats 400000 in
theorem adds2 (r : Int) (w : World) (hT : Tab w) (hr : 4520 ≤ r ∧ r ≤ 4546) : Calls Tryd.prog 23 #[.int .i64 2, .int .i32 r] w fun e w' => e = .returned (.int .i32 (r - 4519)) ∧ ∃ m, w' = w.drewN m := by
  have hpos := hT.pos
  obtain ⟨-, -, -, -, -, -, -, -, f, -, c, u⟩ := hT
  obtain ⟨d, hd⟩ : ∃ d, d = r - 4520 := ⟨_, rfl⟩
  have n1 : IntKind.i32.wrap (r - 4520) = d := by rw [IntKind.wrap_i32]; omega
  have n2 : IntKind.i32.wrap (d + 1) = d + 1 := by rw [IntKind.wrap_i32]; omega
  have n3 : IntKind.i32.wrap d = d := by rw [IntKind.wrap_i32]; omega
  have n4 : IntKind.i32.wrap ((d + 1) * 1) = (d + 1) * 1 := by rw [IntKind.wrap_i32]; omega
  have H := Lib.hid (show (d + 1) * 1 = r - 4519 by omega)
  clear hd hr
  go_enter Tryd.func23, Tryd.ntmps23
  go_wp2_with fail
  go_quiet (fail)
  go_wp2_with fail
  go_ret
  exact ⟨ret_int (by rw [← H.out]; omega), _, rfl⟩

def spV (x : Int × Int × Bool) : Value := .tuple #[.int .i32 x.1, .int .i32 x.2.1, .bool x.2.2]
def jnV (x : Int × Bool) : Value := .tuple #[.int .i32 x.1, .bool x.2]
theorem spV_eq {x : Int × Int × Bool} {a b : Int} {c : Bool} (h : x = (a, b, c)) : Ending.returned (.tuple #[.int .i32 a, .int .i32 b, .bool c]) = .returned (spV x) := by subst h; rfl
theorem jnV_eq {x : Int × Bool} {a : Int} {c : Bool} (h : x = (a, c)) : Ending.returned (.tuple #[.int .i32 a, .bool c]) = .returned (jnV x) := by subst h; rfl

end Go.Proofs.YtimjggcfkkibbaaDoor.Ha

import Derived.Test.YtimjggcfkkibbaaDoorJB
namespace Go.Proofs.YtimjggcfkkibbaaDoor.Ha
open Go.RowKit

theorem of_any (a b c : Int) (w : World) (ha : -1 ≤ a ∧ a ≤ 20) (hb : 0 ≤ b ∧ b ≤ 21) (hc : 0 ≤ c ∧ c ≤ 28) :
    Calls Tryd.prog 25 #[.int .i64 a, .int .i64 b, .int .i64 c] w fun e w' => e = .returned (.int .i32 (44032 + 588 * a + 28 * b + c)) ∧ w = w' := by
  have n1 : wrap64 (588 * a) = 588 * a := by unfold wrap64; omega
  have n2 : wrap64 (44032 + 588 * a) = 44032 + 588 * a := by unfold wrap64; omega
  have n3 : wrap64 (28 * b) = 28 * b := by unfold wrap64; omega
  have n4 : wrap64 (44032 + 588 * a + 28 * b) = 44032 + 588 * a + 28 * b := by unfold wrap64; omega
  have n5 : wrap64 (44032 + 588 * a + 28 * b + c) = 44032 + 588 * a + 28 * b + c := by unfold wrap64; omega
  have n6 : IntKind.i32.wrap (44032 + 588 * a + 28 * b + c) = 44032 + 588 * a + 28 * b + c := by rw [IntKind.wrap_i32]; omega
  go_enter Tryd.func25, Tryd.ntmps25
  go_wp2
  go_ret
  exact ⟨rfl, rfl⟩

/-- What Find answers. -/
def findE (r : Int) : Int × Int × Int × Bool := if isS r = true then (ldN r, vwN r, tlN r, true) else (0, 0, 0, false)
def fdV (x : Int × Int × Int × Bool) : Value := .tuple #[.int .i64 x.1, .int .i64 x.2.1, .int .i64 x.2.2.1, .bool x.2.2.2]
theorem fdV_eq {x : Int × Int × Int × Bool} {a b c : Int} {d : Bool} (h : x = (a, b, c, d)) : Ending.returned (.tuple #[.int .i64 a, .int .i64 b, .int .i64 c, .bool d]) = .returned (fdV x) := by subst h; rfl
theorem find_at {r a b c : Int} (ha : 0 ≤ a ∧ a < 19) (hb : 0 ≤ b ∧ b < 21) (hc : 0 ≤ c ∧ c < 28) (h : 44032 + 588 * a + 28 * b + c = r) : findE r = (a, b, c, true) := by
  obtain ⟨h1, h2, h3⟩ := parts_of (a := a) hb hc
  rw [h] at h1 h2 h3
  unfold findE
  rw [if_pos (by rw [isS_iff]; omega), h1, h2, h3]
theorem find_no {r : Int} (h : ¬ (44032 ≤ r ∧ r ≤ 55203)) : findE r = (0, 0, 0, false) := by
  unfold findE
  rw [if_neg (by rw [isS_iff]; exact h)]

set_option maxHeartbeats 4000000 in
set_option maxRecDepth 100000 in
theorem find_any (r : Int) (w : World) : Calls Tryd.prog 24 #[.int .i32 r] w fun e w' => e = .returned (fdV (findE r)) ∧ w = w' := by
  go_enter Tryd.func24, Tryd.ntmps24
  go_wp2_with fail
  go_loop [6] (fun i => ∃ a : Int, i = .int .i64 a ∧ 0 ≤ a ∧ a ≤ 19 ∧ (r < 44032 ∨ 44032 + 588 * a ≤ r)) (fun i => (19 - intOf i).toNat)
  case atStart => exact ⟨0, rfl, by omega, by omega, by omega⟩
  case round =>
    obtain ⟨a, rfl, a0, a1, hr⟩ := hrel
    have m1 : wrap64 (a + 1) = a + 1 := by unfold wrap64; omega
    by_cases hlt : a < 19
    · have O1 := Lib.hid (of_any a 0 0 w (by omega) (by omega) (by omega))
      have O2 := Lib.hid (of_any (a + 1) 0 0 w (by omega) (by omega) (by omega))
      by_cases h1 : r < 44032 + 588 * a
      · go_wp2_with (first
          | (go_at_call 25; (with_reducible refine O1.out.mono ?_); rintro e w' ⟨rfl, rfl⟩)
          | (go_at_call 25; (with_reducible refine O2.out.mono ?_); rintro e w' ⟨rfl, rfl⟩))
        go_round
        case rel => exact ⟨a + 1, rfl, by omega, by omega, by omega⟩
        case measure => simp [intOf]; omega
      · by_cases h2 : 44032 + 588 * (a + 1) ≤ r
        · go_wp2_with (first
            | (go_at_call 25; (with_reducible refine O1.out.mono ?_); rintro e w' ⟨rfl, rfl⟩)
            | (go_at_call 25; (with_reducible refine O2.out.mono ?_); rintro e w' ⟨rfl, rfl⟩))
          go_round
          case rel => exact ⟨a + 1, rfl, by omega, by omega, by omega⟩
          case measure => simp [intOf]; omega
        · go_wp2_with (first
            | (go_at_call 25; (with_reducible refine O1.out.mono ?_); rintro e w' ⟨rfl, rfl⟩)
            | (go_at_call 25; (with_reducible refine O2.out.mono ?_); rintro e w' ⟨rfl, rfl⟩))
          go_loop [7] (fun i => ∃ b : Int, i = .int .i64 b ∧ 0 ≤ b ∧ b ≤ 21 ∧ 44032 + 588 * a + 28 * b ≤ r) (fun i => (21 - intOf i).toNat)
          case atStart => exact ⟨0, rfl, by omega, by omega, by omega⟩
          case round =>
            obtain ⟨b, rfl, b0, b1, hb⟩ := hrel
            have m2 : wrap64 (b + 1) = b + 1 := by unfold wrap64; omega
            by_cases hlt2 : b < 21
            · go_wp2_with fail
              go_loop [8] (fun i => ∃ c : Int, i = .int .i64 c ∧ 0 ≤ c ∧ c ≤ 28 ∧ 44032 + 588 * a + 28 * b + c ≤ r) (fun i => (28 - intOf i).toNat)
              case atStart => exact ⟨0, rfl, by omega, by omega, by omega⟩
              case round =>
                obtain ⟨c, rfl, c0, c1, hc⟩ := hrel
                have m3 : wrap64 (c + 1) = c + 1 := by unfold wrap64; omega
                by_cases hlt3 : c < 28
                · have O3 := Lib.hid (of_any a b c w (by omega) (by omega) (by omega))
                  by_cases he : 44032 + 588 * a + 28 * b + c = r
                  · have hE := find_at ⟨a0, hlt⟩ ⟨b0, hlt2⟩ ⟨c0, hlt3⟩ he
                    have H := Lib.hid hE
                    have hbe : (44032 + 588 * a + 28 * b + c == r) = true := by simp [he]
                    clear hE he
                    go_wp2_with (go_at_call 25; (with_reducible refine O3.out.mono ?_); rintro e w' ⟨rfl, rfl⟩)
                    exact bodyPost_ret (v := .tuple #[.int .i64 a, .int .i64 b, .int .i64 c, .bool true]) (by simp [results, Tryd.results24, go_sem]) rfl ⟨fdV_eq H.out, rfl⟩
                  · have hbe : (44032 + 588 * a + 28 * b + c == r) = false := by simp [he]
                    go_wp2_with (go_at_call 25; (with_reducible refine O3.out.mono ?_); rintro e w' ⟨rfl, rfl⟩)
                    go_round
                    case rel => exact ⟨c + 1, rfl, by omega, by omega, by omega⟩
                    case measure => simp [intOf]; omega
                · go_wp2_with fail
                  go_round
                  case rel => exact ⟨b + 1, rfl, by omega, by omega, by omega⟩
                  case measure => simp [intOf]; omega
            · exfalso
              omega
    · have H := Lib.hid (find_no (r := r) (by omega))
      go_wp2_with fail
      exact bodyPost_ret (v := .tuple #[.int .i64 0, .int .i64 0, .int .i64 0, .bool false]) (by simp [results, Tryd.results24, go_sem]) rfl ⟨fdV_eq H.out, rfl⟩

end Go.Proofs.YtimjggcfkkibbaaDoor.Ha

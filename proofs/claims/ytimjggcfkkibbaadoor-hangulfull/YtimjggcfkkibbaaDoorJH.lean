import Derived.Test.YtimjggcfkkibbaaDoorJS
namespace Go.Proofs.YtimjggcfkkibbaaDoor.Ha
open Go.RowKit

set_option maxHeartbeats 4000000 in
set_option maxRecDepth 100000 in
theorem rfull_no (r : Int) (w : World) (h : isS r = false) : Calls Tryd.prog 14 #[.int .i32 r] w fun e w' => e = .returned (.slice none 0 0) ∧ w = w' := by
  have HF := Lib.hid (find_callno w h)
  clear h
  go_enter Tryd.func14, Tryd.ntmps14
  go_wp2_with (go_at_call 24; refine HF.out.mono ?_; rintro e w' ⟨rfl, rfl⟩)
  go_ret
  exact ⟨rfl, rfl⟩
set_option maxHeartbeats 4000000 in
set_option maxRecDepth 100000 in
theorem rfull_any (r : Int) (w : World) : Calls Tryd.prog 14 #[.int .i32 r] w (RowP w (fullL r)) := by
  obtain ⟨i0, hi0, hz0, hz1, hz2⟩ := info_parts r_info
  have I0 := Lib.hid hi0
  have I1 := Lib.hid hz0
  have I2 := Lib.hid hz1
  have I3 := Lib.hid hz2
  clear hi0 hz0 hz1 hz2
  cases h : isS r with
  | false =>
    rw [full_no h]
    refine (rfull_no r w h).mono ?_
    rintro e w' ⟨rfl, rfl⟩
    exact ⟨_, rfl, World.ownsRow_nil _ _ _ _, Below.refl _ _⟩
  | true =>
    have HF := find_call w h
    have h1 := ldN_bd h
    have h2 := vwN_bd r
    have h3 := tlN_bd r
    by_cases ht : tlN r = 0
    · have H := Lib.hid (show fullL r = [4352 + ldN r, 4449 + vwN r] by unfold fullL; rw [if_pos h, if_pos ht])
      rw [ht] at HF
      have HFF := Lib.hid HF
      clear h ht HF h3
      generalize ldN r = a at *
      generalize vwN r = b at *
      have m1 : wrap64 (4352 + a) = 4352 + a := by unfold wrap64; omega
      have m2 : wrap64 (4449 + b) = 4449 + b := by unfold wrap64; omega
      have m3 : IntKind.i32.wrap (4352 + a) = 4352 + a := by rw [IntKind.wrap_i32]; omega
      have m4 : IntKind.i32.wrap (4449 + b) = 4449 + b := by rw [IntKind.wrap_i32]; omega
      go_enter Tryd.func14, Tryd.ntmps14
      go_wp2_with (go_at_call 24; refine HFF.out.mono ?_; rintro e w' ⟨rfl, rfl⟩)
      go_ret
      rw [H.out]
      exact ⟨_, rfl, World.ownsRow_lit w #[.int .i32 (4352 + a), .int .i32 (4449 + b)] 2 (Nat.le_refl _) (by unfold maxLen; omega) rfl, (Below.refl _ _).alloc (Nat.le_refl _) _⟩
    · have H := Lib.hid (show fullL r = [4352 + ldN r, 4449 + vwN r] ++ [4519 + tlN r] by unfold fullL; rw [if_pos h, if_neg ht]; rfl)
      have hgt : (0 : Int) < tlN r := by omega
      have HFF := Lib.hid HF
      clear h ht HF
      generalize ldN r = a at *
      generalize vwN r = b at *
      generalize tlN r = c at *
      have m1 : wrap64 (4352 + a) = 4352 + a := by unfold wrap64; omega
      have m2 : wrap64 (4449 + b) = 4449 + b := by unfold wrap64; omega
      have m3 : IntKind.i32.wrap (4352 + a) = 4352 + a := by rw [IntKind.wrap_i32]; omega
      have m4 : IntKind.i32.wrap (4449 + b) = 4449 + b := by rw [IntKind.wrap_i32]; omega
      have m5 : wrap64 (4519 + c) = 4519 + c := by unfold wrap64; omega
      have m6 : IntKind.i32.wrap (4519 + c) = 4519 + c := by rw [IntKind.wrap_i32]; omega
      have HS : Hid (RowS w (w.alloc (.cells #[.int .i32 (4352 + a), .int .i32 (4449 + b)] 21)) (.slice (some ⟨w.heap.size, 0, none⟩) 2 2) [4352 + a, 4449 + b]) :=
        ⟨(Below.refl _ _).alloc (Nat.le_refl _) _, World.ownsRow_lit w #[.int .i32 (4352 + a), .int .i32 (4449 + b)] 2 (Nat.le_refl _) (by unfold maxLen; omega) rfl⟩
      have hz1 : (w.alloc (.cells #[.int .i32 (4352 + a), .int .i32 (4449 + b)] 21)).heap.size = w.heap.size + 1 := by simp
      have hcn := cell_one_new (w.alloc (.cells #[.int .i32 (4352 + a), .int .i32 (4449 + b)] 21)) (.int .i32 (4519 + c)) 21
      rw [hz1] at hcn
      have HC := Lib.hid hcn
      clear hcn hz1
      go_enter Tryd.func14, Tryd.ntmps14
      go_wp2_with (first
        | (go_at_call 24; refine HFF.out.mono ?_; rintro e w' ⟨rfl, rfl⟩)
        | (at_builtin; refine wpList_append_own_at _ rfl (.tmp 26) (.tmp 30) _ rfl w.heap.size 21 i0 _ 1 4 Tryd.underlying26 I0.out I1.out I2.out I3.out rfl (by omega) (.slice (some ⟨w.heap.size, 0, none⟩) 2 2) 2 _ rfl (HS.out.own.alloc _) ⟨w.heap.size + 1, 0, none⟩ 1 1 [_] rfl rfl HC.out (by simp [Value.oneCell']) (by unfold maxLen; simp) (by simp) (by simp; omega) ?_; intro v2 w3 ho3 hg3 hn3 ha3; have O3 := Lib.hid ho3; have G3 := Lib.hid hg3; clear ho3 hg3 hn3 ha3))
      go_ret
      rw [H.out]
      have HR := HS.out.app O3.out G3.out
      exact ⟨_, rfl, HR.own, HR.bel⟩

end Go.Proofs.YtimjggcfkkibbaaDoor.Ha

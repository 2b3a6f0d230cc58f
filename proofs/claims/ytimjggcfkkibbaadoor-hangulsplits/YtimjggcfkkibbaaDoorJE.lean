import Derived.Test.YtimjggcfkkibbaaDoorJD
namespace Go.Proofs.YtimjggcfkkibbaaDoor.Ha
open Go.RowKit

theorem Tab.all {w : World} (h : Tab w) : ∀ W, Below w.heap.size w W → Tab W := fun _ hb => h.on hb
theorem spl_lv {r : Int} (h : isS r = true) (ht : tlN r = 0) : splE r = (4352 + ldN r, 4449 + vwN r, true) := by unfold splE; rw [if_pos h, if_pos ht]
theorem spl_st {r : Int} (h : isS r = true) (ht : tlN r ≠ 0) {t : Int} (e : t = 4519 + tlN r) : splE r = (r - (t - 4519), t, true) := by
  unfold splE
  rw [if_pos h, if_neg ht, e, show r - (4519 + tlN r - 4519) = r - tlN r by omega]
set_option maxHeartbeats 4000000 in
set_option maxRecDepth 100000 in
theorem split_any (r : Int) (w : World) (hT : Tab w) : Calls Tryd.prog 9 #[.int .i32 r] w fun e w' => e = .returned (spV (splE r)) ∧ Below w.heap.size w w' := by
  have HI := Lib.hid (is_any r w)
  have HA := Lib.hid hT.all
  cases h : isS r with
  | false =>
    rw [h] at HI
    have H := Lib.hid (split_no h)
    clear h
    go_enter Tryd.func9, Tryd.ntmps9
    go_wp2_with (go_at_call 11; refine HI.out.mono ?_; rintro e w' ⟨rfl, rfl⟩)
    exact bodyPost_ret (v := .tuple #[.int .i32 0, .int .i32 0, .bool false]) (by simp [results, Tryd.results9, go_sem]) rfl ⟨spV_eq H.out, Below.refl _ _⟩
  | true =>
    rw [h] at HI
    have HM := made_any r w hT h
    by_cases ht : tlN r = 0
    · have H := Lib.hid (spl_lv h ht)
      have e3 : tl3 r = 0 := if_pos ht
      rw [e3] at HM
      have HMM := Lib.hid HM
      clear h ht e3 HM hT
      generalize 4352 + ldN r = a at *
      generalize 4449 + vwN r = b at *
      go_enter Tryd.func9, Tryd.ntmps9
      go_wp2_with (first
        | (go_at_call 11; refine HI.out.mono ?_; rintro e w' ⟨rfl, rfl⟩)
        | (go_at_call 22; refine HMM.out.mono ?_; rintro e w1 ⟨rfl, hb⟩; have B1 := Lib.hid hb; clear hb))
      go_quiet (fail)
      go_wp2_with fail
      exact bodyPost_ret (v := .tuple #[.int .i32 a, .int .i32 b, .bool true]) (by simp [results, Tryd.results9, go_sem]) rfl ⟨spV_eq H.out, bel_drewN (B1.out.alloc B1.out.size _) _⟩
    · obtain ⟨t, ht9⟩ : ∃ t, t = 4519 + tlN r := ⟨_, rfl⟩
      have H := Lib.hid (spl_st h ht ht9)
      have hb9 := tlN_bd r
      rw [isS_iff] at h
      have e3 : tl3 r = t := by rw [ht9]; exact if_neg ht
      rw [e3] at HM
      have HMM := Lib.hid HM
      have hne : (t == 0) = false := by simp; omega
      have n1 : IntKind.i32.wrap (r - (t - 4519)) = r - (t - 4519) := by rw [IntKind.wrap_i32]; omega
      have HR := Lib.hid (show 4520 ≤ t ∧ t ≤ 4546 by omega)
      clear h ht e3 HM hT ht9 hb9
      generalize 4352 + ldN r = a at *
      generalize 4449 + vwN r = b at *
      go_enter Tryd.func9, Tryd.ntmps9
      go_wp2_with (first
        | (go_at_call 11; refine HI.out.mono ?_; rintro e w' ⟨rfl, rfl⟩)
        | (go_at_call 22; refine HMM.out.mono ?_; rintro e w1 ⟨rfl, hb⟩; have B1 := Lib.hid hb; clear hb))
      go_quiet ((go_at_call 23; exact Calls.quiet_of (adds2 _ _ (HA.out _ (bel_drewN (B1.out.alloc B1.out.size _) _)) HR.out)))
      go_wp2_with fail
      exact bodyPost_ret (v := .tuple #[.int .i32 (r - (t - 4519)), .int .i32 t, .bool true]) (by simp [results, Tryd.results9, go_sem]) rfl ⟨spV_eq H.out, bel_drewN (B1.out.alloc B1.out.size _) _⟩

end Go.Proofs.YtimjggcfkkibbaaDoor.Ha

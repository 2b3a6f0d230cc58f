/- HangulTexts: for every input the law returns true and it reads as before: what is parted, and joined, of characters. Conditions: the program's table of places as the program's text lays it (tied). -/
import Derived.Test.YtimjggcfkkibbaaDoorJM
import Derived.Test.YtimjggcfkkibbaaDoorJT
import Derived.Test.YtimjggcfkkibbaaDoorCards
import Derived.ShutString
import Derived.ChangeOld
namespace Go.Proofs.YtimjggcfkkibbaaDoor
open Go.ChangeShapes Go.WideShapes Go.ChangeAt Go.WideMaps Go.WideElems Go.RowKit
open Go.ChangeMaps (open_string shut_string)
open Ha
set_option maxRecDepth 100000 in
set_option maxHeartbeats 4000000 in
theorem hangulTexts_walk (A : Option Addr) (c : Nat) (l : List Int) (w : World) (hl : Ints .i32 w A l) (hT : Tab w) : Calls Tryd.prog 5 #[.slice A l.length c] w fun e w' => e = .returned (.bool true) ∧ Below w.heap.size w w' := by
  have HA := Lib.hid hT.all
  have D0 := Lib.hid (Below.refl w.heap.size w)
  clear hT
  by_cases hz : 200 < l.length
  · have g1 : (200 : Int) < l.length := by omega
    clear hz
    go_enter Tryd.func5, Tryd.ntmps5
    go_wp2_with fail
    refine (awake_any _ (HA.out _ D0.out)).mono ?_
    rintro e w1 ⟨rfl, hb⟩
    have D1 := Lib.hid (D0.out.trans (hb.mono D0.out.size))
    clear hb
    go_wp2_with fail
    go_ret
    exact ⟨rfl, D1.out⟩
  · have g1 : ¬ (200 : Int) < l.length := by omega
    have HL := Lib.hid (show l.length ≤ 200 by omega)
    have IL := Lib.hid hl
    have hp : (partsL l).length ≤ 100000 := by have := parts_len l; omega
    have hs : (sylL l).length ≤ 100000 := by have := syl_len l; omega
    have HP := Lib.hid hp
    have HS := Lib.hid hs
    clear hz hl hp hs
    go_enter Tryd.func5, Tryd.ntmps5
    go_wp2_with fail
    refine (parts_call A c l _ (HA.out _ D0.out) IL.out (by have := HL.out; omega)).mono ?_
    rintro e w1 ⟨B, cB, rfl, hi, hb⟩
    have D1 := Lib.hid (D0.out.trans (hb.mono D0.out.size))
    have IL' := Lib.hid (IL.out.below hb)
    clear IL
    have IL := Lib.hid IL'.out
    clear IL'
    have IB := Lib.hid hi
    clear hb hi
    go_wp2_with fail
    refine (rparts_call A c l _ IL.out (by have := HL.out; omega)).mono ?_
    rintro e w2 ⟨C, cC, rfl, hi, hb⟩
    have D2 := Lib.hid (D1.out.trans (hb.mono D1.out.size))
    have IL' := Lib.hid (IL.out.below hb)
    clear IL
    have IL := Lib.hid IL'.out
    clear IL'
    have IB' := Lib.hid (IB.out.below hb)
    clear IB
    have IB := Lib.hid IB'.out
    clear IB'
    have IC := Lib.hid hi
    clear hb hi
    go_wp2_with fail
    refine (eq_same B C cB cC _ IB.out IC.out HP.out).mono ?_
    rintro e w3 ⟨rfl, hb⟩
    have D3 := Lib.hid (D2.out.trans (hb.mono D2.out.size))
    have IL' := Lib.hid (IL.out.below hb)
    clear IL
    have IL := Lib.hid IL'.out
    clear IL'
    have IB' := Lib.hid (IB.out.below hb)
    clear IB
    have IB := Lib.hid IB'.out
    clear IB'
    have IC' := Lib.hid (IC.out.below hb)
    clear IC
    have IC := Lib.hid IC'.out
    clear IC'
    clear hb
    go_wp2_with fail
    refine (syl_call A c l _ (HA.out _ D3.out) IL.out (by have := HL.out; omega)).mono ?_
    rintro e w4 ⟨G, cG, rfl, hi, hb⟩
    have D4 := Lib.hid (D3.out.trans (hb.mono D3.out.size))
    have IL' := Lib.hid (IL.out.below hb)
    clear IL
    have IL := Lib.hid IL'.out
    clear IL'
    have IB' := Lib.hid (IB.out.below hb)
    clear IB
    have IB := Lib.hid IB'.out
    clear IB'
    have IC' := Lib.hid (IC.out.below hb)
    clear IC
    have IC := Lib.hid IC'.out
    clear IC'
    have IG := Lib.hid hi
    clear hb hi
    go_wp2_with fail
    refine (rsyl_call A c l _ IL.out (by have := HL.out; omega)).mono ?_
    rintro e w5 ⟨H, cH, rfl, hi, hb⟩
    have D5 := Lib.hid (D4.out.trans (hb.mono D4.out.size))
    have IL' := Lib.hid (IL.out.below hb)
    clear IL
    have IL := Lib.hid IL'.out
    clear IL'
    have IB' := Lib.hid (IB.out.below hb)
    clear IB
    have IB := Lib.hid IB'.out
    clear IB'
    have IC' := Lib.hid (IC.out.below hb)
    clear IC
    have IC := Lib.hid IC'.out
    clear IC'
    have IG' := Lib.hid (IG.out.below hb)
    clear IG
    have IG := Lib.hid IG'.out
    clear IG'
    have IH := Lib.hid hi
    clear hb hi
    go_wp2_with fail
    refine (eq_same G H cG cH _ IG.out IH.out HS.out).mono ?_
    rintro e w6 ⟨rfl, hb⟩
    have D6 := Lib.hid (D5.out.trans (hb.mono D5.out.size))
    have IL' := Lib.hid (IL.out.below hb)
    clear IL
    have IL := Lib.hid IL'.out
    clear IL'
    have IB' := Lib.hid (IB.out.below hb)
    clear IB
    have IB := Lib.hid IB'.out
    clear IB'
    have IC' := Lib.hid (IC.out.below hb)
    clear IC
    have IC := Lib.hid IC'.out
    clear IC'
    have IG' := Lib.hid (IG.out.below hb)
    clear IG
    have IG := Lib.hid IG'.out
    clear IG'
    have IH' := Lib.hid (IH.out.below hb)
    clear IH
    have IH := Lib.hid IH'.out
    clear IH'
    clear hb
    go_wp2_with fail
    refine (awake_any _ (HA.out _ D6.out)).mono ?_
    rintro e w7 ⟨rfl, hb⟩
    have D7 := Lib.hid (D6.out.trans (hb.mono D6.out.size))
    have IL' := Lib.hid (IL.out.below hb)
    clear IL
    have IL := Lib.hid IL'.out
    clear IL'
    have IB' := Lib.hid (IB.out.below hb)
    clear IB
    have IB := Lib.hid IB'.out
    clear IB'
    have IC' := Lib.hid (IC.out.below hb)
    clear IC
    have IC := Lib.hid IC'.out
    clear IC'
    have IG' := Lib.hid (IG.out.below hb)
    clear IG
    have IG := Lib.hid IG'.out
    clear IG'
    have IH' := Lib.hid (IH.out.below hb)
    clear IH
    have IH := Lib.hid IH'.out
    clear IH'
    clear hb
    go_wp2_with fail
    go_ret
    exact ⟨rfl, D7.out⟩

set_option maxRecDepth 100000 in
theorem hangulTexts_lifted (os : Os) (started : os.Started) (H : Type) (enc : TypeId × Value → H) :
    ReturnsInHanded {} Tryd.checked os 5 .any (fun w args => (Rows.hangulTextsSpec.pre enc Tryd.prog Tryd.f5 [] false w args ∧ laidMetH Tryd.prog laid1 w) ∧ sizedMet enc Tryd.prog Tryd.f5 (OpenSpec.ofChange Rows.hangulTextsSpec) false w args)
      (Rows.hangulTextsSpec.post enc Tryd.prog Tryd.f5 false true false false) := by
  refine change_shaped (C := Tryd.checked) (X := fun w _ => laidMetH Tryd.prog laid1 w) (fun _ _ _ hh h => h.of_heap hh) own started (by kernel_rfl) Tryd.func5
    (ChangeSpec.witness_shaped (enc := enc) (C := Tryd.checked) (os := os) (X := fun w _ => laidMetH Tryd.prog laid1 w) false (World.laidAll Tryd.prog os laid1) #[.slice none 0 0] 8 (World.laidAll_os _ _ _) (World.shaped_of_ZipB (by kernel_rfl) (by kernel_rfl)) (by kernel_rfl) (by kernel_rfl) (by kernel_rfl) (by rw [MakeChecks.laidMetH_plain _ _ _ (by kernel_rfl)]; exact laidMet_laidAll _ (by kernel_rfl) (by kernel_rfl))) ?_
  intro W base args ds gs before hval0 hW hsz hL hS
  have hval : ∀ (j : Nat) t v, Tryd.f5.params[j]? = some t → args[j]? = some v → Value.okWide Tryd.prog W .any base t v := hval0
  have hW' := hW
  obtain ⟨p, q, hA0, hV, rfl, hfz, hnd⟩ := hW
  have hA : DataW.TrodAll enc Tryd.prog W 0 (fun _ => true) true Tryd.f5.params.toList args.toList ds p := hA0
  rw [Tryd.params5] at hA hval
  obtain ⟨v0, vs0, d0, ds0, p0, q0, hargs, rfl, rfl, h0, r0⟩ := trodAll_cons hA
  obtain ⟨rfl, rfl, rfl⟩ := trodAll_nil r0
  obtain rfl : args = #[v0] := by cases args; simp_all
  obtain ⟨rfl, rfl⟩ := trodVars_none hV
  obtain ⟨A0, len0, cap0, rfl⟩ := okWide_slice Tryd.underlying26 (hval 0 26 v0 rfl rfl)
  have k0 := h0
  have lt0 : ∀ x ∈ p0, x.block < W.heap.size := by obtain ⟨m, hm⟩ := k0; exact DataW.trod_lt m _ _ _ hm
  obtain ⟨l0, e0, g0⟩ := ints_of_trod h0
  subst e0
  clear hA0 hval0
  refine (hangulTexts_walk A0 cap0 l0 W g0 (of_laid hL)).mono fun e W' ⟨he, bel⟩ => ?_
  subst he
  exact ⟨_, rfl, _, _, _, [], _, [], hW', trodAll_mk1 (shut_bool Tryd.underlying4 _), (trodAll_cons_mk (Below.trod laidOut (by kernel_rfl) (of_decide_eq_true (by kernel_rfl)) k0 bel lt0) trodAll_mk0), rfl, bel.frame _, fun h => by cases h⟩

theorem hangulTexts_row : Rows.HangulTextsSaid :=
  OpenClaim.holds_of_wide 5 Tryd.f5 rfl rfl rfl rfl rfl rfl rfl ⟨rfl, rfl, rfl, rfl, rfl⟩ rfl rfl rfl rfl rfl (by kernel_rfl) Tryd.func5 (by kernel_rfl)
    (of_decide_eq_true (by kernel_rfl)) (by unfold Func.isWrapper; first | (rw [if_pos (by decide +kernel)]; kernel_rfl) | (rw [if_neg (by decide +kernel)]; exact ⟨rfl, rfl⟩))
    (fun os started H enc _ => hangulTexts_lifted os started H enc)

theorem hangulTexts_holds : Rows.HangulTextsCardSaid :=
  Claim7.holds_tied_plain_at .later [] [.data] true Rows.hangulTextsCard.stood.harness false
    hangulTexts_row (fun _ h => by cases h) (by kernel_rfl) (fun _ h => by cases h) hangulTexts_row_tie rfl ⟨rfl, rfl⟩ (by kernel_rfl) rfl
    (fun f fn hf hfn => by
      obtain rfl : f = 5 := Option.some.inj ((show Tryd.prog.funcNamed Rows.hangulTextsRow.func = some 5 by kernel_rfl).symm.trans hf) |>.symm
      obtain rfl : fn = Tryd.f5 := (Option.some.inj (Tryd.func5.symm.trans hfn)).symm
      exact ⟨by kernel_rfl, fun j t ht => by
        rw [Tryd.params5] at ht
        have hm : t ∈ [26] := by simpa using Array.mem_of_getElem? ht
        have hall : ([26].all fun u => !Tryd.prog.wantsStandIn u) = true := by kernel_rfl
        exact (show Tryd.prog.wantsStandIn t = false by simpa using List.all_eq_true.1 hall t hm)⟩)
    (by kernel_rfl)
#print axioms hangulTexts_holds
end Go.Proofs.YtimjggcfkkibbaaDoor

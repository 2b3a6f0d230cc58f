/- HangulSplits: for every input the law returns true and it reads as before: which characters are syllables, and what they are made of. Conditions: the program's table of places as the program's text lays it (tied). -/
import Derived.Test.YtimjggcfkkibbaaDoorJM
import Derived.Test.YtimjggcfkkibbaaDoorJT
import Derived.Test.YtimjggcfkkibbaaDoorCards
import Derived.ShutString
import Derived.ChangeOld
namespace Go.Proofs.YtimjggcfkkibbaaDoor
open Go.ChangeShapes Go.WideShapes Go.ChangeAt Go.WideMaps Go.WideElems Go.RowKit
open Go.ChangeMaps (open_string shut_string)
open Ha
set_option maxRecDepth 100000 in
set_option maxHeartbeats 4000000 in
theorem hangulSplits0 (r : Int) (w : World) (hT : Tab w) (h : isS r = false) : Calls Tryd.prog 3 #[.int .i32 r] w fun e w' => e = .returned (.bool true) ∧ Below w.heap.size w w' := by
  have HA := Lib.hid hT.all
  have D0 := Lib.hid (Below.refl w.heap.size w)
  clear hT
  have hx := split_no h
  have HS := Lib.hid (fun W hW => split_call hx W hW)
  have HR := Lib.hid (fun W => rsplit_call hx W)
  have HI := Lib.hid (fun W => is_call h W)
  have HZ := Lib.hid (full_len r)
  clear hx h
  go_enter Tryd.func3, Tryd.ntmps3
  go_wp2_with fail
  refine (HS.out _ (HA.out _ D0.out)).mono ?_
  rintro e w1 ⟨rfl, hb⟩
  have D1 := Lib.hid (D0.out.trans (hb.mono D0.out.size))
  clear hb
  go_wp2_with fail
  refine (HR.out _).mono ?_
  rintro e w' ⟨rfl, rfl⟩
  go_wp2_with fail
  refine (HI.out _).mono ?_
  rintro e w' ⟨rfl, rfl⟩
  go_wp2_with fail
  refine (full_call r _ (HA.out _ D1.out)).mono ?_
  rintro e w2 ⟨A, cA, rfl, hi, hb⟩
  have D2 := Lib.hid (D1.out.trans (hb.mono D1.out.size))
  have IA := Lib.hid hi
  clear hb hi
  go_wp2_with fail
  refine (rfull_call r _).mono ?_
  rintro e w3 ⟨B, cB, rfl, hi, hb⟩
  have D3 := Lib.hid (D2.out.trans (hb.mono D2.out.size))
  have IA' := Lib.hid (IA.out.below hb)
  clear IA
  have IA := Lib.hid IA'.out
  clear IA'
  have IB := Lib.hid hi
  clear hb hi
  go_wp2_with fail
  refine (eq_same A B cA cB _ IA.out IB.out (by have := HZ.out; omega)).mono ?_
  rintro e w4 ⟨rfl, hb⟩
  have D4 := Lib.hid (D3.out.trans (hb.mono D3.out.size))
  have IA' := Lib.hid (IA.out.below hb)
  clear IA
  have IA := Lib.hid IA'.out
  clear IA'
  have IB' := Lib.hid (IB.out.below hb)
  clear IB
  have IB := Lib.hid IB'.out
  clear IB'
  clear hb
  go_wp2_with fail
  refine (awake_any _ (HA.out _ D4.out)).mono ?_
  rintro e w5 ⟨rfl, hb⟩
  have D5 := Lib.hid (D4.out.trans (hb.mono D4.out.size))
  have IA' := Lib.hid (IA.out.below hb)
  clear IA
  have IA := Lib.hid IA'.out
  clear IA'
  have IB' := Lib.hid (IB.out.below hb)
  clear IB
  have IB := Lib.hid IB'.out
  clear IB'
  clear hb
  go_wp2_with fail
  go_ret
  exact ⟨rfl, D5.out⟩
set_option maxRecDepth 100000 in
set_option maxHeartbeats 4000000 in
theorem hangulSplits1 (r : Int) (w : World) (hT : Tab w) (h : isS r = true) : Calls Tryd.prog 3 #[.int .i32 r] w fun e w' => e = .returned (.bool true) ∧ Below w.heap.size w w' := by
  have HA := Lib.hid hT.all
  have D0 := Lib.hid (Below.refl w.heap.size w)
  clear hT
  obtain ⟨x, y, hx⟩ : ∃ x y, splE r = (x, y, true) := ⟨(splE r).1, (splE r).2.1, by rw [← h, ← split_is]⟩
  have ex : (x == x) = true := by simp
  have ey : (y == y) = true := by simp
  have HS := Lib.hid (fun W hW => split_call hx W hW)
  have HR := Lib.hid (fun W => rsplit_call hx W)
  have HI := Lib.hid (fun W => is_call h W)
  have HZ := Lib.hid (full_len r)
  clear hx h
  go_enter Tryd.func3, Tryd.ntmps3
  go_wp2_with fail
  refine (HS.out _ (HA.out _ D0.out)).mono ?_
  rintro e w1 ⟨rfl, hb⟩
  have D1 := Lib.hid (D0.out.trans (hb.mono D0.out.size))
  clear hb
  go_wp2_with fail
  refine (HR.out _).mono ?_
  rintro e w' ⟨rfl, rfl⟩
  go_wp2_with fail
  refine (HI.out _).mono ?_
  rintro e w' ⟨rfl, rfl⟩
  go_wp2_with fail
  refine (full_call r _ (HA.out _ D1.out)).mono ?_
  rintro e w2 ⟨A, cA, rfl, hi, hb⟩
  have D2 := Lib.hid (D1.out.trans (hb.mono D1.out.size))
  have IA := Lib.hid hi
  clear hb hi
  go_wp2_with fail
  refine (rfull_call r _).mono ?_
  rintro e w3 ⟨B, cB, rfl, hi, hb⟩
  have D3 := Lib.hid (D2.out.trans (hb.mono D2.out.size))
  have IA' := Lib.hid (IA.out.below hb)
  clear IA
  have IA := Lib.hid IA'.out
  clear IA'
  have IB := Lib.hid hi
  clear hb hi
  go_wp2_with fail
  refine (eq_same A B cA cB _ IA.out IB.out (by have := HZ.out; omega)).mono ?_
  rintro e w4 ⟨rfl, hb⟩
  have D4 := Lib.hid (D3.out.trans (hb.mono D3.out.size))
  have IA' := Lib.hid (IA.out.below hb)
  clear IA
  have IA := Lib.hid IA'.out
  clear IA'
  have IB' := Lib.hid (IB.out.below hb)
  clear IB
  have IB := Lib.hid IB'.out
  clear IB'
  clear hb
  go_wp2_with fail
  refine (awake_any _ (HA.out _ D4.out)).mono ?_
  rintro e w5 ⟨rfl, hb⟩
  have D5 := Lib.hid (D4.out.trans (hb.mono D4.out.size))
  have IA' := Lib.hid (IA.out.below hb)
  clear IA
  have IA := Lib.hid IA'.out
  clear IA'
  have IB' := Lib.hid (IB.out.below hb)
  clear IB
  have IB := Lib.hid IB'.out
  clear IB'
  clear hb
  go_wp2_with fail
  go_ret
  exact ⟨rfl, D5.out⟩
theorem hangulSplits_walk (r : Int) (w : World) (_ : (Lit.int .i32 r).wf = true) (hT : Tab w) : Calls Tryd.prog 3 #[.int .i32 r] w fun e w' => e = .returned (.bool true) ∧ Below w.heap.size w w' := by
  cases h : isS r with
  | false => exact hangulSplits0 r w hT h
  | true => exact hangulSplits1 r w hT h

set_option maxRecDepth 100000 in
theorem hangulSplits_lifted (os : Os) (started : os.Started) (H : Type) (enc : TypeId × Value → H) :
    ReturnsInHanded {} Tryd.checked os 3 .any (fun w args => (Rows.hangulSplitsSpec.pre enc Tryd.prog Tryd.f3 [] false w args ∧ laidMetH Tryd.prog laid1 w) ∧ sizedMet enc Tryd.prog Tryd.f3 (OpenSpec.ofChange Rows.hangulSplitsSpec) false w args)
      (Rows.hangulSplitsSpec.post enc Tryd.prog Tryd.f3 false true false false) := by
  refine change_shaped (C := Tryd.checked) (X := fun w _ => laidMetH Tryd.prog laid1 w) (fun _ _ _ hh h => h.of_heap hh) own started (by kernel_rfl) Tryd.func3
    (ChangeSpec.witness_shaped (enc := enc) (C := Tryd.checked) (os := os) (X := fun w _ => laidMetH Tryd.prog laid1 w) false (World.laidAll Tryd.prog os laid1) #[.int .i32 0] 8 (World.laidAll_os _ _ _) (World.shaped_of_ZipB (by kernel_rfl) (by kernel_rfl)) (by kernel_rfl) (by kernel_rfl) (by kernel_rfl) (by rw [MakeChecks.laidMetH_plain _ _ _ (by kernel_rfl)]; exact laidMet_laidAll _ (by kernel_rfl) (by kernel_rfl))) ?_
  intro W base args ds gs before hval0 hW hsz hL hS
  have hval : ∀ (j : Nat) t v, Tryd.f3.params[j]? = some t → args[j]? = some v → Value.okWide Tryd.prog W .any base t v := hval0
  have hW' := hW
  obtain ⟨p, q, hA0, hV, rfl, hfz, hnd⟩ := hW
  have hA : DataW.TrodAll enc Tryd.prog W 0 (fun _ => true) true Tryd.f3.params.toList args.toList ds p := hA0
  rw [Tryd.params3] at hA hval
  obtain ⟨v0, vs0, d0, ds0, p0, q0, hargs, rfl, rfl, h0, r0⟩ := trodAll_cons hA
  obtain ⟨rfl, rfl, rfl⟩ := trodAll_nil r0
  obtain rfl : args = #[v0] := by cases args; simp_all
  obtain ⟨rfl, rfl⟩ := trodVars_none hV
  obtain ⟨a0, rfl, rfl, rfl, m0⟩ := open_int Tryd.underlying21 (hval 0 21 v0 rfl rfl) h0
  clear hA0 hval0
  refine (hangulSplits_walk a0 W m0 (of_laid hL)).mono fun e W' ⟨he, bel⟩ => ?_
  subst he
  exact ⟨_, rfl, _, _, _, [], _, [], hW', trodAll_mk1 (shut_bool Tryd.underlying4 _), (trodAll_cons_mk (shut_int Tryd.underlying21 m0) trodAll_mk0), rfl, bel.frame _, fun h => by cases h⟩

theorem hangulSplits_row : Rows.HangulSplitsSaid :=
  OpenClaim.holds_of_wide 3 Tryd.f3 rfl rfl rfl rfl rfl rfl rfl ⟨rfl, rfl, rfl, rfl, rfl⟩ rfl rfl rfl rfl rfl (by kernel_rfl) Tryd.func3 (by kernel_rfl)
    (of_decide_eq_true (by kernel_rfl)) (by unfold Func.isWrapper; first | (rw [if_pos (by decide +kernel)]; kernel_rfl) | (rw [if_neg (by decide +kernel)]; exact ⟨rfl, rfl⟩))
    (fun os started H enc _ => hangulSplits_lifted os started H enc)

theorem hangulSplits_holds : Rows.HangulSplitsCardSaid :=
  Claim7.holds_tied_plain_at .later [] [.data] true Rows.hangulSplitsCard.stood.harness false
    hangulSplits_row (fun _ h => by cases h) (by kernel_rfl) (fun _ h => by cases h) hangulSplits_row_tie rfl ⟨rfl, rfl⟩ (by kernel_rfl) rfl
    (fun f fn hf hfn => by
      obtain rfl : f = 3 := Option.some.inj ((show Tryd.prog.funcNamed Rows.hangulSplitsRow.func = some 3 by kernel_rfl).symm.trans hf) |>.symm
      obtain rfl : fn = Tryd.f3 := (Option.some.inj (Tryd.func3.symm.trans hfn)).symm
      exact ⟨by kernel_rfl, fun j t ht => by
        rw [Tryd.params3] at ht
        have hm : t ∈ [21] := by simpa using Array.mem_of_getElem? ht
        have hall : ([21].all fun u => !Tryd.prog.wantsStandIn u) = true := by kernel_rfl
        exact (show Tryd.prog.wantsStandIn t = false by simpa using List.all_eq_true.1 hall t hm)⟩)
    (by kernel_rfl)
#print axioms hangulSplits_holds
end Go.Proofs.YtimjggcfkkibbaaDoor

/- UcdSets: for every input the law returns true and it reads as before: which characters lines of ranges tell, or which line is wrong, and how, is as the document says. Conditions: the library's tables as the program's text lays them (tied). -/
import Derived.Test.YtajhgbcgbgpcjaaDoorHG
import Derived.Test.YtajhgbcgbgpcjaaDoorGV
import Derived.Test.YtajhgbcgbgpcjaaDoorFT
import Derived.Test.YtajhgbcgbgpcjaaDoorCards
import Derived.ShutString
import Derived.ChangeOld
namespace Go.Proofs.YtajhgbcgbgpcjaaDoor
open Go.ChangeShapes Go.WideShapes Go.ChangeAt Go.WideMaps Go.WideElems Go.RowKit
open Go.ChangeMaps (open_string shut_string)
open Fi Uc

theorem setP_sl {w w' : World} {x : List Int × Nat × Int} {e : Ending} (h : SetP w x e w') : ∃ A c, e = .returned (.tuple #[.slice A x.1.length c, .int .i64 x.2.1, .int .i64 x.2.2]) ∧ Ints .i32 w' A x.1 ∧ Below w.heap.size w w' := by
  obtain ⟨v, he, ho, hb⟩ := h
  obtain ⟨A, c, rfl, hr⟩ := own_ints ho
  exact ⟨A, c, he, hr, hb⟩
set_option maxRecDepth 100000 in
set_option maxHeartbeats 8000000 in
theorem ucdSets_walk (s : ByteArray) (w : World) (hs : s.size ≤ 9223372036854775807) (hL : Ml w) : Calls Tryd.prog 4 #[.string s] w fun e w' => e = .returned (.bool true) ∧ Below w.heap.size w w' := by
  have hpos := hL.pos
  have HFin := Lib.hid (show ∀ w2 : World, Below w.heap.size w w2 → Calls Tryd.prog 7 #[] w2 fun e w' => e = .returned (.bool true) ∧ Below w2.heap.size w2 w' from fun w2 h => Uc.awake_any w2 (hL.below h hpos))
  by_cases h1 : s.size ≤ 2000
  · have g1 : ¬ (2000 : Int) < s.size := by omega
    have hA := (sets_any s w hL (by omega)).mono fun e w' h => setP_sl h
    have hA2 := fun W => (rsets_any s W (by omega)).mono fun e w' h => setP_sl h
    have hlen := (setsE_inv s.data.toList).1.len
    generalize setsE s.data.toList = x at *
    obtain ⟨rs, no, er⟩ := x
    simp only at hA hA2 hlen
    have HA := Lib.hid hA
    have HA2 := Lib.hid hA2
    clear hA hA2 hL
    go_enter Tryd.func4, Tryd.ntmps4
    go_wp2_with fail
    refine HA.out.mono ?_; rintro e w1 ⟨A1, c1, rfl, hi, hb⟩; have N1 := Lib.hid hi; have B1 := Lib.hid hb; clear hi hb
    go_wp2_with fail
    refine (HA2.out _).mono ?_; rintro e w2 ⟨A2, c2, rfl, hi, hb⟩; have N2 := Lib.hid hi; have B2 := Lib.hid hb; have M1 := Lib.hid (N1.out.below hb); clear hi hb
    have D2 := Lib.hid (B1.out.trans (B2.out.mono B1.out.size))
    clear B1 B2 N1
    have hE := eqR A1 A2 c1 c2 rs rs w2 M1.out N2.out (by omega) (by omega)
    rw [decide_eq_true rfl] at hE
    have HE := Lib.hid hE
    clear hE
    have e1 : ((no : Int) == no) = true := by simp
    have e2 : (er == er) = true := by simp
    go_wp2_with fail
    refine HE.out.mono ?_; rintro e w3 ⟨rfl, hb3⟩
    have D3 := Lib.hid (D2.out.trans (hb3.mono D2.out.size))
    clear hb3 HE
    go_wp2_with fail
    refine (HFin.out _ D3.out).mono ?_
    rintro e w9 ⟨rfl, hb9⟩
    have B9 := Lib.hid (D3.out.trans (hb9.mono D3.out.size))
    clear hb9
    go_wp2_with fail
    go_ret
    exact ⟨rfl, B9.out⟩
  · have g1 : (2000 : Int) < s.size := by omega
    go_enter Tryd.func4, Tryd.ntmps4
    go_wp2_with fail
    refine (HFin.out _ (Below.refl w.heap.size w)).mono ?_
    rintro e w9 ⟨rfl, hb9⟩
    have B9 := Lib.hid ((Below.refl w.heap.size w).trans (hb9.mono (Below.refl w.heap.size w).size))
    clear hb9
    go_wp2_with fail
    go_ret
    exact ⟨rfl, B9.out⟩

set_option maxRecDepth 100000 in
theorem ucdSets_lifted (os : Os) (started : os.Started) (H : Type) (enc : TypeId × Value → H) :
    ReturnsInHanded {} Tryd.checked os 4 .any (fun w args => (Rows.ucdSetsSpec.pre enc Tryd.prog Tryd.f4 [] false w args ∧ laidMetH Tryd.prog laid1 w) ∧ sizedMet enc Tryd.prog Tryd.f4 (OpenSpec.ofChange Rows.ucdSetsSpec) false w args)
      (Rows.ucdSetsSpec.post enc Tryd.prog Tryd.f4 false true false false) := by
  refine change_shaped (C := Tryd.checked) (X := fun w _ => laidMetH Tryd.prog laid1 w) (fun _ _ _ hh h => h.of_heap hh) own started (by kernel_rfl) Tryd.func4
    (ChangeSpec.witness_shaped (enc := enc) (C := Tryd.checked) (os := os) (X := fun w _ => laidMetH Tryd.prog laid1 w) false (World.laidAll Tryd.prog os laid1) #[.string ⟨#[]⟩] 8 (World.laidAll_os _ _ _) (World.shaped_of_ZipB (by kernel_rfl) (by kernel_rfl)) (by kernel_rfl) (by kernel_rfl) (by kernel_rfl) (by rw [MakeChecks.laidMetH_plain _ _ _ (by kernel_rfl)]; exact laidMet_laidAll _ (by kernel_rfl) (by kernel_rfl))) ?_
  intro W base args ds gs before hval0 hW hsz hL hS
  have hval : ∀ (j : Nat) t v, Tryd.f4.params[j]? = some t → args[j]? = some v → Value.okWide Tryd.prog W .any base t v := hval0
  have hW' := hW
  obtain ⟨p, q, hA0, hV, rfl, hfz, hnd⟩ := hW
  have hA : DataW.TrodAll enc Tryd.prog W 0 (fun _ => true) true Tryd.f4.params.toList args.toList ds p := hA0
  rw [Tryd.params4] at hA hval
  obtain ⟨v0, vs0, d0, ds0, p0, q0, hargs, rfl, rfl, h0, r0⟩ := trodAll_cons hA
  obtain ⟨rfl, rfl, rfl⟩ := trodAll_nil r0
  obtain rfl : args = #[v0] := by cases args; simp_all
  obtain ⟨rfl, rfl⟩ := trodVars_none hV
  obtain ⟨s0, rfl, rfl, rfl, m0⟩ := open_string Tryd.underlying9 (hval 0 9 v0 rfl rfl) h0
  clear hA0 hval0
  refine (ucdSets_walk s0 W m0 (ml_of hS)).mono fun e W' ⟨he, bel⟩ => ?_
  subst he
  exact ⟨_, rfl, _, _, _, [], _, [], hW', trodAll_mk1 (shut_bool Tryd.underlying4 _), (trodAll_cons_mk (shut_string Tryd.underlying9 m0) trodAll_mk0), rfl, bel.frame _, fun h => by cases h⟩

theorem ucdSets_row : Rows.UcdSetsSaid :=
  OpenClaim.holds_of_wide 4 Tryd.f4 rfl rfl rfl rfl rfl rfl rfl ⟨rfl, rfl, rfl, rfl, rfl⟩ rfl rfl rfl rfl rfl (by kernel_rfl) Tryd.func4 (by kernel_rfl)
    (of_decide_eq_true (by kernel_rfl)) (by unfold Func.isWrapper; first | (rw [if_pos (by decide +kernel)]; kernel_rfl) | (rw [if_neg (by decide +kernel)]; exact ⟨rfl, rfl⟩))
    (fun os started H enc _ => ucdSets_lifted os started H enc)

theorem ucdSets_holds : Rows.UcdSetsCardSaid :=
  Claim7.holds_tied_plain_at .later [] [.data, .pinned] true Rows.ucdSetsCard.stood.harness false
    ucdSets_row (fun _ h => by cases h) (by kernel_rfl) (fun _ h => by cases h) ucdSets_row_tie rfl ⟨rfl, rfl⟩ (by kernel_rfl) rfl
    (fun f fn hf hfn => by
      obtain rfl : f = 4 := Option.some.inj ((show Tryd.prog.funcNamed Rows.ucdSetsRow.func = some 4 by kernel_rfl).symm.trans hf) |>.symm
      obtain rfl : fn = Tryd.f4 := (Option.some.inj (Tryd.func4.symm.trans hfn)).symm
      exact ⟨by kernel_rfl, fun j t ht => by
        rw [Tryd.params4] at ht
        have hm : t ∈ [9] := by simpa using Array.mem_of_getElem? ht
        have hall : ([9].all fun u => !Tryd.prog.wantsStandIn u) = true := by kernel_rfl
        exact (show Tryd.prog.wantsStandIn t = false by simpa using List.all_eq_true.1 hall t hm)⟩)
    (by kernel_rfl)
#print axioms ucdSets_holds
end Go.Proofs.YtajhgbcgbgpcjaaDoor

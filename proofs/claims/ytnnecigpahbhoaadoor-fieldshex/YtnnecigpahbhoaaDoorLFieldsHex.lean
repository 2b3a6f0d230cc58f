/- FieldsHex: for every input the law returns true and it reads as before: which character, characters, range, or number a text tells is as the document says. Conditions: the library's tables as the program's text lays them (tied). -/
import Derived.Test.YtnnecigpahbhoaaDoorFRd
import Derived.Test.YtnnecigpahbhoaaDoorFT
import Derived.Test.YtnnecigpahbhoaaDoorCards
import Derived.ShutString
import Derived.ChangeOld
namespace Go.Proofs.YtnnecigpahbhoaaDoor
open Go.ChangeShapes Go.WideShapes Go.ChangeAt Go.WideMaps Go.WideElems Go.RowKit
open Go.ChangeMaps (open_string shut_string)
open Fi

set_option maxRecDepth 100000 in
set_option maxHeartbeats 8000000 in
theorem fieldsHex_walk (s : ByteArray) (w : World) (hs : s.size ≤ 9223372036854775807) (hL : Ml w) : Calls Tryd.prog 4 #[.string s] w fun e w' => e = .returned (.bool true) ∧ Below w.heap.size w w' := by
  have hpos := hL.pos
  have HFin := Lib.hid (show ∀ w2 : World, Below w.heap.size w w2 → Calls Tryd.prog 9 #[] w2 fun e w' => e = .returned (.bool true) ∧ Below w2.heap.size w2 w' from fun w2 h => awake_any w2 (hL.below h hpos))
  by_cases h1 : s.size ≤ 1000
  · have g1 : ¬ (1000 : Int) < s.size := by omega
    have hA := fun W => hex_any s W hs
    have hA2 := fun W => rhex_any s W hs
    have hB := fun W => runes_sl s W (by omega)
    have hB2 := fun W => rrunes_sl s W (by omega)
    have hC := fun W (h : Below w.heap.size w W) => range_any s W (hL.below h hpos) (by omega)
    have hC2 := fun W => rrange_any s W (by omega)
    have hD := fun W => number_any s W hs
    have hD2 := fun W => rnumber_any s W hs
    have hlen := rnsE_len s.data.toList
    rw [lst_len] at hlen
    generalize hexE s.data.toList = pa at *
    generalize rnsE s.data.toList = pb at *
    generalize rngE s.data.toList = pc at *
    generalize nmE s.data.toList = pd at *
    obtain ⟨a, ea⟩ := pa
    obtain ⟨l, eb⟩ := pb
    obtain ⟨c, d, ec⟩ := pc
    obtain ⟨n, ed⟩ := pd
    unfold reV at hA hA2
    unfold RnSl at hB hB2
    unfold r3V at hC hC2
    unfold niV at hD hD2
    simp only at hA hA2 hB hB2 hC hC2 hD hD2 hlen
    have HA := Lib.hid hA
    have HA2 := Lib.hid hA2
    have HB := Lib.hid hB
    have HB2 := Lib.hid hB2
    have HC := Lib.hid hC
    have HC2 := Lib.hid hC2
    have HD := Lib.hid hD
    have HD2 := Lib.hid hD2
    clear hA hA2 hB hB2 hC hC2 hD hD2 hL
    go_enter Tryd.func4, Tryd.ntmps4
    go_wp2_with fail
    refine (HA.out _).mono ?_; rintro e w1 ⟨rfl, hb⟩; have B1 := Lib.hid hb; clear hb
    go_wp2_with fail
    refine (HA2.out _).mono ?_; rintro e w1' ⟨rfl, rfl⟩
    go_wp2_with fail
    refine (HB.out _).mono ?_; rintro e w2 ⟨A2, c2, rfl, ho, hi, hb⟩; have N2 := Lib.hid hi; have B2 := Lib.hid hb; clear ho hi hb
    go_wp2_with fail
    refine (HB2.out _).mono ?_; rintro e w3 ⟨A3, c3, rfl, ho, hi, hb⟩; have N3 := Lib.hid hi; have B3 := Lib.hid hb; clear ho hi hb
    have b2 := B1.out.trans (B2.out.mono B1.out.size)
    have D3 := Lib.hid (b2.trans (B3.out.mono b2.size))
    clear b2
    go_wp2_with fail
    refine (HC.out _ D3.out).mono ?_; rintro e w4 ⟨rfl, hb⟩; have B4 := Lib.hid hb; clear hb
    go_wp2_with fail
    refine (HC2.out _).mono ?_; rintro e w4' ⟨rfl, rfl⟩
    go_wp2_with fail
    refine (HD.out _).mono ?_; rintro e w5 ⟨rfl, hb⟩; have B5 := Lib.hid hb; clear hb
    go_wp2_with fail
    refine (HD2.out _).mono ?_; rintro e w5' ⟨rfl, rfl⟩
    have b35 := B4.out.trans (B5.out.mono B4.out.size)
    have b25 := B3.out.trans (b35.mono B3.out.size)
    have D5 := Lib.hid (D3.out.trans (b35.mono D3.out.size))
    have he := eqR A2 A3 c2 c3 l l w5 (N2.out.below b25) (N3.out.below b35) (by omega) (by omega)
    simp only [decide_true] at he
    have HE := Lib.hid he
    clear he b35 b25
    go_wp2_with fail
    refine HE.out.mono ?_
    rintro e w6 ⟨rfl, hb⟩
    have D6 := Lib.hid (D5.out.trans (hb.mono D5.out.size))
    clear hb
    go_wp2_with fail
    refine (HFin.out _ D6.out).mono ?_
    rintro e w9 ⟨rfl, hb9⟩
    have B9 := Lib.hid (D6.out.trans (hb9.mono D6.out.size))
    clear hb9
    go_wp2_with fail
    go_ret
    exact ⟨rfl, B9.out⟩
  · have g1 : (1000 : Int) < s.size := by omega
    go_enter Tryd.func4, Tryd.ntmps4
    go_wp2_with fail
    refine (HFin.out _ (Below.refl w.heap.size w)).mono ?_
    rintro e w9 ⟨rfl, hb9⟩
    have B9 := Lib.hid ((Below.refl w.heap.size w).trans (hb9.mono (Below.refl w.heap.size w).size))
    clear hb9
    go_wp2_with fail
    go_ret
    exact ⟨rfl, B9.out⟩

set_option maxRecDepth 100000 in
theorem fieldsHex_lifted (os : Os) (started : os.Started) (H : Type) (enc : TypeId × Value → H) :
    ReturnsInHanded {} Tryd.checked os 4 .any (fun w args => (Rows.fieldsHexSpec.pre enc Tryd.prog Tryd.f4 [] false w args ∧ laidMetH Tryd.prog laid1 w) ∧ sizedMet enc Tryd.prog Tryd.f4 (OpenSpec.ofChange Rows.fieldsHexSpec) false w args)
      (Rows.fieldsHexSpec.post enc Tryd.prog Tryd.f4 false true false false) := by
  refine change_shaped (C := Tryd.checked) (X := fun w _ => laidMetH Tryd.prog laid1 w) (fun _ _ _ hh h => h.of_heap hh) own started (by kernel_rfl) Tryd.func4
    (ChangeSpec.witness_shaped (enc := enc) (C := Tryd.checked) (os := os) (X := fun w _ => laidMetH Tryd.prog laid1 w) false (World.laidAll Tryd.prog os laid1) #[.string ⟨#[]⟩] 8 (World.laidAll_os _ _ _) (World.shaped_of_ZipB (by kernel_rfl) (by kernel_rfl)) (by kernel_rfl) (by kernel_rfl) (by kernel_rfl) (by rw [MakeChecks.laidMetH_plain _ _ _ (by kernel_rfl)]; exact laidMet_laidAll _ (by kernel_rfl) (by kernel_rfl))) ?_
  intro W base args ds gs before hval0 hW hsz hL hS
  have hval : ∀ (j : Nat) t v, Tryd.f4.params[j]? = some t → args[j]? = some v → Value.okWide Tryd.prog W .any base t v := hval0
  have hW' := hW
  obtain ⟨p, q, hA0, hV, rfl, hfz, hnd⟩ := hW
  have hA : DataW.TrodAll enc Tryd.prog W 0 (fun _ => true) true Tryd.f4.params.toList args.toList ds p := hA0
  rw [Tryd.params4] at hA hval
  obtain ⟨v0, vs0, d0, ds0, p0, q0, hargs, rfl, rfl, h0, r0⟩ := trodAll_cons hA
  obtain ⟨rfl, rfl, rfl⟩ := trodAll_nil r0
  obtain rfl : args = #[v0] := by cases args; simp_all
  obtain ⟨rfl, rfl⟩ := trodVars_none hV
  obtain ⟨s0, rfl, rfl, rfl, m0⟩ := open_string Tryd.underlying9 (hval 0 9 v0 rfl rfl) h0
  clear hA0 hval0
  refine (fieldsHex_walk s0 W m0 (ml_of hS)).mono fun e W' ⟨he, bel⟩ => ?_
  subst he
  exact ⟨_, rfl, _, _, _, [], _, [], hW', trodAll_mk1 (shut_bool Tryd.underlying4 _), (trodAll_cons_mk (shut_string Tryd.underlying9 m0) trodAll_mk0), rfl, bel.frame _, fun h => by cases h⟩

theorem fieldsHex_row : Rows.FieldsHexSaid :=
  OpenClaim.holds_of_wide 4 Tryd.f4 rfl rfl rfl rfl rfl rfl rfl ⟨rfl, rfl, rfl, rfl, rfl⟩ rfl rfl rfl rfl rfl (by kernel_rfl) Tryd.func4 (by kernel_rfl)
    (of_decide_eq_true (by kernel_rfl)) (by unfold Func.isWrapper; first | (rw [if_pos (by decide +kernel)]; kernel_rfl) | (rw [if_neg (by decide +kernel)]; exact ⟨rfl, rfl⟩))
    (fun os started H enc _ => fieldsHex_lifted os started H enc)

theorem fieldsHex_holds : Rows.FieldsHexCardSaid :=
  Claim7.holds_tied_plain_at .later [] [.data, .pinned] true Rows.fieldsHexCard.stood.harness false
    fieldsHex_row (fun _ h => by cases h) (by kernel_rfl) (fun _ h => by cases h) fieldsHex_row_tie rfl ⟨rfl, rfl⟩ (by kernel_rfl) rfl
    (fun f fn hf hfn => by
      obtain rfl : f = 4 := Option.some.inj ((show Tryd.prog.funcNamed Rows.fieldsHexRow.func = some 4 by kernel_rfl).symm.trans hf) |>.symm
      obtain rfl : fn = Tryd.f4 := (Option.some.inj (Tryd.func4.symm.trans hfn)).symm
      exact ⟨by kernel_rfl, fun j t ht => by
        rw [Tryd.params4] at ht
        have hm : t ∈ [9] := by simpa using Array.mem_of_getElem? ht
        have hall : ([9].all fun u => !Tryd.prog.wantsStandIn u) = true := by kernel_rfl
        exact (show Tryd.prog.wantsStandIn t = false by simpa using List.all_eq_true.1 hall t hm)⟩)
    (by kernel_rfl)
#print axioms fieldsHex_holds
end Go.Proofs.YtnnecigpahbhoaaDoor

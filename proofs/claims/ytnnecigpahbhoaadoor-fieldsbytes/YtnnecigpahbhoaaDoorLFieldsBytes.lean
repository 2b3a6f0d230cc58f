/- FieldsBytes: for every input the law returns true and it reads as before: which bytes a text tells, and how characters are told is as the document says. Conditions: the library's tables as the program's text lays them (tied). -/
import Derived.Test.YtnnecigpahbhoaaDoorFTb
import Derived.Test.YtnnecigpahbhoaaDoorFT
import Derived.Test.YtnnecigpahbhoaaDoorCards
import Derived.ShutString
import Derived.ChangeOld
namespace Go.Proofs.YtnnecigpahbhoaaDoor
open Go.ChangeShapes Go.WideShapes Go.ChangeAt Go.WideMaps Go.WideElems Go.RowKit
open Go.ChangeMaps (open_string shut_string)
open Fi

set_option maxRecDepth 100000 in
set_option maxHeartbeats 4000000 in
theorem fieldsBytes_walk (s a : ByteArray) (A : Option Addr) (cap : Nat) (l : List Int) (w : World) (hs : s.size ≤ 9223372036854775807) (ha : a.size ≤ 9223372036854775807) (hl : Fi.Ints .i32 w A l) (hb : ∀ x ∈ l, -2147483648 ≤ x ∧ x ≤ 2147483647) (hL : Ml w) (hT : Tz w) : Calls Tryd.prog 5 #[.string s, .string a, .slice A l.length cap] w fun e w' => e = .returned (.bool true) ∧ Below w.heap.size w w' := by
  have hpos := hL.pos
  have HFin := Lib.hid (show ∀ w2 : World, Below w.heap.size w w2 → Calls Tryd.prog 9 #[] w2 fun e w' => e = .returned (.bool true) ∧ Below w2.heap.size w2 w' from fun w2 h => awake_any w2 (hL.below h hpos))
  clear hL
  have HI := Lib.hid hl
  have HB := Lib.hid hb
  have HT := Lib.hid hT
  clear hl hb hT
  by_cases h1 : s.size ≤ 1000
  · have g1 : ¬ (1000 : Int) < s.size := by omega
    by_cases h2 : a.size ≤ 20
    · have g2 : ¬ (20 : Int) < a.size := by omega
      by_cases h3 : l.length ≤ 100
      · have g3 : ¬ (100 : Int) < l.length := by omega
        have hA := fun W => bytes_any s a W (by omega) (by omega)
        have hA2 := fun W => rbytes_any s a W (by omega) (by omega)
        generalize bytE a.data.toList s.data.toList = p at hA hA2
        obtain ⟨o, eo⟩ := p
        unfold bytV at hA hA2
        simp only at hA hA2
        generalize (⟨o.toArray⟩ : ByteArray) = X at hA hA2
        have hX := fun W (h : Below w.heap.size w W) => text_any A cap l W (HI.out.below h) HB.out (by omega) (tz_on HT.out h)
        have hX2 := fun W (h : Below w.heap.size w W) => rtext_any A cap l W (HI.out.below h) HB.out (by omega)
        generalize (⟨(txE l).toArray⟩ : ByteArray) = T at hX hX2
        have HA := Lib.hid hA
        have HA2 := Lib.hid hA2
        have HX := Lib.hid hX
        have HX2 := Lib.hid hX2
        clear hA hA2 hX hX2
        go_enter Tryd.func5, Tryd.ntmps5
        go_wp2_with fail
        refine (HA.out _).mono ?_; rintro e w1 ⟨rfl, hb⟩; have D1 := Lib.hid hb; clear hb
        go_wp2_with fail
        refine (HA2.out _).mono ?_; rintro e w2 ⟨rfl, hb⟩; have D2 := Lib.hid (D1.out.trans (hb.mono D1.out.size)); clear hb
        go_wp2_with fail
        refine (HX.out _ D2.out).mono ?_; rintro e w3 ⟨rfl, hb⟩; have D3 := Lib.hid (D2.out.trans (hb.mono D2.out.size)); clear hb
        go_wp2_with fail
        refine (HX2.out _ D3.out).mono ?_; rintro e w4 ⟨rfl, hb⟩; have D4 := Lib.hid (D3.out.trans (hb.mono D3.out.size)); clear hb
        go_wp2_with fail
        refine (HFin.out _ D4.out).mono ?_
        rintro e w9 ⟨rfl, hb9⟩
        have B9 := Lib.hid (D4.out.trans (hb9.mono D4.out.size))
        clear hb9
        go_wp2_with fail
        go_ret
        exact ⟨rfl, B9.out⟩
      · have g3 : (100 : Int) < l.length := by omega
        go_enter Tryd.func5, Tryd.ntmps5
        go_wp2_with fail
        refine (HFin.out _ (Below.refl w.heap.size w)).mono ?_
        rintro e w9 ⟨rfl, hb9⟩
        have B9 := Lib.hid ((Below.refl w.heap.size w).trans (hb9.mono (Below.refl w.heap.size w).size))
        clear hb9
        go_wp2_with fail
        go_ret
        exact ⟨rfl, B9.out⟩
    · have g2 : (20 : Int) < a.size := by omega
      go_enter Tryd.func5, Tryd.ntmps5
      go_wp2_with fail
      refine (HFin.out _ (Below.refl w.heap.size w)).mono ?_
      rintro e w9 ⟨rfl, hb9⟩
      have B9 := Lib.hid ((Below.refl w.heap.size w).trans (hb9.mono (Below.refl w.heap.size w).size))
      clear hb9
      go_wp2_with fail
      go_ret
      exact ⟨rfl, B9.out⟩
  · have g1 : (1000 : Int) < s.size := by omega
    go_enter Tryd.func5, Tryd.ntmps5
    go_wp2_with fail
    refine (HFin.out _ (Below.refl w.heap.size w)).mono ?_
    rintro e w9 ⟨rfl, hb9⟩
    have B9 := Lib.hid ((Below.refl w.heap.size w).trans (hb9.mono (Below.refl w.heap.size w).size))
    clear hb9
    go_wp2_with fail
    go_ret
    exact ⟨rfl, B9.out⟩

set_option maxRecDepth 100000 in
theorem fieldsBytes_lifted (os : Os) (started : os.Started) (H : Type) (enc : TypeId × Value → H) :
    ReturnsInHanded {} Tryd.checked os 5 .any (fun w args => (Rows.fieldsBytesSpec.pre enc Tryd.prog Tryd.f5 [] false w args ∧ laidMetH Tryd.prog laid2 w) ∧ sizedMet enc Tryd.prog Tryd.f5 (OpenSpec.ofChange Rows.fieldsBytesSpec) false w args)
      (Rows.fieldsBytesSpec.post enc Tryd.prog Tryd.f5 false true false false) := by
  refine change_shaped (C := Tryd.checked) (X := fun w _ => laidMetH Tryd.prog laid2 w) (fun _ _ _ hh h => h.of_heap hh) own started (by kernel_rfl) Tryd.func5
    (ChangeSpec.witness_shaped (enc := enc) (C := Tryd.checked) (os := os) (X := fun w _ => laidMetH Tryd.prog laid2 w) false (World.laidAll Tryd.prog os laid2) #[.string ⟨#[]⟩, .string ⟨#[]⟩, .slice none 0 0] 8 (World.laidAll_os _ _ _) (World.shaped_of_ZipB (by kernel_rfl) (by kernel_rfl)) (by kernel_rfl) (by kernel_rfl) (by kernel_rfl) (by rw [MakeChecks.laidMetH_plain _ _ _ (by kernel_rfl)]; exact laidMet_laidAll _ (by kernel_rfl) (by kernel_rfl))) ?_
  intro W base args ds gs before hval0 hW hsz hL hS
  have hval : ∀ (j : Nat) t v, Tryd.f5.params[j]? = some t → args[j]? = some v → Value.okWide Tryd.prog W .any base t v := hval0
  have hW' := hW
  obtain ⟨p, q, hA0, hV, rfl, hfz, hnd⟩ := hW
  have hA : DataW.TrodAll enc Tryd.prog W 0 (fun _ => true) true Tryd.f5.params.toList args.toList ds p := hA0
  rw [Tryd.params5] at hA hval
  obtain ⟨v0, vs0, d0, ds0, p0, q0, hargs, rfl, rfl, h0, r0⟩ := trodAll_cons hA
  obtain ⟨v1, vs1, d1, ds1, p1, q1, rfl, rfl, rfl, h1, r1⟩ := trodAll_cons r0
  obtain ⟨v2, vs2, d2, ds2, p2, q2, rfl, rfl, rfl, h2, r2⟩ := trodAll_cons r1
  obtain ⟨rfl, rfl, rfl⟩ := trodAll_nil r2
  obtain rfl : args = #[v0, v1, v2] := by cases args; simp_all
  obtain ⟨rfl, rfl⟩ := trodVars_none hV
  obtain ⟨s0, rfl, rfl, rfl, m0⟩ := open_string Tryd.underlying9 (hval 0 9 v0 rfl rfl) h0
  obtain ⟨s1, rfl, rfl, rfl, m1⟩ := open_string Tryd.underlying9 (hval 1 9 v1 rfl rfl) h1
  obtain ⟨A2, len2, cap2, rfl⟩ := okWide_slice Tryd.underlying39 (hval 2 39 v2 rfl rfl)
  have k2 := h2
  have lt2 : ∀ x ∈ p2, x.block < W.heap.size := by obtain ⟨m, hm⟩ := k2; exact DataW.trod_lt m _ _ _ hm
  obtain ⟨l2, e2, g2, b2⟩ := ints_of_trod2 h2
  subst e2
  clear hA0 hval0
  refine (fieldsBytes_walk s0 s1 A2 cap2 l2 W m0 m1 g2 b2 (ml_of hS) (tz_of hL)).mono fun e W' ⟨he, bel⟩ => ?_
  subst he
  exact ⟨_, rfl, _, _, _, [], _, [], hW', trodAll_mk1 (shut_bool Tryd.underlying4 _), (trodAll_cons_mk (shut_string Tryd.underlying9 m0) (trodAll_cons_mk (shut_string Tryd.underlying9 m1) (trodAll_cons_mk (Below.trod laidOut (by kernel_rfl) (of_decide_eq_true (by kernel_rfl)) k2 bel lt2) trodAll_mk0))), rfl, bel.frame _, fun h => by cases h⟩

theorem fieldsBytes_row : Rows.FieldsBytesSaid :=
  OpenClaim.holds_of_wide 5 Tryd.f5 rfl rfl rfl rfl rfl rfl rfl ⟨rfl, rfl, rfl, rfl, rfl⟩ rfl rfl rfl rfl rfl (by kernel_rfl) Tryd.func5 (by kernel_rfl)
    (of_decide_eq_true (by kernel_rfl)) (by unfold Func.isWrapper; first | (rw [if_pos (by decide +kernel)]; kernel_rfl) | (rw [if_neg (by decide +kernel)]; exact ⟨rfl, rfl⟩))
    (fun os started H enc _ => fieldsBytes_lifted os started H enc)

theorem fieldsBytes_holds : Rows.FieldsBytesCardSaid :=
  Claim7.holds_tied_plain_at .later [] [.data, .data, .data, .data, .pinned, .pinned] true Rows.fieldsBytesCard.stood.harness false
    fieldsBytes_row (fun _ h => by cases h) (by kernel_rfl) (fun _ h => by cases h) fieldsBytes_row_tie rfl ⟨rfl, rfl⟩ (by kernel_rfl) rfl
    (fun f fn hf hfn => by
      obtain rfl : f = 5 := Option.some.inj ((show Tryd.prog.funcNamed Rows.fieldsBytesRow.func = some 5 by kernel_rfl).symm.trans hf) |>.symm
      obtain rfl : fn = Tryd.f5 := (Option.some.inj (Tryd.func5.symm.trans hfn)).symm
      exact ⟨by kernel_rfl, fun j t ht => by
        rw [Tryd.params5] at ht
        have hm : t ∈ [9, 9, 39] := by simpa using Array.mem_of_getElem? ht
        have hall : ([9, 9, 39].all fun u => !Tryd.prog.wantsStandIn u) = true := by kernel_rfl
        exact (show Tryd.prog.wantsStandIn t = false by simpa using List.all_eq_true.1 hall t hm)⟩)
    (by kernel_rfl)
#print axioms fieldsBytes_holds
end Go.Proofs.YtnnecigpahbhoaaDoor

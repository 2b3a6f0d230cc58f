/- WideDecodes: for every kind, every policy and every list of parts the law returns true and all read as before: Decode answers as the document's. Conditions: the table 'layouts' as the program's text lays it (tied). -/
import Derived.Test.YtohjkpdelopknaaDoorR
import Derived.Test.YtohjkpdelopknaaDoorY
import Derived.IntWalk
import Derived.Test.YtohjkpdelopknaaDoorCards
import Derived.ShutString
import Derived.ChangeOld
namespace Go.Proofs.YtohjkpdelopknaaDoor
open Go.ChangeShapes Go.WideShapes Go.ChangeAt Go.WideMaps Go.WideElems Go.RowKit
open Go.ChangeMaps (open_string shut_string)

theorem cat_snoc (a : List ByteArray) (x : ByteArray) : catB (a ++ [x]) = catB a ++ x := by
  apply ByteArray.ext
  simp [catB]
theorem cat_more (xs : List ByteArray) (k : Nat) (h : k < xs.length) : catB (xs.take k) ++ xs[k] = catB (xs.take (k + 1)) := by
  rw [List.take_succ_eq_append_getElem h, cat_snoc]
theorem cat_size (xs : List ByteArray) (k : Nat) (h : k < xs.length) : (catB (xs.take (k + 1))).size = (catB (xs.take k)).size + xs[k].size := by
  rw [← cat_more xs k h, ByteArray.size_append]

set_option maxRecDepth 100000 in
set_option maxHeartbeats 4000000 in
theorem wideDecodes_walk (kd pol : Int) (A : Option Addr) (c : Nat) (xs : List ByteArray) (w : World) (_hk : (Lit.int .i64 kd).wf = true) (_hp : (Lit.int .i64 pol).wf = true) (hx : Strs w A c xs) (hn : xs.length ≤ 8796093022208) (hT : Tab w) :
    Calls Tryd.prog 5 #[.int .i64 kd, .int .i64 pol, .slice A xs.length c] w fun e w' => e = .returned (.bool true) ∧ Below w.heap.size w w' := by
  have hpos := hT.pos
  have HFin := Lib.hid (show ∀ w2 : World, Below w.heap.size w w2 → Tab w2 from fun w2 h => hT.below h hpos)
  have B0 := Lib.hid (Below.refl w.heap.size w)
  have HX := Lib.hid hx
  clear hT hx _hp _hk
  go_enter Tryd.func5, Tryd.ntmps5
  go_wp2_with fail
  go_loop [7, 8] (fun a i => ∃ k : Nat, a = .string (catB (xs.take k)) ∧ i = .int .i64 k ∧ k ≤ xs.length ∧ (catB (xs.take k)).size ≤ 100 * k) (fun _ i => xs.length - (intOf i).toNat)
  case atStart => exact ⟨0, rfl, rfl, by omega, Nat.le_of_eq rfl⟩
  case round =>
    obtain ⟨k, rfl, rfl, hk, hz⟩ := hrel
    by_cases hlt : k < xs.length
    · rcases HX.out with h0 | ⟨bk, o, rfl, hb, hc, hcell⟩
      · rw [h0] at hlt; simp at hlt
      · have hcl := hcell k xs[k] (List.getElem?_eq_getElem hlt)
        have HM := Lib.hid (cat_more xs k hlt)
        have HZ := Lib.hid (cat_size xs k hlt)
        have HCell := Lib.hid hcell
        clear hcell
        generalize hxk : xs[k] = x at hcl HM HZ
        generalize hak : catB (xs.take k) = a at hz HM HZ
        clear hxk
        have Hak := Lib.hid hak
        clear hak
        have hlt' : (k : Int) < xs.length := by omega
        by_cases h1 : 100 < x.size
        · have h1' : (100 : Int) < x.size := by omega
          go_wp2_with fail
          refine (awake_any _ (HFin.out _ B0.out)).mono ?_
          rintro e w9 ⟨rfl, hb9⟩
          have B9 := Lib.hid (B0.out.trans (hb9.mono B0.out.size))
          clear hb9
          go_wp2
          go_ret
          exact ⟨rfl, B9.out⟩
        · have h1' : ¬ (100 : Int) < x.size := by omega
          have hsum : a.size + x.size ≤ 1000000000000000 := by omega
          go_wp2_with fail
          go_round
          case rel => exact ⟨k + 1, by rw [HM.out], by go_num, by omega, by rw [HZ.out]; omega⟩
          case measure => simp [intOf]; omega
    · obtain rfl : k = xs.length := by omega
      have hlt' : ¬ ((xs.length : Nat) : Int) < xs.length := by omega
      rw [List.take_length] at hz ⊢
      by_cases h20 : xs.length ≤ 20
      · have h20' : ¬ (20 : Int) < xs.length := by omega
        have HDec := Lib.hid (decode_any kd pol A c xs w (HFin.out _ B0.out) HX.out (by omega) (by omega))
        generalize catB xs = s at *
        have hss : s.size ≤ 2000 := by omega
        clear hz
        obtain ⟨d, hd⟩ : ∃ d, decP kd pol (bs s) = d := ⟨_, rfl⟩
        rw [hd] at HDec
        have HD := Lib.hid hd
        clear hd
        obtain ⟨l1, l2, e1⟩ := d
        have hee : (e1 == e1) = true := by simp
        have hle : l1.length ≤ 100000 ∧ l2.length ≤ 100000 := by have := decP_lens kd pol (bs s); rw [HD.out, bs_len] at this; simp only at this; omega
        obtain ⟨hle1, hle2⟩ := hle
        go_wp2_with fail
        refine HDec.out.mono ?_
        rintro e w1 ⟨v1, v2, rfl, ho1, ho2, hb1⟩
        obtain ⟨A1, c1, rfl, hi1⟩ := own_ints ho1
        obtain ⟨A2, c2, rfl, hi2⟩ := own_flts ho2
        have B1 := Lib.hid hb1
        have I1 := Lib.hid hi1
        have I2 := Lib.hid hi2
        clear ho1 ho2 hb1 hi1 hi2
        go_wp2_with fail
        refine (rdecode_any kd pol s _ (by omega)).mono ?_
        rw [HD.out]
        rintro e w2 ⟨v1, v2, rfl, ho1, ho2, hb2⟩
        obtain ⟨A3, c3, rfl, hi1⟩ := own_ints ho1
        obtain ⟨A4, c4, rfl, hi2⟩ := own_flts ho2
        have B2 := Lib.hid (B1.out.trans (hb2.mono B1.out.size))
        have J1 := Lib.hid (I1.out.below hb2)
        have J2 := Lib.hid (I2.out.below hb2)
        have I3 := Lib.hid hi1
        have I4 := Lib.hid hi2
        clear ho1 ho2 hb2 hi1 hi2 I1 I2
        go_wp2_with fail
        refine (runes_any A1 A3 c1 c3 l1 l1 _ J1.out I3.out (by omega) (by omega)).mono ?_
        rintro e w4 ⟨rfl, hb4⟩
        rw [show decide (l1 = l1) = true from by simp]
        have B4 := Lib.hid (B2.out.trans (hb4.mono B2.out.size))
        have L2 := Lib.hid (J2.out.below hb4)
        have L4 := Lib.hid (I4.out.below hb4)
        clear hb4
        go_wp2_with fail
        refine (faults_any A2 A4 c2 c4 l2 l2 _ L2.out L4.out (by omega) (by omega)).mono ?_
        rintro e w5 ⟨rfl, hb5⟩
        rw [show decide (l2 = l2) = true from by simp]
        have B5 := Lib.hid (B4.out.trans (hb5.mono B4.out.size))
        clear hb5
        go_wp2_with fail
        refine (awake_any _ (HFin.out _ B5.out)).mono ?_
        rintro e w9 ⟨rfl, hb9⟩
        have B9 := Lib.hid (B5.out.trans (hb9.mono B5.out.size))
        clear hb9
        go_wp2
        go_ret
        exact ⟨rfl, B9.out⟩
      · have h20' : (20 : Int) < xs.length := by omega
        go_wp2_with fail
        refine (awake_any _ (HFin.out _ B0.out)).mono ?_
        rintro e w9 ⟨rfl, hb9⟩
        have B9 := Lib.hid (B0.out.trans (hb9.mono B0.out.size))
        clear hb9
        go_wp2
        go_ret
        exact ⟨rfl, B9.out⟩

set_option maxRecDepth 100000 in
theorem wideDecodes_lifted (os : Os) (started : os.Started) (H : Type) (enc : TypeId × Value → H) :
    ReturnsInHanded {} Tryd.checked os 5 .any (fun w args => (Rows.wideDecodesSpec.pre enc Tryd.prog Tryd.f5 [] false w args ∧ laidMetH Tryd.prog laid1 w) ∧ sizedMet enc Tryd.prog Tryd.f5 (OpenSpec.ofChange Rows.wideDecodesSpec) false w args)
      (Rows.wideDecodesSpec.post enc Tryd.prog Tryd.f5 false true false false) := by
  refine returnsInHanded_of_change_and (C := Tryd.checked) (X := fun w _ => laidMetH Tryd.prog laid1 w) (fun _ _ _ hh h => h.of_heap hh) own started (by kernel_rfl) Tryd.func5
    (ChangeSpec.witness_shaped (enc := enc) (C := Tryd.checked) (os := os) (X := fun w _ => laidMetH Tryd.prog laid1 w) false (World.doorLaid Tryd.prog 400 os) #[.int .i64 0, .int .i64 0, .slice none 0 0] 8 rfl (World.shaped_of_RefB (by kernel_rfl) (by kernel_rfl)) (by kernel_rfl) (by kernel_rfl) (by kernel_rfl) (door_met os _)) ?_
  intro W base args ds gs before hval0 hW _ hsz hL _
  have hval : ∀ (j : Nat) t v, Tryd.f5.params[j]? = some t → args[j]? = some v → Value.okWide Tryd.prog W .any base t v := hval0
  have hW' := hW
  obtain ⟨p, q, hA0, hV, rfl, hfz, hnd⟩ := hW
  have hA : DataW.TrodAll enc Tryd.prog W 0 (fun _ => true) true Tryd.f5.params.toList args.toList ds p := hA0
  rw [Tryd.params5] at hA hval
  obtain ⟨v0, vs0, d0, ds0, p0, q0, hargs, rfl, rfl, h0, r0⟩ := trodAll_cons hA
  obtain ⟨v1, vs1, d1, ds1, p1, q1, rfl, rfl, rfl, h1, r1⟩ := trodAll_cons r0
  obtain ⟨v2, vs2, d2, ds2, p2, q2, rfl, rfl, rfl, h2, r2⟩ := trodAll_cons r1
  obtain ⟨rfl, rfl, rfl⟩ := trodAll_nil r2
  obtain rfl : args = #[v0, v1, v2] := by cases args; simp_all
  obtain ⟨rfl, rfl⟩ := trodVars_none hV
  obtain ⟨a0, rfl, rfl, rfl, m0⟩ := open_int Tryd.underlying3 (hval 0 3 v0 rfl rfl) h0
  obtain ⟨a1, rfl, rfl, rfl, m1⟩ := open_int Tryd.underlying3 (hval 1 3 v1 rfl rfl) h1
  obtain ⟨A2, len2, cap2, rfl⟩ := okWide_slice Tryd.underlying35 (hval 2 35 v2 rfl rfl)
  have k2 := h2
  have lt2 : ∀ x ∈ p2, x.block < W.heap.size := by obtain ⟨m, hm⟩ := k2; exact DataW.trod_lt m _ _ _ hm
  obtain ⟨l2, e2, g2, dd2⟩ := strs_of_trod h2
  have z2 : l2.length ≤ 8796093022208 := strs_bound dd2 (fun el sp hd => sized_slice hsz (j := 2) (t := 35) rfl (by rw [hd]; rfl) Tryd.underlying35)
  subst e2
  clear hA0 hval0
  refine (wideDecodes_walk a0 a1 A2 cap2 l2 W m0 m1 g2 z2 (of_laid hL)).mono fun e W' ⟨he, bel⟩ => ?_
  subst he
  exact ⟨_, rfl, _, _, _, [], _, [], hW', trodAll_mk1 (shut_bool Tryd.underlying4 _), (trodAll_cons_mk (shut_int Tryd.underlying3 m0) (trodAll_cons_mk (shut_int Tryd.underlying3 m1) (trodAll_cons_mk (Below.trod laidOut (by kernel_rfl) (of_decide_eq_true (by kernel_rfl)) k2 bel lt2) trodAll_mk0))), rfl, bel.frame _, fun h => by cases h⟩

theorem wideDecodes_row : Rows.WideDecodesSaid :=
  OpenClaim.holds_of_wide 5 Tryd.f5 rfl rfl rfl rfl rfl rfl rfl ⟨rfl, rfl, rfl, rfl, rfl⟩ rfl rfl rfl rfl rfl (by kernel_rfl) Tryd.func5 (by kernel_rfl)
    (of_decide_eq_true (by kernel_rfl)) (by unfold Func.isWrapper; first | (rw [if_pos (by decide +kernel)]; kernel_rfl) | (rw [if_neg (by decide +kernel)]; exact ⟨rfl, rfl⟩))
    (fun os started H enc _ => wideDecodes_lifted os started H enc)

theorem wideDecodes_holds : Rows.WideDecodesCardSaid :=
  Claim7.holds_tied_plain_at .later [] [.data] true Rows.wideDecodesCard.stood.harness false
    wideDecodes_row (fun _ h => by cases h) (by kernel_rfl) (fun _ h => by cases h) wideDecodes_row_tie rfl ⟨rfl, rfl⟩ (by kernel_rfl) rfl
    (fun f fn hf hfn => by
      obtain rfl : f = 5 := Option.some.inj ((show Tryd.prog.funcNamed Rows.wideDecodesRow.func = some 5 by kernel_rfl).symm.trans hf) |>.symm
      obtain rfl : fn = Tryd.f5 := (Option.some.inj (Tryd.func5.symm.trans hfn)).symm
      exact ⟨by kernel_rfl, fun j t ht => by
        rw [Tryd.params5] at ht
        have hm : t ∈ [3, 3, 35] := by simpa using Array.mem_of_getElem? ht
        have hall : ([3, 3, 35].all fun u => !Tryd.prog.wantsStandIn u) = true := by kernel_rfl
        exact (show Tryd.prog.wantsStandIn t = false by simpa using List.all_eq_true.1 hall t hm)⟩)
    (by kernel_rfl)
#print axioms wideDecodes_holds
end Go.Proofs.YtohjkpdelopknaaDoor

/- WideKinds: for every string and every list of numbers the law returns true and both read as before: the kinds tell the same characters by the same bytes, in another order. Conditions: the table 'layouts' as the program's text lays it (tied). -/
import Derived.Test.YtohjkpdelopknaaDoorR
import Derived.Test.YtohjkpdelopknaaDoorY
import Derived.Test.YtohjkpdelopknaaDoorT
import Derived.IntWalk
import Derived.Test.YtohjkpdelopknaaDoorCards
import Derived.ShutString
import Derived.ChangeOld
namespace Go.Proofs.YtohjkpdelopknaaDoor
open Go.ChangeShapes Go.WideShapes Go.ChangeAt Go.WideMaps Go.WideElems Go.RowKit
open Go.ChangeMaps (open_string shut_string)

theorem kinds_enc (k : Nat) (hk : k = 1 ∨ k = 3) (l : List Int) (h : l.length ≤ 200) : ∃ (t u : ByteArray) (e : Int), encV k l = .tuple #[.string t, .int .i64 e] ∧ encV (k + 1) l = .tuple #[.string u, .int .i64 e] ∧ strB (trn (szK k) (bs t)) = u ∧ t.size ≤ 800 := by
  have k4 : k ≤ 4 := by omega
  cases ha : l.all scal
  · exact ⟨⟨#[]⟩, ⟨#[]⟩, 11, by rw [encV, if_neg (by rw [ha]; decide)], by rw [encV, if_neg (by rw [ha]; decide)], rfl, by decide⟩
  · refine ⟨_, _, 0, encV_yes k l ha, encV_yes (k + 1) l ha, ?_, ?_⟩
    · rw [bs_strB _ (chL_B k l), chL_turn k hk]
    · rw [strB_size]; have := chL_le k k4 l; omega
theorem kinds_dec (k : Nat) (hk : k = 1 ∨ k = 3) (s : ByteArray) (h : s.size % 4 = 0) : dec (k + 1) 2 0 (bs (strB (trn (szK k) (bs s)))) = dec k 2 0 (bs s) ∧ (strB (trn (szK k) (bs s))).size = s.size := by
  have hz := szK_bd k
  have hm : (bs s).length % szK k = 0 := by
    rw [bs_len]
    rcases hz.2.2 with hh | hh <;> rw [hh] <;> omega
  rw [bs_strB _ (trn_B (szK k) (by omega) _ _ (Nat.le_refl _) (bs_B s)), strB_size]
  exact ⟨dec_turn k hk 2 _ 0 _ (Nat.le_refl _) hm, by rw [trn_len (szK k) (by omega) _ _ (Nat.le_refl _) hm, bs_len]⟩

set_option maxRecDepth 100000 in
set_option maxHeartbeats 4000000 in
theorem wideKinds_in (A : Option Addr) (c : Nat) (l : List Int) (s : ByteArray) (w : World) (hs1 : l.length ≤ 200) (hs2 : s.size ≤ 400) (hs4 : s.size % 4 = 0) (hl : Ints .i32 w A l) (hT : Tab w) : Calls Tryd.prog 8 #[.string s, .slice A l.length c] w fun e w' => e = .returned (.bool true) ∧ Below w.heap.size w w' := by
  have hpos := hT.pos
  have HFin := Lib.hid (show ∀ w2 : World, Below w.heap.size w w2 → Tab w2 from fun w2 h => hT.below h hpos)
  have B0 := Lib.hid (Below.refl w.heap.size w)
  have HL := Lib.hid hl
  clear hT hl
  have g1 : ¬ (200 : Int) < l.length := by omega
  have g2 : ¬ (400 : Int) < s.size := by omega
  have g3 : (s.size : Int) % 4 = 0 := by omega
  have H1 := Lib.hid (kinds_dec 1 (.inl rfl) s hs4)
  have H3 := Lib.hid (kinds_dec 3 (.inr rfl) s hs4)
  have E1 := Lib.hid (kinds_enc 1 (.inl rfl) l hs1)
  have E3 := Lib.hid (kinds_enc 3 (.inr rfl) l hs1)
  go_enter Tryd.func8, Tryd.ntmps8
  go_wp2_with fail
  go_loopw [5] (fun kv wr => ∃ j : Nat, kv = .int .i64 j ∧ j ≤ 2 ∧ Hid (Below w.heap.size w wr)) (fun kv _ => 2 - (intOf kv).toNat)
  case atStart => exact ⟨0, rfl, by omega, Below.refl _ _⟩
  case round =>
    obtain ⟨j, rfl, hj, HQ⟩ := hrel
    have hqz := HQ.out.size
    have hj' : j = 0 ∨ j = 1 ∨ j = 2 := by omega
    rcases hj' with rfl | rfl | rfl
    · rw [show ((0 : Nat) : Int) = 0 from rfl]
      obtain ⟨t, u, ee, x1, x2, x3, x4⟩ := E1.out
      have X1 := Lib.hid x1
      have X2 := Lib.hid x2
      have X3 := Lib.hid x3
      obtain ⟨y1, y2⟩ := H1.out
      have HTu := Lib.hid (fun W => turn_any s 2 W (by omega) (by omega) (by omega))
      rw [show strB (trn 2 (bs s)) = strB (trn (szK 1) (bs s)) from rfl] at HTu
      generalize strB (trn (szK 1) (bs s)) = tu at *
      have ln := dec_lens 1 2 (bs s).length 0 (bs s) (Nat.le_refl _)
      have ze := dec_err 1 2 (by decide) (bs s).length 0 (bs s) (Nat.le_refl _)
      rw [bs_len] at ln
      obtain ⟨⟨l1, f1, e1⟩, hd1⟩ : ∃ d, dec 1 2 0 (bs s) = d := ⟨_, rfl⟩
      rw [hd1] at y1 ln ze
      simp only at ln ze
      subst ze
      obtain ⟨lna, lnb⟩ := ln
      have HD1 := Lib.hid hd1
      have HD2 := Lib.hid y1
      have ytz : tu.size ≤ 400 := by omega
      have hee : (ee != ee) = false := by simp
      have huu : (u.toList != u.toList) = false := by simp
      clear x1 x2 x3 y1 y2 hd1
      go_wp2_with fail
      refine (HTu.out _).mono ?_
      rintro e w1 ⟨rfl, hb1⟩
      have B1 := Lib.hid (HQ.out.trans (hb1.mono hqz))
      clear hb1
      go_wp2_with fail
      refine (decode_one 1 (by omega) (by omega) 2 (.inr (.inl rfl)) s _ (HFin.out _ B1.out) (by omega)).mono ?_
      rw [HD1.out]
      rintro e w2 ⟨A1, c1', A2, c2', rfl, -, -, hi1, hf1, hb2⟩
      have B2 := Lib.hid (B1.out.trans (hb2.mono B1.out.size))
      have HI1 := Lib.hid hi1
      have HF1 := Lib.hid hf1
      clear hb2 hi1 hf1
      go_wp2_with fail
      refine (decode_one 2 (by omega) (by omega) 2 (.inr (.inl rfl)) tu _ (HFin.out _ B2.out) (by omega)).mono ?_
      rw [HD2.out]
      rintro e w3 ⟨A3, c3', A4, c4', rfl, -, -, hi2, hf2, hb3⟩
      have B3 := Lib.hid (B2.out.trans (hb3.mono B2.out.size))
      have HI1' := Lib.hid (HI1.out.below hb3)
      have HF1' := Lib.hid (HF1.out.below hb3)
      have HI2 := Lib.hid hi2
      have HF2 := Lib.hid hf2
      clear hb3 hi2 hf2 HI1 HF1
      go_wp2_with fail
      refine (runes_any A1 A3 c1' c3' l1 l1 _ HI1'.out HI2.out (by omega) (by omega)).mono ?_
      rintro e w4 ⟨rfl, hb4⟩
      rw [show decide (l1 = l1) = true from by simp]
      have B4 := Lib.hid (B3.out.trans (hb4.mono B3.out.size))
      have Z1 := Lib.hid (HF1'.out.below hb4)
      have Z2 := Lib.hid (HF2.out.below hb4)
      clear hb4 HI1' HF1' HI2 HF2
      go_wp2_with fail
      refine (faults_any A2 A4 c2' c4' f1 f1 _ Z1.out Z2.out (by omega) (by omega)).mono ?_
      rintro e w5 ⟨rfl, hb5⟩
      rw [show decide (f1 = f1) = true from by simp]
      have B5 := Lib.hid (B4.out.trans (hb5.mono B4.out.size))
      clear hb5 Z1 Z2
      go_wp2_with fail
      refine (encode_any 1 A c l _ (HFin.out _ B5.out) (by omega) (by omega) (HL.out.below B5.out) (by omega)).mono ?_
      rw [X1.out]
      rintro e w6 ⟨rfl, hb6⟩
      have B6 := Lib.hid (B5.out.trans (hb6.mono B5.out.size))
      clear hb6
      go_wp2_with fail
      refine (encode_any 2 A c l _ (HFin.out _ B6.out) (by omega) (by omega) (HL.out.below B6.out) (by omega)).mono ?_
      rw [show encV 2 l = _ from X2.out]
      rintro e w7 ⟨rfl, hb7⟩
      have B7 := Lib.hid (B6.out.trans (hb7.mono B6.out.size))
      clear hb7
      go_wp2_with fail
      refine (turn_any t 2 _ (by omega) (by omega) (by omega)).mono ?_
      rw [show strB (trn 2 (bs t)) = u from X3.out]
      rintro e w8 ⟨rfl, hb8⟩
      have B8 := Lib.hid (B7.out.trans (hb8.mono B7.out.size))
      clear hb8
      go_wp2_with fail
      go_roundw
      case rel => exact ⟨1, rfl, by omega, B8.out⟩
      case measure => simp [intOf]
    · rw [show ((1 : Nat) : Int) = 1 from rfl]
      obtain ⟨t, u, ee, x1, x2, x3, x4⟩ := E3.out
      have X1 := Lib.hid x1
      have X2 := Lib.hid x2
      have X3 := Lib.hid x3
      obtain ⟨y1, y2⟩ := H3.out
      have HTu := Lib.hid (fun W => turn_any s 4 W (by omega) (by omega) (by omega))
      rw [show strB (trn 4 (bs s)) = strB (trn (szK 3) (bs s)) from rfl] at HTu
      generalize strB (trn (szK 3) (bs s)) = tu at *
      have ln := dec_lens 3 2 (bs s).length 0 (bs s) (Nat.le_refl _)
      have ze := dec_err 3 2 (by decide) (bs s).length 0 (bs s) (Nat.le_refl _)
      rw [bs_len] at ln
      obtain ⟨⟨l1, f1, e1⟩, hd1⟩ : ∃ d, dec 3 2 0 (bs s) = d := ⟨_, rfl⟩
      rw [hd1] at y1 ln ze
      simp only at ln ze
      subst ze
      obtain ⟨lna, lnb⟩ := ln
      have HD1 := Lib.hid hd1
      have HD2 := Lib.hid y1
      have ytz : tu.size ≤ 400 := by omega
      have hee : (ee != ee) = false := by simp
      have huu : (u.toList != u.toList) = false := by simp
      clear x1 x2 x3 y1 y2 hd1
      go_wp2_with fail
      refine (HTu.out _).mono ?_
      rintro e w1 ⟨rfl, hb1⟩
      have B1 := Lib.hid (HQ.out.trans (hb1.mono hqz))
      clear hb1
      go_wp2_with fail
      refine (decode_one 3 (by omega) (by omega) 2 (.inr (.inl rfl)) s _ (HFin.out _ B1.out) (by omega)).mono ?_
      rw [HD1.out]
      rintro e w2 ⟨A1, c1', A2, c2', rfl, -, -, hi1, hf1, hb2⟩
      have B2 := Lib.hid (B1.out.trans (hb2.mono B1.out.size))
      have HI1 := Lib.hid hi1
      have HF1 := Lib.hid hf1
      clear hb2 hi1 hf1
      go_wp2_with fail
      refine (decode_one 4 (by omega) (by omega) 2 (.inr (.inl rfl)) tu _ (HFin.out _ B2.out) (by omega)).mono ?_
      rw [HD2.out]
      rintro e w3 ⟨A3, c3', A4, c4', rfl, -, -, hi2, hf2, hb3⟩
      have B3 := Lib.hid (B2.out.trans (hb3.mono B2.out.size))
      have HI1' := Lib.hid (HI1.out.below hb3)
      have HF1' := Lib.hid (HF1.out.below hb3)
      have HI2 := Lib.hid hi2
      have HF2 := Lib.hid hf2
      clear hb3 hi2 hf2 HI1 HF1
      go_wp2_with fail
      refine (runes_any A1 A3 c1' c3' l1 l1 _ HI1'.out HI2.out (by omega) (by omega)).mono ?_
      rintro e w4 ⟨rfl, hb4⟩
      rw [show decide (l1 = l1) = true from by simp]
      have B4 := Lib.hid (B3.out.trans (hb4.mono B3.out.size))
      have Z1 := Lib.hid (HF1'.out.below hb4)
      have Z2 := Lib.hid (HF2.out.below hb4)
      clear hb4 HI1' HF1' HI2 HF2
      go_wp2_with fail
      refine (faults_any A2 A4 c2' c4' f1 f1 _ Z1.out Z2.out (by omega) (by omega)).mono ?_
      rintro e w5 ⟨rfl, hb5⟩
      rw [show decide (f1 = f1) = true from by simp]
      have B5 := Lib.hid (B4.out.trans (hb5.mono B4.out.size))
      clear hb5 Z1 Z2
      go_wp2_with fail
      refine (encode_any 3 A c l _ (HFin.out _ B5.out) (by omega) (by omega) (HL.out.below B5.out) (by omega)).mono ?_
      rw [X1.out]
      rintro e w6 ⟨rfl, hb6⟩
      have B6 := Lib.hid (B5.out.trans (hb6.mono B5.out.size))
      clear hb6
      go_wp2_with fail
      refine (encode_any 4 A c l _ (HFin.out _ B6.out) (by omega) (by omega) (HL.out.below B6.out) (by omega)).mono ?_
      rw [show encV 4 l = _ from X2.out]
      rintro e w7 ⟨rfl, hb7⟩
      have B7 := Lib.hid (B6.out.trans (hb7.mono B6.out.size))
      clear hb7
      go_wp2_with fail
      refine (turn_any t 4 _ (by omega) (by omega) (by omega)).mono ?_
      rw [show strB (trn 4 (bs t)) = u from X3.out]
      rintro e w8 ⟨rfl, hb8⟩
      have B8 := Lib.hid (B7.out.trans (hb8.mono B7.out.size))
      clear hb8
      go_wp2_with fail
      go_roundw
      case rel => exact ⟨2, rfl, by omega, B8.out⟩
      case measure => simp [intOf]
    · rw [show ((2 : Nat) : Int) = 2 from rfl]
      go_wp2_with fail
      refine (awake_any _ (HFin.out _ HQ.out)).mono ?_
      rintro e w9 ⟨rfl, hb9⟩
      have B9 := Lib.hid (HQ.out.trans (hb9.mono HQ.out.size))
      clear hb9
      go_wp2
      go_ret
      exact ⟨rfl, B9.out⟩

set_option maxRecDepth 100000 in
set_option maxHeartbeats 1000000 in
theorem wideKinds_walk (s : ByteArray) (A : Option Addr) (c : Nat) (l : List Int) (w : World) (_hm : s.size ≤ maxLen) (hl : Ints .i32 w A l) (hT : Tab w) : Calls Tryd.prog 8 #[.string s, .slice A l.length c] w fun e w' => e = .returned (.bool true) ∧ Below w.heap.size w w' := by
  by_cases c1 : 400 < s.size
  · have hpos := hT.pos
    have HFin := Lib.hid (show ∀ w2 : World, Below w.heap.size w w2 → Tab w2 from fun w2 h => hT.below h hpos)
    have B0 := Lib.hid (Below.refl w.heap.size w)
    have c1' : (400 : Int) < s.size := by omega
    clear hT hl _hm
    go_enter Tryd.func8, Tryd.ntmps8
    go_wp2_with fail
    refine (awake_any _ (HFin.out _ B0.out)).mono ?_
    rintro e w9 ⟨rfl, hb9⟩
    have B9 := Lib.hid (B0.out.trans (hb9.mono B0.out.size))
    clear hb9
    go_wp2
    go_ret
    exact ⟨rfl, B9.out⟩
  by_cases c2 : s.size % 4 ≠ 0
  · have hpos := hT.pos
    have HFin := Lib.hid (show ∀ w2 : World, Below w.heap.size w w2 → Tab w2 from fun w2 h => hT.below h hpos)
    have B0 := Lib.hid (Below.refl w.heap.size w)
    have c1' : ¬ (400 : Int) < s.size := by omega
    have c2' : ((s.size : Int) % 4 != 0) = true := by simp; omega
    clear hT hl _hm
    go_enter Tryd.func8, Tryd.ntmps8
    go_wp2_with fail
    refine (awake_any _ (HFin.out _ B0.out)).mono ?_
    rintro e w9 ⟨rfl, hb9⟩
    have B9 := Lib.hid (B0.out.trans (hb9.mono B0.out.size))
    clear hb9
    go_wp2
    go_ret
    exact ⟨rfl, B9.out⟩
  by_cases c3 : 200 < l.length
  · have hpos := hT.pos
    have HFin := Lib.hid (show ∀ w2 : World, Below w.heap.size w w2 → Tab w2 from fun w2 h => hT.below h hpos)
    have B0 := Lib.hid (Below.refl w.heap.size w)
    have c1' : ¬ (400 : Int) < s.size := by omega
    have c2' : (s.size : Int) % 4 = 0 := by omega
    have c3' : (200 : Int) < l.length := by omega
    clear hT hl _hm
    go_enter Tryd.func8, Tryd.ntmps8
    go_wp2_with fail
    refine (awake_any _ (HFin.out _ B0.out)).mono ?_
    rintro e w9 ⟨rfl, hb9⟩
    have B9 := Lib.hid (B0.out.trans (hb9.mono B0.out.size))
    clear hb9
    go_wp2
    go_ret
    exact ⟨rfl, B9.out⟩
  exact wideKinds_in A c l s w (by omega) (by omega) (by omega) hl hT

set_option maxRecDepth 100000 in
theorem wideKinds_lifted (os : Os) (started : os.Started) (H : Type) (enc : TypeId × Value → H) :
    ReturnsInHanded {} Tryd.checked os 8 .any (fun w args => (Rows.wideKindsSpec.pre enc Tryd.prog Tryd.f8 [] false w args ∧ laidMetH Tryd.prog laid1 w) ∧ sizedMet enc Tryd.prog Tryd.f8 (OpenSpec.ofChange Rows.wideKindsSpec) false w args)
      (Rows.wideKindsSpec.post enc Tryd.prog Tryd.f8 false true false false) := by
  refine returnsInHanded_of_change_and (C := Tryd.checked) (X := fun w _ => laidMetH Tryd.prog laid1 w) (fun _ _ _ hh h => h.of_heap hh) own started (by kernel_rfl) Tryd.func8
    (ChangeSpec.witness_shaped (enc := enc) (C := Tryd.checked) (os := os) (X := fun w _ => laidMetH Tryd.prog laid1 w) false (World.doorLaid Tryd.prog 400 os) #[.string ⟨#[]⟩, .slice none 0 0] 8 rfl (World.shaped_of_RefB (by kernel_rfl) (by kernel_rfl)) (by kernel_rfl) (by kernel_rfl) (by kernel_rfl) (door_met os _)) ?_
  intro W base args ds gs before hval0 hW _ hsz hL _
  have hval : ∀ (j : Nat) t v, Tryd.f8.params[j]? = some t → args[j]? = some v → Value.okWide Tryd.prog W .any base t v := hval0
  have hW' := hW
  obtain ⟨p, q, hA0, hV, rfl, hfz, hnd⟩ := hW
  have hA : DataW.TrodAll enc Tryd.prog W 0 (fun _ => true) true Tryd.f8.params.toList args.toList ds p := hA0
  rw [Tryd.params8] at hA hval
  obtain ⟨v0, vs0, d0, ds0, p0, q0, hargs, rfl, rfl, h0, r0⟩ := trodAll_cons hA
  obtain ⟨v1, vs1, d1, ds1, p1, q1, rfl, rfl, rfl, h1, r1⟩ := trodAll_cons r0
  obtain ⟨rfl, rfl, rfl⟩ := trodAll_nil r1
  obtain rfl : args = #[v0, v1] := by cases args; simp_all
  obtain ⟨rfl, rfl⟩ := trodVars_none hV
  obtain ⟨s0, rfl, rfl, rfl, m0⟩ := open_string Tryd.underlying9 (hval 0 9 v0 rfl rfl) h0
  obtain ⟨A1, len1, cap1, rfl⟩ := okWide_slice Tryd.underlying28 (hval 1 28 v1 rfl rfl)
  have k1 := h1
  have lt1 : ∀ x ∈ p1, x.block < W.heap.size := by obtain ⟨m, hm⟩ := k1; exact DataW.trod_lt m _ _ _ hm
  obtain ⟨l1, e1, g1⟩ := ints_of_trod h1
  subst e1
  clear hA0 hval0
  refine (wideKinds_walk s0 A1 cap1 l1 W m0 g1 (of_laid hL)).mono fun e W' ⟨he, bel⟩ => ?_
  subst he
  exact ⟨_, rfl, _, _, _, [], _, [], hW', trodAll_mk1 (shut_bool Tryd.underlying4 _), (trodAll_cons_mk (shut_string Tryd.underlying9 m0) (trodAll_cons_mk (Below.trod laidOut (by kernel_rfl) (of_decide_eq_true (by kernel_rfl)) k1 bel lt1) trodAll_mk0)), rfl, bel.frame _, fun h => by cases h⟩

theorem wideKinds_row : Rows.WideKindsSaid :=
  OpenClaim.holds_of_wide 8 Tryd.f8 rfl rfl rfl rfl rfl rfl rfl ⟨rfl, rfl, rfl, rfl, rfl⟩ rfl rfl rfl rfl rfl (by kernel_rfl) Tryd.func8 (by kernel_rfl)
    (of_decide_eq_true (by kernel_rfl)) (by unfold Func.isWrapper; first | (rw [if_pos (by decide +kernel)]; kernel_rfl) | (rw [if_neg (by decide +kernel)]; exact ⟨rfl, rfl⟩))
    (fun os started H enc _ => wideKinds_lifted os started H enc)

theorem wideKinds_holds : Rows.WideKindsCardSaid :=
  Claim7.holds_tied_plain_at .later [] [.data] true Rows.wideKindsCard.stood.harness false
    wideKinds_row (fun _ h => by cases h) (by kernel_rfl) (fun _ h => by cases h) wideKinds_row_tie rfl ⟨rfl, rfl⟩ (by kernel_rfl) rfl
    (fun f fn hf hfn => by
      obtain rfl : f = 8 := Option.some.inj ((show Tryd.prog.funcNamed Rows.wideKindsRow.func = some 8 by kernel_rfl).symm.trans hf) |>.symm
      obtain rfl : fn = Tryd.f8 := (Option.some.inj (Tryd.func8.symm.trans hfn)).symm
      exact ⟨by kernel_rfl, fun j t ht => by
        rw [Tryd.params8] at ht
        have hm : t ∈ [9, 28] := by simpa using Array.mem_of_getElem? ht
        have hall : ([9, 28].all fun u => !Tryd.prog.wantsStandIn u) = true := by kernel_rfl
        exact (show Tryd.prog.wantsStandIn t = false by simpa using List.all_eq_true.1 hall t hm)⟩)
    (by kernel_rfl)
#print axioms wideKinds_holds
end Go.Proofs.YtohjkpdelopknaaDoor

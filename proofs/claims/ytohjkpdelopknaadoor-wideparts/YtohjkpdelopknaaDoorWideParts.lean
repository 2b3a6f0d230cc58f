/- WideParts: for every kind, every string and every place the law returns true and all read as before: it does not count how bytes are parted, and characters and malformed units are all bytes, each once. Conditions: the table 'layouts' as the program's text lays it (tied). -/
import Derived.Test.YtohjkpdelopknaaDoorR
import Derived.Test.YtohjkpdelopknaaDoorY
import Derived.IntWalk
import Derived.Deep.QuietTactic
import Derived.BigQuiet
import Derived.Test.YtohjkpdelopknaaDoorCards
import Derived.ShutString
import Derived.ChangeOld
namespace Go.Proofs.YtohjkpdelopknaaDoor
open Go.ChangeShapes Go.WideShapes Go.ChangeAt Go.WideMaps Go.WideElems Go.RowKit
open Go.ChangeMaps (open_string shut_string)

def sumL (l : List (Nat × Nat)) : Nat := (l.map (·.2)).sum
theorem sumL_app (a b : List (Nat × Nat)) : sumL (a ++ b) = sumL a + sumL b := by unfold sumL; rw [List.map_append, List.sum_append]
theorem sumL_one (x : Nat × Nat) : sumL [x] = x.2 := by simp [sumL]
theorem sumL_more (l : List (Nat × Nat)) (i : Nat) (h : i < l.length) : sumL (l.take (i + 1)) = sumL (l.take i) + l[i].2 := by
  rw [List.take_succ_eq_append_getElem h, sumL_app, sumL_one]
theorem sumL_le (l : List (Nat × Nat)) (i : Nat) : sumL (l.take i) ≤ sumL l := by
  have h := sumL_app (l.take i) (l.drop i)
  rw [List.take_append_drop] at h
  omega

set_option maxRecDepth 100000 in
set_option maxHeartbeats 4000000 in
theorem wideParts_in (k : Nat) (k1 : 1 ≤ k) (k4 : k ≤ 4) (s : ByteArray) (q : Nat) (w : World) (hs : s.size ≤ 400) (hq : q ≤ s.size) (hT : Tab w) : Calls Tryd.prog 9 #[.int .i64 (k : Int), .string s, .int .i64 (q : Int)] w fun e w' => e = .returned (.bool true) ∧ Below w.heap.size w w' := by
  have hpos := hT.pos
  have HFin := Lib.hid (show ∀ w2 : World, Below w.heap.size w w2 → Tab w2 from fun w2 h => hT.below h hpos)
  have B0 := Lib.hid (Below.refl w.heap.size w)
  clear hT
  have g1 : ¬ (400 : Int) < s.size := by omega
  have g3 : ¬ (k : Int) < 1 := by omega
  have g4 : ¬ (4 : Int) < k := by omega
  have hq0 : (0 : Int) ≤ q := by omega
  have hq1 : (q : Int) ≤ s.size := by omega
  have g5 : ¬ (q : Int) < 0 := by omega
  have g6 : ¬ (s.size : Int) < q := by omega
  have h23 := dec_two_three k (bs s).length 0 (bs s) (Nat.le_refl _)
  have ze2 := dec_err k 2 (by decide) (bs s).length 0 (bs s) (Nat.le_refl _)
  have ze3 := dec_err k 3 (by decide) (bs s).length 0 (bs s) (Nat.le_refl _)
  have ln := dec_lens k 2 (bs s).length 0 (bs s) (Nat.le_refl _)
  have hsk := dec_skip k (bs s).length 0 (bs s) (bs_B s) (Nat.le_refl _)
  rw [bs_len] at ln
  have hsk2 := hsk.2
  rw [bs_len] at hsk2
  obtain ⟨⟨l1, f1, e1⟩, hd1⟩ : ∃ d, dec k 2 0 (bs s) = d := ⟨_, rfl⟩
  obtain ⟨⟨l3, f3, e3⟩, hd3⟩ : ∃ d, dec k 3 0 (bs s) = d := ⟨_, rfl⟩
  rw [hd1] at h23 ze2 ln
  rw [hd3] at h23 ze3 hsk hsk2
  simp only at h23 ze2 ze3 ln hsk hsk2
  obtain ⟨h2a, h2b⟩ := h23
  obtain ⟨lna, lnb⟩ := ln
  subst ze2 ze3 h2a
  have HD1 := Lib.hid hd1
  have HD3 := Lib.hid hd3
  have HEv := Lib.hid (encV_yes k l3 hsk.1)
  have hts := strB_size (chL k l3)
  have hsum : (strB (chL k l3)).size + sumL f1 = s.size := by rw [hts]; exact hsk2
  have HSum := Lib.hid hsum
  have hsz1 : (strB (chL k l3)).size ≤ s.size := by omega
  have hsz2 : sumL f1 ≤ s.size := by omega
  have HSL := Lib.hid (fun i => sumL_le f1 i)
  generalize strB (chL k l3) = t at *
  have qb : ((l1.length : Int) != (l3.length : Int) + (f1.length : Int)) = false := by rw [h2b]; simp
  have H2B := Lib.hid h2b
  have lnc : l3.length ≤ s.size := by omega
  clear hd1 hd3 h2b hsk hsk2 hts hsum
  go_enter Tryd.func9, Tryd.ntmps9
  go_wp2_with fail
  refine (decode_one k k1 k4 2 (.inr (.inl rfl)) s _ (HFin.out _ B0.out) (by omega)).mono ?_
  rw [HD1.out]
  rintro e w1 ⟨A1, c1', A2, c2', rfl, -, -, hi1, hf1, hb1⟩
  have B1 := Lib.hid hb1
  have HI1 := Lib.hid hi1
  have HF1 := Lib.hid hf1
  clear hb1 hi1 hf1
  go_wp2_with fail
  have HT3 := Lib.hid (decode_three k k1 k4 s q w1 (HFin.out _ B1.out) (by omega))
  rw [HD1.out] at HT3
  go_region_held3 (fun _ => True) (first | trivial | go_keep)
    ((go_at_call 19; refine HT3.out.mono ?_; rintro e w2 ⟨A3, c3', A4, c4', rfl, -, -, hi2, hf2, hb2⟩))
  have B2 := Lib.hid (B1.out.trans (hb2.mono B1.out.size))
  have HI1' := Lib.hid (HI1.out.below hb2)
  have HF1' := Lib.hid (HF1.out.below hb2)
  have HI2 := Lib.hid hi2
  have HF2 := Lib.hid hf2
  clear hb2 hi2 hf2 HI1 HF1
  go_wp2_with fail
  refine (decode_one k k1 k4 3 (.inr (.inr rfl)) s _ (HFin.out _ B2.out) (by omega)).mono ?_
  rw [HD3.out]
  rintro e w3 ⟨A5, c5', A6, c6', rfl, -, -, hi3, hf3, hb3⟩
  have B3 := Lib.hid (B2.out.trans (hb3.mono B2.out.size))
  have X1 := Lib.hid (HI1'.out.below hb3)
  have X2 := Lib.hid (HF1'.out.below hb3)
  have X3 := Lib.hid (HI2.out.below hb3)
  have X4 := Lib.hid (HF2.out.below hb3)
  have X5 := Lib.hid hi3
  have X6 := Lib.hid hf3
  clear hb3 hi3 hf3 HI1' HF1' HI2 HF2
  go_wp2_with fail
  refine (encode_any k A5 c5' l3 _ (HFin.out _ B3.out) k1 k4 X5.out (by omega)).mono ?_
  rw [HEv.out]
  rintro e w4 ⟨rfl, hb4⟩
  have B4 := Lib.hid (B3.out.trans (hb4.mono B3.out.size))
  have Y1 := Lib.hid (X1.out.below hb4)
  have Y2 := Lib.hid (X2.out.below hb4)
  have Y3 := Lib.hid (X3.out.below hb4)
  have Y4 := Lib.hid (X4.out.below hb4)
  have Y6 := Lib.hid (X6.out.below hb4)
  clear hb4 X1 X2 X3 X4 X5 X6
  go_wp2_with fail
  refine (runes_any A1 A3 c1' c3' l1 l1 _ Y1.out Y3.out (by omega) (by omega)).mono ?_
  rintro e w5 ⟨rfl, hb5⟩
  rw [show decide (l1 = l1) = true from by simp]
  have B5 := Lib.hid (B4.out.trans (hb5.mono B4.out.size))
  have Z2 := Lib.hid (Y2.out.below hb5)
  have Z4 := Lib.hid (Y4.out.below hb5)
  have Z6 := Lib.hid (Y6.out.below hb5)
  clear hb5 Y1 Y2 Y3 Y4 Y6
  go_wp2_with fail
  refine (faults_any A2 A4 c2' c4' f1 f1 _ Z2.out Z4.out (by omega) (by omega)).mono ?_
  rintro e w6 ⟨rfl, hb6⟩
  rw [show decide (f1 = f1) = true from by simp]
  have B6 := Lib.hid (B5.out.trans (hb6.mono B5.out.size))
  have V2 := Lib.hid (Z2.out.below hb6)
  have V6 := Lib.hid (Z6.out.below hb6)
  clear hb6 Z2 Z4 Z6
  go_wp2_with fail
  refine (faults_any A2 A6 c2' c6' f1 f1 _ V2.out V6.out (by omega) (by omega)).mono ?_
  rintro e w7 ⟨rfl, hb7⟩
  rw [show decide (f1 = f1) = true from by simp]
  have B7 := Lib.hid (B6.out.trans (hb7.mono B6.out.size))
  have U2 := Lib.hid (V2.out.below hb7)
  clear hb7 V2 V6
  go_wp2_with fail
  go_loop [18, 19] (fun nv iv => ∃ n i : Nat, nv = .int .i64 n ∧ iv = .int .i64 i ∧ i ≤ f1.length ∧ n ≤ 1000 ∧ Hid (n = t.size + sumL (f1.take i))) (fun _ iv => f1.length - (intOf iv).toNat)
  case atStart => exact ⟨t.size, 0, rfl, rfl, by omega, by omega, by show _ = _; simp [sumL]⟩
  case round =>
    obtain ⟨n, i, rfl, rfl, hi, hn, HQ⟩ := hrel
    by_cases hlt : i < f1.length
    · have hlt' : (i : Int) < f1.length := by omega
      have hi0 : (0 : Int) ≤ i := by omega
      obtain ⟨b2, o2, hA2, hb2, hc2, hd2⟩ := U2.out i hlt
      rw [hA2]
      have HM := Lib.hid (sumL_more f1 i hlt)
      have hle := HSL.out (i + 1)
      rw [HM.out] at hle
      generalize hfa : f1[i].2 = fa at hd2 HM hle
      have hfs : fa ≤ 400 := by omega
      clear hc2 hfa hA2
      go_wp2_with fail
      go_round
      case rel => exact ⟨n + fa, i + 1, by go_num, by go_num, by omega, by have := HQ.out; omega, by show _ = _; rw [HM.out, HQ.out]; omega⟩
      case measure => simp [intOf]; omega
    · obtain rfl : i = f1.length := by omega
      have hlt' : ¬ ((f1.length : Nat) : Int) < f1.length := by omega
      have hfin : n = s.size := by
        have h1 := HQ.out
        rw [List.take_length] at h1
        have h2 := HSum.out
        omega
      subst hfin
      have h1 : ((s.size : Int) == (s.size : Int)) = true := by simp
      go_wp2_with fail
      refine (awake_any _ (HFin.out _ B7.out)).mono ?_
      rintro e w9 ⟨rfl, hb9⟩
      have B9 := Lib.hid (B7.out.trans (hb9.mono B7.out.size))
      clear hb9
      go_wp2
      go_ret
      exact ⟨rfl, B9.out⟩

set_option maxRecDepth 100000 in
set_option maxHeartbeats 1000000 in
theorem wideParts_walk (kd : Int) (s : ByteArray) (p : Int) (w : World) (_hk : (Lit.int .i64 kd).wf = true) (_hm : s.size ≤ maxLen) (_hp : (Lit.int .i64 p).wf = true) (hT : Tab w) : Calls Tryd.prog 9 #[.int .i64 kd, .string s, .int .i64 p] w fun e w' => e = .returned (.bool true) ∧ Below w.heap.size w w' := by
  by_cases c1 : kd < 1
  · have hpos := hT.pos
    have HFin := Lib.hid (show ∀ w2 : World, Below w.heap.size w w2 → Tab w2 from fun w2 h => hT.below h hpos)
    have B0 := Lib.hid (Below.refl w.heap.size w)
    clear hT _hk _hm _hp
    go_enter Tryd.func9, Tryd.ntmps9
    go_wp2_with fail
    refine (awake_any _ (HFin.out _ B0.out)).mono ?_
    rintro e w9 ⟨rfl, hb9⟩
    have B9 := Lib.hid (B0.out.trans (hb9.mono B0.out.size))
    clear hb9
    go_wp2
    go_ret
    exact ⟨rfl, B9.out⟩
  by_cases c2 : 4 < kd
  · have hpos := hT.pos
    have HFin := Lib.hid (show ∀ w2 : World, Below w.heap.size w w2 → Tab w2 from fun w2 h => hT.below h hpos)
    have B0 := Lib.hid (Below.refl w.heap.size w)
    clear hT _hk _hm _hp
    go_enter Tryd.func9, Tryd.ntmps9
    go_wp2_with fail
    refine (awake_any _ (HFin.out _ B0.out)).mono ?_
    rintro e w9 ⟨rfl, hb9⟩
    have B9 := Lib.hid (B0.out.trans (hb9.mono B0.out.size))
    clear hb9
    go_wp2
    go_ret
    exact ⟨rfl, B9.out⟩
  by_cases c3 : 400 < s.size
  · have hpos := hT.pos
    have HFin := Lib.hid (show ∀ w2 : World, Below w.heap.size w w2 → Tab w2 from fun w2 h => hT.below h hpos)
    have B0 := Lib.hid (Below.refl w.heap.size w)
    have c3' : (400 : Int) < s.size := by omega
    clear hT _hk _hm _hp
    go_enter Tryd.func9, Tryd.ntmps9
    go_wp2_with fail
    refine (awake_any _ (HFin.out _ B0.out)).mono ?_
    rintro e w9 ⟨rfl, hb9⟩
    have B9 := Lib.hid (B0.out.trans (hb9.mono B0.out.size))
    clear hb9
    go_wp2
    go_ret
    exact ⟨rfl, B9.out⟩
  by_cases c4 : p < 0
  · have hpos := hT.pos
    have HFin := Lib.hid (show ∀ w2 : World, Below w.heap.size w w2 → Tab w2 from fun w2 h => hT.below h hpos)
    have B0 := Lib.hid (Below.refl w.heap.size w)
    have c3' : ¬ (400 : Int) < s.size := by omega
    clear hT _hk _hm _hp
    go_enter Tryd.func9, Tryd.ntmps9
    go_wp2_with fail
    refine (awake_any _ (HFin.out _ B0.out)).mono ?_
    rintro e w9 ⟨rfl, hb9⟩
    have B9 := Lib.hid (B0.out.trans (hb9.mono B0.out.size))
    clear hb9
    go_wp2
    go_ret
    exact ⟨rfl, B9.out⟩
  by_cases c5 : (s.size : Int) < p
  · have hpos := hT.pos
    have HFin := Lib.hid (show ∀ w2 : World, Below w.heap.size w w2 → Tab w2 from fun w2 h => hT.below h hpos)
    have B0 := Lib.hid (Below.refl w.heap.size w)
    have c3' : ¬ (400 : Int) < s.size := by omega
    clear hT _hk _hm _hp
    go_enter Tryd.func9, Tryd.ntmps9
    go_wp2_with fail
    refine (awake_any _ (HFin.out _ B0.out)).mono ?_
    rintro e w9 ⟨rfl, hb9⟩
    have B9 := Lib.hid (B0.out.trans (hb9.mono B0.out.size))
    clear hb9
    go_wp2
    go_ret
    exact ⟨rfl, B9.out⟩
  obtain ⟨k, rfl⟩ : ∃ n : Nat, kd = n := ⟨kd.toNat, by omega⟩
  obtain ⟨q, rfl⟩ : ∃ n : Nat, p = n := ⟨p.toNat, by omega⟩
  exact wideParts_in k (by omega) (by omega) s q w (by omega) (by omega) hT

set_option maxRecDepth 100000 in
theorem wideParts_lifted (os : Os) (started : os.Started) (H : Type) (enc : TypeId × Value → H) :
    ReturnsInHanded {} Tryd.checked os 9 .any (fun w args => (Rows.widePartsSpec.pre enc Tryd.prog Tryd.f9 [] false w args ∧ laidMetH Tryd.prog laid1 w) ∧ sizedMet enc Tryd.prog Tryd.f9 (OpenSpec.ofChange Rows.widePartsSpec) false w args)
      (Rows.widePartsSpec.post enc Tryd.prog Tryd.f9 false true false false) := by
  refine returnsInHanded_of_change_and (C := Tryd.checked) (X := fun w _ => laidMetH Tryd.prog laid1 w) (fun _ _ _ hh h => h.of_heap hh) own started (by kernel_rfl) Tryd.func9
    (ChangeSpec.witness_shaped (enc := enc) (C := Tryd.checked) (os := os) (X := fun w _ => laidMetH Tryd.prog laid1 w) false (World.doorLaid Tryd.prog 400 os) #[.int .i64 0, .string ⟨#[]⟩, .int .i64 0] 8 rfl (World.shaped_of_RefB (by kernel_rfl) (by kernel_rfl)) (by kernel_rfl) (by kernel_rfl) (by kernel_rfl) (door_met os _)) ?_
  intro W base args ds gs before hval0 hW _ hsz hL _
  have hval : ∀ (j : Nat) t v, Tryd.f9.params[j]? = some t → args[j]? = some v → Value.okWide Tryd.prog W .any base t v := hval0
  have hW' := hW
  obtain ⟨p, q, hA0, hV, rfl, hfz, hnd⟩ := hW
  have hA : DataW.TrodAll enc Tryd.prog W 0 (fun _ => true) true Tryd.f9.params.toList args.toList ds p := hA0
  rw [Tryd.params9] at hA hval
  obtain ⟨v0, vs0, d0, ds0, p0, q0, hargs, rfl, rfl, h0, r0⟩ := trodAll_cons hA
  obtain ⟨v1, vs1, d1, ds1, p1, q1, rfl, rfl, rfl, h1, r1⟩ := trodAll_cons r0
  obtain ⟨v2, vs2, d2, ds2, p2, q2, rfl, rfl, rfl, h2, r2⟩ := trodAll_cons r1
  obtain ⟨rfl, rfl, rfl⟩ := trodAll_nil r2
  obtain rfl : args = #[v0, v1, v2] := by cases args; simp_all
  obtain ⟨rfl, rfl⟩ := trodVars_none hV
  obtain ⟨a0, rfl, rfl, rfl, m0⟩ := open_int Tryd.underlying3 (hval 0 3 v0 rfl rfl) h0
  obtain ⟨s1, rfl, rfl, rfl, m1⟩ := open_string Tryd.underlying9 (hval 1 9 v1 rfl rfl) h1
  obtain ⟨a2, rfl, rfl, rfl, m2⟩ := open_int Tryd.underlying3 (hval 2 3 v2 rfl rfl) h2
  clear hA0 hval0
  refine (wideParts_walk a0 s1 a2 W m0 m1 m2 (of_laid hL)).mono fun e W' ⟨he, bel⟩ => ?_
  subst he
  exact ⟨_, rfl, _, _, _, [], _, [], hW', trodAll_mk1 (shut_bool Tryd.underlying4 _), (trodAll_cons_mk (shut_int Tryd.underlying3 m0) (trodAll_cons_mk (shut_string Tryd.underlying9 m1) (trodAll_cons_mk (shut_int Tryd.underlying3 m2) trodAll_mk0))), rfl, bel.frame _, fun h => by cases h⟩

theorem wideParts_row : Rows.WidePartsSaid :=
  OpenClaim.holds_of_wide 9 Tryd.f9 rfl rfl rfl rfl rfl rfl rfl ⟨rfl, rfl, rfl, rfl, rfl⟩ rfl rfl rfl rfl rfl (by kernel_rfl) Tryd.func9 (by kernel_rfl)
    (of_decide_eq_true (by kernel_rfl)) (by unfold Func.isWrapper; first | (rw [if_pos (by decide +kernel)]; kernel_rfl) | (rw [if_neg (by decide +kernel)]; exact ⟨rfl, rfl⟩))
    (fun os started H enc _ => wideParts_lifted os started H enc)

theorem wideParts_holds : Rows.WidePartsCardSaid :=
  Claim7.holds_tied_plain_at .later [] [.data] true Rows.widePartsCard.stood.harness false
    wideParts_row (fun _ h => by cases h) (by kernel_rfl) (fun _ h => by cases h) wideParts_row_tie rfl ⟨rfl, rfl⟩ (by kernel_rfl) rfl
    (fun f fn hf hfn => by
      obtain rfl : f = 9 := Option.some.inj ((show Tryd.prog.funcNamed Rows.widePartsRow.func = some 9 by kernel_rfl).symm.trans hf) |>.symm
      obtain rfl : fn = Tryd.f9 := (Option.some.inj (Tryd.func9.symm.trans hfn)).symm
      exact ⟨by kernel_rfl, fun j t ht => by
        rw [Tryd.params9] at ht
        have hm : t ∈ [3, 9, 3] := by simpa using Array.mem_of_getElem? ht
        have hall : ([3, 9, 3].all fun u => !Tryd.prog.wantsStandIn u) = true := by kernel_rfl
        exact (show Tryd.prog.wantsStandIn t = false by simpa using List.all_eq_true.1 hall t hm)⟩)
    (by kernel_rfl)
#print axioms wideParts_holds
end Go.Proofs.YtohjkpdelopknaaDoor

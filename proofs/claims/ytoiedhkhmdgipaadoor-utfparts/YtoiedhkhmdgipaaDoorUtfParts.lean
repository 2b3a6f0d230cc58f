/- UtfParts: for every string and every place the law returns true and both read as before: it does not count how bytes are parted, and characters and malformed units are all bytes, each once. Conditions: the table 'shapes' as the program's text lays it (tied). -/
import Derived.Test.YtoiedhkhmdgipaaDoorZ
import Derived.Test.YtoiedhkhmdgipaaDoorW
import Derived.IntWalk
import Derived.Deep.QuietTactic
import Derived.BigQuiet
import Derived.Test.YtoiedhkhmdgipaaDoorCards
import Derived.ShutString
import Derived.ChangeOld
namespace Go.Proofs.YtoiedhkhmdgipaaDoor
open Go.ChangeShapes Go.WideShapes Go.ChangeAt Go.WideMaps Go.WideElems Go.RowKit
open Go.ChangeMaps (open_string shut_string)

theorem Tab.drewN {w : World} (h : Tab w) (n : Nat) : Tab (w.drewN n) := h.below (B := w.heap.size) (bel_drewN (Below.refl _ _) n) h.pos
theorem quiet_left {P : Program} {f : FuncId} {args : Array Value} {w : World} {n : Nat} {v : Value}
    (h : Calls P f args (w.drewN n) fun e w' => e = .returned v ∧ w.drewN n = w') : Calls P f args (w.drewN n) fun e w'' => e = .returned v ∧ ∃ m, w'' = w.drewN m :=
  h.mono fun _ _ ⟨he, hm⟩ => ⟨he, n, hm.symm⟩
theorem cat_two (s : ByteArray) (k : Nat) (h : k ≤ s.size) : catB [s.extract 0 k, s.extract k s.size] = s := by
  apply ByteArray.ext
  apply Array.toList_inj.1
  show ([s.extract 0 k, s.extract k s.size].map (·.data.toList)).flatten = _
  simp only [List.map_cons, List.map_nil, List.flatten_cons, List.flatten_nil, List.append_nil]
  rw [Lib.extract_data, Lib.extract_to_end]
  simp
theorem lenI_of_nx {l : List Nat} {r : Int} {n : Nat} (h : nx l = (r, (n : Int), 0)) : lenI r = n := by
  obtain ⟨h1, _, h3⟩ := nx_back l r n h
  rw [← h3, ← lenI_yes h1]; unfold byI; (repeat' split) <;> rfl

theorem decode_two (s : ByteArray) (q : Nat) (w : World) (d : List Int × List (Nat × Nat) × Int) (hT : Tab w) (hq : q ≤ s.size) (hs : s.size ≤ 100000) (hd : dec 2 0 (bs s) = d) :
    Calls Tryd.prog 18 #[.int .i64 2, .slice (some ⟨w.heap.size, 0, none⟩) 2 2] (w.alloc (.cells #[.string (s.extract 0 q), .string (s.extract q s.size)] 9)).drew (OneP w d) := by
  have b1 : Below w.heap.size w ((w.alloc (.cells #[.string (s.extract 0 q), .string (s.extract q s.size)] 9)).drew) := ((Below.refl _ _).alloc (Nat.le_refl _) _).drew
  have hst := (strs_new [s.extract 0 q, s.extract q s.size] 9 w 2 (by simp)).below (Below.refl _ _).drew
  have := decode_any 2 (some ⟨w.heap.size, 0, none⟩) 2 [s.extract 0 q, s.extract q s.size] _ (hT.below b1 hT.pos) hst (by simp) (by rw [cat_two s q hq]; exact hs)
  rw [cat_two s q hq, decP_dec 2 _ (.inr (.inl rfl)), hd] at this
  exact this.mono fun e w' h => OneP.of h b1

theorem len_eq (r : Int) (u : Nat) (w : World) (hT : Tab w) (h : lenI r = u) : Calls Tryd.prog 17 #[.int .i32 r] w fun e w' => e = .returned (.int .i64 (u : Int)) ∧ w = w' := by
  have := len_any r w hT
  rw [h] at this
  exact this
/-- What the law's loop knows: it stands at byte n, with what is left of each list. -/
structure PartRel (l : List Nat) (a c : List Int) (x : List (Nat × Nat)) (i n k m : Nat) : Prop where
  ha : a.drop i = (dec 2 n (l.drop n)).1
  hx : x.drop k = (dec 2 n (l.drop n)).2.1
  hc : c.drop m = (dec 3 n (l.drop n)).1
  hn : n ≤ l.length
theorem drop_head {α : Type} {l t : List α} {i : Nat} {b : α} (h : l.drop i = b :: t) : ∃ hi : i < l.length, l[i] = b ∧ l.drop (i + 1) = t := by
  have hi : i < l.length := by
    rcases Nat.lt_or_ge i l.length with h1 | h1
    · exact h1
    · rw [List.drop_eq_nil_of_le h1] at h; cases h
  rw [List.drop_eq_getElem_cons hi] at h
  injection h with h1 h2
  exact ⟨hi, h1, h2⟩
theorem PartRel.ne {l : List Nat} {a c : List Int} {x : List (Nat × Nat)} {i n k m : Nat} (h : PartRel l a c x i n k m) (hi : i < a.length) : l.drop n ≠ [] := by
  intro h0
  have := h.ha
  rw [h0, dec_nil] at this
  have h2 := congrArg List.length this
  simp at h2
  omega
theorem PartRel.ok {l : List Nat} {a c : List Int} {x : List (Nat × Nat)} {i n k m : Nat} (h : PartRel l a c x i n k m) (hne : l.drop n ≠ []) {r : Int} {u : Nat} (hx : nx (l.drop n) = (r, (u : Int), 0)) (h1 : 1 ≤ u) (h2 : u ≤ (l.drop n).length) :
    (∃ hi : i < a.length, a[i] = r) ∧ (∃ hm : m < c.length, c[m] = r) ∧ (∀ hk : k < x.length, n < x[k].1) ∧ PartRel l a c x (i + 1) (n + u) k (m + 1) := by
  have ea := h.ha
  have ec := h.hc
  have ex' := h.hx
  rw [dec_ok 2 n _ hne r u hx h1] at ea ex'
  rw [dec_ok 3 n _ hne r u hx h1] at ec
  rw [List.drop_drop] at ea ec ex'
  obtain ⟨i1, i2, i3⟩ := drop_head ea
  obtain ⟨m1, m2, m3⟩ := drop_head ec
  rw [List.length_drop] at h2
  refine ⟨⟨i1, i2⟩, ⟨m1, m2⟩, fun hk => ?_, ⟨i3, ex', m3, by omega⟩⟩
  have hmem : x[k] ∈ (dec 2 (n + u) (l.drop (n + u))).2.1 := by
    rw [← show x.drop k = (dec 2 (n + u) (l.drop (n + u))).2.1 from ex', List.drop_eq_getElem_cons hk]
    exact List.mem_cons_self
  have := (dec_from 2 (l.drop (n + u)).length (n + u) (l.drop (n + u)) (Nat.le_refl _) _ hmem).1
  omega
theorem PartRel.bad {l : List Nat} {a c : List Int} {x : List (Nat × Nat)} {i n k m : Nat} (h : PartRel l a c x i n k m) (hne : l.drop n ≠ []) {r e : Int} {u : Nat} (hx : nx (l.drop n) = (r, (u : Int), e)) (he : e ≠ 0) (h1 : 1 ≤ u) (h2 : u ≤ (l.drop n).length) :
    (∃ hi : i < a.length, a[i] = 65533) ∧ (∃ hk : k < x.length, x[k] = (n, u)) ∧ PartRel l a c x (i + 1) (n + u) (k + 1) m := by
  have ea := h.ha
  have ec := h.hc
  have ex' := h.hx
  rw [dec_bad 2 (by decide) n _ hne r e u hx he h1] at ea ex'
  rw [dec_bad 3 (by decide) n _ hne r e u hx he h1] at ec
  rw [List.drop_drop] at ea ec ex'
  simp only [if_true, List.cons_append, List.nil_append] at ea
  obtain ⟨i1, i2, i3⟩ := drop_head ea
  obtain ⟨k1, k2, k3⟩ := drop_head ex'
  rw [List.length_drop] at h2
  exact ⟨⟨i1, i2⟩, ⟨k1, k2⟩, ⟨i3, k3, by simpa using ec, by omega⟩⟩
theorem PartRel.fin {l : List Nat} {a c : List Int} {x : List (Nat × Nat)} {i n k m : Nat} (h : PartRel l a c x i n k m) (hi : a.length ≤ i) (hk : k ≤ x.length) : n = l.length ∧ k = x.length := by
  have ea := h.ha
  rw [List.drop_eq_nil_of_le hi] at ea
  have hn : l.drop n = [] := by
    rcases List.eq_nil_or_concat (l.drop n) with h0 | _
    · exact h0
    · by_cases hne : l.drop n = []
      · exact hne
      · obtain ⟨r, e, u, hx, h1, h2, h3, h4, h5, h6⟩ := nx_step _ hne
        by_cases he : e = 0
        · subst he
          rw [dec_ok 2 n _ hne r u hx h1] at ea
          simp at ea
        · rw [dec_bad 2 (by decide) n _ hne r e u hx he h1] at ea
          simp at ea
  have ex' := h.hx
  rw [hn, dec_nil] at ex'
  have h1 := congrArg List.length hn
  have h2 := congrArg List.length ex'
  simp at h1 h2
  have := h.hn
  exact ⟨by omega, by omega⟩

set_option maxRecDepth 100000 in
set_option maxHeartbeats 40000000 in
theorem utfParts_walk (s : ByteArray) (p : Int) (w : World) (hm : s.size ≤ maxLen) (_wp : (Lit.int .i64 p).wf = true) (hT : Tab w) : Calls Tryd.prog 8 #[.string s, .int .i64 p] w fun e w' => e = .returned (.bool true) ∧ Below w.heap.size w w' := by
  have HT := Lib.hid hT
  have hpos := hT.pos
  have HFin := Lib.hid (show ∀ w2 : World, Below w.heap.size w w2 → Tab w2 from fun w2 h => hT.below h hpos)
  clear hT hm _wp
  by_cases c1 : 400 < s.size
  · have g1 : (400 : Int) < s.size := by omega
    go_enter Tryd.func8, Tryd.ntmps8
    go_wp2_with fail
    refine (awake_any _ HT.out).mono ?_
    rintro e w' ⟨rfl, hb⟩
    have HB := Lib.hid hb
    clear hb
    go_wp2
    go_ret
    exact ⟨rfl, HB.out⟩
  have g1 : ¬ (400 : Int) < s.size := by omega
  by_cases c2 : p < 0
  · go_enter Tryd.func8, Tryd.ntmps8
    go_wp2_with fail
    refine (awake_any _ HT.out).mono ?_
    rintro e w' ⟨rfl, hb⟩
    have HB := Lib.hid hb
    clear hb
    go_wp2
    go_ret
    exact ⟨rfl, HB.out⟩
  by_cases c3 : (s.size : Int) < p
  · go_enter Tryd.func8, Tryd.ntmps8
    go_wp2_with fail
    refine (awake_any _ HT.out).mono ?_
    rintro e w' ⟨rfl, hb⟩
    have HB := Lib.hid hb
    clear hb
    go_wp2
    go_ret
    exact ⟨rfl, HB.out⟩
  obtain ⟨q, rfl⟩ : ∃ q : Nat, p = q := ⟨p.toNat, by omega⟩
  have hq : q ≤ s.size := by omega
  have HCat := Lib.hid (cat_two s q hq)
  have hes1 : (s.extract 0 q).size ≤ 400 := by rw [ext_size s q hq]; omega
  have hes2 : (s.extract q s.size).size ≤ 400 := by rw [ext_from]; omega
  clear hes1 hes2
  have h23 := dec_two_three (bs s).length 0 (bs s) (Nat.le_refl _)
  have ze2 := dec_err 2 (by decide) (bs s).length 0 (bs s) (Nat.le_refl _)
  have ze3 := dec_err 3 (by decide) (bs s).length 0 (bs s) (Nat.le_refl _)
  have ln := decP_lens 2 (bs s)
  rw [decP_dec 2 _ (.inr (.inl rfl)), bs_len] at ln
  have hst : PartRel (bs s) (dec 2 0 (bs s)).1 (dec 3 0 (bs s)).1 (dec 2 0 (bs s)).2.1 0 0 0 0 := ⟨rfl, rfl, rfl, by omega⟩
  obtain ⟨⟨l1, f1, e1⟩, hd1⟩ : ∃ d, dec 2 0 (bs s) = d := ⟨_, rfl⟩
  obtain ⟨⟨l3, f3, e3⟩, hd3⟩ : ∃ d, dec 3 0 (bs s) = d := ⟨_, rfl⟩
  rw [hd1] at h23 ze2 ln hst
  rw [hd3] at h23 ze3 hst
  simp only at h23 ze2 ze3 ln hst
  obtain ⟨h2a, h2b⟩ := h23
  obtain ⟨lna, lnb⟩ := ln
  subst ze2 ze3 h2a
  have HD1 := Lib.hid hd1
  have HD3 := Lib.hid hd3
  have HST := Lib.hid hst
  have qb : ((l1.length : Int) != (l3.length : Int) + (f1.length : Int)) = false := by rw [h2b]; simp
  have H2B := Lib.hid h2b
  have lnc : l3.length ≤ s.size := by omega
  clear hd1 hd3 hst h2b
  have HL := Lib.hid (bs_len s)
  go_enter Tryd.func8, Tryd.ntmps8
  go_wp2_with fail
  refine (decode_one 2 (.inr (.inl rfl)) s _ HT.out (by omega)).mono ?_
  rw [HD1.out]
  rintro e w1 ⟨A1, c1', A2, c2', rfl, -, -, hi1, hf1, hb1⟩
  have B1 := Lib.hid hb1
  have HI1 := Lib.hid hi1
  have HF1 := Lib.hid hf1
  clear hb1 hi1 hf1
  go_wp2_with fail
  have hq0 : (0 : Int) ≤ q := by omega
  have hq1 : (q : Int) ≤ s.size := by omega
  go_region_held3 (fun _ => True) (first | trivial | go_keep)
    ((go_at_call 18; refine (decode_two s q w1 (l1, f1, 0) (HFin.out _ B1.out) hq (by omega) HD1.out).mono ?_; rintro e w2 ⟨A3, c3', A4, c4', rfl, -, -, hi2, hf2, hb2⟩))
  have B2 := Lib.hid (B1.out.trans (hb2.mono B1.out.size))
  have HI1' := Lib.hid (HI1.out.below hb2)
  have HF1' := Lib.hid (HF1.out.below hb2)
  have HI2 := Lib.hid hi2
  have HF2 := Lib.hid hf2
  clear hb2 hi2 hf2 HI1 HF1
  go_wp2_with fail
  refine (decode_one 3 (.inr (.inr rfl)) s _ (HFin.out _ B2.out) (by omega)).mono ?_
  rw [HD3.out]
  rintro e w3 ⟨A5, c5', A6, c6', rfl, -, -, hi3, hf3, hb3⟩
  have B3 := Lib.hid (B2.out.trans (hb3.mono B2.out.size))
  have X1 := Lib.hid (HI1'.out.below hb3)
  have X2 := Lib.hid (HF1'.out.below hb3)
  have X3 := Lib.hid (HI2.out.below hb3)
  have X4 := Lib.hid (HF2.out.below hb3)
  have X5 := Lib.hid hi3
  have X6 := Lib.hid hf3
  clear hb3 hi3 hf3 HI1' HF1' HI2 HF2
  go_wp2_with fail
  refine (runes_any A1 A3 c1' c3' l1 l1 _ X1.out X3.out (by omega) (by omega)).mono ?_
  rintro e w4 ⟨rfl, hb4⟩
  rw [show decide (l1 = l1) = true from by simp]
  have B4 := Lib.hid (B3.out.trans (hb4.mono B3.out.size))
  have Y1 := Lib.hid (X1.out.below hb4)
  have Y2 := Lib.hid (X2.out.below hb4)
  have Y4 := Lib.hid (X4.out.below hb4)
  have Y5 := Lib.hid (X5.out.below hb4)
  have Y6 := Lib.hid (X6.out.below hb4)
  clear hb4 X1 X2 X3 X4 X5 X6
  go_wp2_with fail
  refine (faults_any A2 A4 c2' c4' f1 f1 _ Y2.out Y4.out (by omega) (by omega)).mono ?_
  rintro e w5 ⟨rfl, hb5⟩
  rw [show decide (f1 = f1) = true from by simp]
  have B5 := Lib.hid (B4.out.trans (hb5.mono B4.out.size))
  have Z1 := Lib.hid (Y1.out.below hb5)
  have Z2 := Lib.hid (Y2.out.below hb5)
  have Z5 := Lib.hid (Y5.out.below hb5)
  have Z6 := Lib.hid (Y6.out.below hb5)
  clear hb5 Y1 Y2 Y4 Y5 Y6
  go_wp2_with fail
  refine (faults_any A2 A6 c2' c6' f1 f1 _ Z2.out Z6.out (by omega) (by omega)).mono ?_
  rintro e w6 ⟨rfl, hb6⟩
  rw [show decide (f1 = f1) = true from by simp]
  have B6 := Lib.hid (B5.out.trans (hb6.mono B5.out.size))
  have V1 := Lib.hid (Z1.out.below hb6)
  have V2 := Lib.hid (Z2.out.below hb6)
  have V5 := Lib.hid (Z5.out.below hb6)
  clear hb6 Z1 Z2 Z5 Z6
  go_wp2_with fail
  go_loopw [14, 15, 16, 17] (fun nv kv mv iv wr => ∃ n k m i : Nat, nv = .int .i64 n ∧ kv = .int .i64 k ∧ mv = .int .i64 m ∧ iv = .int .i64 i ∧ n ≤ s.size ∧ k ≤ f1.length ∧ m ≤ l3.length ∧ i ≤ l1.length ∧ Hid (PartRel (bs s) l1 l3 f1 i n k m ∧ Below w6.heap.size w6 wr)) (fun _ _ _ iv _ => l1.length - (intOf iv).toNat)
  case atStart => exact ⟨0, 0, 0, 0, rfl, rfl, rfl, rfl, by omega, by omega, by omega, by omega, HST.out, Below.refl _ _⟩
  case round =>
    obtain ⟨n, k, m, i, rfl, rfl, rfl, rfl, hn, hk, hm, hi, HQ⟩ := hrel
    have hs6 := B6.out.size
    have BW := Lib.hid (B6.out.trans (HQ.out.2.mono hs6))
    by_cases hlt : i < l1.length
    · have hlt' : (i : Int) < l1.length := by omega
      have hne := HQ.out.1.ne hlt
      obtain ⟨r, e, u, hX, u1, u2, u3, u4, u5⟩ := nx_step _ hne
      have u2' := u2
      rw [List.length_drop, bs_len] at u2'
      obtain ⟨b1, o1, hA1, hb1, hc1⟩ := V1.out i hlt
      have hc1' := (HQ.out.2.cell (p := ⟨b1, o1 + i, none⟩) hb1).trans hc1
      have hi0 : (0 : Int) ≤ i := by omega
      have hk0 : (0 : Int) ≤ k := by omega
      have hm0 : (0 : Int) ≤ m := by omega
      by_cases he : e = 0
      · subst he
        obtain ⟨⟨hi', hai⟩, ⟨hm', hcm⟩, hfk, hnext⟩ := HQ.out.1.ok hne hX u1 u2
        have HLR := Lib.hid (lenI_of_nx hX)
        have HNX := Lib.hid hnext
        obtain ⟨b5, o5, hA5, hb5, hc5⟩ := V5.out m hm'
        have hc5' := (HQ.out.2.cell (p := ⟨b5, o5 + m, none⟩) hb5).trans hc5
        rw [show l1.getD i 0 = r from by simp [List.getD, List.getElem?_eq_getElem hlt, hai]] at hc1'
        rw [show l3.getD m 0 = r from by simp [List.getD, List.getElem?_eq_getElem hm', hcm]] at hc5'
        have hgm : decide ((l3.length : Int) ≤ (m : Int)) = false := by simp; omega
        have hgm2 : ¬ (l3.length : Int) ≤ (m : Int) := by omega
        have hmlt : (m : Int) < l3.length := by omega
        have hrr : (r != r) = false := by simp
        have hu1 : decide ((u : Int) < 1) = false := by simp; omega
        clear hc1 hc5 hai hcm hnext hne hX u2 u4 u5
        rw [hA1, hA5]
        by_cases hkl : k < f1.length
        · have hnk := hfk hkl
          obtain ⟨b2, o2, hA2, hb2, hc2, -⟩ := V2.out k hkl
          have hc2' := (HQ.out.2.cell (p := ⟨b2, o2 + k * 2, none⟩) hb2).trans hc2
          rw [hA2]
          generalize hfa : f1[k].1 = fa at hc2' hnk
          have hklt : (k : Int) < f1.length := by omega
          have hne2 : ((fa : Int) == (n : Int)) = false := by simp; omega
          clear hc2 hfa hfk
          go_wp2_with fail
          go_quiet ((go_at_call 17; exact quiet_left (len_eq r u _ (Tab.drewN (HFin.out _ BW.out) _) HLR.out)))
          go_wp2_with fail
          refine (len_eq r u _ (Tab.drewN (HFin.out _ BW.out) _) HLR.out).mono ?_
          rintro v w' ⟨rfl, rfl⟩
          go_wp2_with fail
          go_roundw
          case rel => exact ⟨n + u, k, m + 1, i + 1, by go_num, rfl, by go_num, by go_num, by omega, by omega, by omega, by omega, HNX.out, bel_drewN HQ.out.2 _⟩
          case measure => simp [intOf]; omega
        · have hklt : ¬ (k : Int) < f1.length := by omega
          clear hfk
          go_wp2_with fail
          go_quiet ((go_at_call 17; exact quiet_left (len_eq r u _ (Tab.drewN (HFin.out _ BW.out) _) HLR.out)))
          go_wp2_with fail
          refine (len_eq r u _ (Tab.drewN (HFin.out _ BW.out) _) HLR.out).mono ?_
          rintro v w' ⟨rfl, rfl⟩
          go_wp2_with fail
          go_roundw
          case rel => exact ⟨n + u, k, m + 1, i + 1, by go_num, rfl, by go_num, by go_num, by omega, by omega, by omega, by omega, HNX.out, bel_drewN HQ.out.2 _⟩
          case measure => simp [intOf]; omega
      · obtain ⟨⟨hi', hai⟩, ⟨hk', hxk⟩, hnext⟩ := HQ.out.1.bad hne hX he u1 u2
        have HNX := Lib.hid hnext
        rw [show l1.getD i 0 = 65533 from by simp [List.getD, List.getElem?_eq_getElem hlt, hai]] at hc1'
        obtain ⟨b2, o2, hA2, hb2, hc2, hd2⟩ := V2.out k hk'
        rw [hxk] at hc2 hd2
        have hc2' := (HQ.out.2.cell (p := ⟨b2, o2 + k * 2, none⟩) hb2).trans hc2
        have hd2' := (HQ.out.2.cell (p := ⟨b2, o2 + k * 2 + 1, none⟩) hb2).trans hd2
        simp only at hc2' hd2'
        have hklt : (k : Int) < f1.length := by omega
        have hnn : ((n : Int) == (n : Int)) = true := by simp
        have hu1 : ¬ (u : Int) < 1 := by omega
        clear hc1 hc2 hd2 hai hxk hnext hne hX u2 u4 u5 he
        rw [hA1, hA2]
        go_wp2_with fail
        go_roundw
        case rel => exact ⟨n + u, k + 1, m, i + 1, by go_num, by go_num, rfl, by go_num, by omega, by omega, by omega, by omega, HNX.out, HQ.out.2⟩
        case measure => simp [intOf]; omega
    · obtain rfl : i = l1.length := by omega
      have hlt' : ¬ ((l1.length : Nat) : Int) < l1.length := by omega
      obtain ⟨q1, q2⟩ := HQ.out.1.fin (Nat.le_refl _) hk
      rw [HL.out] at q1
      subst q1 q2
      have h1 : ((s.size : Int) == (s.size : Int)) = true := by simp
      have h2 : ((f1.length : Int) == (f1.length : Int)) = true := by simp
      go_wp2_with fail
      refine (awake_any _ (HFin.out _ BW.out)).mono ?_
      rintro e w8 ⟨rfl, hb8⟩
      have B8 := Lib.hid (BW.out.trans (hb8.mono BW.out.size))
      clear hb8
      go_wp2
      go_ret
      exact ⟨rfl, B8.out⟩

set_option maxRecDepth 100000 in
theorem utfParts_lifted (os : Os) (started : os.Started) (H : Type) (enc : TypeId × Value → H) :
    ReturnsInHanded {} Tryd.checked os 8 .any (fun w args => (Rows.utfPartsSpec.pre enc Tryd.prog Tryd.f8 [] false w args ∧ laidMetH Tryd.prog laid1 w) ∧ sizedMet enc Tryd.prog Tryd.f8 (OpenSpec.ofChange Rows.utfPartsSpec) false w args)
      (Rows.utfPartsSpec.post enc Tryd.prog Tryd.f8 false true false false) := by
  refine returnsInHanded_of_change_and (C := Tryd.checked) (X := fun w _ => laidMetH Tryd.prog laid1 w) (fun _ _ _ hh h => h.of_heap hh) own started (by kernel_rfl) Tryd.func8
    (ChangeSpec.witness_shaped (enc := enc) (C := Tryd.checked) (os := os) (X := fun w _ => laidMetH Tryd.prog laid1 w) false (World.doorLaid Tryd.prog 400 os) #[.string ⟨#[]⟩, .int .i64 0] 8 rfl (World.shaped_of_RefB (by kernel_rfl) (by kernel_rfl)) (by kernel_rfl) (by kernel_rfl) (by kernel_rfl) (door_met os _)) ?_
  intro W base args ds gs before hval0 hW _ hsz hL _
  have hval : ∀ (j : Nat) t v, Tryd.f8.params[j]? = some t → args[j]? = some v → Value.okWide Tryd.prog W .any base t v := hval0
  have hW' := hW
  obtain ⟨p, q, hA0, hV, rfl, hfz, hnd⟩ := hW
  have hA : DataW.TrodAll enc Tryd.prog W 0 (fun _ => true) true Tryd.f8.params.toList args.toList ds p := hA0
  rw [Tryd.params8] at hA hval
  obtain ⟨v0, vs0, d0, ds0, p0, q0, hargs, rfl, rfl, h0, r0⟩ := trodAll_cons hA
  obtain ⟨v1, vs1, d1, ds1, p1, q1, rfl, rfl, rfl, h1, r1⟩ := trodAll_cons r0
  obtain ⟨rfl, rfl, rfl⟩ := trodAll_nil r1
  obtain rfl : args = #[v0, v1] := by cases args; simp_all
  obtain ⟨rfl, rfl⟩ := trodVars_none hV
  obtain ⟨s0, rfl, rfl, rfl, m0⟩ := open_string Tryd.underlying9 (hval 0 9 v0 rfl rfl) h0
  obtain ⟨a1, rfl, rfl, rfl, m1⟩ := open_int Tryd.underlying3 (hval 1 3 v1 rfl rfl) h1
  clear hA0 hval0
  refine (utfParts_walk s0 a1 W m0 m1 (of_laid hL)).mono fun e W' ⟨he, bel⟩ => ?_
  subst he
  exact ⟨_, rfl, _, _, _, [], _, [], hW', trodAll_mk1 (shut_bool Tryd.underlying4 _), (trodAll_cons_mk (shut_string Tryd.underlying9 m0) (trodAll_cons_mk (shut_int Tryd.underlying3 m1) trodAll_mk0)), rfl, bel.frame _, fun h => by cases h⟩

theorem utfParts_row : Rows.UtfPartsSaid :=
  OpenClaim.holds_of_wide 8 Tryd.f8 rfl rfl rfl rfl rfl rfl rfl ⟨rfl, rfl, rfl, rfl, rfl⟩ rfl rfl rfl rfl rfl (by kernel_rfl) Tryd.func8 (by kernel_rfl)
    (of_decide_eq_true (by kernel_rfl)) (by unfold Func.isWrapper; first | (rw [if_pos (by decide +kernel)]; kernel_rfl) | (rw [if_neg (by decide +kernel)]; exact ⟨rfl, rfl⟩))
    (fun os started H enc _ => utfParts_lifted os started H enc)

theorem utfParts_holds : Rows.UtfPartsCardSaid :=
  Claim7.holds_tied_plain_at .later [] [.data] true Rows.utfPartsCard.stood.harness false
    utfParts_row (fun _ h => by cases h) (by kernel_rfl) (fun _ h => by cases h) utfParts_row_tie rfl ⟨rfl, rfl⟩ (by kernel_rfl) rfl
    (fun f fn hf hfn => by
      obtain rfl : f = 8 := Option.some.inj ((show Tryd.prog.funcNamed Rows.utfPartsRow.func = some 8 by kernel_rfl).symm.trans hf) |>.symm
      obtain rfl : fn = Tryd.f8 := (Option.some.inj (Tryd.func8.symm.trans hfn)).symm
      exact ⟨by kernel_rfl, fun j t ht => by
        rw [Tryd.params8] at ht
        have hm : t ∈ [9, 3] := by simpa using Array.mem_of_getElem? ht
        have hall : ([9, 3].all fun u => !Tryd.prog.wantsStandIn u) = true := by kernel_rfl
        exact (show Tryd.prog.wantsStandIn t = false by simpa using List.all_eq_true.1 hall t hm)⟩)
    (by kernel_rfl)
#print axioms utfParts_holds
end Go.Proofs.YtoiedhkhmdgipaaDoor

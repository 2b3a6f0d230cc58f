import Derived.Test.YtagbeioooohbgaaGreatDoorKD
import Derived.Test.YtagbeioooohbgaaGreatDoorM32
namespace Go.Proofs.YtagbeioooohbgaaGreatDoor.Ba
open Go.RowKit Go.Maps Go.Shelf Uc Ha
open Fi (scal scal_bd Ml)

attribute [local go_sem] Oper.semAt_some

/-! BasePairs, where the lines are well -/
theorem pairB_wf {L : List Rw} {Xx : List Int} (hF : Frm L) (hG : Good L Xx) (a b : Int) : wfR (pairB L Xx a b).1 := by
  cases h : (pairB L Xx a b).2 with
  | false => rw [pair_no h]; exact wfR_of (by decide) (by decide)
  | true =>
    have h1 := (pair_is hG.ok h).1
    cases hs : isS (pairB L Xx a b).1 with
    | true => rw [isS_iff] at hs; exact wfR_of (by omega) (by omega)
    | false =>
      obtain ⟨z, hz, e⟩ := row_of hG.ok (by rw [h1]; simp) hs
      rw [← e]
      exact wfR_scal (hF.fin z hz).fr
set_option maxRecDepth 100000 in
set_option maxHeartbeats 16000000 in
theorem pairs_good (d o : ByteArray) (x y : Int) (w : World) (hM : Ml w) (hT : Ha.Tab w) (hd : d.size ≤ 3000) (ho : o.size ≤ 500) (hk : NwOk d.data.toList o.data.toList) (hx : wfR x) (hy : wfR y) :
    Calls Tryz.prog 3 #[.agg #[.string d, .string o], .int .i32 x, .int .i32 y] w fun e w' => e = .returned (.bool true) ∧ Below w.heap.size w w' := by
  have HFew := Lib.hid (fun W => few_any d o W true (by simp [hd, ho]) (by omega) (by omega))
  have HT := Lib.hid hT.all
  have HM := Lib.hid (fun w1 (h : Below w.heap.size w w1) => hM.on h)
  have HN := Lib.hid (fun w1 (h : Below w.heap.size w w1) => new_any d o w1 (hM.on h) (hT.on h) (by omega) (by omega))
  have HF := Lib.hid (frm_rws d.data.toList)
  have HG := Lib.hid hk.2.2
  have HK := Lib.hid hk
  have HLen : Hid ((knwB (rwsE d.data.toList).1).length ≤ 4096) := Lib.hid (by
    have h1 := rws_few hk.1
    have h2 : d.data.toList.length = d.size := Array.length_toList
    have h3 := knw_len (rwsE d.data.toList).1
    omega)
  have HX := Lib.hid hx
  have HY := Lib.hid hy
  clear hM hT hd ho hk hx hy
  obtain ⟨s1, s2, s3⟩ := law_start w d o
  obtain ⟨W0, hW0⟩ : ∃ x, x = (w.alloc (.cells #[.string d, .string o] 23)).alloc (.cells #[.bool false] 4) := ⟨_, rfl⟩
  rw [← hW0] at s1 s2 s3
  have c0 := s2.c (i := 0) rfl
  have c1 := s2.c (i := 1) rfl
  have S2 := Lib.hid s2
  have S3 := Lib.hid s3
  have D0 := Lib.hid s1
  clear s1 s2 s3
  refine calls_marks Tryz.func3 rfl ?_
  simp only [Tryz.ntmps3, List.size_toArray, List.length_cons, List.length_nil, Nat.reduceAdd, Nat.reduceSub, Array.replicate_succ, Array.replicate_zero, List.push_toArray, List.append_toArray, List.nil_append, List.cons_append]
  go_wp2_with fail
  rw [← hW0]
  clear hW0
  refine (HFew.out W0).mono ?_
  rintro e w1 ⟨rfl, hb1⟩
  have D1 := Lib.hid (D0.out.trans (hb1.mono D0.out.size))
  have R1 := Lib.hid (S3.out.below hb1)
  have S1 := Lib.hid (S2.out.below hb1)
  clear hb1 c0 c1 S2 S3 HFew D0
  have c0 := S1.out.c (i := 0) rfl
  have c1 := S1.out.c (i := 1) rfl
  go_wp2_with fail
  refine (HN.out w1 D1.out).mono ?_
  intro e w2 h2
  obtain ⟨base, X, T, P, M, S, _, rfl, hb2, hB⟩ := nw_good h2 HK.out
  have D2 := Lib.hid (D1.out.trans (hb2.mono D1.out.size))
  have R2 := Lib.hid (R1.out.below hb2)
  clear h2 hb2 c0 c1 R1 S1 HN HK D1
  obtain ⟨L, hL⟩ : ∃ L, L = (rwsE d.data.toList).1 := ⟨_, rfl⟩
  obtain ⟨Xx, hXx⟩ : ∃ L, L = (setsE o.data.toList).1 := ⟨_, rfl⟩
  rw [← hL] at HF HG HLen hB
  rw [← hXx] at HG hB
  clear hL hXx
  have hbB : Below w2.heap.size w2 (w2.alloc (.cells #[.pointer (some ⟨X, 0, none⟩)] 26)) := (Below.refl _ w2).alloc (Nat.le_refl _) _
  have HBV := Lib.hid (fun W (h : Below w2.heap.size w2 W) => (show BV W (.pointer (some ⟨X, 0, none⟩)) L (prsB L Xx) from .inr ⟨base, X, T, P, M, S, rfl, hB.below h⟩))
  have hE3 := hbB
  have hbx : Tr.Bk (w2.alloc (.cells #[.pointer (some ⟨X, 0, none⟩)] 26)) w2.heap.size [.pointer (some ⟨X, 0, none⟩)] 26 := ⟨heap_alloc_new w2 _⟩
  obtain ⟨Bb, hBb⟩ : ∃ x, x = w2.heap.size := ⟨_, rfl⟩
  obtain ⟨w3, hw3⟩ : ∃ x, x = w2.alloc (.cells #[.pointer (some ⟨X, 0, none⟩)] 26) := ⟨_, rfl⟩
  have D3 : Hid (Below w.heap.size w w3) := Lib.hid (by rw [hw3]; exact D2.out.alloc D2.out.size _)
  rw [← hBb, ← hw3] at hbx
  rw [← hw3] at hE3
  have E3 := Lib.hid hE3
  have K3 := Lib.hid hbx
  clear hbB hE3 hbx hB
  have b3 := K3.out.c (i := 0) rfl
  have HP := Lib.hid (pairM_any (.pointer (some ⟨X, 0, none⟩)) x y w3 (HBV.out _ E3.out) (HT.out _ D3.out) HX.out HY.out)
  have HPF := Lib.hid (pairP_full (L := L) (X := Xx) HG.out.s4 x y)
  have HWF := Lib.hid (pairB_wf HF.out HG.out x y)
  rw [HPF.out] at HP
  go_wp2_with fail
  rw [← hBb, ← hw3]
  clear hBb hw3
  refine HP.out.mono ?_
  rintro e w4 ⟨rfl, hb4⟩
  have E4 := Lib.hid (E3.out.trans (hb4.mono E3.out.size))
  have K4 := Lib.hid (K3.out.below hb4)
  have D4 := Lib.hid (D3.out.trans (hb4.mono D3.out.size))
  clear hb4 HP b3 K3 E3 HPF D3
  have HIs := Lib.hid (fun h => pair_is HG.out.ok (a := x) (b := y) h)
  have HNo := Lib.hid (fun h => pair_no (L := L) (X := Xx) (a := x) (b := y) h)
  obtain ⟨r, is, hri⟩ : ∃ r is, pairB L Xx x y = (r, is) := ⟨_, _, rfl⟩
  rw [hri] at HIs HNo HWF
  rw [hri]
  clear hri
  unfold lkV
  have b4 := K4.out.c (i := 0) rfl
  have HDc := Lib.hid (decomp_any (.pointer (some ⟨X, 0, none⟩)) r w4 HF.out (HBV.out _ E4.out) (HT.out _ D4.out) HWF.out)
  have HDl := Lib.hid (dec_len HF.out r)
  go_wp2_with fail
  refine HDc.out.mono ?_
  rintro e w5 ⟨A, c, rfl, hi, hb5⟩
  have HI := Lib.hid hi
  have E5 := Lib.hid (E4.out.trans (hb5.mono E4.out.size))
  have K5 := Lib.hid (K4.out.below hb5)
  have D5 := Lib.hid (D4.out.trans (hb5.mono D4.out.size))
  clear hi hb5 HDc b4 K4 E4 D4
  have b5 := K5.out.c (i := 0) rfl
  cases is
  case' true =>
    obtain ⟨i1, i2, i3⟩ := HIs.out rfl
    have i1' : decB L r = ([], [x, y]) := i1
    have i2' : clsB L r = 0 := i2
    rw [i1'] at HI
    rw [i1']
    have I2 := Lib.hid i2'
    have I3 := Lib.hid i3
    clear i1 i2 i3 i1' i2' HIs HNo HDl
    have hb6 : Below w5.heap.size w5 (w5.alloc (.cells #[.int .i32 x, .int .i32 y] 21)) := (Below.refl _ w5).alloc (Nat.le_refl _) _
    have HE := Lib.hid (show Calls Tryz.prog 12 #[.slice A 2 c, .slice (some ⟨w5.heap.size, 0, none⟩) 2 2] (w5.alloc (.cells #[.int .i32 x, .int .i32 y] 21)) _ from
      eqR_call (l := [x, y]) (m := [x, y]) (f := true) (by simp) A (some ⟨w5.heap.size, 0, none⟩) c 2 _ (HI.out.below hb6) (ints_two x y 21 w5) (by simp) (by simp))
    have E6 := Lib.hid (E5.out.trans (hb6.mono E5.out.size))
    have K6 := Lib.hid (K5.out.below hb6)
    have D6 := Lib.hid (D5.out.trans (hb6.mono D5.out.size))
    clear hb6 K5 HI
    go_wp2_with fail
    refine HE.out.mono ?_
    rintro e w7 ⟨rfl, hb7⟩
    have E7 := Lib.hid (E6.out.trans (hb7.mono E6.out.size))
    have K7 := Lib.hid (K6.out.below hb7)
    have D7 := Lib.hid (D6.out.trans (hb7.mono D6.out.size))
    clear hb7 K6 E6 D6 HE b5
    have b7 := K7.out.c (i := 0) rfl
    have HC := Lib.hid (class_any (.pointer (some ⟨X, 0, none⟩)) r w7 HF.out (HBV.out _ E7.out))
    rw [I2.out] at HC
    go_wp2_with fail
    refine HC.out.mono ?_
    rintro e w7 ⟨rfl, rfl⟩
    have HS := Lib.hid (second_any (.pointer (some ⟨X, 0, none⟩)) y w7 (HBV.out _ E7.out) (HT.out _ D7.out) HY.out)
    rw [secP_full, I3.out] at HS
    go_wp2_with fail
    refine HS.out.mono ?_
    rintro e w8 ⟨rfl, hb8⟩
    have E8 := Lib.hid (E7.out.trans (hb8.mono E7.out.size))
    have K8 := Lib.hid (K7.out.below hb8)
    have D8 := Lib.hid (D7.out.trans (hb8.mono D7.out.size))
    clear hb8 K7 E7 D7 HS HC b7 I2 I3 E5 D5
    have b8 := K8.out.c (i := 0) rfl
    go_wp2_with fail
    refine (pairs_call _ (.pointer (some ⟨X, 0, none⟩)) rfl).mono ?_
    rintro e w9 ⟨rfl, rfl⟩
  case' false =>
    have h0 : r = 0 := HNo.out rfl
    subst h0
    clear HIs HNo HDl
    generalize decB L 0 = dd at *
    obtain ⟨kd, into⟩ := dd
    go_wp2_with fail
    refine (pairs_call _ (.pointer (some ⟨X, 0, none⟩)) rfl).mono ?_
    rintro e w9 ⟨rfl, rfl⟩
    have E8 := E5
    have D8 := D5
    have K8 := K5
    have b8 := b5
    clear E5 D5 K5 b5 HI
    obtain ⟨w8, hw8⟩ : ∃ z, z = w5 := ⟨_, rfl⟩
    rw [← hw8] at E8 D8 K8 b8
    rw [← hw8]
    clear hw8
  all_goals
    have hq1 := eqfn39 32
    obtain ⟨w10, hw10⟩ : ∃ z, z = w8.alloc (.cells #[.pointer (some ⟨X, 0, none⟩)] 26) := ⟨_, rfl⟩
    have hb10 : Below w8.heap.size w8 w10 := by rw [hw10]; exact (Below.refl _ w8).alloc (Nat.le_refl _) _
    have kp : Tr.Bk w10 w8.heap.size [.pointer (some ⟨X, 0, none⟩)] 26 := by rw [hw10]; exact ⟨heap_alloc_new w8 _⟩
    have KP := Lib.hid kp
    have E10 := Lib.hid (E8.out.trans (hb10.mono E8.out.size))
    have D10 := Lib.hid (D8.out.trans (hb10.mono D8.out.size))
    have K10 := Lib.hid (K8.out.below hb10)
    clear hb10 kp K8 E8 D8
    go_wp2_with fail
    rw [← hw10]
    clear hw10
    refine wp_range_L (α := Pr L Xx) (G := 32) (lb := #[.pointer (some ⟨w8.heap.size, 0, none⟩)]) rfl (enters_of Tryz.func32 (by kernel_rfl) rfl)
      (pairs_iter (fun _ _ => False) w8.heap.size (.pointer (some ⟨X, 0, none⟩)) L Xx w10 w10 HF.out HG.out.s4 HLen.out (HBV.out _ E10.out) (Below.refl _ _) KP.out (OwnO.none _) (fun h => h))
      (fun h k => ⟨h.1.trans k.1, h.2.trans k.2⟩) (fun V l o o' hl h ho => ⟨kpF_put V l o o' h ho, below_put (Below.refl _ _) hl⟩) (Below.refl _ _) (fun _ => rfl)
      (fun _ V => Below w10.heap.size w10 V) (fun _ _ _ => False) (ownFrom_below (Nat.le_refl _) (Nat.le_refl _)) (fun _ _ _ _ _ h _ _ => h) (Below.refl _ _)
      (fun tm x t V => ∃ k, t = (((tm.setIfInBounds 98 (.int .i32 x.1.fr)).setIfInBounds 99 (.agg #[.int .i32 (x.1.into.getD 0 0), .int .i32 (x.1.into.getD 1 0)])).setIfInBounds 14 (.int .i32 x.1.fr)).setIfInBounds 15 (.pointer (some ⟨k, 0, none⟩)) ∧ Tr.Bk V k [.int .i32 (x.1.into.getD 0 0), .int .i32 (x.1.into.getD 1 0)] 41)
      (fun tm x t _ V V' row h hg hr => by obtain ⟨k, h1, h2⟩ := h; exact ⟨k, h1, from_bk hg hr h2⟩) ?assign ?body ?done ?stop
    case assign =>
      intro l pre z V K hI hK
      unfold encP
      gi_wp2
      exact hK _ _ ((KeepsOthers.alloc V _).from _) ⟨kpF_below ((Below.refl _ V).alloc (Nat.le_refl _) _), (Below.refl _ V).alloc hI.size _⟩ (hI.alloc hI.size _) ⟨V.heap.size, rfl, ⟨heap_alloc_new V _⟩⟩
    case stop => exact fun D c pre V _ _ h => h.elim
    case done =>
      rintro D ys V hD _ hI hK
      have HD := Lib.hid (D10.out.trans (hI.mono D10.out.size))
      have HK := Lib.hid hK
      have HR := Lib.hid (R2.out.below (E10.out.trans (hI.mono E10.out.size)))
      have hsz := Nat.le_trans D10.out.size hD
      clear hI hK
      have HA := Lib.hid (awake_any V (HM.out V HD.out) (HT.out V HD.out))
      go_wp2_with fail
      refine HA.out.mono ?_
      rintro e V2 ⟨rfl, hb⟩
      have HD2 := Lib.hid (HD.out.trans (hb.mono HD.out.size))
      have HK2 := Lib.hid ((hb.block D (Array.getElem?_eq_some_iff.1 HK.out).1).trans HK.out)
      have HR2 := Lib.hid (HR.out.below hb)
      clear hb HA HR HK HD
      have r2 := HR2.out.c (i := 0) rfl
      have rf2 := HR2.out.fr 0
      have hre : D ≠ w.heap.size + 1 := fun e => by
        have := HR2.out.blk
        rw [← e, HK2.out] at this
        cases this
      have HKS := Lib.hid (fun v => (Below.heap_setCell V2 ⟨w.heap.size + 1, 0, none⟩ v D hre).trans HK2.out)
      have r3 := cell_put (o := .deferred none) ((HR2.out.set 0 (.bool true)).c (i := 0) rfl) (D := D) (fun e => hre e.symm)
      clear hre
      go_wp2_with fail
      exact leave_mark (HKS.out _) (leave_nil (v := .bool true) (by simp [results, Tryz.results3, go_sem, r3]) ⟨rfl, below_put (HD2.out.setCell (p := ⟨w.heap.size + 1, 0, none⟩) (by simp) _) (by omega)⟩)
    case body =>
      rintro l pre z t V hI ⟨k, rfl, hkb⟩ hlen
      obtain ⟨a, b, z1, z2, z3, z4, z5, z6⟩ := prs_is HG.out.ok z.2
      rw [z1] at hkb
      have hra : wfR a := wfR_scal ((HF.out.fin z.1 (mem_prs.1 z.2).1).sc a (by rw [z1]; simp))
      have hrb : wfR b := wfR_scal ((HF.out.fin z.1 (mem_prs.1 z.2).1).sc b (by rw [z1]; simp))
      have HRA := Lib.hid hra
      have HRB := Lib.hid hrb
      have HRF := Lib.hid (wfR_scal (HF.out.fin z.1 (mem_prs.1 z.2).1).fr)
      have Z1 := Lib.hid z1
      have Z2 := Lib.hid z2
      have Z3 := Lib.hid z3
      have Z4 := Lib.hid z4
      have Z5 := Lib.hid z5
      have Z6 := Lib.hid z6
      have hka : Tr.Bk V k [.int .i32 a, .int .i32 b] 41 := hkb
      have HKA := Lib.hid hka
      have HI := Lib.hid hI
      have HDV := Lib.hid (D10.out.trans (hI.mono D10.out.size))
      have HEV := Lib.hid (E10.out.trans (hI.mono E10.out.size))
      have HKV := Lib.hid (K10.out.below hI)
      obtain ⟨fr, hfr⟩ : ∃ x, x = z.1.fr := ⟨_, rfl⟩
      rw [← hfr] at Z2 Z3 Z4 HRF
      rw [← hfr]
      clear hra hrb z1 z2 z3 z4 z5 z6 hkb hka hI hfr
      have b0 := HKV.out.c (i := 0) rfl
      have HDc := Lib.hid (decomp_any (.pointer (some ⟨X, 0, none⟩)) fr V HF.out (HBV.out _ HEV.out) (HT.out _ HDV.out) HRF.out)
      rw [Z2.out] at HDc
      gi_wp2
      refine ⟨trivial, CallsIn.inRound l (callsIn_wide.2 (HDc.out.mono ?_))⟩
      rintro e V1 ⟨A1, c1, rfl, hi, hb1⟩
      have HI1 := Lib.hid hi
      have B1 := Lib.hid hb1
      clear hi hb1 HDc b0
      have b1 := (HKV.out.below B1.out).c (i := 0) rfl
      have k1 := (HKA.out.below B1.out).c (i := 0) rfl
      have k2 := (HKA.out.below B1.out).c (i := 1) rfl
      have HPr := Lib.hid (pairM_any (.pointer (some ⟨X, 0, none⟩)) a b V1 (HBV.out _ (HEV.out.trans (B1.out.mono HEV.out.size))) (HT.out _ (HDV.out.trans (B1.out.mono HDV.out.size))) HRA.out HRB.out)
      rw [pairP_full HG.out.s4, Z3.out] at HPr
      unfold lkV at HPr
      gi_wp2
      refine ⟨trivial, CallsIn.inRound l (callsIn_wide.2 (HPr.out.mono ?_))⟩
      rintro e V2 ⟨rfl, hb2⟩
      have HI2 := Lib.hid (HI1.out.below hb2)
      have B2 := Lib.hid (B1.out.trans (hb2.mono B1.out.size))
      clear hb2 HPr b1 k1 k2 HI1 B1
      have k1 := (HKA.out.below B2.out).c (i := 0) rfl
      have k2 := (HKA.out.below B2.out).c (i := 1) rfl
      have hb3 : Below V2.heap.size V2 (V2.alloc (.cells #[.int .i32 a, .int .i32 b] 21)) := (Below.refl _ V2).alloc (Nat.le_refl _) _
      have HE := Lib.hid (show Calls Tryz.prog 12 #[.slice A1 2 c1, .slice (some ⟨V2.heap.size, 0, none⟩) 2 2] (V2.alloc (.cells #[.int .i32 a, .int .i32 b] 21)) _ from
        eqR_call (l := [a, b]) (m := [a, b]) (f := true) (by simp) A1 (some ⟨V2.heap.size, 0, none⟩) c1 2 _ (HI2.out.below hb3) (ints_two a b 21 V2) (by simp) (by simp))
      have B3 := Lib.hid (B2.out.trans (hb3.mono B2.out.size))
      clear hb3
      gi_wp2
      refine ⟨trivial, CallsIn.inRound l (callsIn_wide.2 (HE.out.mono ?_))⟩
      rintro e V4 ⟨rfl, hb4⟩
      have B4 := Lib.hid (B3.out.trans (hb4.mono B3.out.size))
      clear hb4 HE HI2 k1 k2 B3 B2
      have b4 := (HKV.out.below B4.out).c (i := 0) rfl
      have k1 := (HKA.out.below B4.out).c (i := 0) rfl
      have k2 := (HKA.out.below B4.out).c (i := 1) rfl
      have HC1 := Lib.hid (class_any (.pointer (some ⟨X, 0, none⟩)) fr V4 HF.out (HBV.out _ (HEV.out.trans (B4.out.mono HEV.out.size))))
      have HC2 := Lib.hid (class_any (.pointer (some ⟨X, 0, none⟩)) a V4 HF.out (HBV.out _ (HEV.out.trans (B4.out.mono HEV.out.size))))
      rw [Z4.out] at HC1
      rw [Z5.out] at HC2
      gi_wp2
      refine ⟨trivial, CallsIn.inRound l (callsIn_wide.2 (HC1.out.mono ?_))⟩
      rintro e V5 ⟨rfl, rfl⟩
      gi_wp2
      refine ⟨trivial, CallsIn.inRound l (callsIn_wide.2 (HC2.out.mono ?_))⟩
      rintro e V5 ⟨rfl, rfl⟩
      have HS := Lib.hid (second_any (.pointer (some ⟨X, 0, none⟩)) b V4 (HBV.out _ (HEV.out.trans (B4.out.mono HEV.out.size))) (HT.out _ (HDV.out.trans (B4.out.mono HDV.out.size))) HRB.out)
      rw [secP_full, Z6.out] at HS
      gi_wp2
      refine ⟨trivial, CallsIn.inRound l (callsIn_wide.2 (HS.out.mono ?_))⟩
      rintro e V5 ⟨rfl, hb5⟩
      have B5 := Lib.hid (B4.out.trans (hb5.mono B4.out.size))
      clear hb5 HS HC1 HC2 b4 k1 k2 B4
      gi_wp2
      exact ⟨kf_below B5.out, ⟨kpF_below B5.out, B5.out.mono HI.out.size⟩, HI.out.trans (B5.out.mono HI.out.size)⟩
theorem pairs_walk (d o : ByteArray) (x y : Int) (w : World) (hM : Ml w) (hT : Ha.Tab w) (hd : d.size ≤ 9223372036854775807) (ho : o.size ≤ 9223372036854775807) (hx : wfR x) (hy : wfR y) :
    Calls Tryz.prog 3 #[.agg #[.string d, .string o], .int .i32 x, .int .i32 y] w fun e w' => e = .returned (.bool true) ∧ Below w.heap.size w w' := by
  by_cases hf : d.size ≤ 3000 ∧ o.size ≤ 500
  · by_cases hk : NwOk d.data.toList o.data.toList
    · exact pairs_good d o x y w hM hT hf.1 hf.2 hk hx hy
    · exact pairs_bad d o x y w hM hT hf.1 hf.2 hk
  · exact pairs_many d o x y w hM hT hd ho (by
      rw [Bool.and_eq_false_iff, decide_eq_false_iff_not, decide_eq_false_iff_not]
      by_cases h : d.size ≤ 3000
      · exact .inr fun h2 => hf ⟨h, h2⟩
      · exact .inl h)

end Go.Proofs.YtagbeioooohbgaaGreatDoor.Ba

import Derived.Test.YtagbeioooohbgaaGreatDoorM04
import Derived.Test.YtagbeioooohbgaaGreatDoorM30
import Derived.Test.YtagbeioooohbgaaGreatDoorM06
import Derived.Test.YtagbeioooohbgaaGreatDoorGH
namespace Go.Proofs.YtagbeioooohbgaaGreatDoor.Uc
open Go.RowKit Fi

theorem rng_ok {l : List UInt8} (h : (rngE l).2.2 = 0) : scal (rngE l).1 = true ∧ scal (rngE l).2.1 = true ∧ (rngE l).1 ≤ (rngE l).2.1 := by
  unfold rngE at h ⊢
  split
  · rename_i hc
    rw [if_pos hc] at h
    split
    · rename_i h1
      rw [if_pos h1] at h
      exact absurd h h1
    · rename_i h1
      rw [if_neg h1] at h
      split
      · rename_i h2
        rw [if_pos h2] at h
        exact absurd h h2
      · rename_i h2
        rw [if_neg h2] at h
        split
        · rename_i h3
          rw [if_pos h3] at h
          exact absurd h (by decide)
        · rename_i h3
          have a := hexE_cases (bareL (Lib.cut l [46, 46]).1)
          have b := hexE_cases (bareL (Lib.cut l [46, 46]).2.1)
          refine ⟨?_, ?_, by simp only; omega⟩
          · rcases a with ⟨_, a⟩ | ⟨_, a⟩
            · exact a
            · omega
          · rcases b with ⟨_, b⟩ | ⟨_, b⟩
            · exact b
            · omega
  · rename_i hc
    rw [if_neg hc] at h
    have a := hexE_cases l
    have e : scal (hexE l).1 = true := by
      rcases a with ⟨_, a⟩ | ⟨_, a⟩
      · exact a
      · simp only at h
        omega
    exact ⟨e, e, Int.le_refl _⟩
theorem chs_pos {f t : Int} (hf : scal f = true) (h : f ≤ t) : 0 < (chs f t).length := by
  obtain ⟨r, hr⟩ := chP_pre f 1 (t - f + 1).toNat (by omega)
  have e : chP f 1 = [f] := by simp [chP, hf]
  unfold chs
  rw [hr, e]
  simp
theorem che_le {f t : Int} {m : Nat} {l : List Int} (h : ChE f t m l) : l.length ≤ (chs f t).length := by
  obtain ⟨n, hn, rfl⟩ := h.pre
  obtain ⟨r, hr⟩ := chP_pre f n (t - f + 1).toNat (by omega)
  unfold chs
  rw [hr]
  simp
theorem stR_err {s : List Int} {r : Int × Int × Int} (h : r.2.2 ≠ 0) : stR s r = (s, r.2.2) := by unfold stR; rw [if_pos h]
theorem stR_there {s : List Int} {r : Int × Int × Int} (h : r.2.2 = 0) (h1 : s.any (inR r.1 r.2.1) = true) : stR s r = (s, 12) := by unfold stR; rw [if_neg (by simpa using h), if_pos h1]
theorem stR_full {s : List Int} {r : Int × Int × Int} (h : r.2.2 = 0) (h1 : ¬ s.any (inR r.1 r.2.1) = true) (h2 : 4096 < s.length + (chs r.1 r.2.1).length) : stR s r = (s, 14) := by unfold stR; rw [if_neg (by simpa using h), if_neg h1, if_pos h2]
theorem stR_put {s : List Int} {r : Int × Int × Int} (h : r.2.2 = 0) (h1 : ¬ s.any (inR r.1 r.2.1) = true) (h2 : ¬ 4096 < s.length + (chs r.1 r.2.1).length) : stR s r = (s.take (cnt s r.1) ++ (chs r.1 r.2.1 ++ s.drop (cnt s r.1)), 0) := by unfold stR; rw [if_neg (by simpa using h), if_neg h1, if_neg h2]
/-- The variable of Sets, and the characters that lie there. -/
structure SSt (w0 w : World) (X : Nat) (s : List Int) : Prop where
  bel : Below w0.heap.size w0 w
  ox : ∃ v, One w X v 32 ∧ w.ownsRow w0.heap.size 21 1 v s.length (i32s s)
theorem SSt.on {w0 w w' : World} {X : Nat} {s : List Int} (h : SSt w0 w X s) (hb : Below w.heap.size w w') : SSt w0 w' X s := by
  obtain ⟨v, h1, h2⟩ := h.ox
  exact ⟨h.bel.trans (hb.mono h.bel.size), ⟨v, h1.below hb, own_below' h2 hb⟩⟩
theorem txs_one {w : World} {A : Option Addr} {ls : List (List UInt8)} (h : Txs w A ls) (h6 : 0 < ls.length) : ∃ b off, A = some ⟨b, off, none⟩ ∧ b < w.heap.size ∧ w.cell? ⟨b, off, none⟩ = some (.string ⟨(ls.getD 0 []).toArray⟩) := by
  obtain ⟨b, off, rfl, hb, h0⟩ := h 0 (by omega)
  refine ⟨b, off, rfl, hb, ?_⟩
  rw [List.getD_eq_getElem?_getD, List.getElem?_eq_getElem h6]
  exact h0
theorem fld_pos (l : List UInt8) : 0 < (fld l).length := by unfold fld; rw [List.length_map, spl_len]; omega
/-- Characters more. -/
theorem SSt.more {w0 w w5 : World} {X : Nat} {s s2 : List Int} {v v5 : Value} (hb : Below w0.heap.size w0 w) (hX : w0.heap.size ≤ X)
    (ox : One w X v 32) (hin : w.ownsRow w0.heap.size 21 1 v s.length (i32s s))
    (h5 : w5.ownsRow w0.heap.size 21 1 v5 s2.length (i32s s2)) (hg : w.grownBy w5 v.ownBlock) :
    SSt w0 (w5.setCell ⟨X, 0, none⟩ v5) X s2 ∧ KeepT 90 w (w5.setCell ⟨X, 0, none⟩ v5) := by
  have nx := ox.ne hin (by decide)
  have ox5 := ox.grown hg nx
  refine ⟨⟨(hb.grown hg (by have := hb.size; omega) (fun z hz => (hin.lt z hz).1)).setCell hX _, ⟨v5, ox5.set _, own_set h5 (ox5.ne h5 (by decide)) _⟩⟩, (KeepT.grown hin (by decide) hg).trans (KeepT.set ox5 (by decide) _ 0)⟩

set_option maxRecDepth 100000 in
set_option maxHeartbeats 8000000 in
theorem sclo_any (w0 w : World) (X no : Nat) (s : List Int) (t : ByteArray) (h : SSt w0 w X s) (hM : Ml w0) (hX : w0.heap.size ≤ X) (hs : t.size ≤ 512) (hI : SInv s) :
    Calls Tryz.prog 47 #[.agg #[.int .i64 no, .string t], .pointer (some ⟨X, 0, none⟩)] w
      fun e w' => e = .returned (.int .i64 (stS s t.data.toList).2) ∧ SSt w0 w' X (stS s t.data.toList).1 ∧ KeepT 90 w w' := by
  have HM1 := Lib.hid (hM.below h.bel hM.pos)
  have HA := Lib.hid ((Below.refl w.heap.size w).alloc (Nat.le_refl _) (.cells #[.int .i64 no, .string t] 90))
  have hS := fsplit_any t 59 (w.alloc (.cells #[.int .i64 no, .string t] 90)) (HM1.out.on HA.out) (by omega)
  change Calls Tryz.prog _ _ _ (CutP _ (fld t.data.toList)) at hS
  have hm := fld_mem t.data.toList 0
  rw [lst_len] at hm
  have hp := fld_pos t.data.toList
  have LK := Lib.hid (show Bk (w.alloc (.cells #[.int .i64 no, .string t] 90)) w.heap.size [.int .i64 no, .string t] 90 from ⟨heap_alloc_new w _⟩)
  have HS := Lib.hid h
  have HI := Lib.hid hI
  unfold stS
  generalize fld t.data.toList = ls at *
  obtain ⟨x0, hx0⟩ : ∃ x : ByteArray, x = ⟨(ls.getD 0 []).toArray⟩ := ⟨_, rfl⟩
  have hR := fun W hW => range_any x0 W hW (by rw [hx0, size_mk]; omega)
  rw [show x0.data.toList = ls.getD 0 [] by rw [hx0]] at hR
  have HQ0 := Lib.hid hx0
  have hok := @rng_ok (ls.getD 0 [])
  have hsl := hI.len
  have HSP := Lib.hid hS
  clear hx0 hm hS h hM hI
  have k1 := @stR_err s (rngE (ls.getD 0 []))
  have k2 := @stR_there s (rngE (ls.getD 0 []))
  have k3 := @stR_full s (rngE (ls.getD 0 []))
  have k4 := @stR_put s (rngE (ls.getD 0 []))
  generalize rngE (ls.getD 0 []) = x at *
  obtain ⟨f, tt, er⟩ := x
  unfold r3V at hR
  simp only at hR hok k1 k2 k3 k4
  have HR := Lib.hid hR
  clear hR
  by_cases h1 : er = 0
  · subst h1
    obtain ⟨hf, htt, hft⟩ := hok rfl
    have han := any_at (f := f) (t := tt) HI.out.rise
    obtain ⟨ct, hct0⟩ : ∃ ct, ct = cnt s f := ⟨_, rfl⟩
    rw [← hct0] at k4
    have han : s.any (inR f tt) = true ↔ ∃ hc : ct < s.length, s[ct] ≤ tt := by subst hct0; exact han
    have HC0 := Lib.hid hct0
    clear hct0 k1 hok
    by_cases hlt : ct < s.length
    · obtain ⟨y, hy⟩ : ∃ y, y = s[ct] := ⟨_, rfl⟩
      have hsd : s.getD ct 0 = y := by rw [hy]; simp [List.getD, List.getElem?_eq_getElem hlt]
      by_cases hle : y ≤ tt
      · have HT := Lib.hid (k2 rfl (han.2 ⟨hlt, by rw [← hy]; exact hle⟩))
        clear han k2 k3 k4 hy
        go_enter Tryz.func47, Tryz.ntmps47
        have d1 := LK.out.c (i := 1) rfl
        go_wp2_with fail
        refine HSP.out.mono ?_
        rintro e w1 ⟨v1, rfl, ho, hb⟩
        obtain ⟨A1, c1, rfl, hx⟩ := own_txs ho
        obtain ⟨tb, tf, rfl, htb, t0⟩ := txs_one hx hp
        rw [← HQ0.out] at t0
        have B1 := Lib.hid (HA.out.trans (hb.mono HA.out.size))
        have hlp : (0 : Int) < (ls.length : Int) := by omega
        clear ho hb hx d1
        go_wp2_with fail
        refine (HR.out _ (HM1.out.on B1.out)).mono ?_
        rintro e w2 ⟨rfl, hb⟩
        have B2 := Lib.hid (B1.out.trans (hb.mono B1.out.size))
        clear hb t0 htb HR HSP HA
        obtain ⟨v, hox0, hin0⟩ := HS.out.ox
        have OX2 := Lib.hid (hox0.below B2.out)
        have IN2 := Lib.hid (own_below' hin0 B2.out)
        obtain ⟨A, c, rfl, hin⟩ := own_ints IN2.out
        clear hox0 hin0
        have ax := OX2.out.c
        have hse := search_any A c s f w2 hin (by omega) HI.out.rise
        unfold SeP at hse
        have hct := cnt_le s f
        rw [← HC0.out] at hse hct
        have HSE := Lib.hid hse
        clear hse
        go_wp2_with fail
        refine HSE.out.mono ?_
        rintro e w3 ⟨bb, rfl, hb⟩
        have B3 := Lib.hid (B2.out.trans (hb.mono B2.out.size))
        have OX3 := Lib.hid (OX2.out.below hb)
        have IN3 := Lib.hid (own_below' IN2.out hb)
        have II := Lib.hid (hin.below hb)
        have ax3 := OX3.out.c
        clear hb ax HSE OX2 IN2 hin
        obtain ⟨gb, go, rfl, _, cs⟩ := II.out ct hlt
        rw [hsd] at cs
        have g0 : (ct : Int) < (s.length : Int) := by omega
        have g1 : y ≤ tt := by omega
        go_wp2_with fail
        go_ret
        exact ⟨ret_int (by rw [HT.out]), by rw [HT.out]; exact HS.out.on B3.out, KeepT.below B3.out⟩
      · have hany : ¬ s.any (inR f tt) = true := fun h9 => hle (by obtain ⟨_, h8⟩ := han.1 h9; rw [hy]; exact h8)
        clear han k2 hy
        go_enter Tryz.func47, Tryz.ntmps47
        have d1 := LK.out.c (i := 1) rfl
        go_wp2_with fail
        refine HSP.out.mono ?_
        rintro e w1 ⟨v1, rfl, ho, hb⟩
        obtain ⟨A1, c1, rfl, hx⟩ := own_txs ho
        obtain ⟨tb, tf, rfl, htb, t0⟩ := txs_one hx hp
        rw [← HQ0.out] at t0
        have B1 := Lib.hid (HA.out.trans (hb.mono HA.out.size))
        have hlp : (0 : Int) < (ls.length : Int) := by omega
        clear ho hb hx d1
        go_wp2_with fail
        refine (HR.out _ (HM1.out.on B1.out)).mono ?_
        rintro e w2 ⟨rfl, hb⟩
        have B2 := Lib.hid (B1.out.trans (hb.mono B1.out.size))
        clear hb t0 htb HR HSP HA
        obtain ⟨v, hox0, hin0⟩ := HS.out.ox
        have OX2 := Lib.hid (hox0.below B2.out)
        have IN2 := Lib.hid (own_below' hin0 B2.out)
        obtain ⟨A, c, rfl, hin⟩ := own_ints IN2.out
        clear hox0 hin0
        have ax := OX2.out.c
        have hse := search_any A c s f w2 hin (by omega) HI.out.rise
        unfold SeP at hse
        have hct := cnt_le s f
        rw [← HC0.out] at hse hct
        have HSE := Lib.hid hse
        clear hse
        go_wp2_with fail
        refine HSE.out.mono ?_
        rintro e w3 ⟨bb, rfl, hb⟩
        have B3 := Lib.hid (B2.out.trans (hb.mono B2.out.size))
        have OX3 := Lib.hid (OX2.out.below hb)
        have IN3 := Lib.hid (own_below' IN2.out hb)
        have II := Lib.hid (hin.below hb)
        have ax3 := OX3.out.c
        clear hb ax HSE OX2 IN2 hin
        obtain ⟨gb, go, rfl, _, cs⟩ := II.out ct hlt
        rw [hsd] at cs
        have g0 : (ct : Int) < (s.length : Int) := by omega
        have g1 : ¬ y ≤ tt := by omega
        have hch := chars_any f tt (4096 - s.length + 1) w3 (scal_bd hf).1 hft (scal_bd htt).2 (by omega)
        rw [show ((4096 - s.length + 1 : Nat) : Int) = 4096 - (s.length : Int) + 1 by omega] at hch
        have HCH := Lib.hid hch
        clear hch
        go_wp2_with fail
        refine HCH.out.mono ?_
        rintro e w4 ⟨l, hl, v4, rfl, ho4, hb⟩
        have B4 := Lib.hid (B3.out.trans (hb.mono B3.out.size))
        have OX4 := Lib.hid (OX3.out.below hb)
        have IN4 := Lib.hid (own_below' IN3.out hb)
        have hlen := hl.most
        obtain ⟨A4, c4, rfl, _⟩ := own_ints ho4
        have O4 := Lib.hid ho4
        have CE := Lib.hid hl
        have ax4 := OX4.out.c
        clear hb ho4 hl HCH
        by_cases hfull : 4096 < s.length + l.length
        · have hfu : 4096 < s.length + (chs f tt).length := by have := che_le CE.out; omega
          have HT := Lib.hid (k3 trivial hany hfu)
          have g2 : (4096 : Int) < (s.length : Int) + (l.length : Int) := by omega
          go_wp2_with fail
          go_ret
          exact ⟨ret_int (by rw [HT.out]), by rw [HT.out]; exact HS.out.on B4.out, KeepT.below B4.out⟩
        · have hl2 : l = chs f tt := CE.out.all (by omega)
          subst hl2
          have HT := Lib.hid (k4 trivial hany hfull)
          have g2 : ¬ (4096 : Int) < (s.length : Int) + ((chs f tt).length : Int) := by omega
          have hpos := chs_pos hf hft
          have HNE := Lib.hid (show ∀ g, (Value.slice A4 (chs f tt).length c4).ownBlock = some g → (Value.slice (some ⟨gb, go, none⟩) s.length c).ownBlock ≠ some g from fun g h9 h8 => by have a := (O4.out.lt g h9).1; have b := (IN3.out.lt g h8).2; omega)
          have HIN := Lib.hid (ins_any w4 w0.heap.size w3.heap.size ct _ _ s (chs f tt) IN4.out O4.out HNE.out hpos (by omega) (by omega) (Nat.le_trans HS.out.bel.size B4.out.size) (by omega))
          obtain ⟨s2, hs2⟩ : ∃ s2, s2 = s.take ct ++ (chs f tt ++ s.drop ct) := ⟨_, rfl⟩
          rw [← hs2] at HIN HT
          clear hs2
          generalize chs f tt = l at *
          go_wp2_with fail
          refine HIN.out.mono ?_
          rintro e w5 ⟨v5, rfl, ho5, hg5⟩
          have SM := Lib.hid (SSt.more (HS.out.on B4.out).bel hX OX4.out IN4.out ho5 hg5)
          have ox5 := OX4.out.grown hg5 (OX4.out.ne IN4.out (by decide))
          obtain ⟨A5, c5, rfl, _⟩ := own_ints ho5
          have ax5 := ox5.c
          have ax6 := ox5.fr
          clear ho5 hg5 ox5
          go_wp2_with fail
          go_ret
          exact ⟨ret_int (by rw [HT.out]), by rw [HT.out]; exact SM.out.1, (KeepT.below B4.out).trans SM.out.2⟩
    · have hany : ¬ s.any (inR f tt) = true := fun h9 => hlt (by obtain ⟨h8, _⟩ := han.1 h9; exact h8)
      clear han k2
      go_enter Tryz.func47, Tryz.ntmps47
      have d1 := LK.out.c (i := 1) rfl
      go_wp2_with fail
      refine HSP.out.mono ?_
      rintro e w1 ⟨v1, rfl, ho, hb⟩
      obtain ⟨A1, c1, rfl, hx⟩ := own_txs ho
      obtain ⟨tb, tf, rfl, htb, t0⟩ := txs_one hx hp
      rw [← HQ0.out] at t0
      have B1 := Lib.hid (HA.out.trans (hb.mono HA.out.size))
      have hlp : (0 : Int) < (ls.length : Int) := by omega
      clear ho hb hx d1
      go_wp2_with fail
      refine (HR.out _ (HM1.out.on B1.out)).mono ?_
      rintro e w2 ⟨rfl, hb⟩
      have B2 := Lib.hid (B1.out.trans (hb.mono B1.out.size))
      clear hb t0 htb HR HSP HA
      obtain ⟨v, hox0, hin0⟩ := HS.out.ox
      have OX2 := Lib.hid (hox0.below B2.out)
      have IN2 := Lib.hid (own_below' hin0 B2.out)
      obtain ⟨A, c, rfl, hin⟩ := own_ints IN2.out
      clear hox0 hin0
      have ax := OX2.out.c
      have hse := search_any A c s f w2 hin (by omega) HI.out.rise
      unfold SeP at hse
      have hct := cnt_le s f
      rw [← HC0.out] at hse hct
      have HSE := Lib.hid hse
      clear hse
      go_wp2_with fail
      refine HSE.out.mono ?_
      rintro e w3 ⟨bb, rfl, hb⟩
      have B3 := Lib.hid (B2.out.trans (hb.mono B2.out.size))
      have OX3 := Lib.hid (OX2.out.below hb)
      have IN3 := Lib.hid (own_below' IN2.out hb)
      have II := Lib.hid (hin.below hb)
      have ax3 := OX3.out.c
      clear hb ax HSE OX2 IN2 hin
      have g0 : ¬ (ct : Int) < (s.length : Int) := by omega
      have hch := chars_any f tt (4096 - s.length + 1) w3 (scal_bd hf).1 hft (scal_bd htt).2 (by omega)
      rw [show ((4096 - s.length + 1 : Nat) : Int) = 4096 - (s.length : Int) + 1 by omega] at hch
      have HCH := Lib.hid hch
      clear hch
      go_wp2_with fail
      refine HCH.out.mono ?_
      rintro e w4 ⟨l, hl, v4, rfl, ho4, hb⟩
      have B4 := Lib.hid (B3.out.trans (hb.mono B3.out.size))
      have OX4 := Lib.hid (OX3.out.below hb)
      have IN4 := Lib.hid (own_below' IN3.out hb)
      have hlen := hl.most
      obtain ⟨A4, c4, rfl, _⟩ := own_ints ho4
      have O4 := Lib.hid ho4
      have CE := Lib.hid hl
      have ax4 := OX4.out.c
      clear hb ho4 hl HCH
      by_cases hfull : 4096 < s.length + l.length
      · have hfu : 4096 < s.length + (chs f tt).length := by have := che_le CE.out; omega
        have HT := Lib.hid (k3 trivial hany hfu)
        have g2 : (4096 : Int) < (s.length : Int) + (l.length : Int) := by omega
        go_wp2_with fail
        go_ret
        exact ⟨ret_int (by rw [HT.out]), by rw [HT.out]; exact HS.out.on B4.out, KeepT.below B4.out⟩
      · have hl2 : l = chs f tt := CE.out.all (by omega)
        subst hl2
        have HT := Lib.hid (k4 trivial hany hfull)
        have g2 : ¬ (4096 : Int) < (s.length : Int) + ((chs f tt).length : Int) := by omega
        have hpos := chs_pos hf hft
        have HNE := Lib.hid (show ∀ g, (Value.slice A4 (chs f tt).length c4).ownBlock = some g → (Value.slice A s.length c).ownBlock ≠ some g from fun g h9 h8 => by have a := (O4.out.lt g h9).1; have b := (IN3.out.lt g h8).2; omega)
        have HIN := Lib.hid (ins_any w4 w0.heap.size w3.heap.size ct _ _ s (chs f tt) IN4.out O4.out HNE.out hpos (by omega) (by omega) (Nat.le_trans HS.out.bel.size B4.out.size) (by omega))
        obtain ⟨s2, hs2⟩ : ∃ s2, s2 = s.take ct ++ (chs f tt ++ s.drop ct) := ⟨_, rfl⟩
        rw [← hs2] at HIN HT
        clear hs2
        generalize chs f tt = l at *
        go_wp2_with fail
        refine HIN.out.mono ?_
        rintro e w5 ⟨v5, rfl, ho5, hg5⟩
        have SM := Lib.hid (SSt.more (HS.out.on B4.out).bel hX OX4.out IN4.out ho5 hg5)
        have ox5 := OX4.out.grown hg5 (OX4.out.ne IN4.out (by decide))
        obtain ⟨A5, c5, rfl, _⟩ := own_ints ho5
        have ax5 := ox5.c
        have ax6 := ox5.fr
        clear ho5 hg5 ox5
        go_wp2_with fail
        go_ret
        exact ⟨ret_int (by rw [HT.out]), by rw [HT.out]; exact SM.out.1, (KeepT.below B4.out).trans SM.out.2⟩
  · have HT := Lib.hid (k1 h1)
    clear k1 k2 k3 k4 hok
    go_enter Tryz.func47, Tryz.ntmps47
    have d1 := LK.out.c (i := 1) rfl
    go_wp2_with fail
    refine HSP.out.mono ?_
    rintro e w1 ⟨v1, rfl, ho, hb⟩
    obtain ⟨A1, c1, rfl, hx⟩ := own_txs ho
    obtain ⟨tb, tf, rfl, htb, t0⟩ := txs_one hx hp
    rw [← HQ0.out] at t0
    have B1 := Lib.hid (HA.out.trans (hb.mono HA.out.size))
    have hlp : (0 : Int) < (ls.length : Int) := by omega
    clear ho hb hx d1
    go_wp2_with fail
    refine (HR.out _ (HM1.out.on B1.out)).mono ?_
    rintro e w2 ⟨rfl, hb⟩
    have B2 := Lib.hid (B1.out.trans (hb.mono B1.out.size))
    clear hb t0 htb HR HSP HA
    have e1 : (er != 0) = true := by simpa using h1
    go_wp2_with fail
    go_ret
    exact ⟨ret_int (by rw [HT.out]), by rw [HT.out]; exact HS.out.on B2.out, KeepT.below B2.out⟩

/-- The lines so far. -/
structure FsR (w0 w1 wr : World) (X : Nat) (k : Nat) (ls : List (Nat × List UInt8)) (s : List Int) (tot : List Int × Nat × Int) : Prop where
  st : SSt w0 wr X s
  inv : SInv s
  keep : KeepT 90 w1 wr
  size : w1.heap.size ≤ wr.heap.size
  tot : runS s (ls.drop k) = tot
def FsP (w0 : World) (X : Nat) (x : List (Nat × List UInt8) × Int) (e : Ending) (w' : World) : Prop :=
  ∃ s, SSt w0 w' X s ∧ if x.2 ≠ 0 then e = .returned (.tuple #[.int .i64 0, .int .i64 x.2]) ∧ s = []
    else e = .returned (.tuple #[.int .i64 (runS [] x.1).2.1, .int .i64 (runS [] x.1).2.2]) ∧ s = (runS [] x.1).1
theorem runS_cons {s : List Int} {no : Nat} {tx : List UInt8} {l : List (Nat × List UInt8)} (h : (stS s tx).2 = 0) : runS s ((no, tx) :: l) = runS (stS s tx).1 l := by rw [runS, if_neg (by simpa using h)]
theorem runS_wrong {s : List Int} {no : Nat} {tx : List UInt8} {l : List (Nat × List UInt8)} (h : (stS s tx).2 ≠ 0) : runS s ((no, tx) :: l) = (s, no, (stS s tx).2) := by rw [runS, if_pos h]
theorem stR_wrong {s : List Int} {r : Int × Int × Int} (h : (stR s r).2 ≠ 0) : (stR s r).1 = s := by
  unfold stR at h ⊢
  split
  · rfl
  · split
    · rfl
    · split
      · rfl
      · rename_i h1 h2 h3
        rw [if_neg h1, if_neg h2, if_neg h3] at h
        exact absurd rfl h
set_option maxRecDepth 100000 in
set_option maxHeartbeats 4000000 in
theorem first_sets (s : ByteArray) (w0 w : World) (X : Nat) (h : SSt w0 w X []) (hM : Ml w0) (hX : w0.heap.size ≤ X) (hs : s.size ≤ 100000) :
    Calls Tryz.prog 42 #[.string s, .func (.func 47) #[] #[.pointer (some ⟨X, 0, none⟩)]] w (FsP w0 X (linE s.data.toList)) := by
  have hL := lines_any s w (hM.below h.bel hM.pos) hs
  unfold LinP at hL
  obtain ⟨hb1, hb2⟩ := lin_bd s.data.toList
  obtain ⟨x, hx⟩ : ∃ x, x = linE s.data.toList := ⟨_, rfl⟩
  rw [← hx] at hL hb1 hb2 ⊢
  clear hx
  obtain ⟨ls, er⟩ := x
  simp only at hL hb1 hb2
  have HL := Lib.hid hL
  have HB2 := Lib.hid hb2
  have HS := Lib.hid h
  have HML := Lib.hid hM
  clear hL hb2 h hM
  by_cases h1 : er = 0
  · subst h1
    have HF := Lib.hid (show ∀ e w', (∃ s, SSt w0 w' X s ∧ e = Ending.returned (.tuple #[.int .i64 (runS [] ls).2.1, .int .i64 (runS [] ls).2.2]) ∧ s = (runS [] ls).1) → FsP w0 X (ls, 0) e w' from fun e w' ⟨s, a, b⟩ => ⟨s, a, by simpa using b⟩)
    refine Calls.mono ?_ HF.out
    clear HF
    generalize htot : runS [] ls = tot
    have HT := Lib.hid htot
    clear htot
    obtain ⟨trs, tno, ter⟩ := tot
    go_enter Tryz.func42, Tryz.ntmps42
    go_wp2_with (go_at_call 70; refine HL.out.mono ?_; rintro e w1 ⟨v1, rfl, ho1, hb1'⟩; obtain ⟨A1, c1, rfl, _⟩ := own_lns ho1; have O1 := Lib.hid ho1; have B1 := Lib.hid hb1'; clear ho1 hb1')
    clear HL
    go_loopw [9, 10, 21] (fun _ _ i wr => ∃ k : Nat, i = .int .i64 k ∧ k ≤ ls.length ∧ ∃ rs, Hid (FsR w0 w1 wr X k ls rs (trs, tno, ter))) (fun _ _ i _ => ls.length - (intOf i).toNat)
    case atStart => exact ⟨0, rfl, by omega, [], HS.out.on B1.out, SInv.nil, KeepT.refl _ _, Nat.le_refl _, HT.out⟩
    case round =>
      obtain ⟨k, rfl, hk, rs, HQ⟩ := hrel
      clear HS HT
      by_cases hlt : k < ls.length
      · obtain ⟨A', c', e', hN⟩ := own_lns (HQ.out.keep.own O1.out)
        have e'' : A' = A1 := by injection e' with e1 e2 e3; exact e1.symm
        subst e''
        obtain ⟨b, off, rfl, hb, hc, hd⟩ := hN k hlt
        clear e' hN
        have hy := HB2.out ls[k] (List.getElem_mem hlt)
        have hdr : ls.drop k = ls[k] :: ls.drop (k + 1) := List.drop_eq_getElem_cons hlt
        have hrun := HQ.out.tot
        rw [hdr] at hrun
        generalize ls[k] = y at *
        obtain ⟨no, tx⟩ := y
        simp only at hc hd hy
        obtain ⟨tb, htb⟩ : ∃ tb : ByteArray, tb = ⟨tx.toArray⟩ := ⟨_, rfl⟩
        have htl : tb.data.toList = tx := by rw [htb]
        have htz : tb.size ≤ 512 := by rw [htb, size_mk]; exact hy.2.2
        rw [← htb] at hd
        have hC := sclo_any w0 (wr.alloc (.cells #[.int .i64 no, .string tb] 90)) X no rs tb (HQ.out.st.on ((Below.refl _ wr).alloc (Nat.le_refl _) _)) HML.out hX htz HQ.out.inv
        rw [htl] at hC
        have HI2 := Lib.hid (stR_inv (r := rngE ((fld tx).getD 0 [])) HQ.out.inv)
        have g1 : (k : Int) < ls.length := by omega
        have LK := Lib.hid (show Bk (wr.alloc (.cells #[.int .i64 no, .string tb] 90)) wr.heap.size [.int .i64 no, .string tb] 90 from ⟨heap_alloc_new wr _⟩)
        by_cases h2 : (stS rs tx).2 = 0
        · rw [runS_cons h2] at hrun
          rw [h2] at hC
          change Hid (SInv (stS rs tx).1) at HI2
          generalize stS rs tx = z at *
          obtain ⟨rs2, er2⟩ := z
          simp only at hC hrun h2
          have HC := Lib.hid hC
          have HR := Lib.hid hrun
          clear hC hrun h2 htl htb
          go_wp2_with (go_at_call 47; refine HC.out.mono ?_; rintro e w3 ⟨rfl, hst, hkp⟩; have S3 := Lib.hid hst; have K3 := Lib.hid hkp; clear hst hkp)
          go_roundw
          case rel =>
            have hz := (LK.out.lt)
            have hz2 : w3.heap[wr.heap.size]? = _ := K3.out _ _ _ LK.out.blk
            have hz3 : wr.heap.size < w3.heap.size := (Array.getElem?_eq_some_iff.1 (hz2.trans LK.out.blk)).1
            refine ⟨k + 1, by go_num, by omega, rs2, S3.out, HI2.out, (HQ.out.keep.trans (KeepT.below ((Below.refl _ wr).alloc (Nat.le_refl _) _))).trans K3.out, by have := HQ.out.size; omega, HR.out⟩
          case measure => simp [intOf]; omega
        · rw [runS_wrong h2] at hrun
          have hsame : (stS rs tx).1 = rs := stR_wrong h2
          rw [hsame] at hC
          generalize (stS rs tx).2 = er2 at *
          simp only [Prod.mk.injEq] at hrun
          obtain ⟨rfl, rfl, rfl⟩ := hrun
          have e1 : (er2 != 0) = true := by simpa using h2
          have HC := Lib.hid hC
          clear hC h2 htl htb hsame
          go_wp2_with (go_at_call 47; refine HC.out.mono ?_; rintro e w3 ⟨rfl, hst, hkp⟩; have S3 := Lib.hid hst; have d0 : w3.cell? ⟨wr.heap.size, 0, none⟩ = some (.int .i64 no) := (by have h9 := (hkp _ _ _ LK.out.blk).trans LK.out.blk; simp [World.cell?, h9]); clear hst hkp)
          go_ret2
          exact ⟨rs, S3.out, rfl, rfl⟩
      · have g1 : ¬ (k : Int) < ls.length := by omega
        have hrun := HQ.out.tot
        rw [List.drop_eq_nil_of_le (by omega), runS] at hrun
        simp only [Prod.mk.injEq] at hrun
        obtain ⟨rfl, rfl, rfl⟩ := hrun
        go_wp2_with fail
        go_ret2
        exact ⟨HQ.out.st, rfl⟩
  · have e1 : (er != 0) = true := by simpa using h1
    have HF := Lib.hid (show ∀ e w', (SSt w0 w' X [] ∧ e = Ending.returned (.tuple #[.int .i64 0, .int .i64 er])) → FsP w0 X (ls, er) e w' from fun e w' ⟨a, b⟩ => ⟨[], a, by rw [if_pos h1]; exact ⟨b, rfl⟩⟩)
    refine Calls.mono ?_ HF.out
    clear h1
    go_enter Tryz.func42, Tryz.ntmps42
    go_wp2_with (go_at_call 70; refine HL.out.mono ?_; rintro e w1 ⟨v1, rfl, ho1, hb1'⟩; have B1 := Lib.hid hb1'; clear ho1 hb1')
    go_ret2
    exact ⟨HS.out.on B1.out, rfl⟩

def SetP (w : World) (x : List Int × Nat × Int) (e : Ending) (w' : World) : Prop := ∃ v, e = .returned (.tuple #[v, .int .i64 x.2.1, .int .i64 x.2.2]) ∧ w'.ownsRow w.heap.size 21 1 v x.1.length (i32s x.1) ∧ Below w.heap.size w w'
set_option maxRecDepth 100000 in
set_option maxHeartbeats 4000000 in
theorem sets_any (s : ByteArray) (w : World) (hM : Ml w) (hs : s.size ≤ 100000) : Calls Tryz.prog 23 #[.string s] w (SetP w (setsE s.data.toList)) := by
  obtain ⟨w2, hw2⟩ : ∃ w2, w2 = w.alloc (.cells #[.slice none 0 0] 32) := ⟨_, rfl⟩
  have hb2 : Below w.heap.size w w2 := by rw [hw2]; exact (Below.refl _ w).alloc (Nat.le_refl _) _
  have hx2 : One w2 w.heap.size (.slice none 0 0) 32 := by rw [hw2]; exact ⟨heap_alloc_new w _⟩
  have hS : SSt w w2 w.heap.size [] := ⟨hb2, ⟨_, hx2, World.ownsRow_nil _ _ _ _⟩⟩
  have hF := first_sets s w w2 w.heap.size hS hM (Nat.le_refl _) hs
  unfold FsP at hF
  rw [hw2] at hF
  have hE : setsE s.data.toList = setsE s.data.toList := rfl
  conv at hE => rhs; unfold setsE
  have HE := Lib.hid hE
  clear hE hS hx2 hb2 hw2 hM
  obtain ⟨x, hx⟩ : ∃ x, x = linE s.data.toList := ⟨_, rfl⟩
  have hE := HE.out
  rw [← hx] at hF hE
  clear hx HE
  obtain ⟨ls, er⟩ := x
  simp only at hF hE
  by_cases h1 : er ≠ 0
  · simp only [if_pos h1] at hF hE
    have HF := Lib.hid hF
    have HE := Lib.hid hE
    have e2 : (er != 0) = true := by simpa using h1
    clear hF hE h1
    go_enter Tryz.func23, Tryz.ntmps23
    go_wp2_with (go_at_call 42; refine HF.out.mono ?_; rintro e w3 ⟨rs, hst, rfl, rfl⟩; have S3 := Lib.hid hst; clear hst)
    refine bodyPost_ret (v := .tuple #[.slice none 0 0, .int .i64 0, .int .i64 er]) (by simp [results, Tryz.results23, go_sem]) rfl ⟨_, by rw [HE.out]; rfl, by rw [HE.out]; exact World.ownsRow_nil _ _ _ _, S3.out.bel⟩
  · simp only [if_neg h1] at hF hE
    clear h1 er
    generalize runS [] ls = z at *
    obtain ⟨rs0, no0, er0⟩ := z
    simp only at hF hE
    by_cases h2 : er0 ≠ 0
    · simp only [if_pos h2] at hE
      have HF := Lib.hid hF
      have HE := Lib.hid hE
      have e2 : (er0 != 0) = true := by simpa using h2
      clear hF hE h2
      go_enter Tryz.func23, Tryz.ntmps23
      go_wp2_with (go_at_call 42; refine HF.out.mono ?_; rintro e w3 ⟨rs, hst, rfl, rfl⟩; have S3 := Lib.hid hst; clear hst)
      refine bodyPost_ret (v := .tuple #[.slice none 0 0, .int .i64 no0, .int .i64 er0]) (by simp [results, Tryz.results23, go_sem]) rfl ⟨_, by rw [HE.out], by rw [HE.out]; exact World.ownsRow_nil _ _ _ _, S3.out.bel⟩
    · obtain rfl : er0 = 0 := by simpa using h2
      simp only [ne_eq, not_true_eq_false, if_false] at hE
      have HF := Lib.hid hF
      have HE := Lib.hid hE
      clear hF hE h2
      go_enter Tryz.func23, Tryz.ntmps23
      go_wp2_with (go_at_call 42; refine HF.out.mono ?_; rintro e w3 ⟨rs, hst, rfl, rfl⟩; have S3 := Lib.hid hst; obtain ⟨v3, ox3, hin3⟩ := hst.ox; have c4 := ox3.c; have L3 := Lib.hid hin3; clear hst ox3 hin3)
      refine bodyPost_ret (v := .tuple #[v3, .int .i64 0, .int .i64 0]) (by simp [results, Tryz.results23, go_sem]) rfl ⟨v3, by rw [HE.out]; rfl, by rw [HE.out]; exact L3.out, S3.out.bel⟩

end Go.Proofs.YtagbeioooohbgaaGreatDoor.Uc

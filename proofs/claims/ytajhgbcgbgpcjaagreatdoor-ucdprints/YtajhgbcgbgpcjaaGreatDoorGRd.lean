import Derived.Test.YtajhgbcgbgpcjaaGreatDoorGRc
namespace Go.Proofs.YtajhgbcgbgpcjaaGreatDoor.Uc
open Go.RowKit Fi

structure RpR (w wr : World) (k : Nat) (l : List Rw) (sb : ByteArray) : Prop where
  bel : Below w.heap.size w wr
  txt : sb.data.toList = (l.take k).flatMap lineS
  rise : Rise (l.take k)
set_option maxRecDepth 100000 in
set_option maxHeartbeats 16000000 in
theorem rprint_any (A : Option Addr) (p : Nat) (l : List Rw) (w : World) (hR : Rws w A l) (hz : l.length ≤ 100) (hB : ∀ x ∈ l, x.nm.length ≤ 100000 ∧ x.ct.length ≤ 100000 ∧ x.kd.length ≤ 300 ∧ x.into.length ≤ 100000) :
    Calls Tryz.prog 10 #[.slice A l.length p] w (PrP w l) := by
  have HR := Lib.hid hR
  have HB := Lib.hid hB
  clear hR hB
  go_enter Tryz.func10, Tryz.ntmps10
  go_wp2_with fail
  go_loopw [4, 5] (fun i _ wr => ∃ k : Nat, i = .int .i64 k ∧ k ≤ l.length ∧ Hid (Below w.heap.size w wr ∧ chks (l.drop k) = chks l)) (fun i _ _ => l.length - (intOf i).toNat)
  case atStart => exact ⟨0, rfl, by omega, Below.refl _ _, rfl⟩
  case round =>
    obtain ⟨k, rfl, hk, HQ⟩ := hrel
    by_cases hlt : k < l.length
    · obtain ⟨b, off, v, rfl, hb, hv, p0, p1, p2, p3, p4, p5, p6⟩ := (HR.out.below HQ.out.1) k hlt
      have hon := chks_on hlt
      have hbb := HB.out l[k] (List.getElem_mem hlt)
      generalize l[k] = y at *
      obtain ⟨f, tt, nm, ct, cl, kd, into⟩ := y
      obtain ⟨A3, c3, rfl, hi3⟩ := hv
      simp only at p0 p1 p2 p3 p4 p5 p6 hi3 hbb
      have g2 : (k : Int) < l.length := by omega
      have D1 := Lib.hid HQ.out.1
      have hC := rcheck_any f tt cl ⟨nm.toArray⟩ ⟨ct.toArray⟩ ⟨kd.toArray⟩ A3 c3 into wr hi3 hbb.2.2.2 (by rw [size_mk]; exact hbb.1) (by rw [size_mk]; exact hbb.2.1) (by rw [size_mk]; omega)
      rw [lst_mk, lst_mk, lst_mk] at hC
      generalize chkE ⟨f, tt, nm, ct, cl, kd, into⟩ = er at *
      have HC := Lib.hid hC
      clear hC hi3
      by_cases h1 : er = 0
      · subst h1
        have HQ2 := Lib.hid (show chks (l.drop (k + 1)) = chks l by rw [← HQ.out.2, hon, if_neg (by simp)])
        clear hon
        go_wp2_with (go_at_call 8; refine HC.out.mono ?_; rintro e w2 ⟨rfl, hb2⟩; have D2 := Lib.hid (D1.out.trans (hb2.mono D1.out.size)); clear hb2)
        go_roundw
        case rel => exact ⟨k + 1, by go_num, by omega, D2.out, HQ2.out⟩
        case measure => simp [intOf]; omega
      · have HQ2 := Lib.hid (show chks l = er by rw [← HQ.out.2, hon, if_pos h1])
        have e1 : (er != 0) = true := by simpa using h1
        clear hon
        go_wp2_with (go_at_call 8; refine HC.out.mono ?_; rintro e w2 ⟨rfl, hb2⟩; have D2 := Lib.hid (D1.out.trans (hb2.mono D1.out.size)); clear hb2)
        go_ret2
        exact ⟨.inl ⟨by rw [HQ2.out]; exact h1, by rw [HQ2.out]; rfl⟩, D2.out⟩
    · have g1 : ¬ (k : Int) < l.length := by omega
      have HC0 := Lib.hid (show chks l = 0 by rw [← HQ.out.2, List.drop_eq_nil_of_le (by omega)]; rfl)
      have D0 := Lib.hid HQ.out.1
      clear HQ
      obtain ⟨w1, hw1⟩ : ∃ x, x = wr := ⟨_, rfl⟩
      subst hw1
      have HOK := Lib.hid (fun x hx => chk_ok (chks_all HC0.out x hx))
      have HLN := Lib.hid (fun (x : Rw) (hx : x ∈ l) => lineS_len (HOK.out x hx) (by have := (HB.out x hx).2.2.1; omega))
      go_wp2_with fail
      go_loopw [6, 7] (fun s i wx => ∃ (k : Nat) (sb : ByteArray), i = .int .i64 k ∧ s = .string sb ∧ k ≤ l.length ∧ Hid (RpR w wx k l sb)) (fun _ i _ => l.length - (intOf i).toNat)
      case atStart => exact ⟨0, ⟨#[]⟩, rfl, rfl, by omega, D0.out, rfl, rise_nil⟩
      case round =>
        obtain ⟨k, sb, rfl, rfl, hk, HQ⟩ := hrel
        have HQb := Lib.hid HQ.out.bel
        have hfl := flat_len (l := l.take k) (fun x hx => HLN.out x (List.mem_of_mem_take hx))
        have hft := List.length_take_le k l
        have hsz : sb.size ≤ 400000 := by rw [← lst_len, HQ.out.txt]; omega
        clear hfl hft
        by_cases hlt : k < l.length
        · obtain ⟨b, off, v, rfl, hb, hv, p0, p1, p2, p3, p4, p5, p6⟩ := HR.out k hlt
          have hbb := (HB.out l[k] (List.getElem_mem hlt)).2.2.1
          have hok := HOK.out l[k] (List.getElem_mem hlt)
          have hll := HLN.out l[k] (List.getElem_mem hlt)
          have hrt := rise_take hlt
          have htk : (l.take (k + 1)).flatMap lineS = (l.take k).flatMap lineS ++ lineS l[k] := by rw [List.take_succ_eq_append_getElem hlt, List.flatMap_append]; simp
          have hpv : ∀ h0 : 0 < k, ∃ pt, (l[k - 1]'(by omega)).tt = pt ∧ wr.cell? ⟨b, off + (k - 1) * 7 + 1, none⟩ = some (.int .i32 pt) := fun h0 => by
            obtain ⟨b', off', v', e', hb', _, _, q1, _⟩ := HR.out (k - 1) (by omega)
            simp only [Option.some.injEq, Addr.mk.injEq] at e'
            obtain ⟨rfl, rfl, _⟩ := e'
            exact ⟨_, rfl, (HQb.out.cell (p := ⟨b, off + (k - 1) * 7 + 1, none⟩) hb').trans q1⟩
          have HPV := Lib.hid hpv
          have HRT := Lib.hid hrt
          have HTK := Lib.hid htk
          clear hpv hrt htk
          generalize l[k] = y at *
          obtain ⟨f, tt, nm, ct, cl, kd, into⟩ := y
          obtain ⟨A3, c3, rfl, hi3⟩ := hv
          simp only at p0 p1 p2 p3 p4 p5 p6 hi3 hbb
          have hnl := plB_len hok.nm
          have hcl := plB_len hok.ct
          simp only at hnl hcl
          obtain ⟨nb, hnb⟩ : ∃ nb : ByteArray, nb = ⟨nm.toArray⟩ := ⟨_, rfl⟩
          obtain ⟨cb, hcb⟩ : ∃ cb : ByteArray, cb = ⟨ct.toArray⟩ := ⟨_, rfl⟩
          obtain ⟨kb, hkb⟩ : ∃ kb : ByteArray, kb = ⟨kd.toArray⟩ := ⟨_, rfl⟩
          have nz : nb.size ≤ 100 := by rw [hnb, size_mk]; exact hnl
          have cz : cb.size ≤ 100 := by rw [hcb, size_mk]; exact hcl
          have kz : kb.size ≤ 300 := by rw [hkb, size_mk]; exact hbb
          rw [← hnb] at p2
          rw [← hcb] at p3
          rw [← hkb] at p5
          have hLo := fun W (h9 : Below w.heap.size w W) c (hc9 : scal c = true) (q : ByteArray) (hq : q.size ≤ 1000) => rline_any c f tt cl q nb cb kb A3 c3 into W (hi3.below h9) hc9 hok.sc hok.len hok.cl0 hok.cl1 hq (by omega) (by omega)
          rw [show cb.data.toList = ct by rw [hcb], show kb.data.toList = kd by rw [hkb]] at hLo
          have HLo := Lib.hid hLo
          have HNB := Lib.hid (show nb.data.toList = nm by rw [hnb])
          have HOk := Lib.hid hok
          have HCl := Lib.hid (show ∀ W, Below w.heap.size w W → (W.cell? ⟨b, off + k * 7, none⟩ = some (.int .i32 f) ∧ W.cell? ⟨b, off + k * 7 + 1, none⟩ = some (.int .i32 tt) ∧ W.cell? ⟨b, off + k * 7 + 2, none⟩ = some (.string nb) ∧ W.cell? ⟨b, off + k * 7 + 3, none⟩ = some (.string cb) ∧ W.cell? ⟨b, off + k * 7 + 4, none⟩ = some (.int .i64 cl) ∧ W.cell? ⟨b, off + k * 7 + 5, none⟩ = some (.string kb) ∧ W.cell? ⟨b, off + k * 7 + 6, none⟩ = some (.slice A3 into.length c3)) from fun W h9 => ⟨(h9.cell (p := ⟨b, off + k * 7, none⟩) hb).trans p0, (h9.cell (p := ⟨b, off + k * 7 + 1, none⟩) hb).trans p1, (h9.cell (p := ⟨b, off + k * 7 + 2, none⟩) hb).trans p2, (h9.cell (p := ⟨b, off + k * 7 + 3, none⟩) hb).trans p3, (h9.cell (p := ⟨b, off + k * 7 + 4, none⟩) hb).trans p4, (h9.cell (p := ⟨b, off + k * 7 + 5, none⟩) hb).trans p5, (h9.cell (p := ⟨b, off + k * 7 + 6, none⟩) hb).trans p6⟩)
          obtain ⟨x0, x1, x2, x3, x4, x5, x6⟩ := HCl.out _ HQb.out
          clear hLo hi3 hnb hcb hkb hok p0 p1 p2 p3 p4 p5 p6 hnl hcl
          have zw : w.heap.size ≤ wr.heap.size := HQb.out.size
          have g2 : (k : Int) < l.length := by omega
          have i00 : (0 : Int) ≤ k := by omega
          rcases Nat.eq_zero_or_pos k with hk0 | hkp
          · subst hk0
            simp only [Nat.zero_mul, Nat.add_zero] at x0 x1 x2 x3 x4 x5 x6 HCl
            have HRS := Lib.hid (show Rise (l.take (0 + 1)) from HRT.out.2 ⟨HQ.out.rise, fun h0 => absurd h0 (by omega)⟩)
            go_upto_region 11 with fail
            go_quiet (fail)
            go_upto_region 13 with fail
            have DW := Lib.hid (show Below w.heap.size w (wr.drewN nq) from bel_drewN HQb.out _)
            obtain ⟨y0, y1, y2, y3, y4, y5, y6⟩ := HCl.out _ DW.out
            have zw2 : w.heap.size ≤ (wr.drewN nq).heap.size := DW.out.size
            clear x0 x1 x2 x3 x4 x5 x6
            generalize wr.drewN nq = w3 at *
            by_cases hft : f = tt
            · subst hft
              have hLn := fun W h9 => HLo.out W h9 f HOk.out.fr nb (by omega)
              rw [HNB.out] at hLn
              have HLS := Lib.hid (show lineS ⟨f, f, nm, ct, cl, kd, into⟩ = lnE f nm ct cl kd into by unfold lineS; simp)
              obtain ⟨lb, hlb⟩ : ∃ lb : ByteArray, lb = ⟨(lnE f nm ct cl kd into).toArray⟩ := ⟨_, rfl⟩
              rw [← hlb] at hLn
              have lz : lb.size ≤ 4000 := by rw [hlb, size_mk, ← HLS.out]; exact hll
              have HLb := Lib.hid hlb
              have HLn := Lib.hid hLn
              clear hLn hlb hll
              have d1 : ¬ 9223372036854775807 < sb.size + lb.size := by omega
              go_quiet (fail)
              go_upto_region 14 with fail
              have DX := Lib.hid (show Below w.heap.size w (w3.drewN nq) from bel_drewN DW.out _)
              obtain ⟨u0, u1, u2, u3, u4, u5, u6⟩ := HCl.out _ DX.out
              clear y0 y1 y2 y3 y4 y5 y6
              generalize w3.drewN nq = w5 at *
              go_region_held3 (fun W => (W.cell? ⟨b, off, none⟩ = some (.int .i32 f) ∧ W.cell? ⟨b, off + 1, none⟩ = some (.int .i32 f) ∧ W.cell? ⟨b, off + 2, none⟩ = some (.string nb) ∧ W.cell? ⟨b, off + 3, none⟩ = some (.string cb) ∧ W.cell? ⟨b, off + 4, none⟩ = some (.int .i64 cl) ∧ W.cell? ⟨b, off + 5, none⟩ = some (.string kb) ∧ W.cell? ⟨b, off + 6, none⟩ = some (.slice A3 into.length c3)))
                (first | go_keep | exact HCl.out _ E7.out)
                (first | (go_at_call 23; refine (HLn.out _ (by repeat (first | exact DX.out | refine Below.drew ?_))).mono ?_; rintro e w7 ⟨rfl, hb7⟩; have E7 := Lib.hid (show Below w.heap.size w w7 from Below.trans (by repeat (first | exact DX.out | refine Below.drew ?_)) (hb7.mono (by first | exact DX.out.size | (simp; exact DX.out.size)))); clear hb7))
              all_goals
                go_wp2_with fail
                go_roundw
                case rel => exact ⟨0 + 1, sb ++ lb, by go_num, rfl, by omega, E7.out, by rw [app_lst, HTK.out, HLS.out, HQ.out.txt, HLb.out], HRS.out⟩
                case measure => simp [intOf]; omega
            · have ef : (f == tt) = false := by simpa using hft
              obtain ⟨q1, hq1⟩ : ∃ q1 : ByteArray, q1 = ⟨#[60]⟩ ++ nb ++ ⟨#[44, 32, 70, 105, 114, 115, 116, 62]⟩ := ⟨_, rfl⟩
              obtain ⟨q2, hq2⟩ : ∃ q2 : ByteArray, q2 = ⟨#[60]⟩ ++ nb ++ ⟨#[44, 32, 76, 97, 115, 116, 62]⟩ := ⟨_, rfl⟩
              have hl1 : q1.data.toList = 60 :: (nm ++ firstE) := by rw [hq1]; simp [HNB.out, firstE]
              have hl2 : q2.data.toList = 60 :: (nm ++ lastE) := by rw [hq2]; simp [HNB.out, lastE]
              have z1 : q1.size ≤ 200 := by rw [← lst_len, hl1, List.length_cons, List.length_append, show firstE.length = 8 from rfl, ← HNB.out, lst_len]; omega
              have z2 : q2.size ≤ 200 := by rw [← lst_len, hl2, List.length_cons, List.length_append, show lastE.length = 7 from rfl, ← HNB.out, lst_len]; omega
              have hL1 := fun W h9 => HLo.out W h9 f HOk.out.fr q1 (by omega)
              have hL2 := fun W h9 => HLo.out W h9 tt HOk.out.tt q2 (by omega)
              rw [hl1, hq1] at hL1
              rw [hl2, hq2] at hL2
              obtain ⟨la, hla⟩ : ∃ la : ByteArray, la = ⟨(lnE f (60 :: (nm ++ firstE)) ct cl kd into).toArray⟩ := ⟨_, rfl⟩
              obtain ⟨lb, hlb⟩ : ∃ lb : ByteArray, lb = ⟨(lnE tt (60 :: (nm ++ lastE)) ct cl kd into).toArray⟩ := ⟨_, rfl⟩
              have HLS := Lib.hid (show lineS ⟨f, tt, nm, ct, cl, kd, into⟩ = la.data.toList ++ lb.data.toList by rw [hla, hlb]; unfold lineS; rw [if_neg hft])
              have lz : la.size + lb.size ≤ 4000 := by rw [← lst_len, ← lst_len, ← List.length_append, ← HLS.out]; exact hll
              rw [← hla] at hL1
              rw [← hlb] at hL2
              have HL1 := Lib.hid hL1
              have HL2 := Lib.hid hL2
              clear hL1 hL2 hl1 hl2 hq1 hq2 z1 z2 hft hla hlb hll
              have d1 : ¬ 9223372036854775806 < nb.size := by omega
              have d2 : ¬ 9223372036854775807 < 1 + nb.size := by omega
              have d3 : ¬ 9223372036854775799 < 1 + nb.size := by omega
              have d4 : ¬ 9223372036854775800 < 1 + nb.size := by omega
              have d5 : ¬ 9223372036854775807 < 1 + nb.size + 8 := by omega
              have d6 : ¬ 9223372036854775807 < 1 + nb.size + 7 := by omega
              have d7 : ¬ 9223372036854775807 < sb.size + la.size := by omega
              have d8 : ¬ 9223372036854775807 < sb.size + la.size + lb.size := by omega
              have d9 : ¬ 9223372036854775807 ≤ nb.size := by omega
              have d10 : nb.size < 9223372036854775807 := by omega
              go_quiet (fail)
              go_upto_region 15 with fail
              have DX := Lib.hid (show Below w.heap.size w (w3.drewN nq) from bel_drewN DW.out _)
              obtain ⟨u0, u1, u2, u3, u4, u5, u6⟩ := HCl.out _ DX.out
              clear y0 y1 y2 y3 y4 y5 y6
              generalize w3.drewN nq = w5 at *
              have zx := DX.out.size
              go_region_held3 (fun W => (W.cell? ⟨b, off, none⟩ = some (.int .i32 f) ∧ W.cell? ⟨b, off + 1, none⟩ = some (.int .i32 tt) ∧ W.cell? ⟨b, off + 2, none⟩ = some (.string nb) ∧ W.cell? ⟨b, off + 3, none⟩ = some (.string cb) ∧ W.cell? ⟨b, off + 4, none⟩ = some (.int .i64 cl) ∧ W.cell? ⟨b, off + 5, none⟩ = some (.string kb) ∧ W.cell? ⟨b, off + 6, none⟩ = some (.slice A3 into.length c3)))
                (first | go_keep | exact HCl.out _ E7.out | exact HCl.out _ E8.out)
                (first
                  | (go_at_call 23; (with_reducible refine (HL1.out _ (by repeat (first | exact DX.out | exact E8.out | refine Below.drew ?_))).mono ?_); rintro e w7 ⟨rfl, hb7⟩; have E7 := Lib.hid (show Below w.heap.size w w7 from Below.trans (by repeat (first | exact DX.out | exact E8.out | refine Below.drew ?_)) (hb7.mono (by first | omega | (simp; omega) | exact E8.out.size | (simp; exact E8.out.size)))); have z7 := E7.out.size; clear hb7)
                  | (go_at_call 23; (with_reducible refine (HL2.out _ (by repeat (first | exact DX.out | exact E7.out | refine Below.drew ?_))).mono ?_); rintro e w8 ⟨rfl, hb8⟩; have E8 := Lib.hid (show Below w.heap.size w w8 from Below.trans (by repeat (first | exact DX.out | exact E7.out | refine Below.drew ?_)) (hb8.mono (by first | omega | (simp; omega) | exact E7.out.size | (simp; exact E7.out.size)))); have z8 := E8.out.size; clear hb8))
              all_goals
                go_wp2_with fail
                go_roundw
                case rel => exact ⟨0 + 1, sb ++ la ++ lb, by go_num, rfl, by omega, by first | exact E8.out | exact E7.out, by rw [app_lst, app_lst, HTK.out, HLS.out, HQ.out.txt, List.append_assoc], HRS.out⟩
                case measure => simp [intOf]; omega
          · obtain ⟨pt, hpt, cp⟩ := HPV.out hkp
            have i0 : (0 : Int) < k := by omega
            have j1 : ((k : Int) - 1).toNat = k - 1 := by omega
            have j2 : IntKind.i64.wrap ((k : Int) - 1) = ((k - 1 : Nat) : Int) := by rw [IntKind.wrap_i64]; omega
            have j3 : ((k - 1 : Nat) : Int) < l.length := by omega
            have j4 : (0 : Int) ≤ ((k - 1 : Nat) : Int) := by omega
            have j5 : (k : Int) - 1 < l.length := by omega
            have j6 : (0 : Int) ≤ (k : Int) - 1 := by omega
            by_cases hth : f ≤ pt
            · have HNR := Lib.hid (show ¬ Rise l from fun h9 => by
                have h8 := (HRT.out.1 (rise_of_take h9)).2 hkp
                rw [hpt] at h8
                simp only at h8
                omega)
              clear hpt
              go_upto_region 11 with fail
              go_quiet (fail)
              go_wp2_with fail
              go_ret2
              exact ⟨.inr (.inl ⟨HC0.out, HNR.out, rfl⟩), bel_drewN HQb.out _⟩
            · have HRS := Lib.hid (show Rise (l.take (k + 1)) from HRT.out.2 ⟨HQ.out.rise, fun _ => by rw [hpt]; show pt < f; omega⟩)
              clear hpt
              go_upto_region 11 with fail
              go_quiet (fail)
              go_upto_region 13 with fail
              have DW := Lib.hid (show Below w.heap.size w (wr.drewN nq) from bel_drewN HQb.out _)
              obtain ⟨y0, y1, y2, y3, y4, y5, y6⟩ := HCl.out _ DW.out
              have zw2 : w.heap.size ≤ (wr.drewN nq).heap.size := DW.out.size
              clear x0 x1 x2 x3 x4 x5 x6 cp i0 j1 j2 j3 j4 j5 j6
              generalize wr.drewN nq = w3 at *
              by_cases hft : f = tt
              · subst hft
                have hLn := fun W h9 => HLo.out W h9 f HOk.out.fr nb (by omega)
                rw [HNB.out] at hLn
                have HLS := Lib.hid (show lineS ⟨f, f, nm, ct, cl, kd, into⟩ = lnE f nm ct cl kd into by unfold lineS; simp)
                obtain ⟨lb, hlb⟩ : ∃ lb : ByteArray, lb = ⟨(lnE f nm ct cl kd into).toArray⟩ := ⟨_, rfl⟩
                rw [← hlb] at hLn
                have lz : lb.size ≤ 4000 := by rw [hlb, size_mk, ← HLS.out]; exact hll
                have HLb := Lib.hid hlb
                have HLn := Lib.hid hLn
                clear hLn hlb hll
                have d1 : ¬ 9223372036854775807 < sb.size + lb.size := by omega
                go_quiet (fail)
                go_upto_region 14 with fail
                have DX := Lib.hid (show Below w.heap.size w (w3.drewN nq) from bel_drewN DW.out _)
                obtain ⟨u0, u1, u2, u3, u4, u5, u6⟩ := HCl.out _ DX.out
                clear y0 y1 y2 y3 y4 y5 y6
                generalize w3.drewN nq = w5 at *
                go_region_held3 (fun W => (W.cell? ⟨b, off + k * 7, none⟩ = some (.int .i32 f) ∧ W.cell? ⟨b, off + k * 7 + 1, none⟩ = some (.int .i32 f) ∧ W.cell? ⟨b, off + k * 7 + 2, none⟩ = some (.string nb) ∧ W.cell? ⟨b, off + k * 7 + 3, none⟩ = some (.string cb) ∧ W.cell? ⟨b, off + k * 7 + 4, none⟩ = some (.int .i64 cl) ∧ W.cell? ⟨b, off + k * 7 + 5, none⟩ = some (.string kb) ∧ W.cell? ⟨b, off + k * 7 + 6, none⟩ = some (.slice A3 into.length c3)))
                  (first | go_keep | exact HCl.out _ E7.out)
                  (first | (go_at_call 23; refine (HLn.out _ (by repeat (first | exact DX.out | refine Below.drew ?_))).mono ?_; rintro e w7 ⟨rfl, hb7⟩; have E7 := Lib.hid (show Below w.heap.size w w7 from Below.trans (by repeat (first | exact DX.out | refine Below.drew ?_)) (hb7.mono (by first | exact DX.out.size | (simp; exact DX.out.size)))); clear hb7))
                all_goals
                  go_wp2_with fail
                  go_roundw
                  case rel => exact ⟨k + 1, sb ++ lb, by go_num, rfl, by omega, E7.out, by rw [app_lst, HTK.out, HLS.out, HQ.out.txt, HLb.out], HRS.out⟩
                  case measure => simp [intOf]; omega
              · have ef : (f == tt) = false := by simpa using hft
                obtain ⟨q1, hq1⟩ : ∃ q1 : ByteArray, q1 = ⟨#[60]⟩ ++ nb ++ ⟨#[44, 32, 70, 105, 114, 115, 116, 62]⟩ := ⟨_, rfl⟩
                obtain ⟨q2, hq2⟩ : ∃ q2 : ByteArray, q2 = ⟨#[60]⟩ ++ nb ++ ⟨#[44, 32, 76, 97, 115, 116, 62]⟩ := ⟨_, rfl⟩
                have hl1 : q1.data.toList = 60 :: (nm ++ firstE) := by rw [hq1]; simp [HNB.out, firstE]
                have hl2 : q2.data.toList = 60 :: (nm ++ lastE) := by rw [hq2]; simp [HNB.out, lastE]
                have z1 : q1.size ≤ 200 := by rw [← lst_len, hl1, List.length_cons, List.length_append, show firstE.length = 8 from rfl, ← HNB.out, lst_len]; omega
                have z2 : q2.size ≤ 200 := by rw [← lst_len, hl2, List.length_cons, List.length_append, show lastE.length = 7 from rfl, ← HNB.out, lst_len]; omega
                have hL1 := fun W h9 => HLo.out W h9 f HOk.out.fr q1 (by omega)
                have hL2 := fun W h9 => HLo.out W h9 tt HOk.out.tt q2 (by omega)
                rw [hl1, hq1] at hL1
                rw [hl2, hq2] at hL2
                obtain ⟨la, hla⟩ : ∃ la : ByteArray, la = ⟨(lnE f (60 :: (nm ++ firstE)) ct cl kd into).toArray⟩ := ⟨_, rfl⟩
                obtain ⟨lb, hlb⟩ : ∃ lb : ByteArray, lb = ⟨(lnE tt (60 :: (nm ++ lastE)) ct cl kd into).toArray⟩ := ⟨_, rfl⟩
                have HLS := Lib.hid (show lineS ⟨f, tt, nm, ct, cl, kd, into⟩ = la.data.toList ++ lb.data.toList by rw [hla, hlb]; unfold lineS; rw [if_neg hft])
                have lz : la.size + lb.size ≤ 4000 := by rw [← lst_len, ← lst_len, ← List.length_append, ← HLS.out]; exact hll
                rw [← hla] at hL1
                rw [← hlb] at hL2
                have HL1 := Lib.hid hL1
                have HL2 := Lib.hid hL2
                clear hL1 hL2 hl1 hl2 hq1 hq2 z1 z2 hft hla hlb hll
                have d1 : ¬ 9223372036854775806 < nb.size := by omega
                have d2 : ¬ 9223372036854775807 < 1 + nb.size := by omega
                have d3 : ¬ 9223372036854775799 < 1 + nb.size := by omega
                have d4 : ¬ 9223372036854775800 < 1 + nb.size := by omega
                have d5 : ¬ 9223372036854775807 < 1 + nb.size + 8 := by omega
                have d6 : ¬ 9223372036854775807 < 1 + nb.size + 7 := by omega
                have d7 : ¬ 9223372036854775807 < sb.size + la.size := by omega
                have d8 : ¬ 9223372036854775807 < sb.size + la.size + lb.size := by omega
                have d9 : ¬ 9223372036854775807 ≤ nb.size := by omega
                have d10 : nb.size < 9223372036854775807 := by omega
                go_quiet (fail)
                go_upto_region 15 with fail
                have DX := Lib.hid (show Below w.heap.size w (w3.drewN nq) from bel_drewN DW.out _)
                obtain ⟨u0, u1, u2, u3, u4, u5, u6⟩ := HCl.out _ DX.out
                clear y0 y1 y2 y3 y4 y5 y6
                generalize w3.drewN nq = w5 at *
                have zx := DX.out.size
                go_region_held3 (fun W => (W.cell? ⟨b, off + k * 7, none⟩ = some (.int .i32 f) ∧ W.cell? ⟨b, off + k * 7 + 1, none⟩ = some (.int .i32 tt) ∧ W.cell? ⟨b, off + k * 7 + 2, none⟩ = some (.string nb) ∧ W.cell? ⟨b, off + k * 7 + 3, none⟩ = some (.string cb) ∧ W.cell? ⟨b, off + k * 7 + 4, none⟩ = some (.int .i64 cl) ∧ W.cell? ⟨b, off + k * 7 + 5, none⟩ = some (.string kb) ∧ W.cell? ⟨b, off + k * 7 + 6, none⟩ = some (.slice A3 into.length c3)))
                  (first | go_keep | exact HCl.out _ E7.out | exact HCl.out _ E8.out)
                  (first
                    | (go_at_call 23; (with_reducible refine (HL1.out _ (by repeat (first | exact DX.out | exact E8.out | refine Below.drew ?_))).mono ?_); rintro e w7 ⟨rfl, hb7⟩; have E7 := Lib.hid (show Below w.heap.size w w7 from Below.trans (by repeat (first | exact DX.out | exact E8.out | refine Below.drew ?_)) (hb7.mono (by first | omega | (simp; omega) | exact E8.out.size | (simp; exact E8.out.size)))); have z7 := E7.out.size; clear hb7)
                    | (go_at_call 23; (with_reducible refine (HL2.out _ (by repeat (first | exact DX.out | exact E7.out | refine Below.drew ?_))).mono ?_); rintro e w8 ⟨rfl, hb8⟩; have E8 := Lib.hid (show Below w.heap.size w w8 from Below.trans (by repeat (first | exact DX.out | exact E7.out | refine Below.drew ?_)) (hb8.mono (by first | omega | (simp; omega) | exact E7.out.size | (simp; exact E7.out.size)))); have z8 := E8.out.size; clear hb8))
                all_goals
                  go_wp2_with fail
                  go_roundw
                  case rel => exact ⟨k + 1, sb ++ la ++ lb, by go_num, rfl, by omega, by first | exact E8.out | exact E7.out, by rw [app_lst, app_lst, HTK.out, HLS.out, HQ.out.txt, List.append_assoc], HRS.out⟩
                  case measure => simp [intOf]; omega
        · have g2 : ¬ (k : Int) < l.length := by omega
          obtain rfl : k = l.length := by omega
          have HRl := Lib.hid HQ.out.rise
          have HTx := Lib.hid HQ.out.txt
          rw [List.take_length] at HRl HTx
          go_wp2_with fail
          go_ret2
          exact ⟨.inr (.inr ⟨HC0.out, HRl.out, by rw [← HTx.out]; rfl⟩), HQb.out⟩

end Go.Proofs.YtajhgbcgbgpcjaaGreatDoor.Uc

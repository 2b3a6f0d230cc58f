import Derived.Test.YthnfopjjghohcaaDoorSMp
namespace Go.Proofs.YthnfopjjghohcaaDoor.St
open Go.RowKit

set_option maxRecDepth 100000 in
set_option maxHeartbeats 4000000 in
theorem feed_any (base B : Nat) (fv : Value) (k : Nat) (pol : Int) (g : Bool) (L : List Nat) (A : Option Addr) (c : Nat) (xs : List ByteArray) (w : World) (hF : Fed w base B fv k pol g L) (hT : Tabs w) (hp : 0 + 1 + 1 ≤ base) (h1 : 1 ≤ k) (h5 : k ≤ 5) (hq : pol = 1 ∨ pol = 2 ∨ pol = 3)
    (hx : Strs w A c xs) (hA : ∀ a, A = some a → a.block ≠ B ∧ fv.ownBlock ≠ some a.block) (hn : xs.length ≤ 100000) (hz : L.length + (bs (catB xs)).length ≤ 90000) :
    Calls Tryd.prog 17 #[.pointer (some ⟨B, 0, none⟩), .slice A xs.length c] w (FeedP w base B fv k pol g L (xs.length = 1) (L ++ bs (catB xs))) := by
  obtain ⟨i0, hi0, hz0, hz1, hz2⟩ := info_parts r_info
  have I0 := Lib.hid hi0
  have I1 := Lib.hid hz0
  have I2 := Lib.hid hz1
  have I3 := Lib.hid hz2
  clear hi0 hz0 hz1 hz2
  have HF := Lib.hid hF
  have HT := Lib.hid hT
  have HX := Lib.hid hx
  have HA := Lib.hid hA
  obtain ⟨wt0, hwt0, he0, hD0⟩ := hF
  have HD0 := Lib.hid hD0
  have HRF := Lib.hid (refuses_ok base B fv L.length wt0 _ _ pol _ w hD0)
  have hSL : ∀ q, (bs (catB (xs.take q))).length ≤ (bs (catB xs)).length := fun q => by
    rw [cat_rest xs q, List.length_append]; omega
  have HSL := Lib.hid hSL
  clear hT hx hA hwt0 he0 hD0 hSL
  go_enter Tryd.func17, Tryd.ntmps17
  go_wp2_with (go_at_call 28; refine HRF.out.mono ?_; rintro e w' ⟨rfl, rfl⟩)
  go_loopw [7, 19] (fun out i wr => ∃ q : Nat, i = .int .i64 q ∧ q ≤ xs.length ∧ ∃ fv' o, Hid (Fed wr base B fv' k pol g (L ++ bs (catB (xs.take q))) ∧ Stp B w fv wr fv' ∧ wr.ownsRow w.heap.size 21 1 out o.length (i32s o) ∧ (Dg.sure k pol g L).1 ++ o = (Dg.sure k pol g (L ++ bs (catB (xs.take q)))).1)) (fun _ i _ => xs.length - (intOf i).toNat)
  case atStart => exact ⟨0, rfl, by omega, fv, [], by simpa [catB, bs] using HF.out, Stp.refl _ _ _, World.ownsRow_nil _ _ _ _, by simp [catB, bs]⟩
  case round =>
    obtain ⟨q, rfl, hq', fv', o, HR⟩ := hrel
    by_cases hlt : q < xs.length
    · have hlt' : (q : Int) < xs.length := by omega
      obtain ⟨wt, hwt, he, hD⟩ := HR.out.1
      have hS := HR.out.2.1.strs HX.out HA.out
      obtain ⟨s, hs⟩ : ∃ s, xs[q] = s := ⟨_, rfl⟩
      have hxq : xs[q]? = some s := by rw [List.getElem?_eq_getElem hlt, hs]
      have hcm := cat_more xs q hlt
      rw [hs] at hcm
      have hlq := HSL.out q
      have hlq1 := HSL.out (q + 1)
      rw [hcm, List.length_append, bs_len s] at hlq1
      rcases hS with hS | ⟨bk, off, rfl, hbk, hxc, hcell⟩
      · rw [hS] at hlt; simp at hlt
      have kc := hcell q s hxq
      have HCM := Lib.hid hcm
      clear hcm hcell hxq hs
      generalize hLq : L ++ bs (catB (xs.take q)) = Lq at *
      have hLz : Lq.length + s.size ≤ 90000 := by rw [← hLq, List.length_append]; omega
      have HLQ := Lib.hid hLq
      clear hLq
      obtain ⟨p1, p2, p3, p4, p5, p6, p7, p8⟩ := part_eqs k pol g Lq wt s hwt he
      have hwz := (wt_size hwt).2
      have hsl := Dg.sure_lens k pol g Lq
      have hkb := Dg.sureK_bd k g Lq h1 h5
      have HAD := Lib.hid (fun W (hW : Dc W base B fv' Lq.length wt (Dg.sure k pol g Lq).2.1 (Dg.sureK k g Lq) pol (g && Dg.und Lq) false) => add_any base B fv' Lq.length wt _ _ pol _ false s W hW (by omega) (by omega) (by omega))
      have HRS := Lib.hid (fun W (hW : Dc W base B fv' (Lq.length + s.size) (wt ++ s) (Dg.sure k pol g Lq).2.1 (Dg.sureK k g Lq) pol (g && Dg.und Lq) false) hTW => readSure_any base B fv' (Lq.length + s.size) (wt ++ s) _ _ pol _ false W hW hTW hp hkb.1 hkb.2 hq p8 (by omega) (by omega))
      rw [p3, p4, p5] at HRS
      have hdl := Dg.sure_lens (Dg.sureK k g Lq) pol (g && Dg.und Lq) (bs (wt ++ s))
      rw [bs_len] at hdl
      have HP6 := Lib.hid p6
      have HLX := Lib.hid (show L ++ bs (catB (xs.take (q + 1))) = Lq ++ bs s by rw [HCM.out, ← HLQ.out, List.append_assoc])
      have hol : o.length ≤ 90000 := by
        have h3 := congrArg List.length HR.out.2.2.2
        rw [List.length_append] at h3
        omega
      have hez : (wt ++ s).size ≤ 100000 := by omega
      have hwe : ((wt ++ s).extract (Dg.cut5 (Dg.sureK k g Lq) (g && Dg.und Lq) (bs (wt ++ s))) (wt ++ s).size).size ≤ 100000 := by rw [ext_from]; omega
      clear hwt p3 p4 p5 p6 p7 p8 hwz hsl hkb
      generalize (wt ++ s).extract (Dg.cut5 (Dg.sureK k g Lq) (g && Dg.und Lq) (bs (wt ++ s))) (wt ++ s).size = wt3 at *
      generalize hdd : Dg.sure (Dg.sureK k g Lq) pol (g && Dg.und Lq) (bs (wt ++ s)) = dd at *
      have HP1 := Lib.hid p1
      have HP2 := Lib.hid p2
      have HDQ := Lib.hid hD
      have HHE := Lib.hid he
      have herr := Dg.sure_errs (Dg.sureK k g Lq) pol (g && Dg.und Lq) (bs (wt ++ s))
      rw [hdd] at herr
      have hmx : o.length + dd.1.length ≤ maxLen := by unfold maxLen; omega
      clear p1 p2 hD he hdd
      have z0 := HR.out.2.1.size
      rcases herr with herr | herr
      · go_wp2_with (first
          | (go_at_call 23; refine (HAD.out _ HDQ.out).mono ?_; rintro e w1 ⟨rfl, hd1, hs1⟩; have D1 := Lib.hid hd1; have S1 := Lib.hid (HR.out.2.1.trans hs1); have O1 := Lib.hid (HDQ.out.keep hs1 HR.out.2.2.1 (by decide) (by decide)); clear hd1 hs1)
          | (go_at_call 29; refine (HRS.out _ D1.out (HT.out.below (HD0.out.belowS S1.out) hp)).mono ?_; rintro e w2 ⟨fv2, v2, rfl, ho2, hd2, hs2⟩; rw [herr]; have V2 := Lib.hid ho2; have D2 := Lib.hid hd2; have S2 := Lib.hid (S1.out.trans hs2); have O2 := Lib.hid (D1.out.keep hs2 O1.out (by decide) (by decide)); have z2 := (S1.out.trans hs2).size; clear ho2 hd2 hs2)
          | (at_builtin; refine wpList_append_row rfl (.tmp 33) (.tmp 34) _ rfl w.heap.size 21 i0 _ 1 4 Tryd.underlying25 I0.out I1.out I2.out I3.out rfl (by omega) u7 o.length _ rfl O2.out _ v2 dd.1.length (i32s dd.1) rfl V2.out (i32s_one _) hmx (by omega) z2 ?_; intro v3 w3 ho3 hg3 ha3; have O3 := Lib.hid ho3; have D3 := Lib.hid (D2.out.grown O2.out (by decide) (by decide) hg3); have S3 := Lib.hid (S2.out.grownRow O2.out hg3); clear ho3 hg3 ha3)
          | (go_at_call 31; refine (own_any base B fv2 _ wt3 _ _ pol _ false _ D3.out hwe).mono ?_; rintro e w4 ⟨rfl, hd4, hs4⟩; have D4 := Lib.hid hd4; have S4 := Lib.hid (S3.out.trans hs4); have O4 := Lib.hid (D3.out.keep hs4 O3.out (by decide) (by decide)); clear hd4 hs4))
        go_roundw
        case rel =>
          refine ⟨q + 1, by go_num, by omega, fv2, o ++ dd.1, ?_, S4.out, by rw [i32s_app, List.length_append]; exact O4.out, ?_⟩
          · rw [HLX.out]
            refine ⟨wt3, HP6.out, by rw [HP2.out, herr], ?_⟩
            rw [List.length_append, bs_len s]
            exact D4.out
          · rw [HLX.out, HP1.out, ← List.append_assoc, HR.out.2.2.2]
        case measure => simp [intOf]; omega
      · have hst := over_stay k pol g (Lq ++ bs s) (bs (catB (xs.drop (q + 1)))) (by rw [HP2.out, herr]; decide)
        have hX : L ++ bs (catB xs) = (Lq ++ bs s) ++ bs (catB (xs.drop (q + 1))) := by rw [cat_rest xs (q + 1), ← List.append_assoc, HLX.out]
        have HX2 := Lib.hid hX
        have HST := Lib.hid hst
        clear hst hX
        go_wp2_with (first
          | (go_at_call 23; refine (HAD.out _ HDQ.out).mono ?_; rintro e w1 ⟨rfl, hd1, hs1⟩; have D1 := Lib.hid hd1; have S1 := Lib.hid (HR.out.2.1.trans hs1); have O1 := Lib.hid (HDQ.out.keep hs1 HR.out.2.2.1 (by decide) (by decide)); clear hd1 hs1)
          | (go_at_call 29; refine (HRS.out _ D1.out (HT.out.below (HD0.out.belowS S1.out) hp)).mono ?_; rintro e w2 ⟨fv2, v2, rfl, ho2, hd2, hs2⟩; rw [herr]; have V2 := Lib.hid ho2; have D2 := Lib.hid hd2; have S2 := Lib.hid (S1.out.trans hs2); have O2 := Lib.hid (D1.out.keep hs2 O1.out (by decide) (by decide)); have z2 := (S1.out.trans hs2).size; clear ho2 hd2 hs2)
          | (at_builtin; refine wpList_append_row rfl (.tmp 33) (.tmp 34) _ rfl w.heap.size 21 i0 _ 1 4 Tryd.underlying25 I0.out I1.out I2.out I3.out rfl (by omega) u7 o.length _ rfl O2.out _ v2 dd.1.length (i32s dd.1) rfl V2.out (i32s_one _) hmx (by omega) z2 ?_; intro v3 w3 ho3 hg3 ha3; have O3 := Lib.hid ho3; have D3 := Lib.hid (D2.out.grown O2.out (by decide) (by decide) hg3); have S3 := Lib.hid (S2.out.grownRow O2.out hg3); clear ho3 hg3 ha3)
          | (go_at_call 30; refine (end_any base B fv2 _ wt3 _ _ pol _ false _ D3.out).mono ?_; rintro e w4 ⟨rfl, hd4, hs4⟩; have D4 := Lib.hid hd4; have S4 := Lib.hid (S3.out.trans hs4); have O4 := Lib.hid (D3.out.keep hs4 O3.out (by decide) (by decide)); clear hd4 hs4))
        go_ret2
        refine ⟨fv2, v3, o ++ dd.1, ?_, by rw [i32s_app, List.length_append]; exact O4.out, ?_, S4.out, .inr ⟨?_, Lq.length + s.size, (g && Dg.und (Lq ++ bs s)), ?_, ?_⟩⟩
        · rw [HX2.out, HST.out.1, HP2.out, herr]; rfl
        · rw [HX2.out, HST.out.1, HP1.out, ← List.append_assoc, HR.out.2.2.2]
        · rw [HX2.out, HST.out.1, HP2.out, herr]
        · intro h1x
          have hq0 : q = 0 := by omega
          subst hq0
          rw [HX2.out, List.length_append, List.length_append, bs_len s, List.drop_of_length_le (by omega)]
          simp [catB, bs]
        · rw [HX2.out, HST.out.1, HST.out.2]
          exact D4.out
    · have hlt' : ¬ (q : Int) < xs.length := by omega
      have HE := Lib.hid (show xs.take q = xs from List.take_of_length_le (by omega))
      have he := HR.out.1
      rw [HE.out] at he
      have HFE := Lib.hid he
      obtain ⟨_, _, he0, _⟩ := he
      have HE0 := Lib.hid he0
      clear he0
      go_wp2
      go_ret2
      refine ⟨fv', u7, o, by rw [HE0.out]; rfl, HR.out.2.2.1, ?_, HR.out.2.1, .inl ⟨HE0.out, HFE.out⟩⟩
      have := HR.out.2.2.2
      rw [HE.out] at this
      exact this
end Go.Proofs.YthnfopjjghohcaaDoor.St

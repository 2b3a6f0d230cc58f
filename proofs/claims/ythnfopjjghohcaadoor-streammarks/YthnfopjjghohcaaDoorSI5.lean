import Derived.Test.YthnfopjjghohcaaDoorSI
namespace Go.Proofs.YthnfopjjghohcaaDoor.St
open Go.RowKit

set_option maxRecDepth 100000 in
set_option maxHeartbeats 4000000 in
theorem rs5f (base B : Nat) (fv : Value) (p : Nat) (wt : ByteArray) (fl : List (Nat × Nat)) (k : Nat) (pol : Int) (ov : Bool) (w : World) (h : Dc w base B fv p wt fl k pol false ov) (hT : Tabs w) (hp : 0 + 1 + 1 ≤ base) (hk : Dg.knd k false (bs wt) = 5) (hq : pol = 1 ∨ pol = 2 ∨ pol = 3) (hw : wt.size ≤ p) (hpp : p ≤ 100000) (hfl : fl.length ≤ 100000)
    (wt2 : ByteArray) (hwt2 : wt.extract (Dg.beg false (bs wt)) wt.size = wt2) (hz : wt2.size ≤ wt.size) :
    Calls Tryd.prog 29 #[.pointer (some ⟨B, 0, none⟩)] w (RdP w base B fv p (wt2.extract (Dg.scan (Dg.nx5 5) (bs wt2)) wt2.size) (fl ++ shL (p - wt2.size) (Dg.dec (Dg.nx5 5) pol 0 ((bs wt2).take (Dg.scan (Dg.nx5 5) (bs wt2)))).2.1) 5 pol false ov (Dg.dec (Dg.nx5 5) pol 0 ((bs wt2).take (Dg.scan (Dg.nx5 5) (bs wt2))))) := by
  have hfc : fCut 5 = .func (.func 40) #[] #[] := rfl
  have HH := Lib.hid h
  have HT := Lib.hid hT
  have c7 := h.d.c7
  have D1 := Lib.hid h
  have S1 := Lib.hid (Stp.refl B w fv)
  have hz2 : wt2.size ≤ 100000 := by omega
  have HC := Lib.hid (fun W (hW : Tabs W) => U8.cut_any wt2 W hW.u hz2)
  rw [show U8.cutN (bs wt2) = Dg.scan (Dg.nx5 5) (bs wt2) from Dg.cut8 _] at HC
  have HLV := Lib.hid (fun W (hD : Dc W base B fv p wt fl k pol false ov) (hW : Tabs W) => leave_any base B fv p wt fl k pol false ov W hD hW.d (by omega) hw hpp)
  rw [hwt2, hk] at HLV
  have hsc := (Dg.scan_le (Dg.nxOk 5) (bs wt2)).1
  rw [bs_len] at hsc
  have HRD := Lib.hid (fun W (hD : Dc W base B fv p wt2 fl 5 pol false ov) (hW : Tabs W) => read_any base B fv p wt2 fl 5 pol false ov (Dg.scan (Dg.nx5 5) (bs wt2)) W hD hW hp (by omega) (by omega) hq (by omega) hpp hsc hfl)
  generalize Dg.scan (Dg.nx5 5) (bs wt2) = n at *
  generalize Dg.dec (Dg.nx5 5) pol 0 ((bs wt2).take n) = dd at *
  have HFC := Lib.hid hfc
  clear h hT hk hfc hwt2 hq
  go_enter Tryd.func29, Tryd.ntmps29
  go_wp2_with (first
    | (go_at_call 33; refine (HLV.out _ D1.out (HT.out.below (HH.out.belowS S1.out) hp)).mono ?_; rintro e w2 ⟨rfl, hd2, hs2⟩; have D2 := Lib.hid hd2; have S2 := Lib.hid (S1.out.trans hs2); have a1 := hd2.d.c1; have a5 := hd2.d.c5; rw [HFC.out] at a5; clear hd2 hs2))
  go_region_law
    (first
      | (go_simp; go_at_call 40; refine (HC.out _ (HT.out.below (HH.out.belowS S2.out.drew) hp)).mono ?_; rintro e w3 ⟨rfl, hw3⟩; have D3 := Lib.hid (show Dc w3 base B fv p wt2 fl 5 pol false ov from hw3 ▸ D2.out.drew); have S3 := Lib.hid (show Stp B w fv w3 fv from hw3 ▸ S2.out.drew); clear hw3)
      | (go_simp; go_at_call 34; refine (HRD.out _ D3.out (HT.out.below (HH.out.belowS S3.out) hp)).mono ?_; rintro e w5 ⟨fv5, v5, rfl, ho5, hd5, hs5⟩; have O5 := Lib.hid (ho5.mono S3.out.size); have D5 := Lib.hid hd5; have S5 := Lib.hid (S3.out.trans hs5); clear ho5 hd5 hs5))
  all_goals
    go_wp2_with fail
    go_ret2
    exact ⟨fv5, v5, rfl, O5.out, D5.out, S5.out⟩
set_option maxRecDepth 100000 in
set_option maxHeartbeats 4000000 in
theorem rs5t (base B : Nat) (fv : Value) (p : Nat) (wt : ByteArray) (fl : List (Nat × Nat)) (k : Nat) (pol : Int) (ov : Bool) (w : World) (h : Dc w base B fv p wt fl k pol true ov) (hT : Tabs w) (hp : 0 + 1 + 1 ≤ base) (hk : Dg.knd k true (bs wt) = 5) (hq : pol = 1 ∨ pol = 2 ∨ pol = 3) (hw : wt.size ≤ p) (hpp : p ≤ 100000) (hfl : fl.length ≤ 100000) (hu : Dg.und (bs wt) = false)
    (wt2 : ByteArray) (hwt2 : wt.extract (Dg.beg true (bs wt)) wt.size = wt2) (hz : wt2.size ≤ wt.size) :
    Calls Tryd.prog 29 #[.pointer (some ⟨B, 0, none⟩)] w (RdP w base B fv p (wt2.extract (Dg.scan (Dg.nx5 5) (bs wt2)) wt2.size) (fl ++ shL (p - wt2.size) (Dg.dec (Dg.nx5 5) pol 0 ((bs wt2).take (Dg.scan (Dg.nx5 5) (bs wt2)))).2.1) 5 pol false ov (Dg.dec (Dg.nx5 5) pol 0 ((bs wt2).take (Dg.scan (Dg.nx5 5) (bs wt2))))) := by
  have hfc : fCut 5 = .func (.func 40) #[] #[] := rfl
  have HH := Lib.hid h
  have HT := Lib.hid hT
  have c7 := h.d.c7
  have HMM := Lib.hid (fun W hW => mayMark_any wt W hW)
  rw [hu] at HMM
  have c1 := h.d.c1
  have hz2 : wt2.size ≤ 100000 := by omega
  have HC := Lib.hid (fun W (hW : Tabs W) => U8.cut_any wt2 W hW.u hz2)
  rw [show U8.cutN (bs wt2) = Dg.scan (Dg.nx5 5) (bs wt2) from Dg.cut8 _] at HC
  have HLV := Lib.hid (fun W (hD : Dc W base B fv p wt fl k pol true ov) (hW : Tabs W) => leave_any base B fv p wt fl k pol true ov W hD hW.d (by omega) hw hpp)
  rw [hwt2, hk] at HLV
  have hsc := (Dg.scan_le (Dg.nxOk 5) (bs wt2)).1
  rw [bs_len] at hsc
  have HRD := Lib.hid (fun W (hD : Dc W base B fv p wt2 fl 5 pol false ov) (hW : Tabs W) => read_any base B fv p wt2 fl 5 pol false ov (Dg.scan (Dg.nx5 5) (bs wt2)) W hD hW hp (by omega) (by omega) hq (by omega) hpp hsc hfl)
  generalize Dg.scan (Dg.nx5 5) (bs wt2) = n at *
  generalize Dg.dec (Dg.nx5 5) pol 0 ((bs wt2).take n) = dd at *
  have HFC := Lib.hid hfc
  clear h hT hk hfc hwt2 hq
  go_enter Tryd.func29, Tryd.ntmps29
  go_wp2_with (first
    | (go_at_call 43; refine (HMM.out _ HT.out.d).mono ?_; rintro e w1 ⟨rfl, hb1⟩; have D1 := Lib.hid (HH.out.bel hb1); have S1 := Lib.hid ((Stp.refl B w fv).bel hb1); clear hb1)
    | (go_at_call 33; refine (HLV.out _ D1.out (HT.out.below (HH.out.belowS S1.out) hp)).mono ?_; rintro e w2 ⟨rfl, hd2, hs2⟩; have D2 := Lib.hid hd2; have S2 := Lib.hid (S1.out.trans hs2); have a1 := hd2.d.c1; have a5 := hd2.d.c5; rw [HFC.out] at a5; clear hd2 hs2))
  go_region_law
    (first
      | (go_simp; go_at_call 40; refine (HC.out _ (HT.out.below (HH.out.belowS S2.out.drew) hp)).mono ?_; rintro e w3 ⟨rfl, hw3⟩; have D3 := Lib.hid (show Dc w3 base B fv p wt2 fl 5 pol false ov from hw3 ▸ D2.out.drew); have S3 := Lib.hid (show Stp B w fv w3 fv from hw3 ▸ S2.out.drew); clear hw3)
      | (go_simp; go_at_call 34; refine (HRD.out _ D3.out (HT.out.below (HH.out.belowS S3.out) hp)).mono ?_; rintro e w5 ⟨fv5, v5, rfl, ho5, hd5, hs5⟩; have O5 := Lib.hid (ho5.mono S3.out.size); have D5 := Lib.hid hd5; have S5 := Lib.hid (S3.out.trans hs5); clear ho5 hd5 hs5))
  all_goals
    go_wp2_with fail
    go_ret2
    exact ⟨fv5, v5, rfl, O5.out, D5.out, S5.out⟩
end Go.Proofs.YthnfopjjghohcaaDoor.St

import Derived.Defers
import Derived.Test.YthnfopjjghohcaaDoorSI5
import Derived.Test.YthnfopjjghohcaaDoorSIW
namespace Go.Proofs.YthnfopjjghohcaaDoor.St
open Go.RowKit

set_option maxRecDepth 100000 in
set_option maxHeartbeats 1000000 in
theorem rsU (base B : Nat) (fv : Value) (p : Nat) (wt : ByteArray) (fl : List (Nat × Nat)) (k : Nat) (pol : Int) (ov : Bool) (w : World) (h : Dc w base B fv p wt fl k pol true ov) (hT : Tabs w) (hu : Dg.und (bs wt) = true) :
    Calls Tryd.prog 29 #[.pointer (some ⟨B, 0, none⟩)] w (RdP w base B fv p wt fl k pol true ov ([], [], 0)) := by
  have HMM := Lib.hid (mayMark_any wt w hT.d)
  rw [hu] at HMM
  have HH := Lib.hid h
  have c1 := h.d.c1
  have c7 := h.d.c7
  clear h hT hu
  go_enter Tryd.func29, Tryd.ntmps29
  go_wp2_with (go_at_call 43; refine HMM.out.mono ?_; rintro e w1 ⟨rfl, hb1⟩; have D1 := Lib.hid (HH.out.bel hb1); have S1 := Lib.hid ((Stp.refl B w fv).bel hb1); clear hb1)
  go_ret2
  exact ⟨fv, _, rfl, World.ownsRow_nil _ _ _ _, D1.out, S1.out⟩
theorem sure_dec (k : Nat) (pol : Int) (gs : Bool) (l : List Nat) (h : (gs && Dg.und l) = false) : Dg.sure k pol gs l = Dg.shf (Dg.beg gs l) (Dg.dec (Dg.nx5 (Dg.knd k gs l)) pol 0 ((l.drop (Dg.beg gs l)).take (Dg.scan (Dg.nx5 (Dg.knd k gs l)) (l.drop (Dg.beg gs l))))) := by
  rw [Dg.dec_cut (Dg.nxOk _) (Dg.preOk _), ← Dg.sur_shf (Dg.nxOk _) (Dg.preOk _)]
  unfold Dg.sure
  rw [if_neg (by rw [h]; decide)]
theorem whole_dec (k : Nat) (pol : Int) (gs : Bool) (l : List Nat) : Dg.whole k pol gs l = Dg.shf (Dg.beg gs l) (Dg.dec (Dg.nx5 (Dg.knd k gs l)) pol 0 (l.drop (Dg.beg gs l))) := by
  rw [← Dg.dec_shf (Dg.nxOk _)]
  rfl
theorem fl_shf (p z b : Nat) (fl : List (Nat × Nat)) (d : List Int × List (Nat × Nat) × Int) (hb : b ≤ z) (hz : z ≤ p) : fl ++ shL (p - (z - b)) d.2.1 = fl ++ shL (p - z) (Dg.shf b d).2.1 := by
  have : (Dg.shf b d).2.1 = shL b d.2.1 := rfl
  rw [this, shL_shL, show p - z + b = p - (z - b) by omega]
theorem readSure_any (base B : Nat) (fv : Value) (p : Nat) (wt : ByteArray) (fl : List (Nat × Nat)) (k : Nat) (pol : Int) (gs ov : Bool) (w : World) (h : Dc w base B fv p wt fl k pol gs ov) (hT : Tabs w) (hp : 0 + 1 + 1 ≤ base) (h1 : 1 ≤ k) (h5 : k ≤ 5) (hq : pol = 1 ∨ pol = 2 ∨ pol = 3) (hw : wt.size ≤ p) (hpp : p ≤ 100000) (hfl : fl.length ≤ 100000) :
    Calls Tryd.prog 29 #[.pointer (some ⟨B, 0, none⟩)] w (RdP w base B fv p (wt.extract (Dg.cut5 k gs (bs wt)) wt.size) (fl ++ shL (p - wt.size) (Dg.sure k pol gs (bs wt)).2.1) (Dg.sureK k gs (bs wt)) pol (gs && Dg.und (bs wt)) ov (Dg.sure k pol gs (bs wt))) := by
  by_cases hu : (gs && Dg.und (bs wt)) = true
  · have hc : Dg.cut5 k gs (bs wt) = 0 := by unfold Dg.cut5; rw [if_pos hu]
    have hs : Dg.sure k pol gs (bs wt) = ([], [], 0) := by unfold Dg.sure; rw [if_pos hu]
    have hk : Dg.sureK k gs (bs wt) = k := by unfold Dg.sureK; rw [if_pos hu]
    rw [hc, hs, hk, hu, ext_all]
    simp only [Bool.and_eq_true] at hu
    obtain ⟨rfl, hu⟩ := hu
    have := rsU base B fv p wt fl k pol ov w h hT hu
    simpa [shL] using this
  · have hf : (gs && Dg.und (bs wt)) = false := by simpa using hu
    have hbl := Dg.beg_le gs (bs wt)
    rw [bs_len] at hbl
    have hsz : (wt.extract (Dg.beg gs (bs wt)) wt.size).size = wt.size - Dg.beg gs (bs wt) := ext_from _ _
    have hbs : bs (wt.extract (Dg.beg gs (bs wt)) wt.size) = (bs wt).drop (Dg.beg gs (bs wt)) := bs_from _ _
    have hkb := Dg.knd_bd k gs (bs wt) h1 h5
    have hk : Dg.sureK k gs (bs wt) = Dg.knd k gs (bs wt) := by unfold Dg.sureK; rw [if_neg hu]
    have hc : Dg.cut5 k gs (bs wt) = Dg.beg gs (bs wt) + Dg.scan (Dg.nx5 (Dg.knd k gs (bs wt))) ((bs wt).drop (Dg.beg gs (bs wt))) := by unfold Dg.cut5; rw [if_neg hu]
    have key : Calls Tryd.prog 29 #[.pointer (some ⟨B, 0, none⟩)] w (RdP w base B fv p ((wt.extract (Dg.beg gs (bs wt)) wt.size).extract (Dg.scan (Dg.nx5 (Dg.knd k gs (bs wt))) (bs (wt.extract (Dg.beg gs (bs wt)) wt.size))) (wt.extract (Dg.beg gs (bs wt)) wt.size).size) (fl ++ shL (p - (wt.extract (Dg.beg gs (bs wt)) wt.size).size) (Dg.dec (Dg.nx5 (Dg.knd k gs (bs wt))) pol 0 ((bs (wt.extract (Dg.beg gs (bs wt)) wt.size)).take (Dg.scan (Dg.nx5 (Dg.knd k gs (bs wt))) (bs (wt.extract (Dg.beg gs (bs wt)) wt.size))))).2.1) (Dg.knd k gs (bs wt)) pol false ov (Dg.dec (Dg.nx5 (Dg.knd k gs (bs wt))) pol 0 ((bs (wt.extract (Dg.beg gs (bs wt)) wt.size)).take (Dg.scan (Dg.nx5 (Dg.knd k gs (bs wt))) (bs (wt.extract (Dg.beg gs (bs wt)) wt.size)))))) := by
      cases gs
      · by_cases h5' : Dg.knd k false (bs wt) = 5
        · rw [h5']
          exact rs5f base B fv p wt fl k pol ov w h hT hp h5' hq hw hpp hfl _ rfl (by rw [hsz]; omega)
        · exact rsWf base B fv p wt fl k pol ov w h hT hp _ hkb.1 (by omega) rfl hq hw hpp hfl _ rfl (by rw [hsz]; omega)
      · have hu' : Dg.und (bs wt) = false := by simpa using hf
        by_cases h5' : Dg.knd k true (bs wt) = 5
        · rw [h5']
          exact rs5t base B fv p wt fl k pol ov w h hT hp h5' hq hw hpp hfl hu' _ rfl (by rw [hsz]; omega)
        · exact rsWt base B fv p wt fl k pol ov w h hT hp _ hkb.1 (by omega) rfl hq hw hpp hfl hu' _ rfl (by rw [hsz]; omega)
    rw [ext_ext, hsz, hbs, ← hc, fl_shf p wt.size _ fl _ hbl hw, ← sure_dec k pol gs (bs wt) hf] at key
    rw [hf, hk]
    refine key.mono ?_
    rintro e w' ⟨fv', v1, he, ho, hd, hs⟩
    have e1 : (Dg.sure k pol gs (bs wt)).1 = (Dg.dec (Dg.nx5 (Dg.knd k gs (bs wt))) pol 0 (((bs wt).drop (Dg.beg gs (bs wt))).take (Dg.scan (Dg.nx5 (Dg.knd k gs (bs wt))) ((bs wt).drop (Dg.beg gs (bs wt)))))).1 := by rw [sure_dec k pol gs (bs wt) hf]; rfl
    have e2 : (Dg.sure k pol gs (bs wt)).2.2 = (Dg.dec (Dg.nx5 (Dg.knd k gs (bs wt))) pol 0 (((bs wt).drop (Dg.beg gs (bs wt))).take (Dg.scan (Dg.nx5 (Dg.knd k gs (bs wt))) ((bs wt).drop (Dg.beg gs (bs wt)))))).2.2 := by rw [sure_dec k pol gs (bs wt) hf]; rfl
    refine ⟨fv', v1, by rw [e2]; exact he, ?_, hd, hs⟩
    rw [e1]
    exact ho
set_option maxRecDepth 100000 in
set_option maxHeartbeats 1000000 in
theorem close0 (base B : Nat) (fv : Value) (p : Nat) (wt : ByteArray) (fl : List (Nat × Nat)) (k : Nat) (pol : Int) (gs : Bool) (w : World) (h : Dc w base B fv p wt fl k pol gs false) (hT : Tabs w) (hp : 0 + 1 + 1 ≤ base) (_h1 : 1 ≤ k) (_h5 : k ≤ 5) (hq : pol = 1 ∨ pol = 2 ∨ pol = 3) (hw : wt.size ≤ p) (hpp : p ≤ 100000) (hfl : fl.length ≤ 100000)
    (wt2 : ByteArray) (hwt2 : wt.extract (Dg.beg gs (bs wt)) wt.size = wt2) (hz : wt2.size ≤ wt.size) (k2 : Nat) (g1 : 1 ≤ k2) (g5 : k2 ≤ 5) (hk : Dg.knd k gs (bs wt) = k2) :
    Calls Tryd.prog 22 #[.pointer (some ⟨B, 0, none⟩)] w (RdP w base B fv p ⟨#[]⟩ (fl ++ shL (p - wt2.size) (Dg.dec (Dg.nx5 k2) pol 0 (bs wt2)).2.1) k2 pol false true (Dg.dec (Dg.nx5 k2) pol 0 (bs wt2))) := by
  have HH := Lib.hid h
  have HT := Lib.hid hT
  have HRF := Lib.hid (refuses_ok base B fv p wt fl k pol gs w h)
  have HLV := Lib.hid (leave_any base B fv p wt fl k pol gs false w h hT.d (by omega) hw hpp)
  rw [hwt2, hk] at HLV
  have HRD := Lib.hid (fun W (hD : Dc W base B fv p wt2 fl k2 pol false false) (hW : Tabs W) => read_any base B fv p wt2 fl k2 pol false false wt2.size W hD hW hp g1 g5 hq (by omega) hpp (Nat.le_refl _) hfl)
  rw [List.take_of_length_le (by rw [bs_len]; exact Nat.le_refl _)] at HRD
  generalize Dg.dec (Dg.nx5 k2) pol 0 (bs wt2) = dd at *
  clear h hT hk hwt2 hq
  go_enter_defers Tryd.func22, Tryd.ntmps22
  go_wp2_with (first
    | (go_at_call 28; refine HRF.out.mono ?_; rintro e w' ⟨rfl, rfl⟩)
    | (go_at_call 33; refine HLV.out.mono ?_; rintro e w2 ⟨rfl, hd2, hs2⟩; have D2 := Lib.hid hd2; have S2 := Lib.hid hs2; have a1 := hd2.d.c1; clear hd2 hs2)
    | (go_at_call 34; refine (HRD.out _ D2.out (HT.out.below (HH.out.belowS S2.out) hp)).mono ?_; rintro e w5 ⟨fv5, v5, rfl, ho5, hd5, hs5⟩; have O5 := Lib.hid (ho5.mono S2.out.size); have D5 := Lib.hid hd5; have S5 := Lib.hid (S2.out.trans hs5); clear ho5 hd5 hs5))

  refine leaves_cons (f := 30) (args := #[.pointer (some ⟨B, 0, none⟩)]) (by simp) (by simp [go_sem]) ?_
  refine (end_deferred base B fv5 p _ _ k2 pol false false .returning _ D5.out).mono ?_
  rintro e u' w'' ⟨rfl, rfl, hd6, hs6⟩
  exact ⟨_, results_tmp2 rfl _ _ _, fv5, v5, rfl, D5.out.keep hs6 O5.out (by decide) (by decide), hd6, S5.out.trans hs6⟩
end Go.Proofs.YthnfopjjghohcaaDoor.St

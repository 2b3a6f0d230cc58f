import Derived.Test.YthnfopjjghohcaaDoorSD
import Derived.Test.YthnfopjjghohcaaDoorGS1
import Derived.Test.YthnfopjjghohcaaDoorSF
namespace Go.Proofs.YthnfopjjghohcaaDoor.St
open Go.RowKit

theorem ext_all (s : ByteArray) : s.extract 0 s.size = s := bs_inj (by rw [bs_from]; rfl)
theorem dec_fn (k : Nat) : ∃ f a, fDec k = .func f a #[] := by unfold fDec; split <;> exact ⟨_, _, rfl⟩
theorem cut_fn (k : Nat) : ∃ f a, fCut k = .func f a #[] := by unfold fCut; split <;> exact ⟨_, _, rfl⟩
theorem leave0 (base B : Nat) (fv : Value) (p : Nat) (wt : ByteArray) (fl : List (Nat × Nat)) (k : Nat) (pol : Int) (ov : Bool) (w : World) (h : Dc w base B fv p wt fl k pol false ov) :
    Calls Tryd.prog 33 #[.pointer (some ⟨B, 0, none⟩)] w fun e w' => e = .returned (.tuple #[]) ∧ w = w' := by
  have c7 := h.d.c7
  clear h
  go_enter Tryd.func33, Tryd.ntmps33
  go_wp2
  refine bodyPost_ret (results_none rfl _ _ _) rfl ?_
  exact ⟨rfl, rfl⟩
set_option maxRecDepth 100000 in
set_option maxHeartbeats 1000000 in
theorem leave1 (base B : Nat) (fv : Value) (p : Nat) (wt : ByteArray) (fl : List (Nat × Nat)) (k : Nat) (pol : Int) (ov : Bool) (w : World) (h : Dc w base B fv p wt fl k pol true ov) (hT : Wd.Tab w) (hp : 1 + 1 ≤ base) (hw : wt.size ≤ 100000) (hg : (Dg.gs5 (bs wt)).1 = 0) :
    Calls Tryd.prog 33 #[.pointer (some ⟨B, 0, none⟩)] w fun e w' => e = .returned (.tuple #[]) ∧ Dc w' base B fv p wt fl k pol false ov ∧ Stp B w fv w' fv := by
  have c7 := h.d.c7
  have f7 := h.d.fr 7
  have c1 := h.d.c1
  have H7 := Lib.hid (h.set7 false)
  have S7 := Lib.hid ((Stp.refl B w fv).set 7 (.bool false))
  have HT7 := Lib.hid (hT.below (h.belowS ((Stp.refl B w fv).set 7 (.bool false))) hp)
  have hgn := (Dg.gs5_kind (bs wt)).2.1 hg
  have HM := Lib.hid (fun W hW => markOf_any wt W hW hw)
  rw [hg, hgn] at HM
  have HR := Lib.hid (fun W => reader_no 0 W (by omega))
  clear h hT hg hgn
  go_enter Tryd.func33, Tryd.ntmps33
  go_wp2_with (first
    | (go_at_call 45; refine (HM.out _ HT7.out).mono ?_; rintro e w1 ⟨rfl, hb⟩; have D1 := Lib.hid (H7.out.bel hb); have S1 := Lib.hid (S7.out.bel hb); clear hb)
    | (go_at_call 27; refine (HR.out _).mono ?_; rintro e w2 ⟨rfl, hb⟩; have D2 := Lib.hid (D1.out.bel hb); have S2 := Lib.hid (S1.out.bel hb); clear hb))
  go_end0
  exact ⟨rfl, D2.out.bel ((Below.refl _ _).alloc (Nat.le_refl _) _), S2.out.alloc _⟩
set_option maxRecDepth 100000 in
set_option maxHeartbeats 1000000 in
theorem leave2 (base B : Nat) (fv : Value) (p : Nat) (wt : ByteArray) (fl : List (Nat × Nat)) (k : Nat) (pol : Int) (ov : Bool) (w : World) (h : Dc w base B fv p wt fl k pol true ov) (hT : Wd.Tab w) (hp : 1 + 1 ≤ base) (hw : wt.size ≤ p) (hpp : p ≤ 100000) (g n : Nat) (hg : Dg.gs5 (bs wt) = (g, n)) (hg0 : 1 ≤ g) (hg5 : g ≤ 5) (hn : n ≤ wt.size) :
    Calls Tryd.prog 33 #[.pointer (some ⟨B, 0, none⟩)] w fun e w' => e = .returned (.tuple #[]) ∧ Dc w' base B fv p (wt.extract n wt.size) fl g pol false ov ∧ Stp B w fv w' fv := by
  have c7 := h.d.c7
  have f7 := h.d.fr 7
  have c1 := h.d.c1
  have H7 := Lib.hid (h.set7 false)
  have S7 := Lib.hid ((Stp.refl B w fv).set 7 (.bool false))
  have HT7 := Lib.hid (hT.below (h.belowS ((Stp.refl B w fv).set 7 (.bool false))) hp)
  have HM := Lib.hid (fun W hW => markOf_any wt W hW (by omega))
  rw [hg] at HM
  have HR := Lib.hid (fun W => reader_any g W hg0 hg5)
  obtain ⟨fd, ad, hfd⟩ := dec_fn g
  obtain ⟨fc, ac, hfc⟩ := cut_fn g
  rw [hfd, hfc] at HR
  have HFD := Lib.hid hfd
  have HFC := Lib.hid hfc
  clear h hT hg hfd hfc
  go_enter Tryd.func33, Tryd.ntmps33
  go_wp2_with (first
    | (go_at_call 45; refine (HM.out _ HT7.out).mono ?_; rintro e w1 ⟨rfl, hb⟩; have D1 := Lib.hid (H7.out.bel hb); have S1 := Lib.hid (S7.out.bel hb); clear hb)
    | (go_at_call 27; refine (HR.out _).mono ?_; rintro e w2 ⟨rfl, hb⟩; have D2 := Lib.hid (D1.out.bel hb); have S2 := Lib.hid (S1.out.bel hb); have a3 := D2.out.d.c3; have a4 := D2.out.d.c4; have a5 := D2.out.d.c5; have b3 := D2.out.d.fr 3; have b4 := D2.out.d.fr 4; have b5 := D2.out.d.fr 5; have hBl := D2.out.d.lt; clear hb)
    | (go_at_call 46; (have D3a := Lib.hid (D2.out.setR g)); rw [HFD.out, HFC.out] at D3a; (have D3 := Lib.hid (D3a.out.bel ((Below.refl _ _).alloc (Nat.le_refl _) (.cells #[.int .i64 (g : Int), .func fd ad #[], .func fc ac #[]] 60)))); refine (take_any base B fv p wt fl g pol false ov n _ D3.out hpp hn hw).mono ?_; rintro e w4 ⟨rfl, hd4, hs4⟩; have D4 := Lib.hid hd4; have S4 := Lib.hid (((((S2.out.set 3 (.int .i64 (g : Int))).set 4 (.func fd ad #[])).set 5 (.func fc ac #[])).alloc (.cells #[.int .i64 (g : Int), .func fd ad #[], .func fc ac #[]] 60)).trans hs4); clear hd4 hs4))
  go_end0
  exact ⟨rfl, D4.out, S4.out⟩
theorem leave_any (base B : Nat) (fv : Value) (p : Nat) (wt : ByteArray) (fl : List (Nat × Nat)) (k : Nat) (pol : Int) (gs ov : Bool) (w : World) (h : Dc w base B fv p wt fl k pol gs ov) (hT : Wd.Tab w) (hp : 1 + 1 ≤ base) (hw : wt.size ≤ p) (hpp : p ≤ 100000) :
    Calls Tryd.prog 33 #[.pointer (some ⟨B, 0, none⟩)] w fun e w' => e = .returned (.tuple #[]) ∧ Dc w' base B fv p (wt.extract (Dg.beg gs (bs wt)) wt.size) fl (Dg.knd k gs (bs wt)) pol false ov ∧ Stp B w fv w' fv := by
  cases gs
  · refine (leave0 base B fv p wt fl k pol ov w h).mono ?_
    rintro e w' ⟨rfl, rfl⟩
    refine ⟨rfl, ?_, Stp.refl _ _ _⟩
    rw [Dg.knd_no, show Dg.beg false (bs wt) = 0 from rfl, ext_all]
    exact h
  · obtain ⟨h5, h0, _⟩ := Dg.gs5_kind (bs wt)
    have hle := Dg.gs5_le (bs wt)
    rw [bs_len] at hle
    have hb : Dg.beg true (bs wt) = (Dg.gs5 (bs wt)).2 := rfl
    by_cases hg : (Dg.gs5 (bs wt)).1 = 0
    · have hk : Dg.knd k true (bs wt) = k := by unfold Dg.knd; rw [if_neg (by omega)]
      rw [hb, h0 hg, hk, ext_all]
      exact leave1 base B fv p wt fl k pol ov w h hT hp (by omega) hg
    · have hk : Dg.knd k true (bs wt) = (Dg.gs5 (bs wt)).1 := by unfold Dg.knd; rw [if_pos ⟨rfl, by omega⟩]
      rw [hb, hk]
      exact leave2 base B fv p wt fl k pol ov w h hT hp hw hpp _ _ rfl (by omega) h5 hle
/-- A row that was made behind another one lies elsewhere. -/
theorem own_new {w w1 : World} {b b' e e' z z' n n' : Nat} {v v' : Value} {xs xs' : List Value} (h : w.ownsRow b e z v n xs) (h' : w1.ownsRow b' e' z' v' n' xs') (hb : w1.heap.size ≤ b := by exact Nat.le_refl _) : v.ownBlock = none ∨ v.ownBlock ≠ v'.ownBlock := by
  cases hv : v.ownBlock with
  | none => exact .inl rfl
  | some g =>
    right
    intro he
    have h1 := (h.lt g hv).1
    have h2 := (h'.lt g he.symm).2
    omega
end Go.Proofs.YthnfopjjghohcaaDoor.St

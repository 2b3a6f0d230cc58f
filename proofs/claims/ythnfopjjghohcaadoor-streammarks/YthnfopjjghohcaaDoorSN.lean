import Derived.Test.YthnfopjjghohcaaDoorSM
import Derived.Test.YthnfopjjghohcaaDoorSL
namespace Go.Proofs.YthnfopjjghohcaaDoor.St
open Go.RowKit

theorem Fed.start {w : World} {base B k : Nat} {pol : Int} {g : Bool} (h : Dc w base B (.slice none 0 0) 0 ⟨#[]⟩ [] k pol g false) : Fed w base B (.slice none 0 0) k pol g [] := by
  obtain ⟨h1, h2, h3, h4⟩ := Dg.sure_nil k pol g
  refine ⟨⟨#[]⟩, by rw [h2]; rfl, by rw [h1], ?_⟩
  rw [h1, h3, h4]
  exact h
theorem Fed.bel {w w' : World} {base B k : Nat} {fv : Value} {pol : Int} {g : Bool} {L : List Nat} (h : Fed w base B fv k pol g L) (hb : Below w.heap.size w w') : Fed w' base B fv k pol g L := by
  obtain ⟨wt, h1, h2, h3⟩ := h
  exact ⟨wt, h1, h2, h3.bel hb⟩
theorem Fed.grown {w w' : World} {base B k : Nat} {fv : Value} {pol : Int} {g : Bool} {L : List Nat} (h : Fed w base B fv k pol g L) {b n e z : Nat} {v : Value} {xs : List Value} (ho : w.ownsRow b e z v n xs) (he : e ≠ 62) (hf : e ≠ 50) (hg : w.grownBy w' v.ownBlock) : Fed w' base B fv k pol g L := by
  obtain ⟨wt, h1, h2, h3⟩ := h
  exact ⟨wt, h1, h2, h3.grown ho he hf hg⟩
theorem Fed.lt {w : World} {base B k : Nat} {fv : Value} {pol : Int} {g : Bool} {L : List Nat} (h : Fed w base B fv k pol g L) : B < w.heap.size := by
  obtain ⟨_, _, _, h3⟩ := h
  exact h3.d.lt
theorem Fed.fl {w : World} {base B k : Nat} {fv : Value} {pol : Int} {g : Bool} {L : List Nat} (h : Fed w base B fv k pol g L) : w.ownsRow base 50 2 fv (Dg.sure k pol g L).2.1.length (flts (Dg.sure k pol g L).2.1) := by
  obtain ⟨_, _, _, h3⟩ := h
  exact h3.f
theorem Fed.keep {w w' : World} {base B k : Nat} {fv fv' : Value} {pol : Int} {g : Bool} {L : List Nat} (h : Fed w base B fv k pol g L) (hs : Stp B w fv w' fv') {b n e z : Nat} {v : Value} {xs : List Value} (ho : w.ownsRow b e z v n xs) (he : e ≠ 62) (hf : e ≠ 50) : w'.ownsRow b e z v n xs := by
  obtain ⟨_, _, _, h3⟩ := h
  exact h3.keep hs ho he hf
theorem Fed.belowS {w w' : World} {base B k : Nat} {fv fv' : Value} {pol : Int} {g : Bool} {L : List Nat} (h : Fed w base B fv k pol g L) (hs : Stp B w fv w' fv') : Below base w w' := by
  obtain ⟨_, _, _, h3⟩ := h
  exact h3.belowS hs
theorem Fed.base {w : World} {base B k : Nat} {fv : Value} {pol : Int} {g : Bool} {L : List Nat} (h : Fed w base B fv k pol g L) : base ≤ B := by
  obtain ⟨_, _, _, h3⟩ := h
  exact h3.b
theorem Fed.ok {w : World} {base B k : Nat} {fv : Value} {pol : Int} {g : Bool} {L : List Nat} (h : Fed w base B fv k pol g L) : (Dg.sure k pol g L).2.2 = 0 := by
  obtain ⟨_, _, h2, _⟩ := h
  exact h2
/-- Feed of one part, in a slice just made. -/
theorem feed_one (base B : Nat) (fv : Value) (k : Nat) (pol : Int) (g : Bool) (L : List Nat) (s : ByteArray) (w : World) (hF : Fed w base B fv k pol g L) (hT : Tabs w) (hp : 0 + 1 + 1 ≤ base) (h1 : 1 ≤ k) (h5 : k ≤ 5) (hq : pol = 1 ∨ pol = 2 ∨ pol = 3) (hz : L.length + s.size ≤ 90000) :
    Calls Tryd.prog 17 #[.pointer (some ⟨B, 0, none⟩), .slice (some ⟨w.heap.size, 0, none⟩) 1 1] (w.alloc (.cells #[.string s] 9)) (FeedP w base B fv k pol g L True (L ++ bs s)) := by
  have hb : Below w.heap.size w (w.alloc (.cells #[.string s] 9)) := (Below.refl _ _).alloc (Nat.le_refl _) _
  have hpos := hT.pos
  have hlt := hF.lt
  have hfo := hF.fl
  have hc : bs (catB [s]) = bs s := by rw [catB_one]
  have key := feed_any base B fv k pol g L (some ⟨w.heap.size, 0, none⟩) 1 [s] _ (hF.bel hb) (hT.below hb hpos) hp h1 h5 hq (strs_new [s] 9 w 1 (by simp))
    (fun a ha => by
      injection ha with ha
      subst ha
      exact ⟨fun e => by have h := e; simp only at h; omega, fun e => by have h := (hfo.lt _ e).2; simp only at h; omega⟩) (by simp) (by rw [hc, bs_len]; omega)
  rw [hc] at key
  refine key.mono ?_
  rintro e w' ⟨fv', v1, o, he, ho, hx, hs, hcase⟩
  refine ⟨fv', v1, o, he, ho.mono (by simp), hx, ((Stp.refl B w fv).alloc _).trans hs, ?_⟩
  rcases hcase with h | ⟨h, p, gs, h2, h3⟩
  · exact .inl h
  · exact .inr ⟨h, p, gs, fun _ => h2 rfl, h3⟩
/-- Close, behind what was fed. -/
theorem close_fed (base B : Nat) (fv : Value) (k : Nat) (pol : Int) (g : Bool) (L : List Nat) (w : World) (hF : Fed w base B fv k pol g L) (hT : Tabs w) (hp : 0 + 1 + 1 ≤ base) (h1 : 1 ≤ k) (h5 : k ≤ 5) (hq : pol = 1 ∨ pol = 2 ∨ pol = 3) (hz : L.length ≤ 90000) :
    Calls Tryd.prog 22 #[.pointer (some ⟨B, 0, none⟩)] w fun e w' => ∃ fv' v1 o, e = .returned (.tuple #[v1, .int .i64 (Dg.whole k pol g L).2.2]) ∧ w'.ownsRow w.heap.size 21 1 v1 o.length (i32s o) ∧ (Dg.sure k pol g L).1 ++ o = (Dg.whole k pol g L).1 ∧ Stp B w fv w' fv' ∧ Dc w' base B fv' L.length ⟨#[]⟩ (Dg.whole k pol g L).2.1 (Dg.knd k g L) pol false true := by
  obtain ⟨wt, hwt, he, hD⟩ := hF
  have hkb := Dg.sureK_bd k g L h1 h5
  have hz2 := wt_size hwt
  have hsl := (Dg.sure_lens k pol g L).2
  have hcl := (Dg.waits_le k g L).1
  have key := close_any base B fv L.length wt _ _ pol _ w hD hT hp hkb.1 hkb.2 hq (by omega) (by omega) (by omega)
  obtain ⟨c1, c2⟩ := Dg.close_step k pol g L
  rw [← hwt] at c1 c2
  rw [Dg.cat_err _ _ he] at c1
  refine key.mono ?_
  rintro e w' ⟨fv', v1, he', ho, hd, hs⟩
  refine ⟨fv', v1, _, ?_, ho, ?_, hs, ?_⟩
  · rw [he', c1]; rfl
  · rw [c1]; rfl
  · rw [c2, c1]
    rw [show L.length - wt.size = Dg.cut5 k g L by omega] at hd
    exact hd
end Go.Proofs.YthnfopjjghohcaaDoor.St

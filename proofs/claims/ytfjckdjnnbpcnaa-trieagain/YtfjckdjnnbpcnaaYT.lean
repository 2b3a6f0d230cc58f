import Derived.Test.YtfjckdjnnbpcnaaTC
import Derived.ProofKit
import Derived.OpenShut
import Derived.Carry
import Derived.SizedLaws
import Derived.Deep.Slices
namespace Go.Proofs.Ytfjckdjnnbpcnaa.Tr
open Go.ChangeShapes Go.WideShapes Go.ChangeAt Go.WideMaps Go.WideElems Go.RowKit

theorem own : ownKnob Try.prog.godebug = none := by kernel_rfl
theorem laidOut : laidOutB Try.prog = true := by kernel_rfl
theorem cSp : Try.prog.cellsOf 33 = 3 := by kernel_rfl
theorem c21 : Try.prog.cellsOf 21 = 1 := by kernel_rfl
theorem c3 : Try.prog.cellsOf 3 = 1 := by kernel_rfl
theorem bSp : Try.prog.bytesOf 33 = 16 := by kernel_rfl
set_option maxRecDepth 100000 in
theorem span_of_cells {H : Type} {enc : TypeId × Value → H} {W : World} {b : Nat} {sp : Nat → Bool} {hd : Bool} {fuel : Nat} {l : List Value} {y : DataW H × List MemPlace}
    (hf : DataW.trod enc Try.prog W b sp hd fuel 33 l = some y) : ∃ s : Sp, l = spV s := by
  obtain ⟨ys, n, rfl, hx, hl, hn, hfd⟩ := DataW.trod_struct Try.underlying33 hf
  rw [cSp] at hl
  have h0 : DataW.trod enc Try.prog W b sp hd n 21 ((l.drop 0).take (Try.prog.cellsOf 21)) = ys[0]? := hfd 0 _ rfl
  have h1 : DataW.trod enc Try.prog W b sp hd n 21 ((l.drop 1).take (Try.prog.cellsOf 21)) = ys[1]? := hfd 1 _ rfl
  have h2 : DataW.trod enc Try.prog W b sp hd n 3 ((l.drop 2).take (Try.prog.cellsOf 3)) = ys[2]? := hfd 2 _ rfl
  rw [c21] at h0 h1
  rw [c3] at h2
  match ys, hn, h0, h1, h2 with
  | [y0, y1, y2], _, h0, h1, h2 =>
    match l, hl, h0, h1, h2 with
    | [v0, v1, v2], _, h0, h1, h2 =>
      obtain ⟨k0, e0, _, _⟩ := DataW.trod_int Try.underlying21 (show DataW.trod enc Try.prog W b sp hd n 21 _ = some y0 from h0)
      obtain ⟨k1, e1, _, _⟩ := DataW.trod_int Try.underlying21 (show DataW.trod enc Try.prog W b sp hd n 21 _ = some y1 from h1)
      obtain ⟨k2, e2, _⟩ := DataW.trod_int Try.underlying3 (show DataW.trod enc Try.prog W b sp hd n 3 _ = some y2 from h2)
      simp at e0 e1 e2
      exact ⟨(k0, k1, k2), by rw [e0, e1, e2]; rfl⟩
/-- An argument of the type Span. -/
theorem span_of_trod {H : Type} {enc : TypeId × Value → H} {W : World} {b : Nat} {sp : Nat → Bool} {hd : Bool} {cs : Array Value} {d : DataW H} {p : List MemPlace}
    (h : DataW.Trod enc Try.prog W b sp hd 33 (.agg cs) d p) : ∃ (f t u : Int), cs = #[.int .i32 f, .int .i32 t, .int .i64 u] := by
  obtain ⟨fuel, hf⟩ := h
  obtain ⟨l⟩ := cs
  simp only [Value.cells] at hf
  obtain ⟨⟨f, t, u⟩, rfl⟩ := span_of_cells hf
  exact ⟨f, t, u, rfl⟩
/-- An argument of the type []Span. -/
theorem spans_of_trod {H : Type} {enc : TypeId × Value → H} {W : World} {b : Nat} {sp : Nat → Bool} {hd : Bool} {A : Option Addr} {len cap : Nat} {d : DataW H} {p : List MemPlace}
    (h : DataW.Trod enc Try.prog W b sp hd 22 (.slice A len cap) d p) : ∃ l : List Sp, len = l.length ∧ Sps W A l ∧ (l = [] ∨ ∃ el s, d = .slice el s ∧ el.length = l.length) := by
  obtain ⟨fuel, hf⟩ := h
  rcases Go.Deep.open_slice Try.underlying22 hf with ⟨hcs, _⟩ | ⟨a, len', cap', m, n, D, Pl, hcs, hb, hl, hm, hmm, he, hx⟩
  · simp [Value.cells] at hcs
    obtain ⟨rfl, rfl, rfl⟩ := hcs
    exact ⟨[], rfl, (fun i hi => by simp at hi), .inl rfl⟩
  · simp [Value.cells] at hcs
    obtain ⟨rfl, rfl, rfl⟩ := hcs
    have hlm : len ≤ m := by rw [hmm]; split <;> omega
    have each : ∀ i, i < len → ∃ q : Sp, ∀ j u, (spV q)[j]? = some u → W.cell? (a.add (i * 3 + j)) = some u := by
      intro i hi
      obtain ⟨cs', h1, h2⟩ := hx i (by omega)
      rw [cSp] at h1
      obtain ⟨_, hlen, hcell⟩ := World.cells?_some h1
      obtain ⟨s, rfl⟩ := span_of_cells h2
      refine ⟨s, fun j u hj => ?_⟩
      have hj3 : j < 3 := by have := (List.getElem?_eq_some_iff.1 hj).1; rw [hlen] at this; exact this
      have := hcell j hj3
      rw [Go.Deep.add_add] at this
      rw [this]
      exact hj
    haveI : Inhabited Sp := ⟨(0, 0, 0)⟩
    obtain ⟨q, hq⟩ := Go.Deep.choose_lt each
    refine ⟨(List.range len).map q, by simp, fun i hi => ?_, .inr ⟨_, _, congrArg Prod.fst he, by simp⟩⟩
    have hi' : i < len := by simpa using hi
    have k1 := hq i hi'
    have hc0 := k1 0 _ rfl
    obtain ⟨bb, off, spot⟩ := a
    have hc00 := (hq 0 (by omega)) 0 _ rfl
    have hspot : spot = none := by simpa [Addr.add] using World.cell?_spot hc00
    subst hspot
    have e : ∀ j, (⟨bb, off, none⟩ : Addr).add j = ⟨bb, off + j, none⟩ := fun j => by unfold Addr.add; split <;> simp_all
    simp only [e] at k1 hc0
    have k3 : ∀ j u, (spV (q i))[j]? = some u → W.cell? ⟨bb, off + i * 3 + j, none⟩ = some u := fun j u hj => by rw [Nat.add_assoc]; exact k1 j u hj
    have eq : ((List.range len).map q)[i] = q i := by simp
    rw [eq]
    exact ⟨bb, off, rfl, World.block_lt_of_cell? W _ hc0, k3 0 _ rfl, k3 1 _ rfl, k3 2 _ rfl⟩
theorem spans_bound {H : Type} {l : List Sp} {d : DataW H} (h : l = [] ∨ ∃ el s, d = .slice el s ∧ el.length = l.length) (hs : ∀ el s, d = .slice el s → (el.length + s.length) * Try.prog.bytesOf 33 ≤ reachBytes) : l.length ≤ 140737488355328 := by
  rcases h with rfl | ⟨el, s, hd, hl⟩
  · simp
  · have := hs el s hd
    rw [bSp] at this
    unfold reachBytes at this
    omega

end Go.Proofs.Ytfjckdjnnbpcnaa.Tr

import Derived.Test.YtohjkpdelopknaaDoorP
import Derived.SliceStrings
import Derived.Carry
import Derived.SizedLaws
namespace Go.Proofs.YtohjkpdelopknaaDoor
open Go.ChangeShapes Go.WideShapes Go.ChangeAt Go.WideMaps Go.WideElems Go.RowKit

/-- What an argument of the type []rune is told to the walk as. -/
theorem ints_of_trod {H : Type} {enc : TypeId × Value → H} {W : World} {b : Nat} {sp : Nat → Bool} {hd : Bool} {A : Option Addr} {len cap : Nat} {d : DataW H} {p : List MemPlace}
    (h : DataW.Trod enc Tryd.prog W b sp hd 28 (.slice A len cap) d p) : ∃ l : List Int, len = l.length ∧ Ints .i32 W A l := by
  obtain ⟨fuel, hf⟩ := h
  rcases open_ints Tryd.underlying28 Tryd.underlying21 (by kernel_rfl) hf with ⟨hcs, _⟩ | ⟨x, l, c, zs, hcs, _, hl, hm, hz, _, hcell, hwz⟩
  · simp [Value.cells] at hcs
    obtain ⟨rfl, rfl, rfl⟩ := hcs
    exact ⟨[], rfl, fun i hi => by simp at hi⟩
  · simp [Value.cells] at hcs
    obtain ⟨rfl, rfl, rfl⟩ := hcs
    have hlz : len ≤ zs.length := by
      rw [hz]
      split <;> omega
    refine ⟨zs.take len, by simp [List.length_take]; omega, fun i hi => ?_⟩
    have hi' : i < len := by simp [List.length_take] at hi; omega
    have hc := hcell i (by omega)
    obtain ⟨bb, off, spot⟩ := x
    have hc0 := hcell 0 (by omega)
    have hspot : spot = none := by simpa [Addr.add] using World.cell?_spot hc0
    subst hspot
    have e : (⟨bb, off, none⟩ : Addr).add i = ⟨bb, off + i, none⟩ := by unfold Addr.add; split <;> simp_all
    rw [e] at hc
    refine ⟨bb, off, rfl, World.block_lt_of_cell? W _ hc, ?_⟩
    rw [hc]
    simp [hi']
theorem strs_of_trod {H : Type} {enc : TypeId × Value → H} {W : World} {b : Nat} {sp : Nat → Bool} {hd : Bool} {A : Option Addr} {len cap : Nat} {d : DataW H} {p : List MemPlace}
    (h : DataW.Trod enc Tryd.prog W b sp hd 35 (.slice A len cap) d p) : ∃ l : List ByteArray, len = l.length ∧ Strs W A cap l ∧ (l = [] ∨ ∃ el s, d = .slice el s ∧ el.length = l.length) := by
  obtain ⟨fuel, hf⟩ := h
  rcases open_strings Tryd.underlying35 Tryd.underlying9 (by kernel_rfl) hf with ⟨hcs, _⟩ | ⟨x, l, c, ss, hcs, _, hl, hm, hz, hx, hcell, hws⟩
  · simp [Value.cells] at hcs
    obtain ⟨rfl, rfl, rfl⟩ := hcs
    exact ⟨[], rfl, .inl rfl, .inl rfl⟩
  · simp [Value.cells] at hcs
    obtain ⟨rfl, rfl, rfl⟩ := hcs
    simp only [Prod.mk.injEq] at hx
    have hlz : len ≤ ss.length := by
      rw [hz]
      split <;> omega
    refine ⟨ss.take len, by simp [List.length_take]; omega, ?_, .inr ⟨_, _, hx.1, by simp [strs]⟩⟩
    by_cases h0 : len = 0
    · exact .inl (by simp [h0])
    · have hc0 := hcell 0 (by omega)
      obtain ⟨bb, off, spot⟩ := x
      have hspot : spot = none := by simpa [Addr.add] using World.cell?_spot hc0
      subst hspot
      have e : ∀ i, (⟨bb, off, none⟩ : Addr).add i = ⟨bb, off + i, none⟩ := fun i => by unfold Addr.add; split <;> simp_all
      refine .inr ⟨bb, off, rfl, ?_, by simp [List.length_take]; omega, fun j y hy => ?_⟩
      · rw [e 0] at hc0
        exact World.block_lt_of_cell? W _ hc0
      · have hj : j < len := by
          have := (List.getElem?_eq_some_iff.1 hy).1
          simp [List.length_take] at this
          omega
        have hc := hcell j (by omega)
        rw [e j] at hc
        rw [hc]
        rw [List.getElem?_take, if_pos hj] at hy
        simp [List.getD, hy]
theorem strs_bound {H : Type} {l : List ByteArray} {d : DataW H} (h : l = [] ∨ ∃ el s, d = .slice el s ∧ el.length = l.length) (hs : ∀ el s, d = .slice el s → (el.length + s.length) * Tryd.prog.bytesOf 9 ≤ reachBytes) : l.length ≤ 8796093022208 := by
  rcases h with rfl | ⟨el, s, hd, hl⟩
  · simp
  · have := hs el s hd
    have hb : Tryd.prog.bytesOf 9 = 16 := by kernel_rfl
    rw [hb] at this
    unfold reachBytes at this
    omega
end Go.Proofs.YtohjkpdelopknaaDoor

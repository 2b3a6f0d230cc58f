import Derived.Test.YtoiedhkhmdgipaaDoorP
import Derived.Test.YtoiedhkhmdgipaaDoorQ
import Derived.Test.YtoiedhkhmdgipaaDoorV
import Derived.SliceStrings
import Derived.Carry
namespace Go.Proofs.YtoiedhkhmdgipaaDoor
open Go.ChangeShapes Go.WideShapes Go.ChangeAt Go.WideMaps Go.WideElems Go.RowKit

/-- What an argument of the type []rune is told to the walk as. -/
theorem ints_of_trod {H : Type} {enc : TypeId × Value → H} {W : World} {b : Nat} {sp : Nat → Bool} {hd : Bool} {A : Option Addr} {len cap : Nat} {d : DataW H} {p : List MemPlace}
    (h : DataW.Trod enc Tryd.prog W b sp hd 27 (.slice A len cap) d p) : ∃ l : List Int, len = l.length ∧ Ints .i32 W A l := by
  have k := h
  obtain ⟨fuel, hf⟩ := h
  rcases open_ints Tryd.underlying27 Tryd.underlying21 (by kernel_rfl) hf with ⟨hcs, _⟩ | ⟨x, l, c, zs, hcs, _, hl, hm, hz, _, hcell, hwz⟩
  · simp [Value.cells] at hcs
    obtain ⟨rfl, rfl, rfl⟩ := hcs
    exact ⟨[], rfl, fun i hi => by simp at hi⟩
  · simp [Value.cells] at hcs
    obtain ⟨rfl, rfl, rfl⟩ := hcs
    have hlz : len ≤ zs.length := by
      rw [hz]
      split <;> omega
    refine ⟨zs.take len, by simp [List.length_take]; omega, fun i hi => ?_⟩
    have hi' : i < len := by simp [List.length_take] at hi; omega
    have hc := hcell i (by omega)
    obtain ⟨bb, off, spot⟩ := x
    have hc0 := hcell 0 (by omega)
    have hspot : spot = none := by simpa [Addr.add] using World.cell?_spot hc0
    subst hspot
    have e : (⟨bb, off, none⟩ : Addr).add i = ⟨bb, off + i, none⟩ := by unfold Addr.add; split <;> simp_all
    rw [e] at hc
    refine ⟨bb, off, rfl, World.block_lt_of_cell? W _ hc, ?_⟩
    rw [hc]
    simp [List.getD, List.getElem?_take, hi']
end Go.Proofs.YtoiedhkhmdgipaaDoor

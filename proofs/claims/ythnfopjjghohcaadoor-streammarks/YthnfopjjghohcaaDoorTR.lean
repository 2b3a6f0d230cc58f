import Derived.Test.YthnfopjjghohcaaDoorTP
import Derived.SliceStrings
import Derived.Carry
import Derived.SizedLaws
namespace Go.Proofs.YthnfopjjghohcaaDoor
open Go.ChangeShapes Go.WideShapes Go.ChangeAt Go.WideMaps Go.WideElems Go.RowKit

/-- What an argument of the type []rune is told to the walk as. -/
theorem ints_of_trod {H : Type} {enc : TypeId × Value → H} {W : World} {b : Nat} {sp : Nat → Bool} {hd : Bool} {A : Option Addr} {len cap : Nat} {d : DataW H} {p : List MemPlace}
    (h : DataW.Trod enc Tryd.prog W b sp hd 25 (.slice A len cap) d p) : ∃ l : List Int, len = l.length ∧ Ints .i32 W A l := by
  obtain ⟨fuel, hf⟩ := h
  rcases open_ints Tryd.underlying25 Tryd.underlying21 (by kernel_rfl) hf with ⟨hcs, _⟩ | ⟨x, l, c, zs, hcs, _, hl, hm, hz, _, hcell, hwz⟩
  · simp [Value.cells] at hcs
    obtain ⟨rfl, rfl, rfl⟩ := hcs
    exact ⟨[], rfl, fun i hi => by simp at hi⟩
  · simp [Value.cells] at hcs
    obtain ⟨rfl, rfl, rfl⟩ := hcs
    have hlz : len ≤ zs.length := by
      rw [hz]
      split <;> omega
    refine ⟨zs.take len, by simp [List.length_take]; omega, fun i hi => ?_⟩
    have hi' : i < len := by simp [List.length_take] at hi; omega
    have hc := hcell i (by omega)
    obtain ⟨bb, off, spot⟩ := x
    have hc0 := hcell 0 (by omega)
    have hspot : spot = none := by simpa [Addr.add] using World.cell?_spot hc0
    subst hspot
    have e : (⟨bb, off, none⟩ : Addr).add i = ⟨bb, off + i, none⟩ := by unfold Addr.add; split <;> simp_all
    rw [e] at hc
    refine ⟨bb, off, rfl, World.block_lt_of_cell? W _ hc, ?_⟩
    rw [hc]
    simp [hi']
theorem strs_of_trod {H : Type} {enc : TypeId × Value → H} {W : World} {b : Nat} {sp : Nat → Bool} {hd : Bool} {A : Option Addr} {len cap : Nat} {d : DataW H} {p : List MemPlace}
    (h : DataW.Trod enc Tryd.prog W b sp hd 36 (.slice A len cap) d p) : ∃ l : List ByteArray, len = l.length ∧ Strs W A cap l ∧ (l = [] ∨ ∃ el s, d = .slice el s ∧ el.length = l.length) ∧ ∀ s ∈ l, s.size ≤ 9223372036854775807 := by
  obtain ⟨fuel, hf⟩ := h
  rcases open_strings Tryd.underlying36 Tryd.underlying9 (by kernel_rfl) hf with ⟨hcs, _⟩ | ⟨x, l, c, ss, hcs, _, hl, hm, hz, hx, hcell, hws⟩
  · simp [Value.cells] at hcs
    obtain ⟨rfl, rfl, rfl⟩ := hcs
    exact ⟨[], rfl, .inl rfl, .inl rfl, by simp⟩
  · simp [Value.cells] at hcs
    obtain ⟨rfl, rfl, rfl⟩ := hcs
    simp only [Prod.mk.injEq] at hx
    have hlz : len ≤ ss.length := by
      rw [hz]
      split <;> omega
    refine ⟨ss.take len, by simp [List.length_take]; omega, ?_, .inr ⟨_, _, hx.1, by simp [strs]⟩, fun s hs => hws s (List.mem_of_mem_take hs)⟩
    by_cases h0 : len = 0
    · exact .inl (by simp [h0])
    · have hc0 := hcell 0 (by omega)
      obtain ⟨bb, off, spot⟩ := x
      have hspot : spot = none := by simpa [Addr.add] using World.cell?_spot hc0
      subst hspot
      have e : ∀ i, (⟨bb, off, none⟩ : Addr).add i = ⟨bb, off + i, none⟩ := fun i => by unfold Addr.add; split <;> simp_all
      refine .inr ⟨bb, off, rfl, ?_, by simp [List.length_take]; omega, fun j y hy => ?_⟩
      · rw [e 0] at hc0
        exact World.block_lt_of_cell? W _ hc0
      · have hj : j < len := by
          have := (List.getElem?_eq_some_iff.1 hy).1
          simp [List.length_take] at this
          omega
        have hc := hcell j (by omega)
        rw [e j] at hc
        rw [hc]
        rw [List.getElem?_take, if_pos hj] at hy
        simp [List.getD, hy]
theorem strs_bound {H : Type} {l : List ByteArray} {d : DataW H} (h : l = [] ∨ ∃ el s, d = .slice el s ∧ el.length = l.length) (hs : ∀ el s, d = .slice el s → (el.length + s.length) * Tryd.prog.bytesOf 9 ≤ reachBytes) : l.length ≤ 8796093022208 := by
  rcases h with rfl | ⟨el, s, hd, hl⟩
  · simp
  · have := hs el s hd
    have hb : Tryd.prog.bytesOf 9 = 16 := by kernel_rfl
    rw [hb] at this
    unfold reachBytes at this
    omega
theorem cH : Tryd.prog.cellsOf 23 = 3 := by kernel_rfl
set_option maxRecDepth 100000 in
/-- An argument of the type How. -/
theorem how_of_trod {H : Type} {enc : TypeId × Value → H} {W : World} {b : Nat} {sp : Nat → Bool} {hd : Bool} {cs : Array Value} {d : DataW H} {p : List MemPlace}
    (h : DataW.Trod enc Tryd.prog W b sp hd 23 (.agg cs) d p) : ∃ (k q : Int) (g : Bool), cs = #[.int .i64 k, .int .i64 q, .bool g] := by
  obtain ⟨fuel, hf⟩ := h
  obtain ⟨ys, n, rfl, hx, hl, hn, hfd⟩ := DataW.trod_struct Tryd.underlying23 hf
  rw [cH] at hl
  obtain ⟨l⟩ := cs
  simp only [Value.cells] at hl hfd
  have h0 : DataW.trod enc Tryd.prog W b sp hd n 3 ((l.drop 0).take (Tryd.prog.cellsOf 3)) = ys[0]? := hfd 0 _ rfl
  have h1 : DataW.trod enc Tryd.prog W b sp hd n 3 ((l.drop 1).take (Tryd.prog.cellsOf 3)) = ys[1]? := hfd 1 _ rfl
  have h2 : DataW.trod enc Tryd.prog W b sp hd n 4 ((l.drop 2).take (Tryd.prog.cellsOf 4)) = ys[2]? := hfd 2 _ rfl
  rw [cI] at h0 h1
  rw [cT] at h2
  match ys, hn, h0, h1, h2 with
  | [y0, y1, y2], _, h0, h1, h2 =>
    match l, hl, h0, h1, h2 with
    | [v0, v1, v2], _, h0, h1, h2 =>
      obtain ⟨k0, e0, _, _⟩ := DataW.trod_int Tryd.underlying3 (show DataW.trod enc Tryd.prog W b sp hd n 3 _ = some y0 from h0)
      obtain ⟨k1, e1, _, _⟩ := DataW.trod_int Tryd.underlying3 (show DataW.trod enc Tryd.prog W b sp hd n 3 _ = some y1 from h1)
      obtain ⟨k2, e2, _⟩ := DataW.trod_bool Tryd.underlying4 (show DataW.trod enc Tryd.prog W b sp hd n 4 _ = some y2 from h2)
      simp at e0 e1 e2
      exact ⟨k0, k1, k2, by rw [e0, e1, e2]⟩
theorem cA2 : Tryd.prog.cellsOf 48 = 2 := by kernel_rfl
set_option maxRecDepth 100000 in
/-- An argument of the type [2]int. -/
theorem two_of_trod {H : Type} {enc : TypeId × Value → H} {W : World} {b : Nat} {sp : Nat → Bool} {hd : Bool} {cs : Array Value} {d : DataW H} {p : List MemPlace}
    (h : DataW.Trod enc Tryd.prog W b sp hd 48 (.agg cs) d p) : ∃ (k q : Int), cs = #[.int .i64 k, .int .i64 q] := by
  obtain ⟨fuel, hf⟩ := h
  obtain ⟨ys, n, rfl, hx, hl, hn, hfd⟩ := DataW.trod_array Tryd.underlying48 hf
  rw [cA2] at hl
  obtain ⟨l⟩ := cs
  simp only [Value.cells] at hl hfd
  simp only [cI] at hfd
  have h0 := hfd 0 (by decide)
  have h1 := hfd 1 (by decide)
  match ys, hn, h0, h1 with
  | [y0, y1], _, h0, h1 =>
    match l, hl, h0, h1 with
    | [v0, v1], _, h0, h1 =>
      obtain ⟨k0, e0, _, _⟩ := DataW.trod_int Tryd.underlying3 (show DataW.trod enc Tryd.prog W b sp hd n 3 _ = some y0 from h0)
      obtain ⟨k1, e1, _, _⟩ := DataW.trod_int Tryd.underlying3 (show DataW.trod enc Tryd.prog W b sp hd n 3 _ = some y1 from h1)
      simp at e0 e1
      exact ⟨k0, k1, by rw [e0, e1]⟩
end Go.Proofs.YthnfopjjghohcaaDoor

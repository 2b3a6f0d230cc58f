import Derived.Test.YtajhgbcgbgpcjaaGreatDoorGB
import Derived.Test.YtajhgbcgbgpcjaaGreatDoorFTb
import Derived.Deep.Slices
namespace Go.Proofs.YtajhgbcgbgpcjaaGreatDoor
open Go.ChangeShapes Go.WideShapes Go.ChangeAt Go.WideMaps Go.WideElems Go.RowKit
open Fi Uc

theorem cR : Tryz.prog.cellsOf 27 = 7 := by kernel_rfl
theorem c21 : Tryz.prog.cellsOf 21 = 1 := by kernel_rfl
theorem c9 : Tryz.prog.cellsOf 9 = 1 := by kernel_rfl
theorem c3 : Tryz.prog.cellsOf 3 = 1 := by kernel_rfl
theorem cS : Tryz.prog.cellsOf 25 = 1 := by kernel_rfl
/-- A slice of numbers inside a struct. -/
theorem ints_of_cell {H : Type} {enc : TypeId × Value → H} {W : World} {b : Nat} {sp : Nat → Bool} {hd : Bool} {n : Nat} {v : Value} {y : DataW H × List MemPlace}
    (hf : DataW.trod enc Tryz.prog W b sp hd n 25 [v] = some y) : ∃ l : List Int, IntV W v l ∧ ∀ x ∈ l, -2147483648 ≤ x ∧ x ≤ 2147483647 := by
  rcases open_ints Tryz.underlying25 Tryz.underlying21 (by kernel_rfl) hf with ⟨hcs, _⟩ | ⟨x, l, c, zs, hcs, _, hl, hm, hz, _, hcell, hwz⟩
  · simp at hcs
    subst hcs
    exact ⟨[], ⟨none, 0, rfl, fun i hi => by simp at hi⟩, fun x hx => by cases hx⟩
  · simp at hcs
    subst hcs
    have hlz : l ≤ zs.length := by
      rw [hz]
      split <;> omega
    refine ⟨zs.take l, ⟨some x, c, by rw [List.length_take, Nat.min_eq_left hlz], fun i hi => ?_⟩, fun y hy => i32_of (hwz y (List.mem_of_mem_take hy))⟩
    have hi' : i < l := by simp [List.length_take] at hi; omega
    have hc := hcell i (by omega)
    obtain ⟨bb, off, spot⟩ := x
    have hc0 := hcell 0 (by omega)
    have hspot : spot = none := by simpa [Addr.add] using World.cell?_spot hc0
    subst hspot
    have e : (⟨bb, off, none⟩ : Addr).add i = ⟨bb, off + i, none⟩ := by unfold Addr.add; split <;> simp_all
    rw [e] at hc
    refine ⟨bb, off, rfl, World.block_lt_of_cell? W _ hc, ?_⟩
    rw [hc]
    simp [hi']
structure RowBd (x : Rw) : Prop where
  fr : -2147483648 ≤ x.fr ∧ x.fr ≤ 2147483647
  tt : -2147483648 ≤ x.tt ∧ x.tt ≤ 2147483647
  nm : x.nm.length ≤ 9223372036854775807
  ct : x.ct.length ≤ 9223372036854775807
  kd : x.kd.length ≤ 9223372036854775807
  into : ∀ y ∈ x.into, -2147483648 ≤ y ∧ y ≤ 2147483647
set_option maxRecDepth 100000 in
theorem row_of_cells {H : Type} {enc : TypeId × Value → H} {W : World} {b : Nat} {sp : Nat → Bool} {hd : Bool} {fuel : Nat} {cs : List Value} {y : DataW H × List MemPlace}
    (hf : DataW.trod enc Tryz.prog W b sp hd fuel 27 cs = some y) : ∃ (x : Rw) (v : Value), cs = rC x v ∧ IntV W v x.into ∧ RowBd x := by
  obtain ⟨ys, n, rfl, hx, hl, hn, hfd⟩ := DataW.trod_struct Tryz.underlying27 hf
  rw [cR] at hl
  have h0 : DataW.trod enc Tryz.prog W b sp hd n 21 ((cs.drop 0).take (Tryz.prog.cellsOf 21)) = ys[0]? := hfd 0 _ rfl
  have h1 : DataW.trod enc Tryz.prog W b sp hd n 21 ((cs.drop 1).take (Tryz.prog.cellsOf 21)) = ys[1]? := hfd 1 _ rfl
  have h2 : DataW.trod enc Tryz.prog W b sp hd n 9 ((cs.drop 2).take (Tryz.prog.cellsOf 9)) = ys[2]? := hfd 2 _ rfl
  have h3 : DataW.trod enc Tryz.prog W b sp hd n 9 ((cs.drop 3).take (Tryz.prog.cellsOf 9)) = ys[3]? := hfd 3 _ rfl
  have h4 : DataW.trod enc Tryz.prog W b sp hd n 3 ((cs.drop 4).take (Tryz.prog.cellsOf 3)) = ys[4]? := hfd 4 _ rfl
  have h5 : DataW.trod enc Tryz.prog W b sp hd n 9 ((cs.drop 5).take (Tryz.prog.cellsOf 9)) = ys[5]? := hfd 5 _ rfl
  have h6 : DataW.trod enc Tryz.prog W b sp hd n 25 ((cs.drop 6).take (Tryz.prog.cellsOf 25)) = ys[6]? := hfd 6 _ rfl
  rw [c21] at h0 h1
  rw [c9] at h2 h3 h5
  rw [c3] at h4
  rw [cS] at h6
  match ys, hn, h0, h1, h2, h3, h4, h5, h6 with
  | [y0, y1, y2, y3, y4, y5, y6], _, h0, h1, h2, h3, h4, h5, h6 =>
    match cs, hl, h0, h1, h2, h3, h4, h5, h6 with
    | [v0, v1, v2, v3, v4, v5, v6], _, h0, h1, h2, h3, h4, h5, h6 =>
      obtain ⟨k0, e0, _, w0⟩ := DataW.trod_int Tryz.underlying21 (show DataW.trod enc Tryz.prog W b sp hd n 21 [v0] = some y0 from h0)
      obtain ⟨k1, e1, _, w1⟩ := DataW.trod_int Tryz.underlying21 (show DataW.trod enc Tryz.prog W b sp hd n 21 [v1] = some y1 from h1)
      obtain ⟨s2, e2, _, z2⟩ := DataW.trod_string Tryz.underlying9 (show DataW.trod enc Tryz.prog W b sp hd n 9 [v2] = some y2 from h2)
      obtain ⟨s3, e3, _, z3⟩ := DataW.trod_string Tryz.underlying9 (show DataW.trod enc Tryz.prog W b sp hd n 9 [v3] = some y3 from h3)
      obtain ⟨k4, e4, _, _⟩ := DataW.trod_int Tryz.underlying3 (show DataW.trod enc Tryz.prog W b sp hd n 3 [v4] = some y4 from h4)
      obtain ⟨s5, e5, _, z5⟩ := DataW.trod_string Tryz.underlying9 (show DataW.trod enc Tryz.prog W b sp hd n 9 [v5] = some y5 from h5)
      obtain ⟨l, hi, hb⟩ := ints_of_cell (show DataW.trod enc Tryz.prog W b sp hd n 25 [v6] = some y6 from h6)
      simp at e0 e1 e2 e3 e4 e5
      subst e0 e1 e2 e3 e4 e5
      have hm : maxLen = 9223372036854775807 := rfl
      refine ⟨⟨k0, k1, s2.data.toList, s3.data.toList, k4, s5.data.toList, l⟩, v6, rfl, hi, ⟨i32_of w0, i32_of w1, ?_, ?_, ?_, hb⟩⟩
      · show s2.data.toList.length ≤ _
        rw [lst_len]; omega
      · show s3.data.toList.length ≤ _
        rw [lst_len]; omega
      · show s5.data.toList.length ≤ _
        rw [lst_len]; omega
/-- What an argument of the type []ucd.Row is told to the walk as. -/
theorem rows_of_trod {H : Type} {enc : TypeId × Value → H} {W : World} {b : Nat} {sp : Nat → Bool} {hd : Bool} {A : Option Addr} {len cap : Nat} {d : DataW H} {p : List MemPlace}
    (h : DataW.Trod enc Tryz.prog W b sp hd 22 (.slice A len cap) d p) : ∃ l : List Rw, len = l.length ∧ Rws W A l ∧ ∀ x ∈ l, RowBd x := by
  obtain ⟨fuel, hf⟩ := h
  rcases Go.Deep.open_slice Tryz.underlying22 hf with ⟨hcs, _⟩ | ⟨a, len', cap', m, n, D, Pl, hcs, hb, hl, hm, hmm, _, hx⟩
  · simp [Value.cells] at hcs
    obtain ⟨rfl, rfl, rfl⟩ := hcs
    exact ⟨[], rfl, fun i hi => by simp at hi, fun x hx => by cases hx⟩
  · simp [Value.cells] at hcs
    obtain ⟨rfl, rfl, rfl⟩ := hcs
    have hlm : len ≤ m := by rw [hmm]; split <;> omega
    have each : ∀ i, i < len → ∃ q : Rw × Value, (∀ j u, (rC q.1 q.2)[j]? = some u → W.cell? (a.add (i * 7 + j)) = some u) ∧ IntV W q.2 q.1.into ∧ RowBd q.1 := by
      intro i hi
      obtain ⟨cs', h1, h2⟩ := hx i (by omega)
      rw [cR] at h1
      obtain ⟨_, hlen, hcell⟩ := World.cells?_some h1
      obtain ⟨x, v, rfl, hi2, hbd⟩ := row_of_cells h2
      refine ⟨(x, v), fun j u hj => ?_, hi2, hbd⟩
      have hj7 : j < 7 := by have := (List.getElem?_eq_some_iff.1 hj).1; rw [hlen] at this; exact this
      have := hcell j hj7
      rw [Go.Deep.add_add] at this
      rw [this]
      exact hj
    haveI : Inhabited (Rw × Value) := ⟨(z0, .bool false)⟩
    obtain ⟨q, hq⟩ := Go.Deep.choose_lt each
    refine ⟨(List.range len).map fun i => (q i).1, by simp, fun i hi => ?_, fun x hx => ?_⟩
    · have hi' : i < len := by simpa using hi
      obtain ⟨k1, k2, _⟩ := hq i hi'
      have hc0 := k1 0 _ rfl
      obtain ⟨bb, off, spot⟩ := a
      have hc00 := (hq 0 (by omega)).1 0 _ rfl
      have hspot : spot = none := by simpa [Addr.add] using World.cell?_spot hc00
      subst hspot
      have e : ∀ j, (⟨bb, off, none⟩ : Addr).add j = ⟨bb, off + j, none⟩ := fun j => by unfold Addr.add; split <;> simp_all
      simp only [e] at k1 hc0
      have k3 : ∀ j u, (rC (q i).1 (q i).2)[j]? = some u → W.cell? ⟨bb, off + i * 7 + j, none⟩ = some u := fun j u hj => by rw [Nat.add_assoc]; exact k1 j u hj
      have eq : ((List.range len).map fun i => (q i).1)[i] = (q i).1 := by simp
      rw [eq]
      exact ⟨bb, off, (q i).2, rfl, World.block_lt_of_cell? W _ hc0, k2, k3 0 _ rfl, k3 1 _ rfl, k3 2 _ rfl, k3 3 _ rfl, k3 4 _ rfl, k3 5 _ rfl, k3 6 _ rfl⟩
    · obtain ⟨i, hi, rfl⟩ := List.mem_map.1 hx
      exact (hq i (by simpa using hi)).2.2

end Go.Proofs.YtajhgbcgbgpcjaaGreatDoor

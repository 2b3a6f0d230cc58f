import Derived.Test.YthnfopjjghohcaaDoorGS1
import Derived.Test.YthnfopjjghohcaaDoorTie
import Derived.ProofKit
import Derived.LaidMore
import Derived.OpenShut
import Derived.Stop.Joined
import Derived.SevenTiedAt
namespace Go.Proofs.YthnfopjjghohcaaDoor
open Go.ChangeShapes Go.WideShapes Go.ChangeAt Go.WideMaps Go.WideElems Go.RowKit

theorem own : ownKnob Tryd.prog.godebug = none := by kernel_rfl
theorem laidOut : laidOutB Tryd.prog = true := by kernel_rfl
theorem gShapes : Tryd.prog.globalNamed "inkhorn/utf8.shapes" = some 0 := by kernel_rfl
theorem tShapes : (Tryd.prog.globals[0]?).map (·.type) = some 119 := by kernel_rfl
theorem gLay : Tryd.prog.globalNamed "inkhorn/wide.layouts" = some 1 := by kernel_rfl
theorem tLay : (Tryd.prog.globals[1]?).map (·.type) = some 121 := by kernel_rfl
theorem cS : Tryd.prog.cellsOf 118 = 3 := by kernel_rfl
theorem cR : Tryd.prog.cellsOf 21 = 1 := by kernel_rfl
theorem cB : Tryd.prog.cellsOf 5 = 1 := by kernel_rfl
theorem cI : Tryd.prog.cellsOf 3 = 1 := by kernel_rfl
theorem cT : Tryd.prog.cellsOf 4 = 1 := by kernel_rfl
theorem cS5 : Tryd.prog.cellsOf 119 = 15 := by kernel_rfl
theorem cL : Tryd.prog.cellsOf 107 = 3 := by kernel_rfl
theorem cL5 : Tryd.prog.cellsOf 121 = 15 := by kernel_rfl
def laid1 : List (String × DataW Unit) := [("inkhorn/utf8.shapes", Rows.laid_inkhorn_utf8_shapes), ("inkhorn/wide.layouts", Rows.laid_inkhorn_wide_layouts)]

/-- The door's own heap meets the condition. -/
theorem door_met (os : Os) (args : Array Value) : laidMetH Tryd.prog laid1 ((World.doorLaid Tryd.prog 400 os).forCall (fun _ _ => 0) ⟨#[], args, []⟩).memory :=
  laidMetH_of_parts3 (fuel := 8) (laidMet_of_run' 8 (by kernel_rfl) (by kernel_rfl)) (by kernel_rfl) (by kernel_rfl)

set_option maxRecDepth 100000 in
theorem rowS {H : Type} {enc : TypeId × Value → H} {w : World} {base : Nat} {spare : Nat → Bool} {held : Bool} {fuel : Nat} {cs : List Value} {x : DataW H × List MemPlace} {a b c : Int}
    (h : DataW.trod enc Tryd.prog w base spare held fuel 118 cs = some x) (hx : x.1 = .agg [.lit (.int .i32 a), .lit (.int .u8 b), .lit (.int .i64 c)]) : cs = [.int .i32 a, .int .u8 b, .int .i64 c] := by
  obtain ⟨ys, n, rfl, rfl, hl, hn, hf⟩ := DataW.trod_struct Tryd.underlying118 h
  rw [cS] at hl
  have h0 : DataW.trod enc Tryd.prog w base spare held n 21 ((cs.drop 0).take (Tryd.prog.cellsOf 21)) = ys[0]? := hf 0 _ rfl
  have h1 : DataW.trod enc Tryd.prog w base spare held n 5 ((cs.drop 1).take (Tryd.prog.cellsOf 5)) = ys[1]? := hf 1 _ rfl
  have h2 : DataW.trod enc Tryd.prog w base spare held n 3 ((cs.drop 2).take (Tryd.prog.cellsOf 3)) = ys[2]? := hf 2 _ rfl
  rw [cR] at h0
  rw [cB] at h1
  rw [cI] at h2
  match ys, hn, hx, h0, h1, h2 with
  | [y0, y1, y2], _, hx, h0, h1, h2 =>
    simp only [List.map_cons, List.map_nil, DataW.agg.injEq, List.cons.injEq, and_true] at hx
    match cs, hl, h0, h1, h2 with
    | [v0, v1, v2], _, h0, h1, h2 =>
      obtain ⟨k0, e0, f0, _⟩ := DataW.trod_int Tryd.underlying21 (show DataW.trod enc Tryd.prog w base spare held n 21 _ = some y0 from h0)
      obtain ⟨k1, e1, f1, _⟩ := DataW.trod_int Tryd.underlying5 (show DataW.trod enc Tryd.prog w base spare held n 5 _ = some y1 from h1)
      obtain ⟨k2, e2, f2, _⟩ := DataW.trod_int Tryd.underlying3 (show DataW.trod enc Tryd.prog w base spare held n 3 _ = some y2 from h2)
      subst f0 f1 f2
      simp at e0 e1 e2 hx
      obtain ⟨rfl, rfl, rfl⟩ := hx
      rw [e0, e1, e2]

set_option maxRecDepth 100000 in
theorem rowL {H : Type} {enc : TypeId × Value → H} {w : World} {base : Nat} {spare : Nat → Bool} {held : Bool} {fuel : Nat} {cs : List Value} {x : DataW H × List MemPlace} {a : Int} {b c : Bool}
    (h : DataW.trod enc Tryd.prog w base spare held fuel 107 cs = some x) (hx : x.1 = .agg [.lit (.int .i64 a), .lit (.bool b), .lit (.bool c)]) : cs = [.int .i64 a, .bool b, .bool c] := by
  obtain ⟨ys, n, rfl, rfl, hl, hn, hf⟩ := DataW.trod_struct Tryd.underlying107 h
  rw [cL] at hl
  have h0 : DataW.trod enc Tryd.prog w base spare held n 3 ((cs.drop 0).take (Tryd.prog.cellsOf 3)) = ys[0]? := hf 0 _ rfl
  have h1 : DataW.trod enc Tryd.prog w base spare held n 4 ((cs.drop 1).take (Tryd.prog.cellsOf 4)) = ys[1]? := hf 1 _ rfl
  have h2 : DataW.trod enc Tryd.prog w base spare held n 4 ((cs.drop 2).take (Tryd.prog.cellsOf 4)) = ys[2]? := hf 2 _ rfl
  rw [cI] at h0
  rw [cT] at h1 h2
  match ys, hn, hx, h0, h1, h2 with
  | [y0, y1, y2], _, hx, h0, h1, h2 =>
    simp only [List.map_cons, List.map_nil, DataW.agg.injEq, List.cons.injEq, and_true] at hx
    match cs, hl, h0, h1, h2 with
    | [v0, v1, v2], _, h0, h1, h2 =>
      obtain ⟨k0, e0, f0, _⟩ := DataW.trod_int Tryd.underlying3 (show DataW.trod enc Tryd.prog w base spare held n 3 _ = some y0 from h0)
      obtain ⟨k1, e1, f1⟩ := DataW.trod_bool Tryd.underlying4 (show DataW.trod enc Tryd.prog w base spare held n 4 _ = some y1 from h1)
      obtain ⟨k2, e2, f2⟩ := DataW.trod_bool Tryd.underlying4 (show DataW.trod enc Tryd.prog w base spare held n 4 _ = some y2 from h2)
      subst f0 f1 f2
      simp at e0 e1 e2 hx
      obtain ⟨rfl, rfl, rfl⟩ := hx
      rw [e0, e1, e2]

set_option maxRecDepth 100000 in
/-- What the condition on the listed variables gives: the tables' cells. -/
theorem of_laid {W : World} (h : laidMetH Tryd.prog laid1 W) : St.Tabs W := by
  rw [MakeChecks.laidMetH_plain _ _ _ (by kernel_rfl)] at h
  obtain ⟨ps, ⟨g0, t0, cs0, f0, p0, q0, hg0, ht0, hv0, hd0, ⟨g1, t1, cs1, f1, p1, q1, hg1, ht1, hv1, hd1, _, _⟩, _⟩, _, _⟩ := h
  obtain rfl := Option.some.inj (gShapes.symm.trans hg0)
  obtain rfl := Option.some.inj (tShapes.symm.trans ht0)
  obtain rfl := Option.some.inj (gLay.symm.trans hg1)
  obtain rfl := Option.some.inj (tLay.symm.trans ht1)
  constructor
  · clear hd1 hv1
    have hc := fun i => World.var?_cell hg0 hv0 i
    obtain ⟨xs, m, rfl, hx, hl, hn, hel⟩ := DataW.trod_array Tryd.underlying119 hd0
    rw [cS5] at hl
    simp only [cS] at hel
    simp only [Prod.mk.injEq, Rows.laid_inkhorn_utf8_shapes, DataW.agg.injEq] at hx
    have e0 := hel 0 (by decide)
    have e1 := hel 1 (by decide)
    have e2 := hel 2 (by decide)
    have e3 := hel 3 (by decide)
    have e4 := hel 4 (by decide)
    match xs, hn, hx, e0, e1, e2, e3, e4 with
    | [x0, x1, x2, x3, x4], _, hx, e0, e1, e2, e3, e4 =>
      simp only [List.map_cons, List.map_nil, List.cons.injEq, and_true] at hx
      have r0 := rowS (show _ = some x0 from e0) hx.1.1.symm
      have r1 := rowS (show _ = some x1 from e1) hx.1.2.1.symm
      have r2 := rowS (show _ = some x2 from e2) hx.1.2.2.1.symm
      have r3 := rowS (show _ = some x3 from e3) hx.1.2.2.2.1.symm
      have r4 := rowS (show _ = some x4 from e4) hx.1.2.2.2.2.symm
      obtain ⟨l⟩ := cs0
      simp only at hl
      match l, hl, r0, r1, r2, r3, r4 with
      | [v0, v1, v2, v3, v4, v5, v6, v7, v8, v9, v10, v11, v12, v13, v14], _, r0, r1, r2, r3, r4 =>
        simp at r0 r1 r2 r3 r4
        obtain ⟨rfl, rfl, rfl⟩ := r0
        obtain ⟨rfl, rfl, rfl⟩ := r1
        obtain ⟨rfl, rfl, rfl⟩ := r2
        obtain ⟨rfl, rfl, rfl⟩ := r3
        obtain ⟨rfl, rfl, rfl⟩ := r4
        exact ⟨by simpa using hc 3, by simpa using hc 6, by simpa using hc 9, by simpa using hc 12, by simpa using hc 4, by simpa using hc 7, by simpa using hc 10, by simpa using hc 13, by simpa using hc 5, by simpa using hc 8, by simpa using hc 11, by simpa using hc 14⟩
  · clear hd0 hv0
    have hc := fun i => World.var?_cell hg1 hv1 i
    obtain ⟨xs, m, rfl, hx, hl, hn, hel⟩ := DataW.trod_array Tryd.underlying121 hd1
    rw [cL5] at hl
    simp only [cL] at hel
    simp only [Prod.mk.injEq, Rows.laid_inkhorn_wide_layouts, DataW.agg.injEq] at hx
    have e0 := hel 0 (by decide)
    have e1 := hel 1 (by decide)
    have e2 := hel 2 (by decide)
    have e3 := hel 3 (by decide)
    have e4 := hel 4 (by decide)
    match xs, hn, hx, e0, e1, e2, e3, e4 with
    | [x0, x1, x2, x3, x4], _, hx, e0, e1, e2, e3, e4 =>
      simp only [List.map_cons, List.map_nil, List.cons.injEq, and_true] at hx
      have r0 := rowL (show _ = some x0 from e0) hx.1.1.symm
      have r1 := rowL (show _ = some x1 from e1) hx.1.2.1.symm
      have r2 := rowL (show _ = some x2 from e2) hx.1.2.2.1.symm
      have r3 := rowL (show _ = some x3 from e3) hx.1.2.2.2.1.symm
      have r4 := rowL (show _ = some x4 from e4) hx.1.2.2.2.2.symm
      obtain ⟨l⟩ := cs1
      simp only at hl
      match l, hl, r0, r1, r2, r3, r4 with
      | [v0, v1, v2, v3, v4, v5, v6, v7, v8, v9, v10, v11, v12, v13, v14], _, r0, r1, r2, r3, r4 =>
        simp at r0 r1 r2 r3 r4
        obtain ⟨rfl, rfl, rfl⟩ := r0
        obtain ⟨rfl, rfl, rfl⟩ := r1
        obtain ⟨rfl, rfl, rfl⟩ := r2
        obtain ⟨rfl, rfl, rfl⟩ := r3
        obtain ⟨rfl, rfl, rfl⟩ := r4
        exact ⟨by simpa using hc 3, by simpa using hc 4, by simpa using hc 5, by simpa using hc 6, by simpa using hc 7, by simpa using hc 8, by simpa using hc 9, by simpa using hc 10, by simpa using hc 11, by simpa using hc 12, by simpa using hc 13, by simpa using hc 14⟩
end Go.Proofs.YthnfopjjghohcaaDoor

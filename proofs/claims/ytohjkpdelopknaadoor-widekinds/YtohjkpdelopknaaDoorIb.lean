import Derived.Test.YtohjkpdelopknaaDoorE
import Derived.Deep.AppendLies
import Derived.Maps.AppendAt
import Derived.Deep.Heap
import Derived.Deep.RegionLaw
import Derived.Deep.DrawnRows
namespace Go.Proofs.YtohjkpdelopknaaDoor
open Go.RowKit
theorem u8_info : (Tryd.prog.info? 5).map (fun i => (i.zero, i.size, i.bytes)) = some (some (.int .u8 0), 1, 1) := by kernel_rfl
theorem own_ne {w : World} {base : Nat} {e : TypeId} {size n : Nat} {v : Value} {xs : List Value} (h : w.ownsRow base e size v n xs) {b : Nat} (hb : b < base) : v.ownBlock ≠ some b := by
  intro he
  have := (h.lt b he).1
  omega
theorem below_grown {base : Nat} {w w' : World} {v : Value} {e : TypeId} {size n : Nat} {xs : List Value} (h : w.ownsRow base e size v n xs) (hg : w.grownBy w' v.ownBlock) (hb : base ≤ w.heap.size) : Below base w w' :=
  (Below.refl _ _).grown hg hb (fun k hk => (h.lt k hk).1)
/-- A target that lies in block T. -/
structure Tgt (w : World) (T : Nat) (z : Int) (lo pr : Bool) (v : Value) : Prop where
  blk : w.heap[T]? = some (.cells #[.int .i64 z, .bool lo, .bool pr, v] 66 (0, 0))
theorem Tgt.c0 {w : World} {T : Nat} {z : Int} {lo pr : Bool} {v : Value} (h : Tgt w T z lo pr v) : w.cell? ⟨T, 0, none⟩ = some (.int .i64 z) := by simp [World.cell?, h.blk]
theorem Tgt.c1 {w : World} {T : Nat} {z : Int} {lo pr : Bool} {v : Value} (h : Tgt w T z lo pr v) : w.cell? ⟨T, 1, none⟩ = some (.bool lo) := by simp [World.cell?, h.blk]
theorem Tgt.c2 {w : World} {T : Nat} {z : Int} {lo pr : Bool} {v : Value} (h : Tgt w T z lo pr v) : w.cell? ⟨T, 2, none⟩ = some (.bool pr) := by simp [World.cell?, h.blk]
theorem Tgt.c3 {w : World} {T : Nat} {z : Int} {lo pr : Bool} {v : Value} (h : Tgt w T z lo pr v) : w.cell? ⟨T, 3, none⟩ = some v := by simp [World.cell?, h.blk]
theorem Tgt.fr {w : World} {T : Nat} {z : Int} {lo pr : Bool} {v : Value} (h : Tgt w T z lo pr v) (o : Nat) : w.frozen? ⟨T, o, none⟩ = false := by simp [World.frozen?, h.blk]
theorem Tgt.lt {w : World} {T : Nat} {z : Int} {lo pr : Bool} {v : Value} (h : Tgt w T z lo pr v) : T < w.heap.size := (Array.getElem?_eq_some_iff.1 h.blk).1
theorem Tgt.ne {w : World} {T : Nat} {z : Int} {lo pr : Bool} {v : Value} (h : Tgt w T z lo pr v) {b n : Nat} {v' : Value} {xs : List Value} (ho : w.ownsRow b 5 1 v' n xs) : v'.ownBlock ≠ some T := by
  intro he
  rcases ho.2 with ⟨rfl, _⟩ | ⟨g, cap, cur, rfl, _, hg, _⟩
  · cases he
  · have : g = T := by injection he
    subst this
    rw [h.blk] at hg
    simp at hg
theorem own_below {w w' : World} {b : Nat} {e : TypeId} {z n : Nat} {v : Value} {xs : List Value} (h : w.ownsRow b e z v n xs) (hb : Below w.heap.size w w') : w'.ownsRow b e z v n xs := by
  refine ⟨h.1, ?_⟩
  rcases h.2 with h2 | ⟨g, cap, cur, h1, h2, h3, h4⟩
  · exact .inl h2
  · exact .inr ⟨g, cap, cur, h1, h2, by rw [hb.block g (h.lt g (by rw [h1]; rfl)).2]; exact h3, h4⟩
theorem Tgt.below {w w' : World} {T : Nat} {z : Int} {lo pr : Bool} {v : Value} (h : Tgt w T z lo pr v) {B : Nat} (hb : Below B w w') (hB : T < B) : Tgt w' T z lo pr v := ⟨(hb.block T hB).trans h.blk⟩
theorem Tgt.grown {w w' : World} {T : Nat} {z : Int} {lo pr : Bool} {v : Value} (h : Tgt w T z lo pr v) {r : Option Nat} (hg : w.grownBy w' r) (hr : r ≠ some T) : Tgt w' T z lo pr v := ⟨(hg.block T h.lt (fun e => hr e.symm)).trans h.blk⟩
theorem Tgt.some {w : World} {T : Nat} {z : Int} {lo pr : Bool} {v : Value} (h : Tgt w T z lo pr v) : w.cell? ⟨T, 0, none⟩ = some (.int .i64 z) ∧ w.cell? ⟨T, 1, none⟩ = some (.bool lo) ∧ w.cell? ⟨T, 2, none⟩ = some (.bool pr) ∧ w.frozen? ⟨T, 3, none⟩ = false := ⟨h.c0, h.c1, h.c2, h.fr 3⟩
theorem Tgt.set {w : World} {T : Nat} {z : Int} {lo pr : Bool} {v : Value} (h : Tgt w T z lo pr v) (x : Value) : Tgt (w.setCell ⟨T, 3, none⟩ x) T z lo pr x := ⟨by simp [World.setCell, Array.getElem?_modify, h.blk]⟩
theorem own_set {w : World} {b : Nat} {e : TypeId} {z n : Nat} {v : Value} {xs : List Value} {T o : Nat} (h : w.ownsRow b e z v n xs) (hne : v.ownBlock ≠ some T) (x : Value) : (w.setCell ⟨T, o, none⟩ x).ownsRow b e z v n xs := by
  refine ⟨h.1, ?_⟩
  rcases h.2 with h2 | ⟨g, cap, cur, h1, h2, h3, h4⟩
  · exact .inl h2
  · refine .inr ⟨g, cap, cur, h1, h2, ?_, h4⟩
    rw [Go.Deep.blk_setCell_other _ _ _ _ (fun he => hne (by have hg : g = T := he; rw [h1, hg]; rfl))]
    exact h3
end Go.Proofs.YtohjkpdelopknaaDoor

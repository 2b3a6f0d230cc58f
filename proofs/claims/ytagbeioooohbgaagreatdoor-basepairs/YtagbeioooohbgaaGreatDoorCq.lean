import Derived.Deep.QuietTactic
import Derived.BigQuiet
import Derived.Below
namespace Go.Proofs.YtagbeioooohbgaaGreatDoor
open Go Go.RowKit

/-- A world in which all that lay in another one is as it was: the class of worlds in which a region is walked once, in the order of the text, though its callees make memory. -/
structure Bel (w0 : World) where
  w : World
  b : Below w0.heap.size w0 w
instance (w0 : World) : Nonempty (Bel w0) := ⟨⟨w0, Below.refl _ _⟩⟩
theorem Bel.cell {w0 : World} {p : Addr} {v : Value} (h : w0.cell? p = some v) (hp : p.block < w0.heap.size) : ∀ x : Bel w0, x.w.cell? p = some v := fun x => (x.b.cell hp).trans h
theorem Bel.on {w1 w0 : World} (h : Below w1.heap.size w1 w0) (x : Bel w0) : Below w1.heap.size w1 x.w := h.trans (x.b.mono h.size)
theorem bel_call {P : Program} {f : FuncId} {args : Array Value} {v : Value} {w0 : World} {x : Bel w0} (h : Calls P f args x.w fun e w' => e = .returned v ∧ Below x.w.heap.size x.w w') : Calls P f args x.w fun e w'' => e = .returned v ∧ ∃ y : Bel w0, w'' = y.w :=
  h.mono fun _ w'' ⟨he, hb⟩ => ⟨he, ⟨w'', x.b.trans (hb.mono x.b.size)⟩, rfl⟩
theorem bel_call_same {P : Program} {f : FuncId} {args : Array Value} {v : Value} {w0 : World} {x : Bel w0} (h : Calls P f args x.w fun e w' => e = .returned v ∧ x.w = w') : Calls P f args x.w fun e w'' => e = .returned v ∧ ∃ y : Bel w0, w'' = y.w :=
  h.mono fun _ _ ⟨he, hb⟩ => ⟨he, x, hb.symm⟩
/-- A region that reads and calls: one walk of the text's order, in every world behind. -/
theorem wp_region_bel {P : Program} {id : Nat} {Q : Exit → Act → World → Prop} {a : Act} {w : World} {l : List Oper} (hm : P.follows .mixedOrders = true) (hB : Region.lexB .any l.toArray = true)
    (h : wpQuiet P l.toArray (fun w' => ∃ x : Bel w, w' = x.w) (fun a' => ∀ x : Bel w, Q .normal a' x.w) l a) : (Code.region id l.toArray true).wp P Q a w := by
  refine wp_region_quiet (C := fun w' => ∃ x : Bel w, w' = x.w) hm hB ⟨⟨_, (Below.refl _ w).drew⟩, rfl⟩ ?_
  have e : (fun a' => ∀ w', (∃ x : Bel w, w' = x.w) → Q .normal a' w') = fun a' => ∀ x : Bel w, Q .normal a' x.w := by
    funext a'
    exact propext ⟨fun h x => h _ ⟨x, rfl⟩, fun h w' ⟨x, hx⟩ => by rw [hx]; exact h x⟩
  rw [e]
  simpa using h

end Go.Proofs.YtagbeioooohbgaaGreatDoor

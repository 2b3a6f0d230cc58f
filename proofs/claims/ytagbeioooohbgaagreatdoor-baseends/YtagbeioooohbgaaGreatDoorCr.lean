import Derived.Test.YtagbeioooohbgaaGreatDoorCq
import Derived.RangeFuncNested
import Derived.RangeFuncBound
import Derived.RangeFuncCalls
import Derived.RangeFuncLeaves
import Derived.RangeFuncFrom
import Derived.RangeFuncWrites
import Derived.RangeFuncBox
import Derived.Shelf.Abstract
import Derived.Shelf.RegionOpen
import Derived.WalkKit
import Derived.OwnWalkIn
import Derived.TacticsInMore
import Derived.LoopNIn
import Derived.LoopIn
namespace Go.Proofs.YtagbeioooohbgaaGreatDoor
open Go Go.RowKit

/-- A function that holds a range over a function: entered so, it is walked by the plain words; the range itself by the fenced law (wp_of_wide). -/
theorem calls_marks {P : Program} {f : FuncId} {fn : Func} {c : Code} {args : Array Value} {w : World} {R : Ending → World → Prop} (hf : P.funcs[f]? = some fn) (hb : fn.body = some c)
    (h : c.wp P (bodyPostM Fence.wide 5 P fn R) { tmps := args ++ Array.replicate (fn.ntmps - args.size) undef, defers := [] } w) : Calls P f args w R :=
  callsIn_wide.1 (callsIn_of_wp_marks hf hb trivial (wpIn_wide.2 h) rfl)
theorem wp_of_wide {P : Program} {c : Code} {Q : Exit → Act → World → Prop} {a : Act} {w : World} (h : c.wpIn Fence.wide 5 P Q a w) : c.wp P Q a w := wpIn_wide.1 h
/-- On the way out: no mark is left. -/
theorem leave_nil {P : Program} {F : Fence} {n : Nat} {fn : Func} {tmps : Array Value} {R : Ending → World → Prop} {w : World} {v : Value} (h1 : (results fn tmps).run P w = .ok v w) (h2 : R (.returned v) w) : LeavesInM F n P fn tmps R [] .returning w := ⟨v, h1, h2⟩
/-- The mark of a range that is over. -/
theorem leave_mark {P : Program} {F : Fence} {n : Nat} {fn : Func} {tmps : Array Value} {R : Ending → World → Prop} {w : World} {D : Nat} {ds : List Deferred} (hK : w.heap[D]? = some (.deferred (some [])))
    (h : LeavesInM F n P fn tmps R ds .returning (w.putObj D (.deferred none))) : LeavesInM F n P fn tmps R ({ target := .collected D, args := #[] } :: ds) .returning w := ⟨by simp, .inl ⟨_, _, rfl, run_takeDeferred hK, h⟩⟩
theorem below_put {B D : Nat} {a w : World} {o : Obj} (h : Below B a w) (hD : B ≤ D) : Below B a (w.putObj D o) :=
  h.trans ⟨rfl, rfl, rfl, by simp [World.putObj], fun k hk => by simp only [World.putObj]; rw [Array.getElem?_setIfInBounds_ne (by omega)]⟩

theorem cell_put {w : World} {p : Addr} {v : Value} {D : Nat} {o : Obj} (h : w.cell? p = some v) (hne : p.block ≠ D) : (w.putObj D o).cell? p = some v := by
  rw [← h]
  unfold World.cell?
  simp only [World.putObj]
  rw [Array.getElem?_setIfInBounds_ne (by omega)]
/-! A region that draws its order, in a round of a range over a function. -/
def noDefer (o : Oper) : Bool := match o.op with | .defer _ => false | _ => true
theorem noDefer_ne {o : Oper} (h : noDefer o = true) : ∀ c, o.op ≠ .defer c := fun c e => by simp [noDefer, e] at h
theorem op_round {P : Program} {C : World → Prop} {l n : Nat} {o : Oper} {a : Act} {K : Act → Prop} {K' : Act → World → Prop} {Q' : Exit → Act → World → Prop} {w : World} (hnd : noDefer o = true) (hC : C w) (hK : ∀ a w', C w' → K a → K' a w')
    (hq : o.quiet P a C K) : o.wpIn (Fence.wide.inRound l) n P a w K' Q' := by
  obtain ⟨v, h1, h2⟩ := hq
  have h3 := h1 w hC
  unfold Oper.quietAt at h3
  refine ⟨fun _ _ => trivial, ?_⟩
  rw [Oper.semAt_eq _ _ _ (noDefer_ne hnd)]
  revert h3
  cases (execOp a.eval o).run P w with
  | halt x w' => intro h3; exact absurd h3 (by simp [Oper.quietUpon])
  | ok x w' =>
    cases x <;> intro h3 <;> simp only [Oper.quietUpon] at h3
    case value u =>
      obtain ⟨rfl, rfl⟩ := h3
      exact hK _ _ hC h2
    case skip =>
      obtain ⟨rfl, rfl⟩ := h3
      exact hK _ _ hC h2
    case enter f args =>
      obtain ⟨rfl, hc⟩ := h3
      refine ⟨fun hd => by simp [Fence.wide, Fence.inRound] at hd, ?_⟩
      refine CallsIn.inRound l (callsIn_wide.2 (hc.mono fun e w'' he => ?_))
      obtain ⟨rfl, hc2⟩ := he
      exact hK _ _ hc2 h2
theorem any_round {P : Program} {md : Region.Mode} {ops : Array Oper} {C : World → Prop} {l n : Nat} {Q : Act → Prop} {Q' : Exit → Act → World → Prop} (hnd : ∀ (i : Nat) (o : Oper), ops[i]? = some o → noDefer o = true) (hQ : ∀ a w, C w → Q a → Q' .normal a w) :
    ∀ (fuel : Nat) (listed : Array Bool) (a : Act) (w : World), C w → wpAnyQ P md ops C Q fuel listed a → wpAnyIn (Fence.wide.inRound l) n P md ops Q' fuel listed a w
  | 0, _, _, _, hC, h => ⟨h.1, hQ _ _ hC h.2⟩
  | fuel + 1, _, a, _, hC, h => ⟨fun h0 => hQ _ _ hC (h.1 h0), fun i hi => by
      have hq := h.2 i hi
      unfold qOp at hq
      unfold wpOpIn
      cases ho : ops[i]? with
      | none => rw [ho] at hq; exact any_round hnd hQ fuel _ _ _ hC hq
      | some o =>
        rw [ho] at hq
        simp only at hq ⊢
        by_cases hw : Region.wanted o (yielded ops a.tmps) = true
        · rw [if_pos hw] at hq ⊢
          exact op_round (hnd i o ho) hC (fun a' w' hC' => any_round hnd hQ fuel _ a' w' hC') hq
        · rw [if_neg hw] at hq ⊢
          exact ⟨fun _ _ => trivial, any_round hnd hQ fuel _ _ _ hC hq⟩⟩
/-- One walk of the text's order, in every world behind; calls by their plain contracts. -/
theorem wpIn_round_bel {P : Program} {id l n : Nat} {Q : Exit → Act → World → Prop} {a : Act} {w : World} {ls : List Oper} (hm : P.follows .mixedOrders = true) (hB : Region.lexB .any ls.toArray = true) (hnd : ls.all noDefer = true)
    (h : wpQuiet P ls.toArray (fun w' => ∃ x : Bel w, w' = x.w) (fun a' => ∀ x : Bel w, Q .normal a' x.w) ls a) : (Code.region id ls.toArray true).wpIn (Fence.wide.inRound l) n P Q a w := by
  have hB2 := hB
  simp only [Region.lexB, Bool.and_eq_true] at hB2
  have hd : ∀ (i : Nat) (o : Oper), ls.toArray[i]? = some o → noDefer o = true := fun i o ho => List.all_eq_true.1 hnd o (by
    rw [List.getElem?_toArray] at ho
    exact List.mem_of_getElem? ho)
  refine wpIn_region_any hm (any_round (C := fun w' => ∃ x : Bel w, w' = x.w) (Q := fun a' => ∀ x : Bel w, Q .normal a' x.w) hd (fun a' w' hw' h' => by obtain ⟨x, rfl⟩ := hw'; exact h' x) _ _ _ _ ⟨⟨_, (Below.refl _ w).drew⟩, rfl⟩ ?_)
  have h9 := wpAnyQ_lex (C := fun w' => ∃ x : Bel w, w' = x.w) (md := .any) hB2.1 ls 0 (Array.replicate ls.toArray.size false) a (by simp) (by simpa using hB2.2) h
  simpa using h9

end Go.Proofs.YtagbeioooohbgaaGreatDoor

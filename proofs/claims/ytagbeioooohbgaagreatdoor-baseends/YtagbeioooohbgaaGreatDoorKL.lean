import Derived.Test.YtagbeioooohbgaaGreatDoorKJ
import Derived.Test.YtagbeioooohbgaaGreatDoorM25
import Derived.Test.YtagbeioooohbgaaGreatDoorCv
import Derived.Maps.OwnIn
namespace Go.Proofs.YtagbeioooohbgaaGreatDoor.Ba
open Go.RowKit Go.Maps Go.Shelf Uc Ha
open Fi (scal scal_bd Ml)

/-! 'next = append(next, ..)' in a round -/
theorem run_append_none (w : World) (base c k : Nat) (ty : TypeId) (i : TypeInfo) (hi : Tryz.prog.info? 21 = some i) (v : Value) (xs : List Value) (hown : w.ownsRow base 21 1 v k xs) :
    (Builtin.append_ #[32, 32] ty #[v, .slice none 0 c]).run Tryz.prog w = .ok v w := by
  rcases hown.2 with ⟨rfl, rfl⟩ | ⟨g, cap, cur, rfl, _, _, hnc, _⟩
  · simp [Builtin.append_, run_underlying Tryz.underlying32, sizeOf, typeInfo, hi, Builtin.lenOf, Builtin.firstCells]
  · simp [Builtin.append_, run_underlying Tryz.underlying32, sizeOf, typeInfo, hi, Builtin.lenOf, Builtin.firstCells, hnc, storeCells]
theorem below_grown {base : Nat} {w w' : World} {v : Value} {k : Nat} {xs : List Value} (h : w.ownsRow base 21 1 v k xs) (hb : base ≤ w.heap.size) (hg : w.grownBy w' v.ownBlock) : Below base w w' :=
  (Below.refl base w).grown hg hb fun j e => (h.lt j e).1
theorem wpListIn_append_ints {F : Fence} {n : Nat} {w : World} {ops : Array Oper} {rest : List Oper} {o : Oper} {a : Act} {Q : Exit → Act → World → Prop} (hgd : o.guard = none) (s x : Operand)
    (ho : o.op = .call { callee := .builtin .append, args := #[s, x], argTypes := #[32, 32] }) (base : Nat) (v : Value) (k : Nat) (xs : List Value) (hs : a.eval s = v) (hown : w.ownsRow base 21 1 v k xs)
    (A : Option Addr) (c : Nat) (l : List Int) (hx : a.eval x = .slice A l.length c) (hi : Ints .i32 w A l) (hk : k + l.length ≤ 100000) (hbase : base ≤ w.heap.size)
    (h : ∀ v' w', w'.ownsRow base 21 1 v' (k + l.length) (xs ++ i32s l) → Below base w w' → wpListIn F n Tryz.prog ops Q rest (a.put o.dst v') w') : wpListIn F n Tryz.prog ops Q (o :: rest) a w := by
  obtain ⟨i0, hi0, hz0, hz1, hz2⟩ := info_parts Tr.info21
  cases A with
  | none =>
    have hn : l = [] := by
      cases l with
      | nil => rfl
      | cons a l =>
        obtain ⟨b, o, e, _⟩ := hi 0 (by simp)
        cases e
    subst hn
    refine wpListIn_plain hgd fun K hK' => ?_
    have hrun := run_append_none w base c k o.type i0 hi0 v xs hown
    unfold Oper.wpIn
    refine ⟨by simp [Oper.about, ho, resolve, Target.leads, Sem.run_pure], ?_⟩
    rw [Oper.semAt_plain F _ _ (by rw [ho]; intro c hc'; cases hc')]
    simp [execOp, ho, resolve, invoke, builtin, hs, hx, hrun, Result.andThen]
    exact hK' _ _ (h v w (by simpa [i32s] using hown) (Below.refl _ _))
  | some ad =>
    refine wpListIn_append_own_at _ hgd s x 32 ho base 21 i0 (.int .i32 0) 1 4 Tryz.underlying32 hi0 hz0 hz1 hz2 rfl (by decide) v k xs hs hown ad l.length c (i32s l) hx (by simp [i32s]) (ints_news hi) (i32s_one l) (by unfold maxLen; omega) (by omega) hbase ?_
    intro v' w' h2 h3 _ _
    exact h v' w' h2 (below_grown hown hbase h3)
theorem ints_one (a : Int) (t : TypeId) (w : World) : Ints .i32 (w.alloc (.cells #[.int .i32 a] t)) (some ⟨w.heap.size, 0, none⟩) [a] := fun i hi => by
  obtain rfl : i = 0 := by simp at hi; exact hi
  exact ⟨w.heap.size, 0, rfl, by simp, cell_one_new _ _ _ 0 _ rfl⟩

end Go.Proofs.YtagbeioooohbgaaGreatDoor.Ba

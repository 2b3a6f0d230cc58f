import Derived.Test.YtnnecigpahbhoaaDoorFU
import Derived.Test.YtnnecigpahbhoaaDoorFSd
namespace Go.Proofs.YtnnecigpahbhoaaDoor.Fi
open Go.RowKit

theorem own_other {w w' : World} {b e z n : Nat} {v : Value} {xs : List Value} {r : Option Nat} (h : w.ownsRow b e z v n xs) (hg : w.grownBy w' r) (hne : v.ownBlock ≠ r) : w'.ownsRow b e z v n xs := by
  refine ⟨h.1, ?_⟩
  rcases h.2 with h2 | ⟨g, cap, cur, h1, h2, h3, h4⟩
  · exact .inl h2
  · exact .inr ⟨g, cap, cur, h1, h2, (hg.block g (h.lt g (by rw [h1]; rfl)).2 (fun e' => hne (by rw [h1, ← e']; rfl))).trans h3, h4⟩
theorem ap_ne {W : World} {v v' u : Value} {b e z n : Nat} {xs : List Value} (ha : v'.ownBlock = v.ownBlock ∨ v'.ownBlock = some W.heap.size) (hne : v.ownBlock ≠ u.ownBlock) (hu : W.ownsRow b e z u n xs) : v'.ownBlock ≠ u.ownBlock := by
  rcases ha with ha | ha
  · rw [ha]; exact hne
  · rw [ha]
    intro h
    have := (hu.lt W.heap.size h.symm).2
    omega
theorem own_empty (w : World) (b : Nat) (hb : b ≤ w.heap.size) : (w.alloc (.cells #[] 5)).ownsRow b 5 1 (.slice (some ⟨w.heap.size, 0, none⟩) 0 0) 0 (u8v []) :=
  ⟨rfl, .inr ⟨w.heap.size, 0, #[], rfl, hb, heap_alloc_new w _, Nat.le_refl _, by unfold maxLen; omega, rfl, rfl⟩⟩
theorem neqL (a : Int) (b : ByteArray) (W : World) : (binOp .neq 31 (.agg #[.int .i64 a, .string b]) (.agg #[.int .i64 a, .string b])).run Tryd.prog W = .ok (.bool false) W := by
  have u3 := Tryd.underlying3
  have a3 := Tryd.isAgg3
  have z3 := Tryd.sizeOf3
  have u9 := Tryd.underlying9
  have a9 := Tryd.isAgg9
  have z9 := Tryd.sizeOf9
  rw [run_neq_struct, show (10000 : Nat) = 9999 + 1 from rfl, run_equalIn_agg W 9999 31 _ _ undL heldL]
  simp only [Program.fieldsOf, Tryd.underlying31]
  go_simp
theorem grdN (x y : Operand) (xs ys : Array Value) (W : World) : (eqGuard .neq 31 x y (.agg xs) (.agg ys)).run Tryd.prog W = .ok () W := run_eqGuard_agg W .neq 31 x y xs ys guardL
structure SmR (w wr : World) (v5 v6 : Value) (l : List UInt8) : Prop where
  bel : Below w.heap.size w wr
  o5 : wr.ownsRow w.heap.size 5 1 v5 l.length (u8v (l.map sml))
  o6 : wr.ownsRow w.heap.size 5 1 v6 (wid l).length (u8v (wid l))
  ne : v5.ownBlock ≠ v6.ownBlock
  no : ∀ c ∈ l, c ≠ 10
theorem sml_up {c : UInt8} (h1 : 65 ≤ c.toNat) (h2 : c.toNat ≤ 70) : ((sml c).toNat : Int) = (c.toNat : Int) + 32 := by
  unfold sml
  rw [if_pos ⟨h1, h2⟩, UInt8.toNat_add]
  simp
  omega
theorem sml_no {c : UInt8} (h : ¬ (65 ≤ c.toNat ∧ c.toNat ≤ 70)) : sml c = c := by unfold sml; rw [if_neg h]
theorem wid_yes {c : UInt8} (h : blk c.toNat = true) : wid [c] = [c, 32, 9] := by simp [wid, h]
theorem wid_no {c : UInt8} (h : blk c.toNat = false) : wid [c] = [c] := by simp [wid, h]
/-- One byte more: both rows grown by it. -/
theorem SmR.more {w w' : World} {v5 v6 : Value} {l : List UInt8} {c : UInt8} (hb : Below w.heap.size w w') (h5 : w'.ownsRow w.heap.size 5 1 v5 (l.length + 1) (u8v (l.map sml) ++ [.int .u8 ((sml c).toNat : Int)])) (h6 : w'.ownsRow w.heap.size 5 1 v6 ((wid l).length + (wid [c]).length) (u8v (wid l) ++ u8v (wid [c]))) (hne : v5.ownBlock ≠ v6.ownBlock) (hno : ∀ d ∈ l, d ≠ 10) (hc : c ≠ 10) : SmR w w' v5 v6 (l ++ [c]) := by
  refine ⟨hb, ?_, ?_, hne, ?_⟩
  · rw [List.length_append, List.map_append, u8v_app]; exact h5
  · rw [wid_app, List.length_append, u8v_app]; exact h6
  · intro d hd
    rcases List.mem_append.1 hd with h | h
    · exact hno d h
    · simp at h; subst h; exact hc

def LnSl (w : World) (x : List (Nat × List UInt8) × Int) (e : Ending) (w' : World) : Prop := ∃ A c, e = .returned (.tuple #[.slice A x.1.length c, .int .i64 x.2]) ∧ Lns w' A x.1 ∧ Below w.heap.size w w'
def TxSl (w : World) (l : List (List UInt8)) (e : Ending) (w' : World) : Prop := ∃ A c, e = .returned (.slice A l.length c) ∧ Txs w' A l ∧ Below w.heap.size w w'
theorem lines_sl (s : ByteArray) (w : World) (hL : Ml w) (hs : s.size ≤ 100000) : Calls Tryd.prog 10 #[.string s] w (LnSl w (linE s.data.toList)) := by
  refine (lines_any s w hL hs).mono ?_
  rintro e w' ⟨v, he, ho, hb⟩
  obtain ⟨A, c, rfl, hi⟩ := own_lns ho
  exact ⟨A, c, he, hi, hb⟩
theorem cutP_sl {w w' : World} {l : List (List UInt8)} {e : Ending} (h : CutP w l e w') : TxSl w l e w' := by
  obtain ⟨v, he, ho, hb⟩ := h
  obtain ⟨A, c, rfl, hi⟩ := own_txs ho
  exact ⟨A, c, he, hi, hb⟩
theorem same_lines (s r : ByteArray) (hs : s.size ≤ 400) (hr : r.size ≤ 100) (n1 : ∀ c ∈ s.data.toList, c ≠ 10) (n2 : ∀ c ∈ r.data.toList, c ≠ 10) :
    ∃ lx : List (Nat × List UInt8), (lx = [] ∨ ∃ t, lx = [(1, t)]) ∧ linE s.data.toList = (lx, 0) ∧ linE (s ++ ⟨#[35]⟩ ++ r).data.toList = (lx, 0) := by
  have e : (s ++ ⟨#[35]⟩ ++ r).data.toList = s.data.toList ++ 35 :: r.data.toList := by simp
  refine ⟨if toldL s.data.toList = [] then [] else [(1, toldL s.data.toList)], ?_, lin_one n1 (by rw [lst_len]; omega), ?_⟩
  · split
    · exact .inl rfl
    · exact .inr ⟨_, rfl⟩
  · rw [e, lin_one ?_ ?_, told_rem]
    · intro c hc
      rcases List.mem_append.1 hc with h | h
      · exact n1 c h
      · rcases List.mem_cons.1 h with rfl | h
        · decide
        · exact n2 c h
    · rw [List.length_append, List.length_cons, lst_len, lst_len]; omega
theorem count_on (s : ByteArray) (c : UInt8) (k : Nat) (h : k < s.size) : (s.data.toList.take (k + 1)).count c = (s.data.toList.take k).count c + (if s[k] = c then 1 else 0) := by
  rw [take_on s k h, List.count_append, List.count_singleton]
  simp

end Go.Proofs.YtnnecigpahbhoaaDoor.Fi

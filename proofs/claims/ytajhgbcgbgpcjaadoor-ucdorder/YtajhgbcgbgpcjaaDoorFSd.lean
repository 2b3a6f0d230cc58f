import Derived.Test.YtajhgbcgbgpcjaaDoorFP
import Derived.Test.YtajhgbcgbgpcjaaDoorFN
namespace Go.Proofs.YtajhgbcgbgpcjaaDoor.Fi
open Go.RowKit

/-- A slice of texts, in memory that is there. -/
def Txs (w : World) (A : Option Addr) (l : List (List UInt8)) : Prop :=
  ∀ i (hi : i < l.length), ∃ b off, A = some ⟨b, off, none⟩ ∧ b < w.heap.size ∧ w.cell? ⟨b, off + i, none⟩ = some (.string ⟨(l[i]).toArray⟩)
theorem Txs.below {w w' : World} {A : Option Addr} {l : List (List UInt8)} (h : Txs w A l) (hb : Below w.heap.size w w') : Txs w' A l := fun i hi => by
  obtain ⟨b, off, e, hl, hc⟩ := h i hi
  exact ⟨b, off, e, Nat.lt_of_lt_of_le hl hb.size, (hb.cell (p := ⟨b, off + i, none⟩) hl).trans hc⟩
theorem own_txs {w : World} {base : Nat} {v : Value} {l : List (List UInt8)} (h : w.ownsRow base 9 1 v l.length (svs l)) : ∃ A c, v = .slice A l.length c ∧ Txs w A l := by
  rcases h.2 with ⟨hv, hn⟩ | ⟨g, cap, cur, hv, hg, hh, hn, hm, hc, ht⟩
  · exact ⟨none, 0, by rw [hv, hn], fun i hi => by omega⟩
  · refine ⟨some ⟨g, 0, none⟩, cap, hv, fun i hi => ⟨g, 0, rfl, (h.lt g (by rw [hv]; rfl)).2, ?_⟩⟩
    have := h.cells (g := g) (by rw [hv]; rfl) i (.string ⟨(l[i]).toArray⟩) (by simp [svs, List.getElem?_eq_getElem hi])
    have e : (⟨g, 0, none⟩ : Addr).add i = ⟨g, 0 + i, none⟩ := by unfold Addr.add; split <;> simp_all
    rw [e] at this
    exact this
/-- A slice of lines, in memory that is there. -/
def Lns (w : World) (A : Option Addr) (l : List (Nat × List UInt8)) : Prop :=
  ∀ i (hi : i < l.length), ∃ b off, A = some ⟨b, off, none⟩ ∧ b < w.heap.size ∧ w.cell? ⟨b, off + i * 2, none⟩ = some (.int .i64 (l[i].1 : Int)) ∧ w.cell? ⟨b, off + i * 2 + 1, none⟩ = some (.string ⟨(l[i].2).toArray⟩)
theorem Lns.below {w w' : World} {A : Option Addr} {l : List (Nat × List UInt8)} (h : Lns w A l) (hb : Below w.heap.size w w') : Lns w' A l := fun i hi => by
  obtain ⟨b, off, e, hl, hc, hd⟩ := h i hi
  exact ⟨b, off, e, Nat.lt_of_lt_of_le hl hb.size, (hb.cell (p := ⟨b, off + i * 2, none⟩) hl).trans hc, (hb.cell (p := ⟨b, off + i * 2 + 1, none⟩) hl).trans hd⟩
theorem lnV_at : ∀ (l : List (Nat × List UInt8)) (i : Nat) (hi : i < l.length), (lnV l)[i * 2]? = some (.int .i64 (l[i].1 : Int)) ∧ (lnV l)[i * 2 + 1]? = some (.string ⟨(l[i].2).toArray⟩)
  | x :: l, 0, _ => ⟨rfl, rfl⟩
  | x :: l, i + 1, hi => by
    have ih := lnV_at l i (by simpa using hi)
    have e : lnV (x :: l) = .int .i64 (x.1 : Int) :: .string ⟨(x.2).toArray⟩ :: lnV l := rfl
    rw [e, show (i + 1) * 2 = i * 2 + 1 + 1 by omega]
    exact ih
theorem own_lns {w : World} {base t : Nat} {v : Value} {l : List (Nat × List UInt8)} (h : w.ownsRow base t 2 v l.length (lnV l)) : ∃ A c, v = .slice A l.length c ∧ Lns w A l := by
  rcases h.2 with ⟨hv, hn⟩ | ⟨g, cap, cur, hv, hg, hh, hn, hm, hc, ht⟩
  · exact ⟨none, 0, by rw [hv, hn], fun i hi => by omega⟩
  · have hq := fun j u hj => h.cells (g := g) (by rw [hv]; rfl) j u hj
    have e : ∀ j, (⟨g, 0, none⟩ : Addr).add j = ⟨g, 0 + j, none⟩ := fun j => by unfold Addr.add; split <;> simp_all
    simp only [e] at hq
    exact ⟨some ⟨g, 0, none⟩, cap, hv, fun i hi => ⟨g, 0, rfl, (h.lt g (by rw [hv]; rfl)).2, hq _ _ (lnV_at l i hi).1, by have := hq _ _ (lnV_at l i hi).2; rw [← Nat.add_assoc] at this; exact this⟩⟩

end Go.Proofs.YtajhgbcgbgpcjaaDoor.Fi

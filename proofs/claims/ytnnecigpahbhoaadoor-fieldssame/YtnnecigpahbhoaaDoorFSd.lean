import Derived.Test.YtnnecigpahbhoaaDoorFSc
namespace Go.Proofs.YtnnecigpahbhoaaDoor.Fi
open Go.RowKit

/-- A slice of texts, in memory that is there. -/
def Txs (w : World) (A : Option Addr) (l : List (List UInt8)) : Prop :=
  ∀ i (hi : i < l.length), ∃ b off, A = some ⟨b, off, none⟩ ∧ b < w.heap.size ∧ w.cell? ⟨b, off + i, none⟩ = some (.string ⟨(l[i]).toArray⟩)
theorem Txs.below {w w' : World} {A : Option Addr} {l : List (List UInt8)} (h : Txs w A l) (hb : Below w.heap.size w w') : Txs w' A l := fun i hi => by
  obtain ⟨b, off, e, hl, hc⟩ := h i hi
  exact ⟨b, off, e, Nat.lt_of_lt_of_le hl hb.size, (hb.cell (p := ⟨b, off + i, none⟩) hl).trans hc⟩
theorem own_txs {w : World} {base : Nat} {v : Value} {l : List (List UInt8)} (h : w.ownsRow base 9 1 v l.length (svs l)) : ∃ A c, v = .slice A l.length c ∧ Txs w A l := by
  rcases h.2 with ⟨hv, hn⟩ | ⟨g, cap, cur, hv, hg, hh, hn, hm, hc, ht⟩
  · exact ⟨none, 0, by rw [hv, hn], fun i hi => by omega⟩
  · refine ⟨some ⟨g, 0, none⟩, cap, hv, fun i hi => ⟨g, 0, rfl, (h.lt g (by rw [hv]; rfl)).2, ?_⟩⟩
    have := h.cells (g := g) (by rw [hv]; rfl) i (.string ⟨(l[i]).toArray⟩) (by simp [svs, List.getElem?_eq_getElem hi])
    have e : (⟨g, 0, none⟩ : Addr).add i = ⟨g, 0 + i, none⟩ := by unfold Addr.add; split <;> simp_all
    rw [e] at this
    exact this
/-- A slice of lines, in memory that is there. -/
def Lns (w : World) (A : Option Addr) (l : List (Nat × List UInt8)) : Prop :=
  ∀ i (hi : i < l.length), ∃ b off, A = some ⟨b, off, none⟩ ∧ b < w.heap.size ∧ w.cell? ⟨b, off + i * 2, none⟩ = some (.int .i64 (l[i].1 : Int)) ∧ w.cell? ⟨b, off + i * 2 + 1, none⟩ = some (.string ⟨(l[i].2).toArray⟩)
theorem Lns.below {w w' : World} {A : Option Addr} {l : List (Nat × List UInt8)} (h : Lns w A l) (hb : Below w.heap.size w w') : Lns w' A l := fun i hi => by
  obtain ⟨b, off, e, hl, hc, hd⟩ := h i hi
  exact ⟨b, off, e, Nat.lt_of_lt_of_le hl hb.size, (hb.cell (p := ⟨b, off + i * 2, none⟩) hl).trans hc, (hb.cell (p := ⟨b, off + i * 2 + 1, none⟩) hl).trans hd⟩
theorem lnV_at : ∀ (l : List (Nat × List UInt8)) (i : Nat) (hi : i < l.length), (lnV l)[i * 2]? = some (.int .i64 (l[i].1 : Int)) ∧ (lnV l)[i * 2 + 1]? = some (.string ⟨(l[i].2).toArray⟩)
  | x :: l, 0, _ => ⟨rfl, rfl⟩
  | x :: l, i + 1, hi => by
    have ih := lnV_at l i (by simpa using hi)
    have e : lnV (x :: l) = .int .i64 (x.1 : Int) :: .string ⟨(x.2).toArray⟩ :: lnV l := rfl
    rw [e, show (i + 1) * 2 = i * 2 + 1 + 1 by omega]
    exact ih
theorem own_lns {w : World} {base t : Nat} {v : Value} {l : List (Nat × List UInt8)} (h : w.ownsRow base t 2 v l.length (lnV l)) : ∃ A c, v = .slice A l.length c ∧ Lns w A l := by
  rcases h.2 with ⟨hv, hn⟩ | ⟨g, cap, cur, hv, hg, hh, hn, hm, hc, ht⟩
  · exact ⟨none, 0, by rw [hv, hn], fun i hi => by omega⟩
  · have hq := fun j u hj => h.cells (g := g) (by rw [hv]; rfl) j u hj
    have e : ∀ j, (⟨g, 0, none⟩ : Addr).add j = ⟨g, 0 + j, none⟩ := fun j => by unfold Addr.add; split <;> simp_all
    simp only [e] at hq
    exact ⟨some ⟨g, 0, none⟩, cap, hv, fun i hi => ⟨g, 0, rfl, (h.lt g (by rw [hv]; rfl)).2, hq _ _ (lnV_at l i hi).1, by have := hq _ _ (lnV_at l i hi).2; rw [← Nat.add_assoc] at this; exact this⟩⟩

set_option maxRecDepth 100000 in
set_option maxHeartbeats 1000000 in
theorem eqT (A B : Option Addr) (c d : Nat) (l : List (List UInt8)) (w : World) (hl : Txs w A l) (hm : Txs w B l) (zl : l.length ≤ 100001) :
    Calls Tryd.prog 12 #[.slice A l.length c, .slice B l.length d] w fun e w' => e = .returned (.bool true) ∧ Below w.heap.size w w' := by
  have HL := Lib.hid hl
  have HM := Lib.hid hm
  clear hl hm
  go_enter Tryd.func12, Tryd.ntmps12
  go_wp2_with fail
  go_loopw [5] (fun i wr => ∃ k : Nat, i = .int .i64 k ∧ k ≤ l.length ∧ Hid (Below w.heap.size w wr)) (fun i _ => l.length - (intOf i).toNat)
  case atStart => exact ⟨0, rfl, by omega, Below.refl _ _⟩
  case round =>
    obtain ⟨k, rfl, hk, HQ⟩ := hrel
    by_cases hlt : k < l.length
    · obtain ⟨b, off, rfl, hb, hc⟩ := HL.out k hlt
      obtain ⟨b2, off2, rfl, hb2, hc2⟩ := HM.out k hlt
      have hc' := (HQ.out.cell (p := ⟨b, off + k, none⟩) hb).trans hc
      have hc2' := (HQ.out.cell (p := ⟨b2, off2 + k, none⟩) hb2).trans hc2
      clear hc hc2
      generalize (⟨(l[k]).toArray⟩ : ByteArray) = x at hc' hc2'
      have g1 : (k : Int) < l.length := by omega
      go_wp2_with fail
      go_quiet (fail)
      go_wp2_with fail
      go_roundw
      case rel => exact ⟨k + 1, by go_num, by omega, bel_drewN HQ.out _⟩
      case measure => simp [intOf] <;> omega
    · have g1 : ¬ (k : Int) < l.length := by omega
      go_wp2
      go_ret
      exact ⟨rfl, HQ.out⟩

end Go.Proofs.YtnnecigpahbhoaaDoor.Fi

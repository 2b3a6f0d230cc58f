import Derived.Test.YtajhgbcgbgpcjaaDoorGA
import Derived.Test.YtajhgbcgbgpcjaaDoorFSd
namespace Go.Proofs.YtajhgbcgbgpcjaaDoor.Uc
open Go.RowKit Fi

/-- Every block of a type is as it was. -/
def KeepT (t : TypeId) (w w' : World) : Prop := ∀ (g : Nat) (cs : Array Value) (fr), w.heap[g]? = some (Obj.cells cs t fr) → w'.heap[g]? = w.heap[g]?
theorem KeepT.refl (t : TypeId) (w : World) : KeepT t w w := fun _ _ _ _ => rfl
theorem KeepT.trans {t : TypeId} {a b c : World} (h : KeepT t a b) (k : KeepT t b c) : KeepT t a c := fun g cs fr hg => (k g cs fr ((h g cs fr hg).trans hg)).trans (h g cs fr hg)
theorem KeepT.below {t : TypeId} {w w' : World} (h : Below w.heap.size w w') : KeepT t w w' := fun g _ _ hg => h.block g (Array.getElem?_eq_some_iff.1 hg).1
theorem KeepT.set {t : TypeId} {w : World} {X : Nat} {v : Value} {t' : TypeId} (h : One w X v t') (hn : t' ≠ t) (x : Value) (o : Nat) : KeepT t w (w.setCell ⟨X, o, none⟩ x) := fun g cs fr hg =>
  Go.Deep.blk_setCell_other _ _ _ _ (fun e => by subst e; rw [h.blk] at hg; simp at hg; exact hn hg.2.1)
theorem KeepT.grown {t : TypeId} {w w' : World} {b e z n : Nat} {v : Value} {xs : List Value} (h : w.ownsRow b e z v n xs) (hn : e ≠ t) (hg : w.grownBy w' v.ownBlock) : KeepT t w w' := fun g cs fr hh =>
  hg.block g (Array.getElem?_eq_some_iff.1 hh).1 (fun he => by
    rcases h.2 with ⟨rfl, _⟩ | ⟨g', cap, cur, rfl, _, h3, _⟩
    · cases he
    · have : g = g' := by injection he
      subst this
      rw [h3] at hh
      simp at hh
      exact hn hh.2.1)
theorem KeepT.own {t : TypeId} {w w' : World} {b z n : Nat} {v : Value} {xs : List Value} (k : KeepT t w w') (h : w.ownsRow b t z v n xs) : w'.ownsRow b t z v n xs := by
  refine ⟨h.1, ?_⟩
  rcases h.2 with h2 | ⟨g, cap, cur, h1, h2, h3, h4⟩
  · exact .inl h2
  · exact .inr ⟨g, cap, cur, h1, h2, (k g _ _ h3).trans h3, h4⟩

def rC (r : Rw) (v : Value) : List Value := [.int .i32 r.fr, .int .i32 r.tt, .string ⟨r.nm.toArray⟩, .string ⟨r.ct.toArray⟩, .int .i64 r.cl, .string ⟨r.kd.toArray⟩, v]
def rV (r : Rw) (v : Value) : Value := .agg #[.int .i32 r.fr, .int .i32 r.tt, .string ⟨r.nm.toArray⟩, .string ⟨r.ct.toArray⟩, .int .i64 r.cl, .string ⟨r.kd.toArray⟩, v]
def rCs (l : List (Rw × Value)) : List Value := l.flatMap fun x => rC x.1 x.2
theorem rCs_app (a b : List (Rw × Value)) : rCs (a ++ b) = rCs a ++ rCs b := by simp [rCs]
theorem rCs_len : ∀ l : List (Rw × Value), (rCs l).length = l.length * 7
  | [] => rfl
  | x :: l => by
    have ih := rCs_len l
    have e : rCs (x :: l) = rC x.1 x.2 ++ rCs l := rfl
    rw [e, List.length_append, ih, List.length_cons]
    simp [rC]; omega
theorem rCs_at : ∀ (l : List (Rw × Value)) (i : Nat) (hi : i < l.length) (j : Nat), j < 7 → (rCs l)[i * 7 + j]? = (rC l[i].1 l[i].2)[j]?
  | x :: l, 0, _, j, hj => by
    have e : rCs (x :: l) = rC x.1 x.2 ++ rCs l := rfl
    rw [e, List.getElem?_append_left (by simp [rC]; omega)]
    simp
  | x :: l, i + 1, hi, j, hj => by
    have ih := rCs_at l i (by simpa using hi) j hj
    have e : rCs (x :: l) = rC x.1 x.2 ++ rCs l := rfl
    rw [e, List.getElem?_append_right (by simp [rC]; omega)]
    rw [show (i + 1) * 7 + j - (rC x.1 x.2).length = i * 7 + j by simp [rC]; omega]
    simpa using ih

/-- Characters in memory that is there: the slice that a row bears. -/
def IntV (w : World) (v : Value) (l : List Int) : Prop := ∃ A c, v = .slice A l.length c ∧ Ints .i32 w A l
theorem IntV.below {w w' : World} {v : Value} {l : List Int} (h : IntV w v l) (hb : Below w.heap.size w w') : IntV w' v l := by
  obtain ⟨A, c, e, hi⟩ := h
  exact ⟨A, c, e, hi.below hb⟩
theorem IntV.of {w : World} {b : Nat} {v : Value} {l : List Int} (h : w.ownsRow b 21 1 v l.length (i32s l)) : IntV w v l := own_ints h

/-- Rows in memory of the call's own. -/
structure RwIn (w : World) (base : Nat) (T : TypeId) (v : Value) (l : List (Rw × Value)) : Prop where
  own : w.ownsRow base T 7 v l.length (rCs l)
  ints : ∀ x ∈ l, w.ownsRow base 21 1 x.2 x.1.into.length (i32s x.1.into)
theorem RwIn.below {w w' : World} {base : Nat} {T : TypeId} {v : Value} {l : List (Rw × Value)} (h : RwIn w base T v l) (hb : Below w.heap.size w w') : RwIn w' base T v l := ⟨own_below' h.own hb, fun x hx => own_below' (h.ints x hx) hb⟩
theorem RwIn.nil (w : World) (base : Nat) (T : TypeId) : RwIn w base T (.slice none 0 0) [] := ⟨World.ownsRow_nil _ _ _ _, fun x hx => by cases hx⟩

/-- Rows in memory that is there, for reading. -/
def Rws (w : World) (A : Option Addr) (l : List Rw) : Prop :=
  ∀ i (hi : i < l.length), ∃ b off v, A = some ⟨b, off, none⟩ ∧ b < w.heap.size ∧ IntV w v (l[i]).into ∧
    w.cell? ⟨b, off + i * 7, none⟩ = some (.int .i32 (l[i]).fr) ∧ w.cell? ⟨b, off + i * 7 + 1, none⟩ = some (.int .i32 (l[i]).tt) ∧
    w.cell? ⟨b, off + i * 7 + 2, none⟩ = some (.string ⟨(l[i]).nm.toArray⟩) ∧ w.cell? ⟨b, off + i * 7 + 3, none⟩ = some (.string ⟨(l[i]).ct.toArray⟩) ∧
    w.cell? ⟨b, off + i * 7 + 4, none⟩ = some (.int .i64 (l[i]).cl) ∧ w.cell? ⟨b, off + i * 7 + 5, none⟩ = some (.string ⟨(l[i]).kd.toArray⟩) ∧
    w.cell? ⟨b, off + i * 7 + 6, none⟩ = some v
theorem Rws.below {w w' : World} {A : Option Addr} {l : List Rw} (h : Rws w A l) (hb : Below w.heap.size w w') : Rws w' A l := fun i hi => by
  obtain ⟨b, off, v, e, hl, hv, h0, h1, h2, h3, h4, h5, h6⟩ := h i hi
  have k := fun j => hb.cell (p := ⟨b, off + i * 7 + j, none⟩) hl
  exact ⟨b, off, v, e, Nat.lt_of_lt_of_le hl hb.size, hv.below hb, (k 0).trans h0, (k 1).trans h1, (k 2).trans h2, (k 3).trans h3, (k 4).trans h4, (k 5).trans h5, (k 6).trans h6⟩
theorem RwIn.rws {w : World} {base : Nat} {T : TypeId} {v : Value} {l : List (Rw × Value)} (h : RwIn w base T v l) : ∃ A c, v = .slice A (l.map Prod.fst).length c ∧ Rws w A (l.map Prod.fst) := by
  rw [List.length_map]
  rcases h.own.2 with ⟨hv, hn⟩ | ⟨g, cap, cur, hv, hg, hh, hn, hm, hc, ht⟩
  · exact ⟨none, 0, by rw [hv, hn], fun i hi => by rw [List.length_map] at hi; omega⟩
  · have hq := fun j u hj => h.own.cells (g := g) (by rw [hv]; rfl) j u hj
    have e : ∀ j, (⟨g, 0, none⟩ : Addr).add j = ⟨g, j, none⟩ := fun j => by unfold Addr.add; split <;> simp_all
    simp only [e] at hq
    refine ⟨some ⟨g, 0, none⟩, cap, hv, fun i hi => ?_⟩
    have hi' : i < l.length := by simpa using hi
    have hr : ∀ j u, j < 7 → (rC l[i].1 l[i].2)[j]? = some u → w.cell? ⟨g, 0 + i * 7 + j, none⟩ = some u := fun j u hj hu => by
      rw [Nat.zero_add]
      exact hq (i * 7 + j) u ((rCs_at l i hi' j hj).trans hu)
    refine ⟨g, 0, l[i].2, rfl, (h.own.lt g (by rw [hv]; rfl)).2, ?_, ?_⟩
    · simp only [List.getElem_map]
      exact IntV.of (h.ints _ (List.getElem_mem hi'))
    · simp only [List.getElem_map]
      exact ⟨hr 0 _ (by omega) rfl, hr 1 _ (by omega) rfl, hr 2 _ (by omega) rfl, hr 3 _ (by omega) rfl, hr 4 _ (by omega) rfl, hr 5 _ (by omega) rfl, hr 6 _ (by omega) rfl⟩

end Go.Proofs.YtajhgbcgbgpcjaaDoor.Uc

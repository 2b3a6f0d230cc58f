import Derived.Test.YtagbeioooohbgaaGreatDoorM03
import Derived.Test.YtagbeioooohbgaaGreatDoorM02
section
namespace Go.Proofs.YtagbeioooohbgaaGreatDoor.Ba
open Uc Ha Fi

/-! Plain: what two characters make, as rows are gone through. -/
variable {L : List Rw} {X : List Int}
def lkM (mk : List Rw) (a b : Int) : Option Int := (mk.find? fun z => decide (z.into = [a, b])).map (·.fr)
/-- What Pair answers of those that are made so far. -/
def pairP (mk : List Rw) (a b : Int) : Int × Bool := if (joinE a b).2 = true then joinE a b else match lkM mk a b with | some r => (r, true) | none => (0, false)
def secP (mk : List Rw) (r : Int) : Bool := (mk.any fun z => decide (z.into.getD 1 0 = r)) || (decide (4449 ≤ r ∧ r ≤ 4469) || decide (4520 ≤ r ∧ r ≤ 4546))
theorem secP_full (r : Int) : secP (prsB L X) r = secB L X r := by
  unfold secP secB prsB
  rw [List.any_filter]
theorem find_prs (a b : Int) : (prsB L X).find? (fun z => decide (z.into = [a, b])) = L.find? (fun z => madeB L X z && decide (z.into = [a, b])) := by
  unfold prsB
  rw [List.find?_filter]
  congr 1
  funext z
  simp [Bool.decide_and]
theorem pairB_lk (a b : Int) : pairB L X a b = match lkM (prsB L X) a b with | some r => (r, true) | none => joinE a b := by
  unfold pairB lkM
  rw [find_prs]
  cases L.find? (fun z => madeB L X z && decide (z.into = [a, b])) <;> rfl
theorem lk_some {mk : List Rw} {a b r : Int} (h : lkM mk a b = some r) : ∃ z ∈ mk, z.into = [a, b] ∧ z.fr = r := by
  unfold lkM at h
  rw [Option.map_eq_some_iff] at h
  obtain ⟨z, hz, rfl⟩ := h
  exact ⟨z, List.mem_of_find?_eq_some hz, by simpa using List.find?_some hz, rfl⟩
theorem lk_none {mk : List Rw} {a b : Int} (h : lkM mk a b = none) : ∀ z ∈ mk, z.into ≠ [a, b] := by
  unfold lkM at h
  rw [Option.map_eq_none_iff, List.find?_eq_none] at h
  intro z hz
  simpa using h z hz
theorem mem_prs {x : Rw} : x ∈ prsB L X ↔ x ∈ L ∧ madeB L X x = true := by simp [prsB]
theorem pairP_full (h4 : S4 L X) (a b : Int) : pairP (prsB L X) a b = pairB L X a b := by
  rw [pairB_lk]
  unfold pairP
  by_cases hj : (joinE a b).2 = true
  · rw [if_pos hj]
    cases e : lkM (prsB L X) a b with
    | none => rfl
    | some r =>
      obtain ⟨z, hz, hi, _⟩ := lk_some e
      have := (h4 z hz).1
      rw [hi] at this
      simp only [List.getD_cons_zero, List.getD_cons_succ] at this
      rw [this] at hj
      cases hj
  · rw [if_neg hj]
    cases e : lkM (prsB L X) a b with
    | none => exact (join_no (by simpa using hj)).symm
    | some r => rfl
/-- All that are made so far differ, and none is a syllable. -/
structure Dist (mk : List Rw) : Prop where
  pw : mk.Pairwise fun x y => x.into ≠ y.into
  jn : ∀ x ∈ mk, (joinE (x.into.getD 0 0) (x.into.getD 1 0)).2 = false
theorem Dist.nil : Dist [] := ⟨List.Pairwise.nil, fun x hx => by cases hx⟩
theorem Dist.snoc {mk : List Rw} {z : Rw} (h : Dist mk) (h2 : z.into.length = 2) (hp : (pairP mk (z.into.getD 0 0) (z.into.getD 1 0)).2 = false) : Dist (mk ++ [z]) := by
  unfold pairP at hp
  by_cases hj : (joinE (z.into.getD 0 0) (z.into.getD 1 0)).2 = true
  · rw [if_pos hj, hj] at hp; cases hp
  · rw [if_neg hj] at hp
    cases e : lkM mk (z.into.getD 0 0) (z.into.getD 1 0) with
    | some r => rw [e] at hp; cases hp
    | none =>
      refine ⟨List.pairwise_append.2 ⟨h.pw, by simp, fun x hx y hy => ?_⟩, fun x hx => ?_⟩
      · simp only [List.mem_singleton] at hy
        subst hy
        have := lk_none e x hx
        rw [two_of h2]
        exact this
      · rcases List.mem_append.1 hx with hx | hx
        · exact h.jn x hx
        · simp only [List.mem_singleton] at hx
          subst hx
          simpa using hj
theorem lk_snoc {mk : List Rw} {z : Rw} (hn : ∀ y ∈ mk, y.into ≠ z.into) (a b : Int) : lkM (mk ++ [z]) a b = if z.into = [a, b] then some z.fr else lkM mk a b := by
  unfold lkM
  rw [List.find?_append, List.find?_singleton]
  by_cases e : z.into = [a, b]
  · rw [if_pos e]
    have : mk.find? (fun z => decide (z.into = [a, b])) = none := by
      rw [List.find?_eq_none]
      intro y hy
      have := hn y hy
      rw [e] at this
      simpa using this
    rw [this]
    simp [e]
  · rw [if_neg e]
    simp [e]
theorem Dist.new {mk : List Rw} {z : Rw} (h : Dist (mk ++ [z])) : ∀ y ∈ mk, y.into ≠ z.into := fun y hy => (List.pairwise_append.1 h.pw).2.2 y hy z (by simp)
theorem sec_snoc (mk : List Rw) (z : Rw) (r : Int) : (mk ++ [z]).any (fun z => decide (z.into.getD 1 0 = r)) = (mk.any (fun z => decide (z.into.getD 1 0 = r)) || decide (z.into.getD 1 0 = r)) := by
  simp

/-- The row that is made, of a character that rows part. -/
def mdR (L : List Rw) (X : List Int) (r : Int) : Option Rw := (parA L r).filter (madeB L X)
def mkR (L : List Rw) (X : List Int) (pre : List Int) : List Rw := pre.filterMap (mdR L X)
theorem mdR_some {r : Int} {z : Rw} (h : mdR L X r = some z) : z ∈ prsB L X ∧ z.fr = r ∧ parA L r = some z := by
  unfold mdR at h
  rw [Option.filter_eq_some_iff] at h
  obtain ⟨h1, h2⟩ := h
  obtain ⟨a, b, c⟩ := parA_some h1
  exact ⟨mem_prs.2 ⟨a, h2⟩, c, h1⟩
theorem made_ne {x : Rw} (h : madeB L X x = true) : x.into ≠ [] := fun e => by
  have := (made_iff.1 h).2.1
  rw [e] at this
  cases this
theorem mkR_all (h : Frm L) : mkR L X (knwB L) = prsB L X := by
  have h1 : ∀ x ∈ prR L, mdR L X x.fr = if madeB L X x = true then some x else none := fun x hx => by
    obtain ⟨a, b⟩ := mem_prR.1 hx
    unfold mdR
    rw [parA_of h a b]
    simp [Option.filter]
  unfold mkR
  rw [knw_eq, List.filterMap_map]
  have h9 : ∀ l : List Rw, (∀ x ∈ l, mdR L X x.fr = if madeB L X x = true then some x else none) → l.filterMap (mdR L X ∘ fun x => x.fr) = l.filterMap fun x => if madeB L X x = true then some x else none := by
    intro l
    induction l with
    | nil => intro _; rfl
    | cons x l ih =>
      intro hl
      rw [List.filterMap_cons, List.filterMap_cons, ih fun y hy => hl y (.tail _ hy), Function.comp, hl x (.head _)]
  have h2 := h9 (prR L) h1
  rw [h2]
  have h3 : ∀ l : List Rw, l.filterMap (fun x => if madeB L X x = true then some x else none) = l.filter (madeB L X) := by
    intro l
    induction l with
    | nil => rfl
    | cons x l ih =>
      rw [List.filterMap_cons, List.filter_cons, ih]
      cases madeB L X x <;> simp
  rw [h3]
  unfold prR prsB
  rw [List.filter_filter]
  refine List.filter_congr fun x hx => ?_
  cases hm : madeB L X x with
  | false => simp
  | true => simpa using made_ne hm
theorem mkR_snoc (pre : List Int) (r : Int) : mkR L X (pre ++ [r]) = mkR L X pre ++ (mdR L X r).toList := by
  unfold mkR
  rw [List.filterMap_append]
  cases e : mdR L X r <;> simp [e]
theorem mkR_len (pre : List Int) : (mkR L X pre).length ≤ pre.length := List.length_filterMap_le _ _
theorem mkR_mem {pre : List Int} {y : Rw} (h : y ∈ mkR L X pre) : y.fr ∈ pre ∧ y ∈ prsB L X := by
  unfold mkR at h
  obtain ⟨r, hr, hy⟩ := List.mem_filterMap.1 h
  obtain ⟨a, b, _⟩ := mdR_some hy
  exact ⟨by rw [b]; exact hr, a⟩
theorem prs_rise (h : Frm L) : (prsB L X).Pairwise fun x y => x.fr < y.fr := by
  refine List.Pairwise.imp_of_mem ?_ (h.pw.sublist (List.filter_sublist (p := madeB L X)))
  intro a b ha _ hab
  have := h.ends a (mem_prs.1 ha).1
  omega
theorem made_len {x : Rw} (h : x ∈ prsB L X) : x.into = [x.into.getD 0 0, x.into.getD 1 0] := two_of (made_iff.1 (mem_prs.1 h).2).2.1
theorem s4_dist (h : Frm L) (h4 : S4 L X) : Dist (prsB L X) := by
  refine ⟨List.Pairwise.imp_of_mem ?_ (prs_rise h), fun x hx => (h4 x hx).1⟩
  intro x y hx hy hlt e
  have h1 := (h4 x hx).2
  have h2 := (h4 y hy).2
  rw [e, h2] at h1
  have := congrArg Prod.fst h1
  simp only at this
  omega
theorem dist_lk {mk : List Rw} (hd : Dist mk) {x : Rw} (hx : x ∈ mk) {a b : Int} (e : x.into = [a, b]) : lkM mk a b = some x.fr := by
  unfold lkM
  cases hf : mk.find? (fun z => decide (z.into = [a, b])) with
  | none =>
    have := (List.find?_eq_none.1 hf) x hx
    simp [e] at this
  | some y =>
    have hy := List.mem_of_find?_eq_some hf
    have hi : y.into = [a, b] := by simpa using List.find?_some hf
    by_cases exy : x = y
    · rw [exy]; rfl
    · exfalso
      obtain ⟨i, hi1, rfl⟩ := List.mem_iff_getElem.1 hx
      obtain ⟨j, hj1, rfl⟩ := List.mem_iff_getElem.1 hy
      have hij : i ≠ j := fun e => exy (by subst e; rfl)
      have hp := List.pairwise_iff_getElem.1 hd.pw
      rcases Nat.lt_or_gt_of_ne hij with h1 | h1
      · exact hp i j hi1 hj1 h1 (by rw [e, hi])
      · exact hp j i hj1 hi1 h1 (by rw [e, hi])
theorem dist_s4 (hd : Dist (prsB L X)) : S4 L X := fun x hx => by
  refine ⟨hd.jn x hx, ?_⟩
  rw [pairB_lk, dist_lk hd hx (made_len hx)]
theorem join_fail (h : Frm L) {pre : List Int} {r : Int} {z : Rw} (hp : pre ++ [r] <+: knwB L) (hz : mdR L X r = some z) (hb : (pairP (mkR L X pre) (z.into.getD 0 0) (z.into.getD 1 0)).2 = true) : ¬ S4 L X := fun h4 => by
  obtain ⟨a, b, c⟩ := mdR_some hz
  have h1 := h4 z a
  unfold pairP at hb
  rw [if_neg (by rw [h1.1]; simp)] at hb
  cases e : lkM (mkR L X pre) (z.into.getD 0 0) (z.into.getD 1 0) with
  | none => rw [e] at hb; cases hb
  | some s =>
    obtain ⟨y, hy, hi, _⟩ := lk_some e
    obtain ⟨hy1, hy2⟩ := mkR_mem hy
    have h2 := h4 y hy2
    rw [hi] at h2
    simp only [List.getD_cons_zero, List.getD_cons_succ] at h2
    have h3 := h1.2.symm.trans h2.2
    have h5 : z.fr = y.fr := by simpa using congrArg Prod.fst h3
    have hn := (knw_nodup h).sublist hp.sublist
    rw [List.nodup_append] at hn
    exact hn.2.2 y.fr hy1 r (by simp) (by rw [← h5, b])
theorem join_done (h : Frm L) (hd : Dist (mkR L X (knwB L))) : S4 L X := by
  rw [mkR_all h] at hd
  exact dist_s4 hd
theorem mdR_of (h : Frm L) {x : Rw} (hx : x ∈ prsB L X) : mdR L X x.fr = some x := by
  obtain ⟨a, b⟩ := mem_prs.1 hx
  unfold mdR
  rw [parA_of h a (made_ne b)]
  simp [Option.filter, b]
/-- makes: does a parted character stand for what its two make? -/
theorem makes_iff (h : Frm L) (h4 : S4 L X) {x : Rw} (hx : x ∈ L) {a b : Int} (e : x.into = [a, b]) : lkM (prsB L X) a b = some x.fr ↔ x ∈ prsB L X := by
  constructor
  · intro hl
    obtain ⟨z, hz, hi, hf⟩ := lk_some hl
    rw [← h.uniq (mem_prs.1 hz).1 hx hf]
    exact hz
  · intro hp
    exact dist_lk (s4_dist h h4) hp e

end Go.Proofs.YtagbeioooohbgaaGreatDoor.Ba
end
section
namespace Go.Proofs.YtagbeioooohbgaaGreatDoor.Fi
open Go.RowKit

/-- A slice of texts, in memory that is there. -/
def Txs (w : World) (A : Option Addr) (l : List (List UInt8)) : Prop :=
  ∀ i (hi : i < l.length), ∃ b off, A = some ⟨b, off, none⟩ ∧ b < w.heap.size ∧ w.cell? ⟨b, off + i, none⟩ = some (.string ⟨(l[i]).toArray⟩)
theorem Txs.below {w w' : World} {A : Option Addr} {l : List (List UInt8)} (h : Txs w A l) (hb : Below w.heap.size w w') : Txs w' A l := fun i hi => by
  obtain ⟨b, off, e, hl, hc⟩ := h i hi
  exact ⟨b, off, e, Nat.lt_of_lt_of_le hl hb.size, (hb.cell (p := ⟨b, off + i, none⟩) hl).trans hc⟩
theorem own_txs {w : World} {base : Nat} {v : Value} {l : List (List UInt8)} (h : w.ownsRow base 9 1 v l.length (svs l)) : ∃ A c, v = .slice A l.length c ∧ Txs w A l := by
  rcases h.2 with ⟨hv, hn⟩ | ⟨g, cap, cur, hv, hg, hh, hn, hm, hc, ht⟩
  · exact ⟨none, 0, by rw [hv, hn], fun i hi => by omega⟩
  · refine ⟨some ⟨g, 0, none⟩, cap, hv, fun i hi => ⟨g, 0, rfl, (h.lt g (by rw [hv]; rfl)).2, ?_⟩⟩
    have := h.cells (g := g) (by rw [hv]; rfl) i (.string ⟨(l[i]).toArray⟩) (by simp [svs, List.getElem?_eq_getElem hi])
    have e : (⟨g, 0, none⟩ : Addr).add i = ⟨g, 0 + i, none⟩ := by unfold Addr.add; split <;> simp_all
    rw [e] at this
    exact this
/-- A slice of lines, in memory that is there. -/
def Lns (w : World) (A : Option Addr) (l : List (Nat × List UInt8)) : Prop :=
  ∀ i (hi : i < l.length), ∃ b off, A = some ⟨b, off, none⟩ ∧ b < w.heap.size ∧ w.cell? ⟨b, off + i * 2, none⟩ = some (.int .i64 (l[i].1 : Int)) ∧ w.cell? ⟨b, off + i * 2 + 1, none⟩ = some (.string ⟨(l[i].2).toArray⟩)
theorem Lns.below {w w' : World} {A : Option Addr} {l : List (Nat × List UInt8)} (h : Lns w A l) (hb : Below w.heap.size w w') : Lns w' A l := fun i hi => by
  obtain ⟨b, off, e, hl, hc, hd⟩ := h i hi
  exact ⟨b, off, e, Nat.lt_of_lt_of_le hl hb.size, (hb.cell (p := ⟨b, off + i * 2, none⟩) hl).trans hc, (hb.cell (p := ⟨b, off + i * 2 + 1, none⟩) hl).trans hd⟩
theorem lnV_at : ∀ (l : List (Nat × List UInt8)) (i : Nat) (hi : i < l.length), (lnV l)[i * 2]? = some (.int .i64 (l[i].1 : Int)) ∧ (lnV l)[i * 2 + 1]? = some (.string ⟨(l[i].2).toArray⟩)
  | x :: l, 0, _ => ⟨rfl, rfl⟩
  | x :: l, i + 1, hi => by
    have ih := lnV_at l i (by simpa using hi)
    have e : lnV (x :: l) = .int .i64 (x.1 : Int) :: .string ⟨(x.2).toArray⟩ :: lnV l := rfl
    rw [e, show (i + 1) * 2 = i * 2 + 1 + 1 by omega]
    exact ih
theorem own_lns {w : World} {base t : Nat} {v : Value} {l : List (Nat × List UInt8)} (h : w.ownsRow base t 2 v l.length (lnV l)) : ∃ A c, v = .slice A l.length c ∧ Lns w A l := by
  rcases h.2 with ⟨hv, hn⟩ | ⟨g, cap, cur, hv, hg, hh, hn, hm, hc, ht⟩
  · exact ⟨none, 0, by rw [hv, hn], fun i hi => by omega⟩
  · have hq := fun j u hj => h.cells (g := g) (by rw [hv]; rfl) j u hj
    have e : ∀ j, (⟨g, 0, none⟩ : Addr).add j = ⟨g, 0 + j, none⟩ := fun j => by unfold Addr.add; split <;> simp_all
    simp only [e] at hq
    exact ⟨some ⟨g, 0, none⟩, cap, hv, fun i hi => ⟨g, 0, rfl, (h.lt g (by rw [hv]; rfl)).2, hq _ _ (lnV_at l i hi).1, by have := hq _ _ (lnV_at l i hi).2; rw [← Nat.add_assoc] at this; exact this⟩⟩

end Go.Proofs.YtagbeioooohbgaaGreatDoor.Fi
end
section
namespace Go.Proofs.YtagbeioooohbgaaGreatDoor.Uc
open Go.RowKit Fi

/-- Every block of a type is as it was. -/
def KeepT (t : TypeId) (w w' : World) : Prop := ∀ (g : Nat) (cs : Array Value) (fr), w.heap[g]? = some (Obj.cells cs t fr) → w'.heap[g]? = w.heap[g]?
theorem KeepT.refl (t : TypeId) (w : World) : KeepT t w w := fun _ _ _ _ => rfl
theorem KeepT.trans {t : TypeId} {a b c : World} (h : KeepT t a b) (k : KeepT t b c) : KeepT t a c := fun g cs fr hg => (k g cs fr ((h g cs fr hg).trans hg)).trans (h g cs fr hg)
theorem KeepT.below {t : TypeId} {w w' : World} (h : Below w.heap.size w w') : KeepT t w w' := fun g _ _ hg => h.block g (Array.getElem?_eq_some_iff.1 hg).1
theorem KeepT.set {t : TypeId} {w : World} {X : Nat} {v : Value} {t' : TypeId} (h : One w X v t') (hn : t' ≠ t) (x : Value) (o : Nat) : KeepT t w (w.setCell ⟨X, o, none⟩ x) := fun g cs fr hg =>
  Go.Deep.blk_setCell_other _ _ _ _ (fun e => by subst e; rw [h.blk] at hg; simp at hg; exact hn hg.2.1)
theorem KeepT.grown {t : TypeId} {w w' : World} {b e z n : Nat} {v : Value} {xs : List Value} (h : w.ownsRow b e z v n xs) (hn : e ≠ t) (hg : w.grownBy w' v.ownBlock) : KeepT t w w' := fun g cs fr hh =>
  hg.block g (Array.getElem?_eq_some_iff.1 hh).1 (fun he => by
    rcases h.2 with ⟨rfl, _⟩ | ⟨g', cap, cur, rfl, _, h3, _⟩
    · cases he
    · have : g = g' := by injection he
      subst this
      rw [h3] at hh
      simp at hh
      exact hn hh.2.1)
theorem KeepT.own {t : TypeId} {w w' : World} {b z n : Nat} {v : Value} {xs : List Value} (k : KeepT t w w') (h : w.ownsRow b t z v n xs) : w'.ownsRow b t z v n xs := by
  refine ⟨h.1, ?_⟩
  rcases h.2 with h2 | ⟨g, cap, cur, h1, h2, h3, h4⟩
  · exact .inl h2
  · exact .inr ⟨g, cap, cur, h1, h2, (k g _ _ h3).trans h3, h4⟩

def rC (r : Rw) (v : Value) : List Value := [.int .i32 r.fr, .int .i32 r.tt, .string ⟨r.nm.toArray⟩, .string ⟨r.ct.toArray⟩, .int .i64 r.cl, .string ⟨r.kd.toArray⟩, v]
def rV (r : Rw) (v : Value) : Value := .agg #[.int .i32 r.fr, .int .i32 r.tt, .string ⟨r.nm.toArray⟩, .string ⟨r.ct.toArray⟩, .int .i64 r.cl, .string ⟨r.kd.toArray⟩, v]
def rCs (l : List (Rw × Value)) : List Value := l.flatMap fun x => rC x.1 x.2
theorem rCs_app (a b : List (Rw × Value)) : rCs (a ++ b) = rCs a ++ rCs b := by simp [rCs]
theorem rCs_len : ∀ l : List (Rw × Value), (rCs l).length = l.length * 7
  | [] => rfl
  | x :: l => by
    have ih := rCs_len l
    have e : rCs (x :: l) = rC x.1 x.2 ++ rCs l := rfl
    rw [e, List.length_append, ih, List.length_cons]
    simp [rC]; omega
theorem rCs_at : ∀ (l : List (Rw × Value)) (i : Nat) (hi : i < l.length) (j : Nat), j < 7 → (rCs l)[i * 7 + j]? = (rC l[i].1 l[i].2)[j]?
  | x :: l, 0, _, j, hj => by
    have e : rCs (x :: l) = rC x.1 x.2 ++ rCs l := rfl
    rw [e, List.getElem?_append_left (by simp [rC]; omega)]
    simp
  | x :: l, i + 1, hi, j, hj => by
    have ih := rCs_at l i (by simpa using hi) j hj
    have e : rCs (x :: l) = rC x.1 x.2 ++ rCs l := rfl
    rw [e, List.getElem?_append_right (by simp [rC]; omega)]
    rw [show (i + 1) * 7 + j - (rC x.1 x.2).length = i * 7 + j by simp [rC]; omega]
    simpa using ih

/-- Characters in memory that is there: the slice that a row bears. -/
def IntV (w : World) (v : Value) (l : List Int) : Prop := ∃ A c, v = .slice A l.length c ∧ Ints .i32 w A l
theorem IntV.below {w w' : World} {v : Value} {l : List Int} (h : IntV w v l) (hb : Below w.heap.size w w') : IntV w' v l := by
  obtain ⟨A, c, e, hi⟩ := h
  exact ⟨A, c, e, hi.below hb⟩
theorem IntV.of {w : World} {b : Nat} {v : Value} {l : List Int} (h : w.ownsRow b 21 1 v l.length (i32s l)) : IntV w v l := own_ints h

/-- Rows in memory of the call's own. -/
structure RwIn (w : World) (base : Nat) (T : TypeId) (v : Value) (l : List (Rw × Value)) : Prop where
  own : w.ownsRow base T 7 v l.length (rCs l)
  ints : ∀ x ∈ l, w.ownsRow base 21 1 x.2 x.1.into.length (i32s x.1.into)
theorem RwIn.below {w w' : World} {base : Nat} {T : TypeId} {v : Value} {l : List (Rw × Value)} (h : RwIn w base T v l) (hb : Below w.heap.size w w') : RwIn w' base T v l := ⟨own_below' h.own hb, fun x hx => own_below' (h.ints x hx) hb⟩
theorem RwIn.nil (w : World) (base : Nat) (T : TypeId) : RwIn w base T (.slice none 0 0) [] := ⟨World.ownsRow_nil _ _ _ _, fun x hx => by cases hx⟩

/-- Rows in memory that is there, for reading. -/
def Rws (w : World) (A : Option Addr) (l : List Rw) : Prop :=
  ∀ i (hi : i < l.length), ∃ b off v, A = some ⟨b, off, none⟩ ∧ b < w.heap.size ∧ IntV w v (l[i]).into ∧
    w.cell? ⟨b, off + i * 7, none⟩ = some (.int .i32 (l[i]).fr) ∧ w.cell? ⟨b, off + i * 7 + 1, none⟩ = some (.int .i32 (l[i]).tt) ∧
    w.cell? ⟨b, off + i * 7 + 2, none⟩ = some (.string ⟨(l[i]).nm.toArray⟩) ∧ w.cell? ⟨b, off + i * 7 + 3, none⟩ = some (.string ⟨(l[i]).ct.toArray⟩) ∧
    w.cell? ⟨b, off + i * 7 + 4, none⟩ = some (.int .i64 (l[i]).cl) ∧ w.cell? ⟨b, off + i * 7 + 5, none⟩ = some (.string ⟨(l[i]).kd.toArray⟩) ∧
    w.cell? ⟨b, off + i * 7 + 6, none⟩ = some v
theorem Rws.below {w w' : World} {A : Option Addr} {l : List Rw} (h : Rws w A l) (hb : Below w.heap.size w w') : Rws w' A l := fun i hi => by
  obtain ⟨b, off, v, e, hl, hv, h0, h1, h2, h3, h4, h5, h6⟩ := h i hi
  have k := fun j => hb.cell (p := ⟨b, off + i * 7 + j, none⟩) hl
  exact ⟨b, off, v, e, Nat.lt_of_lt_of_le hl hb.size, hv.below hb, (k 0).trans h0, (k 1).trans h1, (k 2).trans h2, (k 3).trans h3, (k 4).trans h4, (k 5).trans h5, (k 6).trans h6⟩
theorem RwIn.rws {w : World} {base : Nat} {T : TypeId} {v : Value} {l : List (Rw × Value)} (h : RwIn w base T v l) : ∃ A c, v = .slice A (l.map Prod.fst).length c ∧ Rws w A (l.map Prod.fst) := by
  rw [List.length_map]
  rcases h.own.2 with ⟨hv, hn⟩ | ⟨g, cap, cur, hv, hg, hh, hn, hm, hc, ht⟩
  · exact ⟨none, 0, by rw [hv, hn], fun i hi => by rw [List.length_map] at hi; omega⟩
  · have hq := fun j u hj => h.own.cells (g := g) (by rw [hv]; rfl) j u hj
    have e : ∀ j, (⟨g, 0, none⟩ : Addr).add j = ⟨g, j, none⟩ := fun j => by unfold Addr.add; split <;> simp_all
    simp only [e] at hq
    refine ⟨some ⟨g, 0, none⟩, cap, hv, fun i hi => ?_⟩
    have hi' : i < l.length := by simpa using hi
    have hr : ∀ j u, j < 7 → (rC l[i].1 l[i].2)[j]? = some u → w.cell? ⟨g, 0 + i * 7 + j, none⟩ = some u := fun j u hj hu => by
      rw [Nat.zero_add]
      exact hq (i * 7 + j) u ((rCs_at l i hi' j hj).trans hu)
    refine ⟨g, 0, l[i].2, rfl, (h.own.lt g (by rw [hv]; rfl)).2, ?_, ?_⟩
    · simp only [List.getElem_map]
      exact IntV.of (h.ints _ (List.getElem_mem hi'))
    · simp only [List.getElem_map]
      exact ⟨hr 0 _ (by omega) rfl, hr 1 _ (by omega) rfl, hr 2 _ (by omega) rfl, hr 3 _ (by omega) rfl, hr 4 _ (by omega) rfl, hr 5 _ (by omega) rfl, hr 6 _ (by omega) rfl⟩

end Go.Proofs.YtagbeioooohbgaaGreatDoor.Uc
end
section
namespace Go.Proofs.YtagbeioooohbgaaGreatDoor.Uc
open Go.RowKit Fi

/-- The characters among the n numbers from f on. -/
def chP (f : Int) (n : Nat) : List Int := ((List.range n).map fun j : Nat => f + (j : Int)).filter scal
def chs (f t : Int) : List Int := chP f (t - f + 1).toNat
theorem chP_zero (f : Int) : chP f 0 = [] := rfl
theorem chP_yes {f : Int} {n : Nat} (h : scal (f + n) = true) : chP f (n + 1) = chP f n ++ [f + n] := by
  unfold chP
  rw [List.range_succ, List.map_append, List.filter_append]
  simp [h]
theorem chP_no {f : Int} {n : Nat} (h : scal (f + n) = false) : chP f (n + 1) = chP f n := by
  unfold chP
  rw [List.range_succ, List.map_append, List.filter_append]
  simp [h]
theorem chP_mem {f x : Int} {n : Nat} (h : x ∈ chP f n) : f ≤ x ∧ x < f + n ∧ scal x = true := by
  unfold chP at h
  obtain ⟨h1, h2⟩ := List.mem_filter.1 h
  obtain ⟨j, hj, rfl⟩ := List.mem_map.1 h1
  have := List.mem_range.1 hj
  exact ⟨by omega, by omega, h2⟩
theorem chs_mem {f t x : Int} (h : x ∈ chs f t) : f ≤ x ∧ x ≤ t ∧ scal x = true := by
  obtain ⟨a, b, c⟩ := chP_mem h
  exact ⟨a, by omega, c⟩
theorem chP_rise (f : Int) : ∀ n, (chP f n).Pairwise (· < ·)
  | 0 => by simp [chP]
  | n + 1 => by
    have ih := chP_rise f n
    cases h : scal (f + n) with
    | true =>
      rw [chP_yes h, List.pairwise_append]
      exact ⟨ih, by simp, fun x hx y hy => by
        simp at hy
        subst hy
        exact (chP_mem hx).2.1⟩
    | false => rw [chP_no h]; exact ih
theorem chP_pre (f : Int) (n : Nat) : ∀ m, n ≤ m → ∃ r, chP f m = chP f n ++ r
  | 0, h => ⟨[], by obtain rfl : n = 0 := by omega
                    simp⟩
  | m + 1, h => by
    by_cases e : n = m + 1
    · subst e; exact ⟨[], by simp⟩
    · obtain ⟨r, hr⟩ := chP_pre f n m (by omega)
      cases hs : scal (f + m) with
      | true => exact ⟨r ++ [f + m], by rw [chP_yes hs, hr]; simp⟩
      | false => exact ⟨r, by rw [chP_no hs, hr]⟩

/-- How many are less. -/
def cnt (s : List Int) (f : Int) : Nat := s.countP fun x => decide (x < f)
theorem cnt_of {s : List Int} {f : Int} {i : Nat} (hi : i ≤ s.length) (h1 : ∀ k (hk : k < s.length), k < i → s[k] < f) (h2 : ∀ k (hk : k < s.length), i ≤ k → f ≤ s[k]) : cnt s f = i := by
  unfold cnt
  have e : s = s.take i ++ s.drop i := (List.take_append_drop i s).symm
  rw [e, List.countP_append]
  have e1 : (s.take i).countP (fun x => decide (x < f)) = (s.take i).length := by
    rw [List.countP_eq_length]
    intro x hx
    obtain ⟨j, hj, rfl⟩ := List.mem_iff_getElem.1 hx
    have hj' : j < i := by rw [List.length_take] at hj; omega
    rw [List.getElem_take]
    simpa using h1 j (by omega) hj'
  have e2 : (s.drop i).countP (fun x => decide (x < f)) = 0 := by
    rw [List.countP_eq_zero]
    intro x hx
    obtain ⟨j, hj, rfl⟩ := List.mem_iff_getElem.1 hx
    have hj' : j < s.length - i := by rw [List.length_drop] at hj; omega
    rw [List.getElem_drop]
    have := h2 (i + j) (by omega) (by omega)
    simp
    omega
  rw [e1, e2, List.length_take]
  omega
theorem cnt_split (f : Int) : ∀ {s : List Int}, s.Pairwise (· < ·) → ∃ a b, s = a ++ b ∧ cnt s f = a.length ∧ (∀ x ∈ a, x < f) ∧ ∀ x ∈ b, f ≤ x
  | [], _ => ⟨[], [], rfl, rfl, (fun x hx => by cases hx), (fun x hx => by cases hx)⟩
  | x :: s, h => by
    obtain ⟨h1, h2⟩ := List.pairwise_cons.1 h
    by_cases hx : x < f
    · obtain ⟨a, b, e, c, ha, hb⟩ := cnt_split f h2
      refine ⟨x :: a, b, by rw [e]; rfl, ?_, fun y hy => ?_, hb⟩
      · unfold cnt at c ⊢
        rw [List.countP_cons_of_pos (by simpa using hx), c]; rfl
      · rcases List.mem_cons.1 hy with rfl | hy
        · exact hx
        · exact ha y hy
    · refine ⟨[], x :: s, rfl, ?_, (fun y hy => by cases hy), fun y hy => ?_⟩
      · unfold cnt
        rw [List.length_nil, List.countP_eq_zero]
        intro y hy
        rcases List.mem_cons.1 hy with rfl | hy
        · simpa using hx
        · have := h1 y hy
          simp
          omega
      · rcases List.mem_cons.1 hy with rfl | hy
        · omega
        · have := h1 y hy
          omega
theorem cnt_le (s : List Int) (f : Int) : cnt s f ≤ s.length := List.countP_le_length

/-- What a line makes of the characters so far, and the error. -/
def inR (f t x : Int) : Bool := decide (f ≤ x) && decide (x ≤ t)
def stR (s : List Int) (r : Int × Int × Int) : List Int × Int :=
  if r.2.2 ≠ 0 then (s, r.2.2)
  else if s.any (inR r.1 r.2.1) then (s, 12)
  else if 4096 < s.length + (chs r.1 r.2.1).length then (s, 14)
  else (s.take (cnt s r.1) ++ (chs r.1 r.2.1 ++ s.drop (cnt s r.1)), 0)
def stS (s : List Int) (tx : List UInt8) : List Int × Int := stR s (rngE ((fld tx).getD 0 []))
def runS (s : List Int) : List (Nat × List UInt8) → List Int × Nat × Int
  | [] => (s, 0, 0)
  | x :: l => if (stS s x.2).2 ≠ 0 then (s, x.1, (stS s x.2).2) else runS (stS s x.2).1 l
def setsE (l : List UInt8) : List Int × Nat × Int :=
  if (linE l).2 ≠ 0 then ([], 0, (linE l).2)
  else if (runS [] (linE l).1).2.2 ≠ 0 then ([], (runS [] (linE l).1).2.1, (runS [] (linE l).1).2.2) else ((runS [] (linE l).1).1, 0, 0)
structure SInv (s : List Int) : Prop where
  rise : s.Pairwise (· < ·)
  scs : ∀ x ∈ s, scal x = true
  len : s.length ≤ 4096
theorem SInv.nil : SInv [] := ⟨by simp, (fun x hx => by cases hx), by simp⟩
theorem stR_inv {s : List Int} {r : Int × Int × Int} (h : SInv s) : SInv (stR s r).1 := by
  unfold stR
  split
  · exact h
  · split
    · exact h
    · rename_i hany
      split
      · exact h
      · rename_i hlen
        obtain ⟨a, b, e, c, ha, hb⟩ := cnt_split r.1 h.rise
        have e1 : s.take (cnt s r.1) = a := by rw [c, e]; simp
        have e2 : s.drop (cnt s r.1) = b := by rw [c, e]; simp
        simp only [e1, e2]
        have hp := h.rise
        rw [e, List.pairwise_append] at hp
        have hb' : ∀ x ∈ b, r.2.1 < x := fun x hx => by
          have h1 := hb x hx
          refine Int.not_le.1 fun h2 => hany (List.any_eq_true.2 ⟨x, by rw [e]; simp [hx], by simp [inR, h1, h2]⟩)
        refine ⟨?_, fun x hx => ?_, ?_⟩
        · rw [List.pairwise_append, List.pairwise_append]
          refine ⟨hp.1, ⟨chP_rise _ _, hp.2.1, fun x hx y hy => ?_⟩, fun x hx y hy => ?_⟩
          · have h1 := (chs_mem hx).2.1
            have h2 := hb' y hy
            omega
          · rcases List.mem_append.1 hy with hy | hy
            · have h1 := (chs_mem hy).1
              have h2 := ha x hx
              omega
            · exact hp.2.2 x hx y hy
        · rcases List.mem_append.1 hx with hx | hx
          · exact h.scs x (by rw [e]; simp [hx])
          · rcases List.mem_append.1 hx with hx | hx
            · exact (chs_mem hx).2.2
            · exact h.scs x (by rw [e]; simp [hx])
        · have h1 : s.length = a.length + b.length := by rw [e, List.length_append]
          rw [List.length_append, List.length_append]
          omega
theorem runS_inv : ∀ {l : List (Nat × List UInt8)} {s : List Int}, SInv s → SInv (runS s l).1
  | [], _, h => h
  | x :: l, s, h => by
    rw [runS]
    split
    · exact h
    · exact runS_inv (stR_inv h)
theorem setsE_inv (l : List UInt8) : SInv (setsE l).1 ∧ ((setsE l).2.2 ≠ 0 → (setsE l).1 = []) := by
  unfold setsE
  split
  · exact ⟨SInv.nil, fun _ => rfl⟩
  · split
    · exact ⟨SInv.nil, fun _ => rfl⟩
    · exact ⟨runS_inv SInv.nil, fun h => absurd rfl h⟩
/-- The program's question: does one lie in the range? -/
theorem any_at {s : List Int} {f t : Int} (h : s.Pairwise (· < ·)) : s.any (inR f t) = true ↔ ∃ hc : cnt s f < s.length, s[cnt s f] ≤ t := by
  obtain ⟨a, b, e, c, ha, hb⟩ := cnt_split f h
  constructor
  · intro hany
    obtain ⟨x, hx, hr⟩ := List.any_eq_true.1 hany
    simp [inR] at hr
    have hxb : x ∈ b := by
      rw [e] at hx
      rcases List.mem_append.1 hx with hx | hx
      · have := ha x hx; omega
      · exact hx
    obtain ⟨y, b', rfl⟩ : ∃ y b', b = y :: b' := by cases b with
      | nil => cases hxb
      | cons y b' => exact ⟨y, b', rfl⟩
    have hlt : cnt s f < s.length := by rw [c, e]; simp
    refine ⟨hlt, ?_⟩
    have e3 : s[cnt s f] = y := by
      have : s[cnt s f]? = some y := by rw [c, e]; simp
      rw [List.getElem?_eq_getElem hlt] at this
      exact Option.some.inj this
    rw [e3]
    have hp := h
    rw [e, List.pairwise_append] at hp
    rcases List.mem_cons.1 hxb with rfl | hxb
    · exact hr.2
    · have := (List.pairwise_cons.1 hp.2.1).1 x hxb
      omega
  · rintro ⟨hlt, hle⟩
    have hm : s[cnt s f] ∈ b := by
      have e3 : s[cnt s f]? = b[0]? := by
        have : (a ++ b)[a.length]? = b[0]? := by rw [List.getElem?_append_right (Nat.le_refl _), Nat.sub_self]
        rw [c]
        rw [← e] at this
        exact this
      rw [List.getElem?_eq_getElem hlt] at e3
      exact List.mem_of_getElem? e3.symm
    exact List.any_eq_true.2 ⟨_, List.getElem_mem hlt, by simp [inR, hb _ hm, hle]⟩
/-- The reference's characters, in whatever order. -/
theorem perm_any {us s : List Int} (h : us.Perm s) (p : Int → Bool) : us.any p = s.any p := by
  rw [Bool.eq_iff_iff, List.any_eq_true, List.any_eq_true]
  constructor
  · rintro ⟨x, hx, hp⟩; exact ⟨x, h.mem_iff.1 hx, hp⟩
  · rintro ⟨x, hx, hp⟩; exact ⟨x, h.mem_iff.2 hx, hp⟩
theorem perm_st {us s : List Int} (h : us.Perm s) (f t : Int) : (us ++ chs f t).Perm (s.take (cnt s f) ++ (chs f t ++ s.drop (cnt s f))) := by
  have h1 : (us ++ chs f t).Perm (s ++ chs f t) := h.append_right _
  refine h1.trans ?_
  have e : s ++ chs f t = s.take (cnt s f) ++ (s.drop (cnt s f) ++ chs f t) := by rw [← List.append_assoc, List.take_append_drop]
  rw [e]
  exact List.perm_append_comm.append_left _
theorem perm_rise : ∀ {us s : List Int}, us.Perm s → us.Pairwise (· ≤ ·) → s.Pairwise (· < ·) → us = s
  | [], s, h, _, _ => by rw [List.nil_perm.1 h]
  | x :: us, [], h, _, _ => by cases (List.perm_nil.1 h)
  | x :: us, y :: s, h, hu, hs => by
    obtain ⟨u1, u2⟩ := List.pairwise_cons.1 hu
    obtain ⟨s1, s2⟩ := List.pairwise_cons.1 hs
    have e : x = y := by
      have hx : x ∈ y :: s := h.mem_iff.1 (by simp)
      have hy : y ∈ x :: us := h.mem_iff.2 (by simp)
      rcases List.mem_cons.1 hx with rfl | hx
      · rfl
      · rcases List.mem_cons.1 hy with rfl | hy
        · rfl
        · have a := s1 x hx
          have b := u1 y hy
          omega
    subst e
    rw [perm_rise (List.Perm.cons_inv h) u2 s2]

end Go.Proofs.YtagbeioooohbgaaGreatDoor.Uc
end
section
namespace Go.Proofs.YtagbeioooohbgaaGreatDoor.Uc
open Go.RowKit Fi

set_option maxHeartbeats 1000000 in
theorem cnan_any (x : Int) (w : World) : Calls Tryz.prog 102 #[.int .i32 x] w fun e w' => e = .returned (.bool false) ∧ w = w' := by
  go_enter Tryz.func102, Tryz.ntmps102
  go_wp2
  go_ret
  exact ⟨ret_bool (by simp), rfl⟩
set_option maxHeartbeats 1000000 in
theorem snan_any (x : Int) (w : World) : Calls Tryz.prog 81 #[.int .i32 x] w fun e w' => e = .returned (.bool false) ∧ w = w' := by
  go_enter Tryz.func81, Tryz.ntmps81
  go_wp2
  go_ret
  exact ⟨ret_bool (by simp), rfl⟩
set_option maxHeartbeats 1000000 in
theorem less_any (x y : Int) (w : World) : Calls Tryz.prog 80 #[.int .i32 x, .int .i32 y] w fun e w' => e = .returned (.bool (decide (x < y))) ∧ w = w' := by
  go_enter Tryz.func80, Tryz.ntmps80
  go_wp2_with (go_at_call 102; refine (cnan_any _ _).mono ?_; rintro e w' ⟨rfl, rfl⟩)
  go_ret
  exact ⟨rfl, rfl⟩

theorem cnt_at {s : List Int} {x : Int} {i : Nat} (hi : i ≤ s.length) (h1 : ∀ k, k < i → s.getD k 0 < x) (h2 : ∀ k, i ≤ k → k < s.length → x ≤ s.getD k 0) : cnt s x = i := by
  refine cnt_of hi (fun k hk hki => ?_) (fun k hk hki => ?_)
  · have := h1 k hki
    simpa [List.getD, List.getElem?_eq_getElem hk] using this
  · have := h2 k hki hk
    simpa [List.getD, List.getElem?_eq_getElem hk] using this
theorem rise_at {s : List Int} (h : s.Pairwise (· < ·)) (a b : Nat) (hab : a ≤ b) (hb : b < s.length) : s.getD a 0 ≤ s.getD b 0 := by
  have ha : a < s.length := by omega
  simp only [List.getD, List.getElem?_eq_getElem ha, List.getElem?_eq_getElem hb, Option.getD_some]
  by_cases e : a = b
  · subst e; exact Int.le_refl _
  · have := List.pairwise_iff_getElem.1 h a b ha hb (by omega)
    omega
def SeP (w : World) (n : Nat) (e : Ending) (w' : World) : Prop := ∃ b, e = .returned (.tuple #[.int .i64 (n : Int), .bool b]) ∧ Below w.heap.size w w'
set_option maxHeartbeats 4000000 in
set_option maxRecDepth 100000 in
theorem search_some (b off c : Nat) (s : List Int) (x : Int) (w : World) (hl : Ints .i32 w (some ⟨b, off, none⟩) s) (hz : s.length ≤ 10000) (hr : s.Pairwise (· < ·)) :
    Calls Tryz.prog 50 #[.slice (some ⟨b, off, none⟩) s.length c, .int .i32 x] w (SeP w (cnt s x)) := by
  have hc : ∀ j, j < s.length → w.cell? ⟨b, off + j, none⟩ = some (.int .i32 (s.getD j 0)) := fun j hj => by
    obtain ⟨b', off', e, _, h⟩ := hl j hj
    cases e
    exact h
  have HC := Lib.hid hc
  have S := Lib.hid (rise_at hr)
  have HF := Lib.hid (fun (i : Nat) (hi : i ≤ s.length) (h1 : ∀ k, k < i → s.getD k 0 < x) (h2 : ∀ k, i ≤ k → k < s.length → x ≤ s.getD k 0) => cnt_at hi h1 h2)
  clear hc hl hr
  obtain ⟨n, hn⟩ : ∃ n, n = s.length := ⟨_, rfl⟩
  rw [← hn] at hz HC S HF ⊢
  clear hn
  generalize cnt s x = ct at *
  go_enter Tryz.func50, Tryz.ntmps50
  go_wp2_with fail
  go_loopw [7, 8] (fun s7 s8 wr => ∃ lo hi : Nat, s7 = .int .i64 lo ∧ s8 = .int .i64 hi ∧ lo ≤ hi ∧ hi ≤ n ∧ wr = w ∧ Hid ((∀ t, t < lo → s.getD t 0 < x) ∧ (∀ t, hi ≤ t → t < n → x ≤ s.getD t 0))) (fun s7 s8 _ => (intOf s8).toNat - (intOf s7).toNat)
  case atStart => exact ⟨0, n, rfl, rfl, Nat.zero_le _, Nat.le_refl _, rfl, fun t ht => absurd ht (Nat.not_lt_zero _), fun t h1 h2 => by omega⟩
  case round =>
    obtain ⟨lo, hi, rfl, rfl, hlh, hin, rfl, I⟩ := hrel
    by_cases hlt : lo < hi
    · have cm := HC.out ((lo + hi) / 2) (by omega)
      generalize hy : s.getD ((lo + hi) / 2) 0 = y at cm
      have Y := Lib.hid hy
      clear hy
      by_cases hyx : y < x
      · go_wp2_with (go_at_call 80; refine (less_any _ _ _).mono ?_; rintro e w' ⟨rfl, rfl⟩)
        go_roundw
        case measure => simp [intOf]; omega
        case rel =>
          refine ⟨(lo + hi) / 2 + 1, hi, by go_num, rfl, by omega, hin, trivial, fun t ht => ?_, I.out.2⟩
          have := S.out t ((lo + hi) / 2) (by omega) (by omega)
          rw [Y.out] at this
          omega
      · go_wp2_with (go_at_call 80; refine (less_any _ _ _).mono ?_; rintro e w' ⟨rfl, rfl⟩)
        go_roundw
        case measure => simp [intOf]; omega
        case rel =>
          refine ⟨lo, (lo + hi) / 2, rfl, by go_num, by omega, by omega, trivial, I.out.1, fun t h1 h2 => ?_⟩
          have := S.out ((lo + hi) / 2) t h1 h2
          rw [Y.out] at this
          omega
    · obtain rfl : lo = hi := by omega
      have E := HF.out lo hin I.out.1 I.out.2
      subst E
      by_cases hn : ct < n
      · have cm := HC.out ct hn
        generalize s.getD ct 0 = y at cm
        go_wp2_with (go_at_call 81; refine (snan_any _ _).mono ?_; rintro e w' ⟨rfl, rfl⟩)
        all_goals (go_ret2; exact ⟨_, rfl, Below.refl _ _⟩)
      · go_wp2_with fail
        all_goals (go_ret2; exact ⟨_, rfl, Below.refl _ _⟩)
set_option maxHeartbeats 4000000 in
set_option maxRecDepth 100000 in
theorem search_none (A : Option Addr) (c : Nat) (x : Int) (w : World) :
    Calls Tryz.prog 50 #[.slice A 0 c, .int .i32 x] w (SeP w 0) := by
  go_enter Tryz.func50, Tryz.ntmps50
  go_wp2_with fail
  go_loopw [7, 8] (fun s7 s8 wr => s7 = .int .i64 0 ∧ s8 = .int .i64 0 ∧ wr = w) (fun _ _ _ => 0)
  case atStart => exact ⟨rfl, rfl, rfl⟩
  case round =>
    obtain ⟨rfl, rfl, rfl⟩ := hrel
    go_wp2_with fail
    go_ret2
    exact ⟨_, rfl, Below.refl _ _⟩
theorem search_any (A : Option Addr) (c : Nat) (s : List Int) (x : Int) (w : World) (hl : Ints .i32 w A s) (hz : s.length ≤ 10000) (hr : s.Pairwise (· < ·)) :
    Calls Tryz.prog 50 #[.slice A s.length c, .int .i32 x] w (SeP w (cnt s x)) := by
  cases s with
  | nil => exact search_none A c x w
  | cons y s =>
    obtain ⟨b, off, rfl, _⟩ := hl 0 (by simp)
    exact search_some b off c (y :: s) x w hl hz hr

end Go.Proofs.YtagbeioooohbgaaGreatDoor.Uc
end
section
namespace Go.Proofs.YtagbeioooohbgaaGreatDoor.Uc
open Go.RowKit Fi

set_option maxHeartbeats 400000 in
theorem letter_any (b : Nat) (w : World) : Calls Tryz.prog 122 #[.int .u8 b] w fun e w' => e = .returned (.bool (ltr b)) ∧ w = w' := by
  by_cases h1 : 97 ≤ b
  · have c1 : (97 : Int) ≤ b := by omega
    by_cases h2 : b ≤ 122
    · have c2 : (b : Int) ≤ 122 := by omega
      have H := Lib.hid (show ltr b = true by simp [ltr, h1, h2])
      go_enter Tryz.func122, Tryz.ntmps122
      go_wp2
      go_ret
      exact ⟨ret_bool (by rw [H.out]), rfl⟩
    · have c2 : ¬ (b : Int) ≤ 122 := by omega
      have c3 : (65 : Int) ≤ b := by omega
      have c4 : ¬ (b : Int) ≤ 90 := by omega
      have H := Lib.hid (show ltr b = false by simp [ltr]; omega)
      go_enter Tryz.func122, Tryz.ntmps122
      go_wp2
      go_ret
      exact ⟨ret_bool (by rw [H.out]), rfl⟩
  · have c1 : ¬ (97 : Int) ≤ b := by omega
    by_cases h3 : 65 ≤ b
    · have c3 : (65 : Int) ≤ b := by omega
      by_cases h4 : b ≤ 90
      · have c4 : (b : Int) ≤ 90 := by omega
        have H := Lib.hid (show ltr b = true by simp [ltr]; omega)
        go_enter Tryz.func122, Tryz.ntmps122
        go_wp2
        go_ret
        exact ⟨ret_bool (by rw [H.out]), rfl⟩
      · have c4 : ¬ (b : Int) ≤ 90 := by omega
        have H := Lib.hid (show ltr b = false by simp [ltr]; omega)
        go_enter Tryz.func122, Tryz.ntmps122
        go_wp2
        go_ret
        exact ⟨ret_bool (by rw [H.out]), rfl⟩
    · have c3 : ¬ (65 : Int) ≤ b := by omega
      have H := Lib.hid (show ltr b = false by simp [ltr]; omega)
      go_enter Tryz.func122, Tryz.ntmps122
      go_wp2
      go_ret
      exact ⟨ret_bool (by rw [H.out]), rfl⟩

theorem ltrs_on (s : ByteArray) (k : Nat) (h : k < s.size) : ltrs (s.data.toList.drop k) = (ltr s[k].toNat && ltrs (s.data.toList.drop (k + 1))) := by
  rw [lst_at s k h]; rfl
set_option maxRecDepth 100000 in
set_option maxHeartbeats 1000000 in
theorem letters_any (s : ByteArray) (w : World) (hs : s.size ≤ 9223372036854775807) :
    Calls Tryz.prog 94 #[.string s] w fun e w' => e = .returned (.bool (ltrs s.data.toList)) ∧ w = w' := by
  go_enter Tryz.func94, Tryz.ntmps94
  go_wp2_with fail
  go_loop [3, 6] (fun _ i => ∃ k : Nat, i = .int .i64 k ∧ k ≤ s.size ∧ Hid (ltrs (s.data.toList.drop k) = ltrs s.data.toList)) (fun _ i => s.size - (intOf i).toNat)
  case atStart => exact ⟨0, rfl, by omega, rfl⟩
  case round =>
    obtain ⟨k, rfl, hk, HD⟩ := hrel
    by_cases hlt : k < s.size
    · have g1 : (k : Int) < s.size := by omega
      have hlo := ltrs_on s k hlt
      have hL := fun W => letter_any s[k].toNat W
      cases hb : ltr s[k].toNat with
      | true =>
        rw [hb] at hL hlo
        have HL := Lib.hid hL
        have HQ := Lib.hid (show ltrs (s.data.toList.drop (k + 1)) = ltrs s.data.toList by rw [← HD.out, hlo, Bool.true_and])
        clear hL hb hlo
        go_wp2_with (go_at_call 122; refine (HL.out _).mono ?_; rintro e w' ⟨rfl, rfl⟩)
        go_round
        case rel => exact ⟨k + 1, by go_num, by omega, HQ.out⟩
        case measure => simp [intOf]; omega
      | false =>
        rw [hb] at hL hlo
        have HL := Lib.hid hL
        have HQ := Lib.hid (show ltrs s.data.toList = false by rw [← HD.out, hlo, Bool.false_and])
        clear hL hb hlo
        go_wp2_with (go_at_call 122; refine (HL.out _).mono ?_; rintro e w' ⟨rfl, rfl⟩)
        go_ret
        exact ⟨ret_bool (by rw [HQ.out]), rfl⟩
    · have g1 : ¬ (k : Int) < s.size := by omega
      have HQ := Lib.hid (show ltrs s.data.toList = true by rw [← HD.out, lst_end s k (by omega)]; rfl)
      go_wp2_with fail
      go_ret
      exact ⟨ret_bool (by rw [HQ.out]), rfl⟩

def rgV (o : Option (List UInt8)) : Value := .tuple #[.string ⟨(o.getD []).toArray⟩, .bool o.isSome]
theorem rgV_no : Value.tuple #[.string ⟨#[]⟩, .bool false] = rgV none := rfl
theorem rgV_yes (l : List UInt8) : Value.tuple #[.string ⟨l.toArray⟩, .bool true] = rgV (some l) := rfl
set_option maxHeartbeats 1000000 in
theorem range_name (s t : ByteArray) (w : World) (hs : s.size ≤ 9223372036854775807) :
    Calls Tryz.prog 45 #[.string s, .string t] w fun e w' => e = .returned (rgV (rgN s.data.toList t.data.toList)) ∧ w = w' := by
  have h1 := fun W => Tryz.strings_CutPrefix s ⟨#[60]⟩ W
  rw [show (⟨#[60]⟩ : ByteArray).data.toList = [60] from rfl] at h1
  unfold Lib.trimPrefix at h1
  cases hp : Lib.hasPrefix s.data.toList [60] with
  | false =>
    have H := Lib.hid (show rgN s.data.toList t.data.toList = none by unfold rgN; rw [hp]; rfl)
    rw [hp] at h1
    have H1 := Lib.hid h1
    clear h1 hp
    go_enter Tryz.func45, Tryz.ntmps45
    go_wp2_with (go_at_call 74; refine (H1.out _).mono ?_; rintro e w1 ⟨rfl, rfl⟩)
    go_ret2
    exact ⟨ret_eq (by rw [H.out]; rfl), rfl⟩
  | true =>
    rw [hp] at h1
    simp only [if_true, List.length_singleton] at h1
    obtain ⟨u, hu⟩ : ∃ u : ByteArray, u = ⟨(s.data.toList.drop 1).toArray⟩ := ⟨_, rfl⟩
    have hul : u.data.toList = s.data.toList.drop 1 := by rw [hu]
    have huz : u.size ≤ 9223372036854775807 := by rw [← lst_len, hul, List.length_drop, lst_len]; omega
    rw [← hu] at h1
    have H1 := Lib.hid h1
    have h2 := fun W => Tryz.strings_CutSuffix u t W huz
    unfold Lib.trimSuffix at h2
    cases hq : Lib.hasSuffix u.data.toList t.data.toList with
    | false =>
      have H := Lib.hid (show rgN s.data.toList t.data.toList = none by unfold rgN; rw [hp, ← hul, hq]; rfl)
      rw [hq] at h2
      have H2 := Lib.hid h2
      clear h1 hp h2 hq hul hu
      go_enter Tryz.func45, Tryz.ntmps45
      go_wp2_with (first
        | (go_at_call 74; refine (H1.out _).mono ?_; rintro e w1 ⟨rfl, rfl⟩)
        | (go_at_call 75; refine (H2.out _).mono ?_; rintro e w1 ⟨rfl, rfl⟩))
      go_ret2
      exact ⟨ret_eq (by rw [H.out]; rfl), rfl⟩
    | true =>
      have H := Lib.hid (show rgN s.data.toList t.data.toList = some (u.data.toList.take (u.data.toList.length - t.data.toList.length)) by
        unfold rgN; rw [hp, ← hul, hq]; simp only [if_true]
        have : s.data.toList.length - 1 = u.data.toList.length := by rw [hul, List.length_drop]
        rw [this])
      rw [hq] at h2
      simp only [if_true] at h2
      generalize u.data.toList.take (u.data.toList.length - t.data.toList.length) = r at *
      have H2 := Lib.hid h2
      clear h1 hp h2 hq hul hu
      go_enter Tryz.func45, Tryz.ntmps45
      go_wp2_with (first
        | (go_at_call 74; refine (H1.out _).mono ?_; rintro e w1 ⟨rfl, rfl⟩)
        | (go_at_call 75; refine (H2.out _).mono ?_; rintro e w1 ⟨rfl, rfl⟩))
      go_ret2
      exact ⟨ret_eq (by rw [H.out]; rfl), rfl⟩

end Go.Proofs.YtagbeioooohbgaaGreatDoor.Uc
end
section
namespace Go.Proofs.YtagbeioooohbgaaGreatDoor.Fi
open Go.RowKit

theorem spl_head (c : UInt8) (l : List UInt8) : ∃ r, spl c [] l = (Lib.cut l [c]).1 :: r := by
  rw [spl_cut]
  cases h : (Lib.cut l [c]).2.2 with
  | true => exact ⟨_, by simp; rfl⟩
  | false => exact ⟨[], by rw [(cut_miss h).1]; simp⟩
theorem splitK_spl (c : UInt8) : ∀ (k : Nat) (l : List UInt8), l.count c = k → Lib.splitK [c] 0 k l = spl c [] l
  | 0, l, h => by
    rw [spl_cut]
    have hm : (Lib.cut l [c]).2.2 = false := by
      have hx : Lib.index l [c] = -1 := by
        have := Lib.count_one c l
        by_cases hh : Lib.index l [c] = -1
        · exact hh
        · have hge := Lib.index_ge l [c]
          obtain ⟨j, hj⟩ : ∃ j : Nat, Lib.index l [c] = j := ⟨(Lib.index l [c]).toNat, by omega⟩
          rw [Lib.count_hit (by simp) hj] at this
          omega
      simp [Lib.cut, hx]
    rw [hm]
    simp [Lib.splitK]
  | k + 1, l, h => by
    have hcn := Lib.count_one c l
    have hge := Lib.index_ge l [c]
    have hne : Lib.index l [c] ≠ -1 := by
      intro hh
      rw [Lib.count_miss hh] at hcn
      omega
    obtain ⟨j, hj⟩ : ∃ j : Nat, Lib.index l [c] = j := ⟨(Lib.index l [c]).toNat, by omega⟩
    have hct : Lib.cut l [c] = (l.take j, l.drop (j + 1), true) := by
      unfold Lib.cut
      rw [hj, if_pos (by omega)]
      rfl
    rw [Lib.count_hit (by simp) hj] at hcn
    have hc2 : (l.drop (j + 1)).count c = k := by
      have := Lib.count_one c (l.drop (j + 1))
      simp only [List.length_singleton] at hcn
      omega
    rw [spl_cut, hct, Lib.splitK, hj, if_neg (by simp), splitK_spl c k _ (by simpa using hc2)]
    simp
theorem split_spl (s : ByteArray) (c : UInt8) : (Lib.splitB ⟨#[c]⟩ 0 (Lib.countB s ⟨#[c]⟩) s).map (fun x => x.data.toList) = spl c [] s.data.toList := by
  rw [Lib.splitB_data]
  exact splitK_spl c _ _ (Lib.count_one c s.data.toList).symm
theorem countB_one (s : ByteArray) (c : UInt8) : Lib.countB s ⟨#[c]⟩ = s.data.toList.count c := Lib.count_one c s.data.toList
/-- The cells of a row of texts, the first ones bare. -/
def brs (ls : List (List UInt8)) (k : Nat) : List Value := svs ((ls.take k).map bareL ++ ls.drop k)
theorem brs_len (ls : List (List UInt8)) (k : Nat) : (brs ls k).length = ls.length := by simp [brs, svs, List.length_take]; omega
theorem brs_at (ls : List (List UInt8)) (k : Nat) (h : k < ls.length) : (brs ls k)[k]? = some (.string ⟨(ls[k]).toArray⟩) := by
  unfold brs svs
  rw [List.getElem?_map, List.getElem?_append_right (by simp [List.length_take]; omega)]
  simp [List.length_take, Nat.min_eq_left (Nat.le_of_lt h), List.getElem?_drop, List.getElem?_eq_getElem h]
theorem brs_set (ls : List (List UInt8)) (k : Nat) (h : k < ls.length) : (brs ls k).set k (.string ⟨(bareL ls[k]).toArray⟩) = brs ls (k + 1) := by
  have e0 : brs ls k = svs ((ls.take k).map bareL) ++ .string ⟨(ls[k]).toArray⟩ :: svs (ls.drop (k + 1)) := by
    unfold brs
    rw [svs_app, List.drop_eq_getElem_cons h]
    rfl
  have e1 : brs ls (k + 1) = svs ((ls.take k).map bareL) ++ .string ⟨(bareL ls[k]).toArray⟩ :: svs (ls.drop (k + 1)) := by
    unfold brs
    rw [svs_app, List.take_succ_eq_append_getElem h, List.map_append, svs_app, List.append_assoc]
    rfl
  have hl : (svs ((ls.take k).map bareL)).length = k := by simp [svs, List.length_take]; omega
  rw [e0, e1, List.set_append_right _ _ (by omega), hl, Nat.sub_self, List.set_cons_zero]
theorem brs_end (ls : List (List UInt8)) : brs ls ls.length = svs (ls.map bareL) := by unfold brs; simp
theorem brs_zero (ls : List (List UInt8)) : brs ls 0 = svs ls := by unfold brs; simp
structure Rw (w : World) (g : Nat) (vs : List Value) : Prop where
  blk : w.heap[g]? = some (.cells vs.toArray 9 (0, 0))
theorem Rw.lt {w : World} {g : Nat} {vs : List Value} (h : Rw w g vs) : g < w.heap.size := (Array.getElem?_eq_some_iff.1 h.blk).1
theorem Rw.cell {w : World} {g : Nat} {vs : List Value} (h : Rw w g vs) {k : Nat} {v : Value} (hv : vs[k]? = some v) : w.cell? ⟨g, k, none⟩ = some v := by simp [World.cell?, h.blk, hv]
theorem Rw.fr {w : World} {g : Nat} {vs : List Value} (h : Rw w g vs) (k : Nat) : w.frozen? ⟨g, k, none⟩ = false := by simp [World.frozen?, h.blk]
theorem Rw.below {w w' : World} {g : Nat} {vs : List Value} (h : Rw w g vs) (hb : Below w.heap.size w w') : Rw w' g vs := ⟨(hb.block g h.lt).trans h.blk⟩
theorem Rw.set {w : World} {g : Nat} {vs : List Value} (h : Rw w g vs) (k : Nat) (v : Value) : Rw (w.setCell ⟨g, k, none⟩ v) g (vs.set k v) := ⟨by simp [World.setCell, Array.getElem?_modify, h.blk]⟩
theorem Rw.own {w : World} {g b cap : Nat} {vs : List Value} (h : Rw w g vs) (hb : b ≤ g) (hn : vs.length = cap) (hm : cap ≤ maxLen) : w.ownsRow b 9 1 (.slice (some ⟨g, 0, none⟩) cap cap) cap vs :=
  ⟨by omega, .inr ⟨g, cap, vs.toArray, rfl, hb, h.blk, Nat.le_refl _, hm, by simpa using hn, by rw [Nat.mul_one, ← hn]; simp⟩⟩

end Go.Proofs.YtagbeioooohbgaaGreatDoor.Fi
end
section
namespace Go.Proofs.YtagbeioooohbgaaGreatDoor.Fi
open Go.RowKit

theorem one_str (c : UInt8) (w : World) : (convert 139 9 (.slice (some ⟨w.heap.size, 0, none⟩) 1 1)).run Tryz.prog (w.alloc (.cells #[.int .u8 (c.toNat : Int)] 5)) = .ok (.string ⟨#[c]⟩) (w.alloc (.cells #[.int .u8 (c.toNat : Int)] 5)) := by
  have h : (w.alloc (.cells #[.int .u8 (c.toNat : Int)] 5)).ownsRow w.heap.size 5 1 (.slice (some ⟨w.heap.size, 0, none⟩) 1 1) 1 (u8v [c]) :=
    ⟨rfl, .inr ⟨w.heap.size, 1, #[.int .u8 (c.toNat : Int)], rfl, Nat.le_refl _, heap_alloc_new w _, Nat.le_refl _, by unfold maxLen; omega, rfl, rfl⟩⟩
  exact run_string_own _ _ _ _ _ h
theorem split_any (s : ByteArray) (c : UInt8) (w : World) (hM : Ml w) (hs : s.size ≤ 100000) :
    Calls Tryz.prog 78 #[.string s, .string ⟨#[c]⟩] w fun e w' => e = .returned (.slice (some ⟨w.heap.size, 0, none⟩) (spl c [] s.data.toList).length (spl c [] s.data.toList).length) ∧ w' = w.alloc (.cells (svs (spl c [] s.data.toList)).toArray 9) := by
  obtain ⟨m, hm⟩ := hM
  have h := Tryz.strings_Split s ⟨#[c]⟩ m w (by omega) hm (Nat.le_refl 1)
  have e1 : (Lib.splitB ⟨#[c]⟩ 0 (Lib.countB s ⟨#[c]⟩) s).map Value.string = svs (spl c [] s.data.toList) := by
    rw [← split_spl, svs, List.map_map]
    rfl
  rw [e1, countB_one, ← spl_len c s.data.toList []] at h
  exact h

structure SpR (w wr : World) (g : Nat) (ls : List (List UInt8)) (k : Nat) : Prop where
  bel : Below w.heap.size w wr
  rw : Rw wr g (brs ls k)
theorem spl_mem (c : UInt8) : ∀ (l cur : List UInt8), ∀ x ∈ spl c cur l, x.length ≤ cur.length + l.length
  | [], cur, x, h => by simp [spl] at h; subst h; simp
  | b :: l, cur, x, h => by
    rw [spl] at h
    split at h
    · rcases List.mem_cons.1 h with rfl | h
      · simp
      · have := spl_mem c l [] x h
        simp at this
        simp
        omega
    · have := spl_mem c l _ x h
      simp at this
      simp
      omega

set_option maxRecDepth 100000 in
set_option maxHeartbeats 4000000 in
theorem fsplit_any (s : ByteArray) (c : UInt8) (w : World) (hL : Ml w) (hs : s.size ≤ 100000) :
    Calls Tryz.prog 49 #[.string s, .int .u8 c.toNat] w (CutP w ((spl c [] s.data.toList).map bareL)) := by
  have hcv := one_str c w
  have hb1 : Below w.heap.size w (w.alloc (.cells #[.int .u8 (c.toNat : Int)] 5)) := (Below.refl _ w).alloc (Nat.le_refl _) _
  have HSp := Lib.hid ((split_any s c _ (hL.on hb1) hs).mono fun e w' h => (show e = _ ∧ _ = w' from ⟨h.1, h.2.symm⟩))
  have hlen := spl_len c s.data.toList []
  have hcn : s.data.toList.count c ≤ s.size := by have := List.count_le_length (a := c) (l := s.data.toList); rw [lst_len] at this; exact this
  have HMem := Lib.hid (spl_mem c s.data.toList [])
  obtain ⟨ls, hls⟩ : ∃ ls, ls = spl c [] s.data.toList := ⟨_, rfl⟩
  rw [← hls] at HSp hlen HMem ⊢
  have hll : ls.length ≤ 100001 := by omega
  clear hls hL hlen hcn
  have hR0 : Rw ((w.alloc (.cells #[.int .u8 (c.toNat : Int)] 5)).alloc (.cells (svs ls).toArray 9)) (w.heap.size + 1) (brs ls 0) := ⟨by rw [brs_zero]; have := heap_alloc_new (w.alloc (.cells #[.int .u8 (c.toNat : Int)] 5)) (.cells (svs ls).toArray 9); simpa using this⟩
  have HB2 := Lib.hid (hb1.alloc hb1.size (.cells (svs ls).toArray 9))
  have HR0 := Lib.hid hR0
  clear hb1 hR0
  have hz : (w.alloc (.cells #[.int .u8 (c.toNat : Int)] 5)).heap.size = w.heap.size + 1 := by simp
  rw [hz] at HSp
  clear hz
  go_enter Tryz.func49, Tryz.ntmps49
  go_wp2_with (go_at_call 78; refine HSp.out.mono ?_; rintro e w2 ⟨rfl, rfl⟩)
  go_loopw [15] (fun i wr => ∃ k : Nat, i = .int .i64 k ∧ k ≤ ls.length ∧ Hid (SpR w wr (w.heap.size + 1) ls k)) (fun i _ => ls.length - (intOf i).toNat)
  case atStart => exact ⟨0, rfl, by omega, HB2.out, HR0.out⟩
  case round =>
    obtain ⟨k, rfl, hk, HR⟩ := hrel
    have hsz := HR.out.bel.size
    have hlg := HR.out.rw.lt
    by_cases hlt : k < ls.length
    · have g1 : (k : Int) < ls.length := by omega
      have hc := HR.out.rw.cell (brs_at ls k hlt)
      have hf := HR.out.rw.fr k
      obtain ⟨x, hx⟩ : ∃ x : ByteArray, x = ⟨(ls[k]).toArray⟩ := ⟨_, rfl⟩
      rw [← hx] at hc
      have hxz : x.size ≤ s.size := by rw [hx, size_mk]; have := HMem.out ls[k] (List.getElem_mem hlt); rw [lst_len] at this; simpa using this
      have hBa := fun W => bare_any x W (by omega)
      rw [show x.data.toList = ls[k] by rw [hx]] at hBa
      obtain ⟨q, hq⟩ : ∃ q : ByteArray, q = ⟨(bareL ls[k]).toArray⟩ := ⟨_, rfl⟩
      rw [← hq] at hBa
      have hqz : q.size ≤ s.size := by rw [hq, size_mk]; have := bareL_le ls[k]; rw [hx, size_mk] at hxz; omega
      have HBa := Lib.hid hBa
      have HOw := Lib.hid (fun W => own_any q W (by omega))
      have HQ := Lib.hid hq
      clear hBa hx hq
      go_wp2_with (first
        | (go_at_call 77; refine (HBa.out _).mono ?_; rintro e w3 ⟨rfl, hb⟩; have B3 := Lib.hid hb; clear hb)
        | (go_at_call 79; refine (HOw.out _).mono ?_; rintro e w4 ⟨rfl, hb⟩; have B4 := Lib.hid hb; have hc4 := ((HR.out.rw.below B3.out).below hb).cell (brs_at ls k hlt); have hf4 := ((HR.out.rw.below B3.out).below hb).fr k; clear hb))
      go_roundw
      case rel =>
        refine ⟨k + 1, by go_num, by omega, ?_, ?_⟩
        · have b3 := HR.out.bel.trans (B3.out.mono HR.out.bel.size)
          have b4 := b3.trans (B4.out.mono b3.size)
          exact b4.setCell (by simp) _
        · rw [← brs_set ls k hlt, ← HQ.out]
          exact ((HR.out.rw.below B3.out).below B4.out).set k _
      case measure => simp [intOf] <;> omega
    · have g1 : ¬ (k : Int) < ls.length := by omega
      obtain rfl : k = ls.length := by omega
      go_wp2_with fail
      go_ret
      have h5 := HR.out.rw
      rw [brs_end] at h5
      refine ⟨_, rfl, ?_, HR.out.bel⟩
      rw [List.length_map]
      exact h5.own (by omega) (by simp [svs]) (by unfold maxLen; omega)

end Go.Proofs.YtagbeioooohbgaaGreatDoor.Fi
end

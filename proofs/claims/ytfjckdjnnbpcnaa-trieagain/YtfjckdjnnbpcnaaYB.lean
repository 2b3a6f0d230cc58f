import Derived.Test.YtfjckdjnnbpcnaaYA
import Derived.Maps.OwnOps
namespace Go.Proofs.Ytfjckdjnnbpcnaa.Tr
open Go.RowKit Go.Maps Go.WideShapes
open Go.WideElems (Fit rd rg pl rd_key rd_val rg_of other_key)

/-! What a block of the program holds: 256 cells, each told or not. -/
def celP (p : Bool × Int) : List Value := [.bool p.1, .int .i64 p.2]
def blkC (h : Nat → Bool × Int) : List Value := (List.range 256).flatMap fun j => celP (h j)
theorem flat2_len (h : Nat → Bool × Int) : ∀ n : Nat, ((List.range n).flatMap fun j => celP (h j)).length = n * 2
  | 0 => rfl
  | n + 1 => by
    rw [List.range_succ, List.flatMap_append, List.length_append, flat2_len h n]
    simp [celP]; omega
theorem flat2_at (h : Nat → Bool × Int) (i : Nat) (hi : i < 2) : ∀ (n j : Nat), j < n → ((List.range n).flatMap fun j => celP (h j))[j * 2 + i]? = (celP (h j))[i]?
  | 0, j, hj => by omega
  | n + 1, j, hj => by
    have hl := flat2_len h n
    rw [List.range_succ, List.flatMap_append]
    by_cases hjn : j < n
    · rw [List.getElem?_append_left (by omega), flat2_at h i hi n j hjn]
    · obtain rfl : j = n := by omega
      rw [List.getElem?_append_right (by omega), hl, show j * 2 + i - j * 2 = i by omega]
      simp
theorem blkC_at (h : Nat → Bool × Int) (j i : Nat) (hj : j < 256) (hi : i < 2) : (blkC h)[j * 2 + i]? = (celP (h j))[i]? := flat2_at h i hi 256 j hj
theorem blkC_len (h : Nat → Bool × Int) : (blkC h).length = 512 := flat2_len h 256
theorem blkC_set (h : Nat → Bool × Int) (j : Nat) (c : Bool × Int) (hj : j < 256) :
    ((blkC h).set (j * 2) (.bool c.1)).set (j * 2 + 1) (.int .i64 c.2) = blkC (fun k => if k = j then c else h k) := by
  apply List.ext_getElem?
  intro q
  by_cases hq : q < 512
  · obtain ⟨k, i, hi, rfl⟩ : ∃ k i, i < 2 ∧ q = k * 2 + i := ⟨q / 2, q % 2, by omega, by omega⟩
    rw [blkC_at _ k i (by omega) hi]
    simp only [List.getElem?_set, List.length_set, blkC_len]
    by_cases hk : k = j
    · subst hk
      rcases Nat.lt_or_ge i 1 with h1 | h1
      · obtain rfl : i = 0 := by omega
        rw [if_neg (by omega), if_pos (by omega), if_pos (by omega), if_pos rfl]
        rfl
      · obtain rfl : i = 1 := by omega
        rw [if_pos rfl, if_pos (by omega), if_pos rfl]
        rfl
    · rw [if_neg (by omega), if_neg (by omega), if_neg hk, blkC_at _ k i (by omega) hi]
  · rw [List.getElem?_eq_none (by simp only [List.length_set, blkC_len]; omega), List.getElem?_eq_none (by rw [blkC_len]; omega)]
theorem blkC_same {h h' : Nat → Bool × Int} (e : ∀ j, j < 256 → h j = h' j) : blkC h = blkC h' := by
  unfold blkC
  rw [List.flatMap_def, List.flatMap_def, List.map_congr_left fun j hj => by rw [e j (List.mem_range.1 hj)]]
/-- The cell of a number. -/
def celF (g : Int → Int) (nn : Int) (i j : Nat) : Bool × Int := if g ((i * 256 + j : Nat) : Int) = nn then (false, 0) else (true, g ((i * 256 + j : Nat) : Int))

/-! The map of blocks. -/
theorem law21 : Keyed Try.prog 21 := int_keyed Try.underlying21
def ptrE (v : Value) : Option (DataW Unit × List MemPlace) :=
  match v with
  | .pointer none => some (.nil, [])
  | .pointer (some ⟨b, 0, none⟩) => some (.lit (.int .i64 b), [])
  | _ => none
theorem ptrE_nil : ptrE (.pointer none) = some (.nil, []) := rfl
theorem ptrE_some (b : Nat) : ptrE (.pointer (some ⟨b, 0, none⟩)) = some (.lit (.int .i64 b), []) := rfl
theorem ptrE_inv {v : Value} {y : DataW Unit × List MemPlace} (h : ptrE v = some y) : (v = .pointer none ∧ y = (.nil, [])) ∨ ∃ b : Nat, v = .pointer (some ⟨b, 0, none⟩) ∧ y = (.lit (.int .i64 b), []) := by
  unfold ptrE at h
  split at h
  · exact .inl ⟨rfl, by cases h; rfl⟩
  · exact .inr ⟨_, rfl, by cases h; rfl⟩
  · cases h
/-- What the map says of a block's place. -/
def ptrD : Option Nat → DataW Unit
  | some b => .lit (.int .i64 b)
  | none => .nil
theorem ptrE_D {v : Value} {o : Option Nat} {ps : List MemPlace} (h : ptrE v = some (ptrD o, ps)) : v = .pointer (o.map fun b => ⟨b, 0, none⟩) := by
  rcases ptrE_inv h with ⟨rfl, e⟩ | ⟨b, rfl, e⟩
  · cases o with
    | none => rfl
    | some b => simp [ptrD] at e
  · cases o with
    | none => simp [ptrD] at e
    | some b' =>
      simp only [ptrD, Prod.mk.injEq, DataW.lit.injEq, Lit.int.injEq, true_and] at e
      have : b' = b := by omega
      subst this; rfl
/-- The map says where the blocks lie. -/
structure MapIs (D : DataW Unit) (bm : Nat → Option Nat) : Prop where
  at_ : ∀ i : Nat, i < 4352 → D.atKey (.int .i32 i) .nil = ptrD (bm i)
  has : ∀ i : Nat, i < 4352 → Maps.has D (.int .i32 i) = (bm i).isSome
  key : ∀ x : Int, Maps.has D (.int .i32 x) = true → ∃ i : Nat, x = i ∧ i < 4352
theorem mapIs_empty : MapIs (.map []) (fun _ => none) := ⟨fun _ _ => rfl, fun _ _ => rfl, fun _ h => by cases h⟩
theorem isKey_int (x : Int) : WideAt.IsKeyLit (.int .i32 x) := by trivial
theorem int_ne {x y : Int} (h : x ≠ y) : Lit.int .i32 x ≠ .int .i32 y := fun e => h (by cases e; rfl)
theorem MapIs.put {D : DataW Unit} {bm : Nat → Option Nat} (h : MapIs D bm) (hD : IsMap D) {i : Nat} (hi : i < 4352) (b : Nat) : MapIs (D.put (.int .i32 i) (.lit (.int .i64 b))) (fun k => if k = i then some b else bm k) := by
  refine ⟨fun k hk => ?_, fun k hk => ?_, fun x hx => ?_⟩
  · by_cases e : k = i
    · subst e; rw [if_pos rfl, atKey_put_same hD (isKey_int _)]; rfl
    · rw [if_neg e, atKey_put_other (int_ne (by omega)), h.at_ k hk]
  · by_cases e : k = i
    · subst e; rw [if_pos rfl, has_put_same hD (isKey_int _)]; rfl
    · rw [if_neg e, has_put_other (int_ne (by omega)), h.has k hk]
  · by_cases e : x = i
    · exact ⟨i, e, hi⟩
    · rw [has_put_other (int_ne e)] at hx
      exact h.key x hx
theorem MapIs.del {D : DataW Unit} {bm : Nat → Option Nat} (h : MapIs D bm) {i : Nat} : MapIs (D.del (.int .i32 i)) (fun k => if k = i then none else bm k) := by
  refine ⟨fun k hk => ?_, fun k hk => ?_, fun x hx => ?_⟩
  · by_cases e : k = i
    · subst e; rw [if_pos rfl, atKey_del_same]; rfl
    · rw [if_neg e, atKey_del_other (int_ne (by omega)), h.at_ k hk]
  · by_cases e : k = i
    · subst e; rw [if_pos rfl, has_del_same]; rfl
    · rw [if_neg e, has_del_other (int_ne (by omega)), h.has k hk]
  · by_cases e : x = i
    · rw [e, has_del_same] at hx; cases hx
    · rw [has_del_other (int_ne e)] at hx
      exact h.key x hx
theorem own_tight {w : World} {R : Value → Option (DataW Unit × List MemPlace)} {b n : Nat} {D : DataW Unit} (h : w.ownsMap Try.prog 21 R b n D) : w.ownsMap Try.prog 21 R b (Maps.size D) D := by
  obtain ⟨es, clock, hb, F, hs, rfl⟩ := h
  exact ⟨es, clock, hb, F, by simp [Maps.size, length_sorted], rfl⟩
theorem own_one {w : World} {R : Value → Option (DataW Unit × List MemPlace)} {b n n' : Nat} {D D' : DataW Unit} (h : w.ownsMap Try.prog 21 R b n D) (h' : w.ownsMap Try.prog 21 R b n' D') : D = D' := by
  obtain ⟨es, clock, hb, F, hs, rfl⟩ := h
  obtain ⟨es', clock', hb', F', hs', rfl⟩ := h'
  rw [hb] at hb'
  cases hb'
  rfl
theorem own_keep {w w' : World} {R : Value → Option (DataW Unit × List MemPlace)} {b n : Nat} {D : DataW Unit} (h : w.ownsMap Try.prog 21 R b n D) (hk : w'.heap[b]? = w.heap[b]?) : w'.ownsMap Try.prog 21 R b n D := by
  obtain ⟨es, clock, hb, r⟩ := h
  exact ⟨es, clock, hk.trans hb, r⟩
theorem own_keys {w : World} {R : Value → Option (DataW Unit × List MemPlace)} {b n : Nat} {D : DataW Unit} (h : w.ownsMap Try.prog 21 R b n D) : ∃ es, D = .map es ∧ es.Pairwise (fun p q => p.1 ≠ q.1) ∧ ∀ p ∈ es, ∃ x, p.1 = .int .i32 x := by
  obtain ⟨es, clock, _, F, _, rfl⟩ := h
  refine ⟨_, rfl, ((sorted_perm _).pairwise_iff (fun {_ _} hne => Ne.symm hne)).2 (Maps.fit_apart law21 F), fun p hp => ?_⟩
  obtain ⟨x, hx, rfl⟩ := List.mem_map.1 (mem_sorted.1 hp)
  obtain ⟨y, hy⟩ := F.reads x hx
  rw [rg_of hy]
  obtain ⟨z, _, e, _⟩ := Maps.keyOf_int_inv Try.underlying21 (rd_key hy)
  exact ⟨z, e⟩
/-- The keys, as numbers. -/
def keyN : Lit → Int
  | .int _ x => x
  | _ => 0
def keysD : DataW Unit → List Int
  | .map es => es.map fun p => keyN p.1
  | _ => []
theorem keys_perm {w : World} {R : Value → Option (DataW Unit × List MemPlace)} {b n : Nat} {D : DataW Unit} {bm : Nat → Option Nat} (h : w.ownsMap Try.prog 21 R b n D) (hm : MapIs D bm) :
    (keysD D).Perm (((List.range 4352).filter fun i => (bm i).isSome).map fun i : Nat => (i : Int)) := by
  obtain ⟨es, rfl, hp, hk⟩ := own_keys h
  have h1 : (keysD (.map es)).Nodup := by
    unfold keysD
    rw [List.nodup_iff_pairwise_ne, List.pairwise_map]
    refine hp.imp_of_mem fun {p q} hp hq hne e => hne ?_
    obtain ⟨x, hx⟩ := hk p hp
    obtain ⟨y, hy⟩ := hk q hq
    rw [hx, hy] at e ⊢
    simp only [keyN] at e
    rw [e]
  have h2 : (((List.range 4352).filter fun i => (bm i).isSome).map fun i : Nat => (i : Int)).Nodup := by
    rw [List.nodup_iff_pairwise_ne, List.pairwise_map]
    exact (List.nodup_range.filter _).imp fun hne e => hne (by omega)
  refine (List.perm_ext_iff_of_nodup h1 h2).2 fun x => ?_
  have hx : x ∈ keysD (.map es) ↔ Maps.has (.map es) (.int .i32 x) = true := by
    unfold keysD
    rw [List.mem_map, has_eq, List.any_eq_true]
    constructor
    · rintro ⟨p, hp, rfl⟩
      obtain ⟨y, hy⟩ := hk p hp
      exact ⟨p, hp, by rw [hy]; exact WideAt.sameKey_self (isKey_int _)⟩
    · rintro ⟨p, hp, he⟩
      exact ⟨p, hp, by rw [WideAt.sameKey_eq he]; rfl⟩
  rw [hx, List.mem_map]
  constructor
  · intro hh
    obtain ⟨i, rfl, hi⟩ := hm.key x hh
    exact ⟨i, List.mem_filter.2 ⟨List.mem_range.2 hi, (hm.has i hi).symm.trans hh⟩, rfl⟩
  · rintro ⟨i, hi, rfl⟩
    obtain ⟨h3, h4⟩ := List.mem_filter.1 hi
    rw [hm.has i (List.mem_range.1 h3)]
    exact h4
theorem size_keys (D : DataW Unit) : (keysD D).length = Maps.size D := by cases D <;> simp [keysD, Maps.size]
theorem size_mapIs {w : World} {R : Value → Option (DataW Unit × List MemPlace)} {b n : Nat} {D : DataW Unit} {bm : Nat → Option Nat} (h : w.ownsMap Try.prog 21 R b n D) (hm : MapIs D bm) :
    Maps.size D = (List.range 4352).countP fun i => (bm i).isSome := by
  rw [← size_keys, (keys_perm h hm).length_eq, List.length_map, List.countP_eq_length_filter]
theorem size_le {w : World} {R : Value → Option (DataW Unit × List MemPlace)} {b n : Nat} {D : DataW Unit} {bm : Nat → Option Nat} (h : w.ownsMap Try.prog 21 R b n D) (hm : MapIs D bm) : Maps.size D ≤ 4352 := by
  rw [size_mapIs h hm]
  have := List.countP_le_length (p := fun i => (bm i).isSome) (l := List.range 4352)
  simpa using this

end Go.Proofs.Ytfjckdjnnbpcnaa.Tr

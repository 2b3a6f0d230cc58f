import Derived.Test.YtfjckdjnnbpcnaaYP
namespace Go.Proofs.Ytfjckdjnnbpcnaa.Tr
open Go.RowKit Go.Maps Go.Shelf

/-! The ranges out of what is told. -/
def pushP (l : List Sp) (p : Int × Int) : List Sp :=
  match l.getLast? with
  | none => l ++ [(p.1, p.1, p.2)]
  | some s => if s.2.1 = p.1 - 1 ∧ s.2.2 = p.2 then l.dropLast ++ [(s.1, p.1, s.2.2)] else l ++ [(p.1, p.1, p.2)]
def spnL (ps : List (Int × Int)) : List Sp := ps.foldl pushP []
theorem spnL_snoc (ps : List (Int × Int)) (p : Int × Int) : spnL (ps ++ [p]) = pushP (spnL ps) p := by unfold spnL; rw [List.foldl_append]; rfl
theorem pushP_eq {nn : Int} (l : List Sp) (r v : Int) (h : v ≠ nn) : pushP l (r, v) = push nn l r v := by
  unfold push pushP
  rw [if_neg h]
  cases l.getLast? <;> rfl
theorem pushP_len (l : List Sp) (p : Int × Int) : (pushP l p).length ≤ l.length + 1 := by
  unfold pushP
  split
  · simp
  · split
    · simp
    · simp
theorem spnL_len (ps : List (Int × Int)) : (spnL ps).length ≤ ps.length := by
  suffices h : ∀ (ps : List (Int × Int)) (l : List Sp), (ps.foldl pushP l).length ≤ l.length + ps.length by
    have h1 := h ps []
    unfold spnL
    simpa using h1
  intro ps
  induction ps with
  | nil => intro l; simp
  | cons p ps ih =>
    intro l
    have h1 := ih (pushP l p)
    have h2 := pushP_len l p
    simp only [List.foldl_cons, List.length_cons]
    omega
/-- Within a block. -/
theorem scan_blk (g : Int → Int) (nn : Int) (i : Nat) (pre : List (Int × Int)) (h : spnL pre = scan g nn (i * 256)) : ∀ j : Nat, spnL (pre ++ blT g nn i j) = scan g nn (i * 256 + j)
  | 0 => by rw [blT, List.append_nil, h, Nat.add_zero]
  | j + 1 => by
    have ih := scan_blk g nn i pre h j
    rw [show i * 256 + (j + 1) = (i * 256 + j) + 1 by omega, scan, blT]
    by_cases hv : g ((i * 256 + j : Nat) : Int) = nn
    · rw [if_pos hv, ih, push, if_pos hv]
    · rw [if_neg hv, ← List.append_assoc, spnL_snoc, ih, pushP_eq _ _ _ hv]
/-- A block of which nothing is told. -/
theorem scan_noneB (g : Int → Int) (nn : Int) (i : Nat) (h : nzB g nn i = false) : ∀ j : Nat, j ≤ 256 → scan g nn (i * 256 + j) = scan g nn (i * 256)
  | 0, _ => by rw [Nat.add_zero]
  | j + 1, hj => by
    have ih := scan_noneB g nn i h j (by omega)
    have h7 := (List.any_eq_false.1 h) j (List.mem_range.2 (by omega))
    have hv : g ((i * 256 + j : Nat) : Int) = nn := by simpa using h7
    rw [show i * 256 + (j + 1) = (i * 256 + j) + 1 by omega, scan, ih, push, if_pos hv]
theorem scan_keys (g : Int → Int) (nn : Int) (bm : Nat → Option Nat) (hz : ∀ i, i < 4352 → (bm i).isSome = nzB g nn i) : ∀ m : Nat, m ≤ 4352 → spnL (tolT g nn ((List.range m).filter fun i => (bm i).isSome)) = scan g nn (m * 256)
  | 0, _ => rfl
  | m + 1, hm => by
    have ih := scan_keys g nn bm hz m (by omega)
    have hzm := hz m (by omega)
    rw [List.range_succ, List.filter_append]
    have e : (m + 1) * 256 = m * 256 + 256 := by omega
    rw [e]
    cases hb : nzB g nn m with
    | true =>
      rw [hb] at hzm
      have h1 : ([m].filter fun i => (bm i).isSome) = [m] := by simp [hzm]
      rw [h1]
      have h2 : tolT g nn (((List.range m).filter fun i => (bm i).isSome) ++ [m]) = tolT g nn ((List.range m).filter fun i => (bm i).isSome) ++ blT g nn m 256 := by
        unfold tolT
        rw [List.flatMap_append]
        simp
      rw [h2, scan_blk g nn m _ ih 256]
    | false =>
      rw [hb] at hzm
      have h1 : ([m].filter fun i => (bm i).isSome) = [] := by simp [hzm]
      rw [h1, List.append_nil, ih, scan_noneB g nn m hb 256 (by omega)]
theorem spnL_all (g : Int → Int) (nn : Int) (bm : Nat → Option Nat) (hz : ∀ i, i < 4352 → (bm i).isSome = nzB g nn i) : spnL (tolT g nn (keysL bm)) = allG g nn := scan_keys g nn bm hz 4352 (Nat.le_refl _)
theorem blT_len (g : Int → Int) (nn : Int) (i : Nat) : ∀ n : Nat, (blT g nn i n).length ≤ n
  | 0 => Nat.le_refl _
  | n + 1 => by
    have ih := blT_len g nn i n
    rw [blT]
    split
    · omega
    · simp
      omega
theorem tolT_len (g : Int → Int) (nn : Int) : ∀ ks : List Nat, (tolT g nn ks).length ≤ 256 * ks.length
  | [] => Nat.le_refl _
  | i :: ks => by
    have ih := tolT_len g nn ks
    have h1 := blT_len g nn i 256
    unfold tolT at ih ⊢
    rw [List.flatMap_cons, List.length_append, List.length_cons]
    omega
/-! What a round of 'spans' may turn. -/
theorem kpT_t {n0 : Nat} {A B C : World} (h : KpT n0 A B) (k : KpT n0 B C) : KpT n0 A C :=
  ⟨fun i hi => (k.low i hi).trans (h.low i hi), fun i cs t hb ht => (k.row i cs t (hb.on (h.row i cs t hb ht)) ht).trans (h.row i cs t hb ht)⟩
theorem kpT_b {n0 n1 : Nat} (h01 : n0 ≤ n1) (W : World) (l : Nat) (o o' : Obj) (hl : n1 ≤ l) (ho : W.heap[l]? = some o) (hc : o.isCells = false) (_ : o.isWalk = false) : KpT n0 W (W.putObj l o') :=
  ⟨fun k hk => by simp only [World.putObj]; rw [Array.getElem?_setIfInBounds_ne (by omega)],
   fun k cs t hb _ => by
    have hne : l ≠ k := fun e => by
      subst e
      rw [hb.blk] at ho
      cases ho
      cases hc
    simp only [World.putObj]
    rw [Array.getElem?_setIfInBounds_ne hne]⟩

end Go.Proofs.Ytfjckdjnnbpcnaa.Tr

import Derived.Test.YtfjckdjnnbpcnaaRows
namespace Go.Proofs.Ytfjckdjnnbpcnaa.Tr

/-- Numbers that have one value: the first, the last, the value. -/
abbrev Sp := Int × Int × Int
def inS (s : Sp) (r : Int) : Bool := decide (s.1 ≤ r) && decide (r ≤ s.2.1)
/-- The value that the last range has in which a number lies. -/
def getL (nn : Int) (L : List Sp) (r : Int) : Int := L.foldl (fun v s => if inS s r then s.2.2 else v) nn
theorem getL_nil (nn r : Int) : getL nn [] r = nn := rfl
theorem getL_snoc (nn : Int) (L : List Sp) (s : Sp) (r : Int) : getL nn (L ++ [s]) r = if inS s r then s.2.2 else getL nn L r := by unfold getL; rw [List.foldl_append]; rfl
theorem getL_same {nn : Int} {r r' : Int} : ∀ {L : List Sp}, (∀ s ∈ L, inS s r = inS s r') → getL nn L r = getL nn L r' := by
  intro L
  unfold getL
  induction L generalizing nn with
  | nil => intro _; rfl
  | cons s L ih =>
    intro h
    rw [List.foldl_cons, List.foldl_cons, h s (by simp)]
    exact ih fun x hx => h x (by simp [hx])
theorem getL_out {nn r : Int} : ∀ {L : List Sp}, (∀ s ∈ L, inS s r = false) → getL nn L r = nn := by
  intro L
  unfold getL
  induction L generalizing nn with
  | nil => intro _; rfl
  | cons s L ih =>
    intro h
    rw [List.foldl_cons, h s (by simp)]
    exact ih fun x hx => h x (by simp [hx])
/-- One number more behind all others. -/
def push (nn : Int) (l : List Sp) (r v : Int) : List Sp :=
  if v = nn then l else match l.getLast? with
    | none => l ++ [(r, r, v)]
    | some s => if s.2.1 = r - 1 ∧ s.2.2 = v then l.dropLast ++ [(s.1, r, s.2.2)] else l ++ [(r, r, v)]
/-- The longest ranges among the numbers below n. -/
def scan (g : Int → Int) (nn : Int) : Nat → List Sp
  | 0 => []
  | n + 1 => push nn (scan g nn n) n (g n)
/-- Numbers from r on and below e, all of one value. -/
def pushS (nn : Int) (l : List Sp) (r e v : Int) : List Sp :=
  if v = nn then l else match l.getLast? with
    | none => l ++ [(r, e - 1, v)]
    | some s => if s.2.1 = r - 1 ∧ s.2.2 = v then l.dropLast ++ [(s.1, e - 1, s.2.2)] else l ++ [(r, e - 1, v)]
theorem push_one (nn : Int) (l : List Sp) (r v : Int) : pushS nn l r (r + 1) v = push nn l r v := by
  unfold pushS push
  have e : r + 1 - 1 = r := by omega
  rw [e]
theorem push_more {nn : Int} {l : List Sp} {r e v : Int} (_h : r < e) : push nn (pushS nn l r e v) e v = pushS nn l r (e + 1) v := by
  have e1 : e + 1 - 1 = e := by omega
  unfold pushS
  rw [e1]
  by_cases hv : v = nn
  · rw [if_pos hv, if_pos hv]; unfold push; rw [if_pos hv]
  · rw [if_neg hv, if_neg hv]
    have key : ∀ (m : List Sp) (f : Int), push nn (m ++ [(f, e - 1, v)]) e v = m ++ [(f, e, v)] := fun m f => by
      unfold push
      rw [if_neg hv, List.getLast?_concat]
      simp
    cases hl : l.getLast? with
    | none => exact key _ _
    | some s =>
      simp only
      by_cases hc : s.2.1 = r - 1 ∧ s.2.2 = v
      · rw [if_pos hc, if_pos hc, hc.2]; exact key _ _
      · rw [if_neg hc, if_neg hc]; exact key _ _
theorem scan_seg {g : Int → Int} {nn v : Int} {r : Nat} : ∀ {e : Nat}, r < e → (∀ x : Nat, r ≤ x → x < e → g x = v) → scan g nn e = pushS nn (scan g nn r) r e v
  | 0, h, _ => absurd h (by omega)
  | e + 1, h, hg => by
    by_cases hr : r = e
    · subst hr
      rw [show (((r + 1 : Nat) : Int)) = (r : Int) + 1 by omega, push_one, scan, hg r (by omega) (by omega)]
    · rw [show (((e + 1 : Nat) : Int)) = (e : Int) + 1 by omega, ← push_more (by omega), ← scan_seg (e := e) (by omega) (fun x h1 h2 => hg x h1 (by omega)), scan, hg e (by omega) (by omega)]
theorem scan_none {g : Int → Int} {nn : Int} {r e : Nat} (h : r ≤ e) (hg : ∀ x : Nat, r ≤ x → x < e → g x = nn) : scan g nn e = scan g nn r := by
  by_cases hr : r = e
  · subst hr; rfl
  · rw [scan_seg (r := r) (v := nn) (by omega) hg]
    unfold pushS
    rw [if_pos rfl]
theorem scan_same {g g' : Int → Int} {nn : Int} : ∀ {n : Nat}, (∀ x : Nat, x < n → g x = g' x) → scan g nn n = scan g' nn n
  | 0, _ => rfl
  | n + 1, h => by rw [scan, scan, scan_same (fun x hx => h x (by omega)), h n (by omega)]
/-- The first number behind another one at which any range begins, or behind which any ends. -/
def edgS (r o : Int) (s : Sp) : Int :=
  if r < s.2.1 + 1 ∧ s.2.1 + 1 < (if r < s.1 ∧ s.1 < o then s.1 else o) then s.2.1 + 1 else (if r < s.1 ∧ s.1 < o then s.1 else o)
def edgF (r : Int) (L : List Sp) (o : Int) : Int := L.foldl (edgS r) o
def edge (L : List Sp) (r : Int) : Int := edgF r L 1114112
theorem edgS_le (r o : Int) (s : Sp) (h : r < o) : r < edgS r o s ∧ edgS r o s ≤ o ∧ ¬ (r < s.1 ∧ s.1 < edgS r o s) ∧ ¬ (r < s.2.1 + 1 ∧ s.2.1 + 1 < edgS r o s) := by
  unfold edgS
  split <;> split <;> omega
theorem edgF_spec (r : Int) : ∀ (L : List Sp) (o : Int), r < o → r < edgF r L o ∧ edgF r L o ≤ o ∧ ∀ s ∈ L, ¬ (r < s.1 ∧ s.1 < edgF r L o) ∧ ¬ (r < s.2.1 + 1 ∧ s.2.1 + 1 < edgF r L o)
  | [], o, h => ⟨h, Int.le_refl _, fun s hs => by cases hs⟩
  | s :: L, o, h => by
    obtain ⟨a, b, c, d⟩ := edgS_le r o s h
    obtain ⟨a', b', h'⟩ := edgF_spec r L _ a
    have e : edgF r (s :: L) o = edgF r L (edgS r o s) := rfl
    rw [e]
    refine ⟨a', by omega, fun x hx => ?_⟩
    rcases List.mem_cons.1 hx with rfl | hx
    · exact ⟨by omega, by omega⟩
    · exact h' x hx
theorem edge_spec (L : List Sp) {r : Int} (h : r < 1114112) : r < edge L r ∧ edge L r ≤ 1114112 ∧ ∀ (nn x : Int), r ≤ x → x < edge L r → getL nn L x = getL nn L r := by
  obtain ⟨a, b, c⟩ := edgF_spec r L 1114112 h
  refine ⟨a, b, fun nn x h1 h2 => getL_same fun s hs => ?_⟩
  obtain ⟨p, q⟩ := c s hs
  have h2' : x < edgF r L 1114112 := h2
  unfold inS
  rw [show decide (s.1 ≤ x) = decide (s.1 ≤ r) from decide_eq_decide.2 (by omega), show decide (x ≤ s.2.1) = decide (r ≤ s.2.1) from decide_eq_decide.2 (by omega)]
/-- All ranges. -/
def allG (g : Int → Int) (nn : Int) : List Sp := scan g nn 1114112
/-- How many blocks tell something among the numbers below n, and the last one of them. -/
def cbF (g : Int → Int) (nn : Int) : Nat → Int × Int
  | 0 => (0, -1)
  | n + 1 => if g n = nn then cbF g nn n else if (n : Int) / 256 = (cbF g nn n).2 then cbF g nn n else ((cbF g nn n).1 + 1, (n : Int) / 256)
def blkS (x : Int × Int) (s : Sp) : Int × Int :=
  if (if s.1 / 256 = x.2 then s.1 / 256 + 1 else s.1 / 256) ≤ s.2.1 / 256 then (x.1 + (s.2.1 / 256 - (if s.1 / 256 = x.2 then s.1 / 256 + 1 else s.1 / 256)) + 1, s.2.1 / 256) else x
def blkF (l : List Sp) : Int × Int := l.foldl blkS (0, -1)
theorem blkF_snoc (l : List Sp) (s : Sp) : blkF (l ++ [s]) = blkS (blkF l) s := by unfold blkF; rw [List.foldl_append]; rfl
theorem scan_last (g : Int → Int) (nn : Int) : ∀ n : Nat, ∀ s ∈ scan g nn n, 0 ≤ s.1 ∧ s.1 ≤ s.2.1 ∧ s.2.1 < n ∧ s.2.2 ≠ nn
  | 0, s, h => by cases h
  | n + 1, s, h => by
    have ih := scan_last g nn n
    have old : ∀ x ∈ scan g nn n, 0 ≤ x.1 ∧ x.1 ≤ x.2.1 ∧ x.2.1 < ((n + 1 : Nat) : Int) ∧ x.2.2 ≠ nn := fun x hx => by
      obtain ⟨a, b, c, d⟩ := ih x hx
      exact ⟨a, b, by omega, d⟩
    have new : ∀ v : Int, v ≠ nn → 0 ≤ ((n : Int), (n : Int), v).1 ∧ ((n : Int), (n : Int), v).1 ≤ ((n : Int), (n : Int), v).2.1 ∧ ((n : Int), (n : Int), v).2.1 < ((n + 1 : Nat) : Int) ∧ ((n : Int), (n : Int), v).2.2 ≠ nn := fun v hv => ⟨by simp, by simp, by simp; omega, hv⟩
    rw [scan] at h
    unfold push at h
    split at h
    · exact old s h
    · rename_i hv
      split at h
      · rcases List.mem_append.1 h with h | h
        · exact old s h
        · simp only [List.mem_singleton] at h; subst h; exact new _ hv
      · rename_i x hx
        have hm := old x (List.mem_of_getLast? hx)
        split at h
        · rcases List.mem_append.1 h with h | h
          · exact old s ((List.dropLast_sublist _).subset h)
          · simp only [List.mem_singleton] at h; subst h; exact ⟨hm.1, by simp only; omega, by simp only; omega, hm.2.2.2⟩
        · rcases List.mem_append.1 h with h | h
          · exact old s h
          · simp only [List.mem_singleton] at h; subst h; exact new _ hv
theorem cbF_last (g : Int → Int) (nn : Int) : ∀ n : Nat, (cbF g nn n).2 ≤ ((n : Int) - 1) / 256 ∧ -1 ≤ (cbF g nn n).2 ∧ 0 ≤ (cbF g nn n).1 ∧ (cbF g nn n).1 ≤ (cbF g nn n).2 + 1
  | 0 => by simp [cbF]
  | n + 1 => by
    have ih := cbF_last g nn n
    rw [cbF]
    split
    · omega
    · split
      · omega
      · simp only; omega
theorem blkF_scan (g : Int → Int) (nn : Int) : ∀ n : Nat, blkF (scan g nn n) = cbF g nn n
  | 0 => rfl
  | n + 1 => by
    have ih := blkF_scan g nn n
    have hl := scan_last g nn n
    have hc := cbF_last g nn n
    rw [scan, cbF]
    unfold push
    by_cases hv : g n = nn
    · rw [if_pos hv, if_pos hv]; exact ih
    · rw [if_neg hv, if_neg hv]
      have new : blkF (scan g nn n ++ [((n : Int), (n : Int), g n)]) = if (n : Int) / 256 = (cbF g nn n).2 then cbF g nn n else ((cbF g nn n).1 + 1, (n : Int) / 256) := by
        rw [blkF_snoc, ih]
        unfold blkS
        simp only
        by_cases h1 : (n : Int) / 256 = (cbF g nn n).2
        · rw [if_pos h1, if_pos h1, if_neg (by omega)]
        · rw [if_neg h1, if_neg h1, if_pos (Int.le_refl _)]
          simp
      cases hg : (scan g nn n).getLast? with
      | none => exact new
      | some s =>
        simp only
        by_cases hq : s.2.1 = (n : Int) - 1 ∧ s.2.2 = g n
        · rw [if_pos hq]
          obtain ⟨m, hm⟩ : ∃ m, scan g nn n = m ++ [s] := by
            rw [List.getLast?_eq_some_iff] at hg
            exact hg
          obtain ⟨s0, s1, _, _⟩ := hl s (List.mem_of_getLast? hg)
          rw [hm, List.dropLast_concat, blkF_snoc]
          rw [hm, blkF_snoc] at ih
          rw [← ih]
          rw [← ih] at hc
          obtain ⟨f, t, u⟩ := s
          obtain ⟨c, la⟩ := blkF m
          unfold blkS at *
          simp only at *
          obtain ⟨rfl, rfl⟩ := hq
          by_cases h1 : f / 256 = la
          · simp only [if_pos h1] at *
            by_cases h2 : f / 256 + 1 ≤ ((n : Int) - 1) / 256
            · simp only [if_pos h2] at *
              rw [if_pos (by omega)]
              split
              · rw [Prod.mk.injEq]; omega
              · rw [Prod.mk.injEq]; omega
            · simp only [if_neg h2] at *
              by_cases h3 : f / 256 + 1 ≤ (n : Int) / 256
              · rw [if_pos h3, if_neg (by omega), Prod.mk.injEq]; omega
              · rw [if_neg h3, if_pos (by omega)]
          · simp only [if_neg h1] at *
            have h2 : f / 256 ≤ ((n : Int) - 1) / 256 := by omega
            simp only [if_pos h2] at *
            rw [if_pos (by omega)]
            split
            · rw [Prod.mk.injEq]; omega
            · rw [Prod.mk.injEq]; omega
        · rw [if_neg hq]; exact new

end Go.Proofs.Ytfjckdjnnbpcnaa.Tr

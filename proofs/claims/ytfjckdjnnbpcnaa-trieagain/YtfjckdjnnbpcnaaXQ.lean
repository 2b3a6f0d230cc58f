import Derived.Test.YtfjckdjnnbpcnaaXL
namespace Go.Proofs.Ytfjckdjnnbpcnaa.Tr

/-- What stands in a range has its value. -/
theorem scan_sound (g : Int → Int) (nn : Int) : ∀ n : Nat, ∀ s ∈ scan g nn n, ∀ r : Int, s.1 ≤ r → r ≤ s.2.1 → g r = s.2.2
  | 0, s, h => by cases h
  | n + 1, s, h => fun r h1 h2 => by
    have ih := scan_sound g nn n
    rw [scan] at h
    unfold push at h
    split at h
    · exact ih s h r h1 h2
    · split at h
      · rename_i hl
        rcases List.mem_append.1 h with h | h
        · exact ih s h r h1 h2
        · obtain rfl := List.mem_singleton.1 h
          simp only at h1 h2
          rw [show r = (n : Int) by omega]
      · rename_i s0 hl
        have hm : s0 ∈ scan g nn n := List.mem_of_getLast? hl
        split at h
        · rename_i he
          rcases List.mem_append.1 h with h | h
          · exact ih s ((List.dropLast_sublist _).subset h) r h1 h2
          · obtain rfl := List.mem_singleton.1 h
            simp only at h1 h2
            by_cases hr : r ≤ s0.2.1
            · exact ih s0 hm r h1 hr
            · rw [show r = (n : Int) by omega]
              exact he.2.symm
        · rcases List.mem_append.1 h with h | h
          · exact ih s h r h1 h2
          · obtain rfl := List.mem_singleton.1 h
            simp only at h1 h2
            rw [show r = (n : Int) by omega]
/-- What has a value stands in a range. -/
theorem scan_full (g : Int → Int) (nn : Int) : ∀ n : Nat, ∀ x : Nat, x < n → g x ≠ nn → ∃ s ∈ scan g nn n, s.1 ≤ (x : Int) ∧ (x : Int) ≤ s.2.1
  | 0, x, h => absurd h (by omega)
  | n + 1, x, h => fun hx => by
    have ih := scan_full g nn n
    have hlast := scan_last g nn n
    rw [scan]
    unfold push
    split
    · rename_i hv
      have hne : x ≠ n := fun e => by subst e; exact hx hv
      exact ih x (by omega) hx
    · split
      · by_cases e : x = n
        · subst e
          exact ⟨_, List.mem_append.2 (.inr (List.mem_singleton.2 rfl)), Int.le_refl _, Int.le_refl _⟩
        · obtain ⟨s, hs, h1⟩ := ih x (by omega) hx
          exact ⟨s, List.mem_append.2 (.inl hs), h1⟩
      · rename_i s0 hl
        have hm : s0 ∈ scan g nn n := List.mem_of_getLast? hl
        obtain ⟨q1, q2, q3, q4⟩ := hlast s0 hm
        split
        · rename_i he
          by_cases e : x = n
          · subst e
            exact ⟨_, List.mem_append.2 (.inr (List.mem_singleton.2 rfl)), by simp only; omega, by simp only; omega⟩
          · obtain ⟨s, hs, h1, h2⟩ := ih x (by omega) hx
            have hsplit : scan g nn n = (scan g nn n).dropLast ++ [s0] := by
              obtain ⟨ys, hys⟩ := List.getLast?_eq_some_iff.1 hl
              rw [hys, List.dropLast_concat]
            rw [hsplit] at hs
            rcases List.mem_append.1 hs with hs | hs
            · exact ⟨s, List.mem_append.2 (.inl hs), h1, h2⟩
            · obtain rfl := List.mem_singleton.1 hs
              exact ⟨_, List.mem_append.2 (.inr (List.mem_singleton.2 rfl)), h1, by simp only; omega⟩
        · by_cases e : x = n
          · subst e
            exact ⟨_, List.mem_append.2 (.inr (List.mem_singleton.2 rfl)), Int.le_refl _, Int.le_refl _⟩
          · obtain ⟨s, hs, h1⟩ := ih x (by omega) hx
            exact ⟨s, List.mem_append.2 (.inl hs), h1⟩
/-- Neighbours do not meet, and are not one range. -/
def nbr (a b : Sp) : Prop := a.2.1 < b.1 ∧ ¬ (a.2.1 = b.1 - 1 ∧ a.2.2 = b.2.2)
theorem chain_snoc {l : List Sp} {x : Sp} (h : ∀ i (hi : i + 1 < l.length), nbr l[i] l[i + 1]) (hx : ∀ y, l.getLast? = some y → nbr y x) : ∀ i (hi : i + 1 < (l ++ [x]).length), nbr (l ++ [x])[i] (l ++ [x])[i + 1] := fun i hi => by
  rw [List.length_append, List.length_singleton] at hi
  by_cases h1 : i + 1 < l.length
  · rw [List.getElem_append_left (by omega), List.getElem_append_left h1]
    exact h i h1
  · have h2 : i + 1 = l.length := by omega
    rw [List.getElem_append_left (by omega), List.getElem_append_right (by omega)]
    simp only [h2, Nat.sub_self, List.getElem_cons_zero]
    refine hx _ ?_
    rw [List.getLast?_eq_getElem?, List.getElem?_eq_some_iff]
    exact ⟨by omega, by congr 1; omega⟩
theorem scan_chain (g : Int → Int) (nn : Int) : ∀ n : Nat, ∀ i (hi : i + 1 < (scan g nn n).length), nbr (scan g nn n)[i] (scan g nn n)[i + 1]
  | 0 => fun i hi => by simp [scan] at hi
  | n + 1 => by
    have ih := scan_chain g nn n
    have hlast := scan_last g nn n
    have e : scan g nn (n + 1) = push nn (scan g nn n) n (g n) := rfl
    suffices h : ∀ l, l = push nn (scan g nn n) n (g n) → ∀ i (hi : i + 1 < l.length), nbr l[i] l[i + 1] from fun i hi => h _ e i hi
    intro l hl
    unfold push at hl
    split at hl
    · subst hl; exact ih
    · split at hl
      · rename_i hn
        subst hl
        refine chain_snoc ih fun y hy => ?_
        rw [hn] at hy; cases hy
      · rename_i s0 hs0
        have hm : s0 ∈ scan g nn n := List.mem_of_getLast? hs0
        obtain ⟨q1, q2, q3, q4⟩ := hlast s0 hm
        split at hl
        · subst hl
          obtain ⟨ys, hys⟩ := List.getLast?_eq_some_iff.1 hs0
          rw [hys, List.dropLast_concat]
          have ih2 : ∀ i (hi : i + 1 < (ys ++ [s0]).length), nbr (ys ++ [s0])[i] (ys ++ [s0])[i + 1] := by
            simp only [hys] at ih
            exact ih
          refine chain_snoc (fun i hi => ?_) (fun y hy => ?_)
          · have := ih2 i (by simp; omega)
            rw [List.getElem_append_left (by omega), List.getElem_append_left (by omega)] at this
            exact this
          · rw [List.getLast?_eq_getElem?, List.getElem?_eq_some_iff] at hy
            obtain ⟨hy1, hy2⟩ := hy
            have := ih2 (ys.length - 1) (by simp; omega)
            rw [List.getElem_append_left (by omega), List.getElem_append_right (by omega)] at this
            simp only [show ys.length - 1 + 1 - ys.length = 0 by omega, List.getElem_cons_zero, hy2] at this
            exact this
        · rename_i hc
          subst hl
          refine chain_snoc ih fun y hy => ?_
          rw [hs0] at hy
          obtain rfl := Option.some.inj hy
          exact ⟨by simp only; omega, hc⟩
/-- Among ranges of which all that hold a number have one value, the order does not count. -/
theorem getL_any {nn r v : Int} {L : List Sp} (h : ∀ s ∈ L, inS s r = true → s.2.2 = v) : getL nn L r = if L.any (fun s => inS s r) then v else nn := by
  unfold getL
  suffices h9 : ∀ (L : List Sp) (i : Int), (∀ s ∈ L, inS s r = true → s.2.2 = v) → L.foldl (fun v s => if inS s r then s.2.2 else v) i = if L.any (fun s => inS s r) then v else i from h9 L nn h
  intro L
  induction L with
  | nil => intro i _; rfl
  | cons s L ih =>
    intro i hi
    rw [List.foldl_cons, ih _ fun s' hs' => hi s' (.tail _ hs'), List.any_cons]
    cases hs : inS s r with
    | true =>
      rw [hi s (.head _) hs]
      simp
    | false => rw [Bool.false_or]; rfl
theorem getL_scan {g : Int → Int} {nn : Int} {n : Nat} {L : List Sp} (hL : ∀ s, s ∈ L ↔ s ∈ scan g nn n) (x : Nat) (hx : x < n) : getL nn L x = g x := by
  rw [getL_any (v := g x) fun s hs hi => by
    simp only [inS, Bool.and_eq_true, decide_eq_true_eq] at hi
    exact (scan_sound g nn n s ((hL s).1 hs) x hi.1 hi.2).symm]
  split
  · rfl
  · rename_i ha
    by_cases hg : g x = nn
    · exact hg.symm
    · obtain ⟨s, hs, h1, h2⟩ := scan_full g nn n x hx hg
      refine absurd ?_ ha
      rw [List.any_eq_true]
      exact ⟨s, (hL s).2 hs, by simp [inS, h1, h2]⟩
theorem setG_getL {nn : Int} : ∀ {L : List Sp}, (∀ s ∈ L, okS s = true) → setG (fun _ => nn) L = getL nn L := by
  intro L
  suffices h9 : ∀ (L : List Sp) (g : Int → Int), (∀ s ∈ L, okS s = true) → setG g L = fun r => L.foldl (fun v s => if inS s r then s.2.2 else v) (g r) from fun h => h9 L _ h
  intro L
  induction L with
  | nil => intro g _; rfl
  | cons s L ih =>
    intro g h
    have e : setG g (s :: L) = setG (updS g s) L := rfl
    rw [e, ih _ fun s' hs' => h s' (.tail _ hs')]
    funext r
    rw [List.foldl_cons]
    congr 1
    unfold updS
    rw [if_pos (h s (.head _))]
theorem all_ok {g : Int → Int} {nn : Int} : ∀ s ∈ allG g nn, okS s = true := fun s hs => by
  have := scan_last g nn 1114112 s hs
  simp [okS]
  omega
/-- All ranges of a table set in any order are the table. -/
theorem setG_again {g : Int → Int} {L : List Sp} (hL : ∀ s, s ∈ L ↔ s ∈ allG g 0) : allG (setG (fun _ => 0) L) 0 = allG g 0 ∧ blkN (setG (fun _ => 0) L) 0 = blkN g 0 := by
  rw [setG_getL fun s hs => all_ok s ((hL s).1 hs)]
  have h : ∀ x : Nat, x < 1114112 → getL 0 L x = g x := fun x hx => getL_scan hL x hx
  exact ⟨scan_same h, blkN_same h⟩

end Go.Proofs.Ytfjckdjnnbpcnaa.Tr

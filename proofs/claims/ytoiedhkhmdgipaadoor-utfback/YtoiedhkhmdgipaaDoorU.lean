import Derived.Test.YtoiedhkhmdgipaaDoorL
namespace Go.Proofs.YtoiedhkhmdgipaaDoor

/-! Positions at which bytes are a beginning that is not whole. -/
def Inc (l : List Nat) (k : Nat) : Prop := k < l.length ∧ (nx (l.drop k)).2.2 = 18

theorem ex_cont (b : Nat) (t : List Nat) (h : 128 ≤ b ∧ b < 192) : ex (b :: t) = (0, 1, 17) := by
  simp [ex, (fsz_0 b (by omega)).1]
theorem okr (b0 b1 : Nat) (h : lo1 b0 ≤ b1 ∧ b1 < hi1 b0) : 128 ≤ b1 ∧ b1 < 192 := by
  unfold lo1 hi1 at h; (repeat' split at h) <;> omega

set_option maxRecDepth 20000 in
/-- Behind a unit's first byte its bytes are later ones. -/
theorem tail_cont (l : List Nat) (k : Nat) (hk : 0 < k) (hn : (k : Int) < (ex l).2.1) : ex (l.drop k) = (0, 1, 17) := by
  match l with
  | [] => simp [ex] at hn; omega
  | [b0] =>
    simp only [ex] at hn
    (repeat' split at hn) <;> simp at hn <;> omega
  | [b0, b1] =>
    simp only [ex] at hn
    by_cases c1 : fsz b0 = 0
    · simp [c1] at hn; omega
    by_cases c2 : fsz b0 = 1
    · simp [c2] at hn; omega
    by_cases c3 : lo1 b0 ≤ b1 ∧ b1 < hi1 b0
    · have hb := okr b0 b1 c3
      simp [c1, c2, c3] at hn
      have : k = 1 := by split at hn <;> simp at hn <;> omega
      subst this
      exact ex_cont b1 [] hb
    · simp [c1, c2, c3] at hn; omega
  | [b0, b1, b2] =>
    simp only [ex] at hn
    by_cases c1 : fsz b0 = 0
    · simp [c1] at hn; omega
    by_cases c2 : fsz b0 = 1
    · simp [c2] at hn; omega
    by_cases c3 : lo1 b0 ≤ b1 ∧ b1 < hi1 b0
    · have hb := okr b0 b1 c3
      by_cases c4 : fsz b0 = 2
      · simp [c3, c4] at hn
        obtain rfl : k = 1 := by omega
        exact ex_cont b1 _ hb
      by_cases c5 : 128 ≤ b2 ∧ b2 < 192
      · have : k = 1 ∨ k = 2 := by simp [c1, c2, c3, c4, c5] at hn; (split at hn) <;> simp at hn <;> omega
        rcases this with rfl | rfl
        · exact ex_cont b1 _ hb
        · exact ex_cont b2 _ c5
      · simp [c1, c2, c3, c4, c5] at hn
        obtain rfl : k = 1 := by omega
        exact ex_cont b1 _ hb
    · simp [c1, c2, c3] at hn; omega
  | b0 :: b1 :: b2 :: b3 :: t =>
    simp only [ex] at hn
    by_cases c1 : fsz b0 = 0
    · simp [c1] at hn; omega
    by_cases c2 : fsz b0 = 1
    · simp [c2] at hn; omega
    by_cases c3 : lo1 b0 ≤ b1 ∧ b1 < hi1 b0
    · have hb := okr b0 b1 c3
      by_cases c4 : fsz b0 = 2
      · simp [c3, c4] at hn
        obtain rfl : k = 1 := by omega
        exact ex_cont b1 _ hb
      by_cases c5 : 128 ≤ b2 ∧ b2 < 192
      · by_cases c6 : fsz b0 = 3
        · simp [c3, c5, c6] at hn
          have : k = 1 ∨ k = 2 := by omega
          rcases this with rfl | rfl
          · exact ex_cont b1 _ hb
          · exact ex_cont b2 _ c5
        by_cases c7 : 128 ≤ b3 ∧ b3 < 192
        · simp [c1, c2, c3, c4, c5, c6, c7] at hn
          have : k = 1 ∨ k = 2 ∨ k = 3 := by omega
          rcases this with rfl | rfl | rfl
          · exact ex_cont b1 _ hb
          · exact ex_cont b2 _ c5
          · exact ex_cont b3 _ c7
        · simp [c1, c2, c3, c4, c5, c6, c7] at hn
          have : k = 1 ∨ k = 2 := by omega
          rcases this with rfl | rfl
          · exact ex_cont b1 _ hb
          · exact ex_cont b2 _ c5
      · simp [c1, c2, c3, c4, c5] at hn
        obtain rfl : k = 1 := by omega
        exact ex_cont b1 _ hb
    · simp [c1, c2, c3] at hn; omega

theorem inc_len {l : List Nat} {k : Nat} (h : Inc l k) : l.length - k ≤ 3 ∧ k < l.length := by
  have hne : l.drop k ≠ [] := by
    intro e
    have := congrArg List.length e
    rw [List.length_drop] at this
    have := h.1
    simp at *
    omega
  obtain ⟨r, e, n, hx, h1, h2, h3, h4, h5, h6⟩ := nx_step _ hne
  have he := h.2
  rw [hx] at he
  have := h5 he
  have := h6 (by intro hz; rw [hz] at he; simp at he)
  rw [List.length_drop] at *
  exact ⟨by omega, h.1⟩
/-- In a unit that begins at k only its first place may be such a beginning. -/
theorem inc_in {l : List Nat} {k n j : Nat} {r e : Int} (hx : nx (l.drop k) = (r, (n : Int), e)) (hj : k < j) (hj' : j < k + n) : ¬ Inc l j := by
  intro h
  rw [nx_ex] at hx
  have := tail_cont (l.drop k) (j - k) (by omega) (by rw [hx]; simp; omega)
  rw [List.drop_drop, show k + (j - k) = j by omega] at this
  have h2 := h.2
  rw [nx_ex, this] at h2
  simp at h2
theorem inc_one {l : List Nat} {i j : Nat} (hi : Inc l i) (hj : Inc l j) : i = j := by
  have aux : ∀ {i j : Nat}, Inc l i → Inc l j → ¬ i < j := by
    intro i j hi hj hlt
    have hne : l.drop i ≠ [] := by
      intro e
      have := congrArg List.length e
      rw [List.length_drop] at this
      have := hi.1
      simp at *
      omega
    obtain ⟨r, e, n, hx, h1, h2, h3, h4, h5, h6⟩ := nx_step _ hne
    have he := hi.2
    rw [hx] at he
    have hn := h5 he
    rw [List.length_drop] at hn
    exact inc_in hx hlt (by have := hj.1; omega) hj
  rcases Nat.lt_trichotomy i j with h | h | h
  · exact absurd h (aux hi hj)
  · exact h
  · exact absurd h (aux hj hi)

/-- Where bytes may be cut: three places are looked at. -/
def cutN (l : List Nat) : Nat :=
  if 1 ≤ l.length ∧ (nx (l.drop (l.length - 1))).2.2 = 18 then l.length - 1
  else if 2 ≤ l.length ∧ (nx (l.drop (l.length - 2))).2.2 = 18 then l.length - 2
  else if 3 ≤ l.length ∧ (nx (l.drop (l.length - 3))).2.2 = 18 then l.length - 3
  else l.length
theorem cutN_form (l : List Nat) : (cutN l = l.length ∧ ∀ j, ¬ Inc l j) ∨ Inc l (cutN l) := by
  unfold cutN
  by_cases c1 : 1 ≤ l.length ∧ (nx (l.drop (l.length - 1))).2.2 = 18
  · rw [if_pos c1]; exact .inr ⟨by omega, c1.2⟩
  rw [if_neg c1]
  by_cases c2 : 2 ≤ l.length ∧ (nx (l.drop (l.length - 2))).2.2 = 18
  · rw [if_pos c2]; exact .inr ⟨by omega, c2.2⟩
  rw [if_neg c2]
  by_cases c3 : 3 ≤ l.length ∧ (nx (l.drop (l.length - 3))).2.2 = 18
  · rw [if_pos c3]; exact .inr ⟨by omega, c3.2⟩
  rw [if_neg c3]
  refine .inl ⟨rfl, fun j hj => ?_⟩
  obtain ⟨h1, h2⟩ := inc_len hj
  have : (j = l.length - 1 ∧ 1 ≤ l.length) ∨ (j = l.length - 2 ∧ 2 ≤ l.length) ∨ (j = l.length - 3 ∧ 3 ≤ l.length) := by omega
  rcases this with ⟨rfl, h⟩ | ⟨rfl, h⟩ | ⟨rfl, h⟩
  · exact c1 ⟨h, hj.2⟩
  · exact c2 ⟨h, hj.2⟩
  · exact c3 ⟨h, hj.2⟩
theorem cutN_le (l : List Nat) : cutN l ≤ l.length ∧ l.length - cutN l ≤ 3 := by
  rcases cutN_form l with ⟨h, _⟩ | h
  · omega
  · have := inc_len h; omega
theorem cutN_eq (l : List Nat) (W : Nat) (h1 : ∀ j, j < l.length → ¬ Inc l j ∨ j = W) (h2 : W = l.length ∨ Inc l W) : cutN l = W := by
  rcases cutN_form l with ⟨h, hn⟩ | h
  · rcases h2 with h2 | h2
    · omega
    · exact absurd h2 (hn _)
  · rcases h1 _ h.1 with h3 | h3
    · exact absurd h h3
    · exact h3
end Go.Proofs.YtoiedhkhmdgipaaDoor

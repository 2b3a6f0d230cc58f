import Derived.Test.YtoiedhkhmdgipaaDoorY
namespace Go.Proofs.YtoiedhkhmdgipaaDoor
open Go.RowKit

theorem dec_err (pol : Int) (hp : pol ≠ 1) : ∀ (m k : Nat) (l : List Nat), l.length ≤ m → (dec pol k l).2.2 = 0 := by
  intro m
  induction m with
  | zero =>
    intro k l hl
    have : l = [] := List.eq_nil_of_length_eq_zero (by omega)
    subst this
    simp [dec_nil]
  | succ m ih =>
    intro k l hl
    by_cases hne : l = []
    · subst hne
      simp [dec_nil]
    obtain ⟨r, e, n, hx, h1, h2, h3, h4, h5, h6⟩ := nx_step l hne
    have hI := ih (k + n) (l.drop n) (by rw [List.length_drop]; omega)
    by_cases he : e = 0
    · subst he
      rw [dec_ok pol k l hne r n hx h1]
      exact hI
    · rw [dec_bad pol hp k l hne r e n hx he h1]
      exact hI
theorem dec_two_three : ∀ (m k : Nat) (l : List Nat), l.length ≤ m → (dec 2 k l).2.1 = (dec 3 k l).2.1 ∧ (dec 2 k l).1.length = (dec 3 k l).1.length + (dec 2 k l).2.1.length := by
  intro m
  induction m with
  | zero =>
    intro k l hl
    have : l = [] := List.eq_nil_of_length_eq_zero (by omega)
    subst this
    simp [dec_nil]
  | succ m ih =>
    intro k l hl
    by_cases hne : l = []
    · subst hne
      simp [dec_nil]
    obtain ⟨r, e, n, hx, h1, h2, h3, h4, h5, h6⟩ := nx_step l hne
    have hI := ih (k + n) (l.drop n) (by rw [List.length_drop]; omega)
    by_cases he : e = 0
    · subst he
      rw [dec_ok 2 k l hne r n hx h1, dec_ok 3 k l hne r n hx h1]
      simp only [List.length_cons]
      exact ⟨hI.1, by omega⟩
    · rw [dec_bad 2 (by decide) k l hne r e n hx he h1, dec_bad 3 (by decide) k l hne r e n hx he h1]
      simp
      exact ⟨hI.1, by omega⟩
theorem dec_from (pol : Int) : ∀ (m k : Nat) (l : List Nat), l.length ≤ m → ∀ x ∈ (dec pol k l).2.1, k ≤ x.1 ∧ x.1 + x.2 ≤ k + l.length := by
  intro m
  induction m with
  | zero =>
    intro k l hl
    have : l = [] := List.eq_nil_of_length_eq_zero (by omega)
    subst this
    simp [dec_nil]
  | succ m ih =>
    intro k l hl x hx'
    by_cases hne : l = []
    · subst hne
      simp [dec_nil] at hx'
    obtain ⟨r, e, n, hx, h1, h2, h3, h4, h5, h6⟩ := nx_step l hne
    have hI := ih (k + n) (l.drop n) (by rw [List.length_drop]; omega) x
    rw [List.length_drop] at hI
    by_cases he : e = 0
    · subst he
      rw [dec_ok pol k l hne r n hx h1] at hx'
      have := hI hx'
      omega
    · by_cases hp : pol = 1
      · subst hp
        rw [dec_bad1 k l hne r e n hx he] at hx'
        simp at hx'
        subst hx'
        simp
        omega
      · rw [dec_bad pol hp k l hne r e n hx he h1] at hx'
        simp only [List.mem_cons] at hx'
        rcases hx' with rfl | hx'
        · simp; omega
        · have := hI hx'
          omega
theorem dec_shift (pol : Int) : ∀ (m k j : Nat) (l : List Nat), l.length ≤ m → dec pol (j + k) l = ((dec pol k l).1, (dec pol k l).2.1.map (fun x => (j + x.1, x.2)), (dec pol k l).2.2) := by
  intro m
  induction m with
  | zero =>
    intro k j l hl
    have : l = [] := List.eq_nil_of_length_eq_zero (by omega)
    subst this
    simp [dec_nil]
  | succ m ih =>
    intro k j l hl
    by_cases hne : l = []
    · subst hne
      simp [dec_nil]
    obtain ⟨r, e, n, hx, h1, h2, h3, h4, h5, h6⟩ := nx_step l hne
    have hI := ih (k + n) j (l.drop n) (by rw [List.length_drop]; omega)
    rw [← Nat.add_assoc] at hI
    by_cases he : e = 0
    · subst he
      rw [dec_ok pol (j + k) l hne r n hx h1, dec_ok pol k l hne r n hx h1, hI]
    · by_cases hp : pol = 1
      · subst hp
        rw [dec_bad1 (j + k) l hne r e n hx he, dec_bad1 k l hne r e n hx he]
        simp
      · rw [dec_bad pol hp (j + k) l hne r e n hx he h1, dec_bad pol hp k l hne r e n hx he h1, hI]
        simp
set_option maxRecDepth 20000 in
theorem ex_app (s t : List Nat) (hs : s ≠ []) (h : (ex s).2.2 ≠ 18) : ex (s ++ t) = ex s := by
  match s, hs with
  | [b0], _ =>
    simp only [ex, List.cons_append, List.nil_append] at h ⊢
    by_cases c1 : fsz b0 = 0
    · simp [c1]
    by_cases c2 : fsz b0 = 1
    · simp [c2]
    simp [c1, c2] at h
  | [b0, b1], _ =>
    simp only [ex, List.cons_append, List.nil_append] at h ⊢
    by_cases c1 : fsz b0 = 0
    · simp [c1]
    by_cases c2 : fsz b0 = 1
    · simp [c2]
    by_cases c3 : lo1 b0 ≤ b1 ∧ b1 < hi1 b0
    · by_cases c4 : fsz b0 = 2
      · simp [c3, c4]
      simp [c1, c2, c3, c4] at h
    simp [c1, c2, c3]
  | [b0, b1, b2], _ =>
    simp only [ex, List.cons_append, List.nil_append] at h ⊢
    by_cases c1 : fsz b0 = 0
    · simp [c1]
    by_cases c2 : fsz b0 = 1
    · simp [c2]
    by_cases c3 : lo1 b0 ≤ b1 ∧ b1 < hi1 b0
    · by_cases c4 : fsz b0 = 2
      · simp [c3, c4]
      by_cases c5 : 128 ≤ b2 ∧ b2 < 192
      · by_cases c6 : fsz b0 = 3
        · simp [c3, c5, c6]
        simp [c1, c2, c3, c4, c5, c6] at h
      simp [c1, c2, c3, c4, c5]
    simp [c1, c2, c3]
  | b0 :: b1 :: b2 :: b3 :: u, _ => simp only [ex, List.cons_append]
/-- Of bytes that do not end with a beginning that is not whole, and others behind them. -/
theorem dec_app (pol : Int) (hp : pol ≠ 1) (t : List Nat) : ∀ (m k : Nat) (s : List Nat), s.length ≤ m → (∀ j, ¬ Inc s j) →
    dec pol k (s ++ t) = ((dec pol k s).1 ++ (dec pol (k + s.length) t).1, (dec pol k s).2.1 ++ (dec pol (k + s.length) t).2.1, 0) := by
  intro m
  induction m with
  | zero =>
    intro k s hl _
    have : s = [] := List.eq_nil_of_length_eq_zero (by omega)
    subst this
    have := dec_err pol hp t.length k t (Nat.le_refl _)
    simp [dec_nil]
    rw [← this]
  | succ m ih =>
    intro k s hl hI
    by_cases hne : s = []
    · subst hne
      have := dec_err pol hp t.length k t (Nat.le_refl _)
      simp [dec_nil]
      rw [← this]
    obtain ⟨r, e, n, hx, h1, h2, h3, h4, h5, h6⟩ := nx_step s hne
    have he18 : e ≠ 18 := fun h => hI 0 ⟨List.length_pos_iff.2 hne, by rw [List.drop_zero, hx]; exact h⟩
    have hx2 : nx (s ++ t) = (r, (n : Int), e) := by
      rw [nx_ex] at hx ⊢
      rw [ex_app s t hne (by rw [hx]; exact he18), hx]
    have hne2 : s ++ t ≠ [] := by simp [hne]
    have hd : (s ++ t).drop n = s.drop n ++ t := List.drop_append_of_le_length h2
    have hIn : ∀ j, ¬ Inc (s.drop n) j := fun j hj => hI (n + j) ⟨by have := hj.1; rw [List.length_drop] at this; omega, by rw [← List.drop_drop]; exact hj.2⟩
    have hr := ih (k + n) (s.drop n) (by rw [List.length_drop]; omega) hIn
    rw [List.length_drop, show k + n + (s.length - n) = k + s.length by omega] at hr
    by_cases he : e = 0
    · subst he
      rw [dec_ok pol k _ hne2 r n hx2 h1, dec_ok pol k s hne r n hx h1, hd, hr]
      simp
    · rw [dec_bad pol hp k _ hne2 r e n hx2 he h1, dec_bad pol hp k s hne r e n hx he h1, hd, hr]
      simp
theorem no_inc_of_cut (l : List Nat) (h : cutN l = l.length) : ∀ j, ¬ Inc l j := by
  rcases cutN_form l with ⟨_, h1⟩ | h1
  · exact h1
  · have := h1.1; omega
/-- The law's join. -/
theorem dec_join (s t : List Nat) (h : cutN s = s.length) : dec 2 0 (s ++ t) = ((dec 2 0 s).1 ++ (dec 2 0 t).1, (dec 2 0 s).2.1 ++ (dec 2 0 t).2.1.map (fun x => (s.length + x.1, x.2)), 0) := by
  rw [dec_app 2 (by decide) t s.length 0 s (Nat.le_refl _) (no_inc_of_cut s h), Nat.zero_add]
  have := dec_shift 2 t.length 0 s.length t (Nat.le_refl _)
  rw [Nat.add_zero] at this
  rw [this]
theorem vld_cut (l : List Nat) (h : vld l = true) : cutN l = l.length := cut_whole l (by unfold vld at h; simpa using h)
end Go.Proofs.YtoiedhkhmdgipaaDoor

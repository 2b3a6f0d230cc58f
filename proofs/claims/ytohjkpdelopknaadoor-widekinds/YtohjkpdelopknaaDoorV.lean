import Derived.Test.YtohjkpdelopknaaDoorX
namespace Go.Proofs.YtohjkpdelopknaaDoor
open Go.RowKit
/-- Units turned about, each by itself. -/
def tr (z : Nat) : Nat → List Nat → List Nat
  | 0, _ => []
  | f + 1, l => if l.length < z then [] else (l.take z).reverse ++ tr z f (l.drop z)
def trn (z : Nat) (l : List Nat) : List Nat := tr z l.length l
theorem tr_same (z : Nat) (hz : 1 ≤ z) : ∀ (m f : Nat) (l : List Nat), l.length ≤ m → l.length ≤ f → tr z f l = tr z l.length l := by
  intro m
  induction m with
  | zero =>
    intro f l hm hf
    have : l = [] := List.eq_nil_of_length_eq_zero (by omega)
    subst this
    cases f
    · rfl
    · simp only [tr, List.length_nil]; rw [if_pos (by omega)]
  | succ m ih =>
    intro f l hm hf
    rcases Nat.eq_zero_or_pos l.length with h0 | h0
    · have : l = [] := List.eq_nil_of_length_eq_zero h0
      subst this
      cases f
      · rfl
      · simp only [tr, List.length_nil]; rw [if_pos (by omega)]
    · obtain ⟨f, rfl⟩ : ∃ g, f = g + 1 := ⟨f - 1, by omega⟩
      obtain ⟨g, hg⟩ : ∃ g, l.length = g + 1 := ⟨l.length - 1, by omega⟩
      have e1 := ih f (l.drop z) (by rw [List.length_drop]; omega) (by rw [List.length_drop]; omega)
      have e2 := ih g (l.drop z) (by rw [List.length_drop]; omega) (by rw [List.length_drop]; omega)
      rw [hg]
      simp only [tr, e1, e2]
theorem trn_short (z : Nat) (l : List Nat) (h : l.length < z) : trn z l = [] := by
  unfold trn
  rcases Nat.eq_zero_or_pos l.length with h0 | h0
  · rw [h0]; rfl
  · obtain ⟨g, hg⟩ : ∃ g, l.length = g + 1 := ⟨l.length - 1, by omega⟩
    rw [hg]
    simp only [tr]
    rw [if_pos h]
theorem trn_step (z : Nat) (hz : 1 ≤ z) (l : List Nat) (h : z ≤ l.length) : trn z l = (l.take z).reverse ++ trn z (l.drop z) := by
  unfold trn
  obtain ⟨g, hg⟩ : ∃ g, l.length = g + 1 := ⟨l.length - 1, by omega⟩
  have e2 := tr_same z hz (l.drop z).length g (l.drop z) (Nat.le_refl _) (by rw [List.length_drop]; omega)
  rw [hg]
  simp only [tr]
  rw [if_neg (by omega), e2]
theorem trn_len (z : Nat) (hz : 1 ≤ z) : ∀ (m : Nat) (l : List Nat), l.length ≤ m → l.length % z = 0 → (trn z l).length = l.length := by
  intro m
  induction m with
  | zero =>
    intro l hm _
    have : l = [] := List.eq_nil_of_length_eq_zero (by omega)
    subst this
    rfl
  | succ m ih =>
    intro l hm hl
    rcases Nat.lt_or_ge l.length z with h | h
    · rw [trn_short z l h]
      rw [Nat.mod_eq_of_lt h] at hl
      simp; omega
    · rw [trn_step z hz l h, List.length_append, List.length_reverse, List.length_take, ih (l.drop z) (by rw [List.length_drop]; omega) (by rw [List.length_drop, ← Nat.mod_eq_sub_mod h]; exact hl), List.length_drop]
      omega
theorem trn_drop (z : Nat) (hz : 1 ≤ z) (l : List Nat) (h : z ≤ l.length) : (trn z l).drop z = trn z (l.drop z) := by
  rw [trn_step z hz l h]
  have hl : (l.take z).reverse.length = z := by rw [List.length_reverse, List.length_take]; omega
  conv => lhs; arg 1; rw [← hl]
  rw [List.drop_left]
theorem trn_app (z : Nat) (hz : 1 ≤ z) (b : List Nat) : ∀ (m : Nat) (a : List Nat), a.length ≤ m → a.length % z = 0 → trn z (a ++ b) = trn z a ++ trn z b := by
  intro m
  induction m with
  | zero =>
    intro a hm _
    have : a = [] := List.eq_nil_of_length_eq_zero (by omega)
    subst this
    rfl
  | succ m ih =>
    intro a hm hl
    rcases Nat.lt_or_ge a.length z with h | h
    · rw [Nat.mod_eq_of_lt h] at hl
      have : a = [] := List.eq_nil_of_length_eq_zero hl
      subst this
      rfl
    · rw [trn_step z hz (a ++ b) (by rw [List.length_append]; omega), trn_step z hz a h, List.take_append_of_le_length h, List.drop_append_of_le_length h,
        ih (a.drop z) (by rw [List.length_drop]; omega) (by rw [List.length_drop, ← Nat.mod_eq_sub_mod h]; exact hl), List.append_assoc]
theorem trn_B (z : Nat) (hz : 1 ≤ z) : ∀ (m : Nat) (l : List Nat), l.length ≤ m → allB l → allB (trn z l) := by
  intro m
  induction m with
  | zero =>
    intro l hm h
    have : l = [] := List.eq_nil_of_length_eq_zero (by omega)
    subst this
    exact h
  | succ m ih =>
    intro l hm h
    rcases Nat.lt_or_ge l.length z with hz' | hz'
    · rw [trn_short z l hz']; intro v hv; simp at hv
    · rw [trn_step z hz l hz']
      exact allB_app (fun v hv => allB_take h z v (by simpa using hv)) (ih (l.drop z) (by rw [List.length_drop]; omega) (allB_drop h z))
/-- The little kind k and the big one behind it. -/
theorem unN_turn (k : Nat) (hk : k = 1 ∨ k = 3) (l : List Nat) (h : szK k ≤ l.length) : unN (k + 1) (trn (szK k) l) = unN k l := by
  have hz := szK_bd k
  rw [trn_step (szK k) (by omega) l h]
  have hl : (l.take (szK k)).reverse.length = szK k := by rw [List.length_reverse, List.length_take]; omega
  have hs : szK (k + 1) = szK k := by rcases hk with rfl | rfl <;> rfl
  have h1 : loK k = true := by rcases hk with rfl | rfl <;> rfl
  have h2 : loK (k + 1) = false := by rcases hk with rfl | rfl <;> rfl
  unfold unN
  rw [h1, h2, hs]
  simp only [if_true, Bool.false_eq_true, if_false]
  conv => lhs; arg 1; arg 1; arg 1; rw [← hl]
  rw [List.take_left, List.reverse_reverse]
theorem nx_turn (k : Nat) (hk : k = 1 ∨ k = 3) (l : List Nat) (h : l.length % szK k = 0) : nx (k + 1) (trn (szK k) l) = nx k l := by
  have hz := szK_bd k
  have hlen := trn_len (szK k) (by omega) l.length l (Nat.le_refl _) h
  have hs : szK (k + 1) = szK k := by rcases hk with rfl | rfl <;> rfl
  unfold nx
  rw [hlen, hs]
  by_cases c1 : l.length < szK k
  · rw [if_pos c1, if_pos c1]
  rw [if_neg c1, if_neg c1, unN_turn k hk l (by omega)]
  by_cases c2 : k ≤ 2 ∧ 55296 ≤ unN k l ∧ unN k l < 56320
  · rw [if_pos (show k + 1 ≤ 2 ∧ 55296 ≤ unN k l ∧ unN k l < 56320 from ⟨by omega, c2.2⟩), if_pos c2]
    by_cases c3 : l.length < 4
    · rw [if_pos c3, if_pos c3]
    rw [if_neg c3, if_neg c3]
    have h2 : szK k = 2 := by simp [szK, c2.1]
    have hd : (trn (szK k) l).drop 2 = trn (szK k) (l.drop 2) := by
      have := trn_drop (szK k) (by omega) l (by omega)
      rw [h2] at this ⊢
      exact this
    rw [hd, unN_turn k hk (l.drop 2) (by rw [List.length_drop]; omega)]
  · rw [if_neg (show ¬ (k + 1 ≤ 2 ∧ 55296 ≤ unN k l ∧ unN k l < 56320) from fun hh => c2 ⟨by omega, hh.2⟩), if_neg c2]
theorem nx_mod (k : Nat) (l : List Nat) (r e : Int) (n : Nat) (hx : nx k l = (r, (n : Int), e)) (h : l.length % szK k = 0) (h5 : e = 18 → n = l.length ∧ n ≤ 3) : n % szK k = 0 := by
  by_cases he : e = 18
  · rw [(h5 he).1]; exact h
  · rcases nx_cases k l r e n hx he with ⟨h1, _⟩ | ⟨h1, h2, _⟩
    · rw [h1]; exact Nat.mod_self _
    · rw [h2, show szK k = 2 by simp [szK, h1]]
theorem trn_drops (z : Nat) (hz : 1 ≤ z) : ∀ (m : Nat) (l : List Nat) (n : Nat), n ≤ m → n % z = 0 → n ≤ l.length → (trn z l).drop n = trn z (l.drop n) := by
  intro m
  induction m with
  | zero =>
    intro l n hm _ _
    obtain rfl : n = 0 := by omega
    rfl
  | succ m ih =>
    intro l n hm hn hl
    rcases Nat.lt_or_ge n z with h | h
    · rw [Nat.mod_eq_of_lt h] at hn
      subst hn
      rfl
    · have := ih (l.drop z) (n - z) (by omega) (by rw [← Nat.mod_eq_sub_mod h]; exact hn) (by rw [List.length_drop]; omega)
      rw [← trn_drop z hz l (by omega), List.drop_drop, List.drop_drop, show z + (n - z) = n by omega] at this
      exact this
theorem dec_turn (k : Nat) (hk : k = 1 ∨ k = 3) (pol : Int) : ∀ (m p : Nat) (l : List Nat), l.length ≤ m → l.length % szK k = 0 → dec (k + 1) pol p (trn (szK k) l) = dec k pol p l := by
  have hz := szK_bd k
  intro m
  induction m with
  | zero =>
    intro p l hm _
    have : l = [] := List.eq_nil_of_length_eq_zero (by omega)
    subst this
    rfl
  | succ m ih =>
    intro p l hm hl
    by_cases hne : l = []
    · subst hne; rfl
    have hlen := trn_len (szK k) (by omega) l.length l (Nat.le_refl _) hl
    have hne2 : trn (szK k) l ≠ [] := by
      intro h0
      rw [h0] at hlen
      exact hne (List.eq_nil_of_length_eq_zero hlen.symm)
    obtain ⟨r, e, n, hx, h1, h2, h3, h4, h5⟩ := nx_step k l hne
    have hx2 : nx (k + 1) (trn (szK k) l) = (r, (n : Int), e) := by rw [nx_turn k hk l hl]; exact hx
    have hnm := nx_mod k l r e n hx hl h5
    have hd := trn_drops (szK k) (by omega) n l n (Nat.le_refl _) hnm h2
    have hlm : (l.drop n).length % szK k = 0 := by
      rw [List.length_drop]
      rcases hz.2.2 with hh | hh <;> rw [hh] at hl hnm ⊢ <;> omega
    have hI := ih (p + n) (l.drop n) (by rw [List.length_drop]; omega) hlm
    by_cases he : e = 0
    · subst he
      rw [dec_ok (k + 1) pol p _ hne2 r n hx2 h1, dec_ok k pol p l hne r n hx h1, hd, hI]
    · by_cases hp : pol = 1
      · subst hp
        rw [dec_bad1 (k + 1) p _ hne2 r e n hx2 he, dec_bad1 k p l hne r e n hx he]
      · rw [dec_bad (k + 1) pol hp p _ hne2 r e n hx2 he h1, dec_bad k pol hp p l hne r e n hx he h1, hd, hI]
theorem unB_turn (k : Nat) (hk : k = 1 ∨ k = 3) (n : Nat) : trn (szK k) (unB k n) = unB (k + 1) n := by
  have hz := szK_bd k
  have hl := unB_len k n
  rw [trn_step (szK k) (by omega) _ (by omega), List.take_of_length_le (by omega), List.drop_eq_nil_of_le (by omega)]
  have h0 : trn (szK k) [] = [] := rfl
  rw [h0, List.append_nil]
  have hs : szK (k + 1) = szK k := by rcases hk with rfl | rfl <;> rfl
  have h1 : loK k = true := by rcases hk with rfl | rfl <;> rfl
  have h2 : loK (k + 1) = false := by rcases hk with rfl | rfl <;> rfl
  unfold unB
  rw [h1, h2, hs]
  simp
theorem chB_turn (k : Nat) (hk : k = 1 ∨ k = 3) (r : Nat) : trn (szK k) (chB k r) = chB (k + 1) r := by
  have hz := szK_bd k
  unfold chB
  by_cases c : 3 ≤ k ∨ r < 65536
  · rw [if_pos c, if_pos (show 3 ≤ k + 1 ∨ r < 65536 by omega), unB_turn k hk]
  · rw [if_neg c, if_neg (show ¬ (3 ≤ k + 1 ∨ r < 65536) by omega), trn_app (szK k) (by omega) _ _ _ (Nat.le_refl _) (by rw [unB_len]; exact Nat.mod_self _), unB_turn k hk, unB_turn k hk]
theorem chB_mod (k r : Nat) : (chB k r).length % szK k = 0 := by
  have hz := szK_bd k
  unfold chB
  split
  · rw [unB_len]; exact Nat.mod_self _
  · rw [List.length_append, unB_len, unB_len]
    rcases hz.2.2 with h | h <;> rw [h]
theorem chL_turn (k : Nat) (hk : k = 1 ∨ k = 3) : ∀ (l : List Int), trn (szK k) (chL k l) = chL (k + 1) l
  | [] => rfl
  | r :: l => by
    have hz := szK_bd k
    rw [chL_cons, chL_cons, trn_app (szK k) (by omega) _ _ _ (Nat.le_refl _) (chB_mod k _), chB_turn k hk, chL_turn k hk l]
end Go.Proofs.YtohjkpdelopknaaDoor

import Derived.Test.YtohjkpdelopknaaDoorA
import Derived.Lib.Strings
import Derived.Lib.IndexBytes
namespace Go.Proofs.YtohjkpdelopknaaDoor

/-- A string's bytes as numbers. -/
def bs (s : ByteArray) : List Nat := s.data.toList.map UInt8.toNat
theorem bs_len (s : ByteArray) : (bs s).length = s.size := by simp [bs]
theorem bs_at (s : ByteArray) (k : Nat) (h : k < s.size) : (bs s)[k]'(by rw [bs_len]; exact h) = s[k].toNat := by simp [bs]; rfl
theorem bs_cut (s : ByteArray) (k : Nat) (h : k < s.size) : (bs s).drop k = s[k].toNat :: (bs s).drop (k + 1) := by
  rw [List.drop_eq_getElem_cons (by rw [bs_len]; exact h), bs_at s k h]
theorem bs_end (s : ByteArray) (k : Nat) (h : s.size ≤ k) : (bs s).drop k = [] := List.drop_eq_nil_of_le (by rw [bs_len]; exact h)
theorem bs_nil (s : ByteArray) (h : s.size = 0) : bs s = [] := List.eq_nil_of_length_eq_zero (by rw [bs_len]; exact h)
theorem bs_from (s : ByteArray) (k : Nat) : bs (s.extract k s.size) = (bs s).drop k := by
  unfold bs
  rw [Lib.extract_to_end, List.map_drop]
theorem ext_from (s : ByteArray) (k : Nat) : (s.extract k s.size).size = s.size - k := by
  have := bs_len (s.extract k s.size)
  rw [bs_from, List.length_drop, bs_len] at this
  omega
def allB (l : List Nat) : Prop := ∀ v ∈ l, v < 256
theorem bs_B (s : ByteArray) : allB (bs s) := by
  intro v hv
  simp only [bs, List.mem_map] at hv
  obtain ⟨u, _, rfl⟩ := hv
  exact u.toNat_lt
theorem allB_drop {l : List Nat} (h : allB l) (n : Nat) : allB (l.drop n) := fun v hv => h v (List.mem_of_mem_drop hv)
theorem allB_take {l : List Nat} (h : allB l) (n : Nat) : allB (l.take n) := fun v hv => h v (List.mem_of_mem_take hv)

/-- The number of bytes, the lowest one first. -/
def leN : List Nat → Nat
  | [] => 0
  | b :: t => b + 256 * leN t
/-- The unit with which bytes begin. -/
def unN (k : Nat) (l : List Nat) : Nat := if loK k then leN (l.take (szK k)) else leN (l.take (szK k)).reverse
theorem leN_lt : ∀ (l : List Nat), allB l → leN l < 256 ^ l.length
  | [], _ => by simp [leN]
  | b :: t, h => by
    have h1 := leN_lt t (fun v hv => h v (by simp [hv]))
    have h2 := h b (by simp)
    simp only [leN, List.length_cons, Nat.pow_succ]
    omega
theorem unN_lt (k : Nat) (l : List Nat) (h : allB l) : unN k l < 256 ^ szK k := by
  have hl : (l.take (szK k)).length ≤ szK k := List.length_take_le _ _
  have hp : 256 ^ (l.take (szK k)).length ≤ 256 ^ szK k := Nat.pow_le_pow_right (by omega) hl
  unfold unN
  split
  · exact Nat.lt_of_lt_of_le (leN_lt _ (allB_take h _)) hp
  · have := leN_lt (l.take (szK k)).reverse (fun v hv => allB_take h _ v (by simpa using hv))
    rw [List.length_reverse] at this
    exact Nat.lt_of_lt_of_le this hp
theorem unN_lt32 (k : Nat) (l : List Nat) (h : allB l) : unN k l < 4294967296 := by
  have h1 := unN_lt k l h
  have h2 : 256 ^ szK k ≤ 256 ^ 4 := Nat.pow_le_pow_right (by omega) (szK_bd k).2.1
  have h3 : (256 : Nat) ^ 4 = 4294967296 := by decide
  omega
theorem unN_lt16 (k : Nat) (l : List Nat) (h : allB l) (hk : k ≤ 2) : unN k l < 65536 := by
  have h1 := unN_lt k l h
  have h2 : szK k = 2 := by simp [szK, hk]
  rw [h2] at h1
  have h3 : (256 : Nat) ^ 2 = 65536 := by decide
  omega
/-- What bytes begin with: the character, how many bytes, the error. -/
def nx (k : Nat) (l : List Nat) : Int × Int × Int :=
  if l.length < szK k then (0, (l.length : Int), 18)
  else if k ≤ 2 ∧ 55296 ≤ unN k l ∧ unN k l < 56320 then
    (if l.length < 4 then (0, (l.length : Int), 18)
     else if 56320 ≤ unN k (l.drop 2) ∧ unN k (l.drop 2) < 57344 then ((65536 + (unN k l - 55296) * 1024 + (unN k (l.drop 2) - 56320) : Nat), 4, 0)
     else (0, 2, 17))
  else if scal (unN k l : Int) then ((unN k l : Int), (szK k : Int), 0) else (0, (szK k : Int), 17)

theorem nx_step (k : Nat) (l : List Nat) (h : l ≠ []) : ∃ r e : Int, ∃ n : Nat, nx k l = (r, (n : Int), e) ∧ 1 ≤ n ∧ n ≤ l.length ∧ n ≤ 4 ∧ (e = 0 ∨ e = 17 ∨ e = 18) ∧ (e = 18 → n = l.length ∧ n ≤ 3) := by
  have hp : 0 < l.length := List.length_pos_iff.2 h
  obtain ⟨z1, z2, z3⟩ := szK_bd k
  unfold nx
  by_cases c1 : l.length < szK k
  · rw [if_pos c1]; exact ⟨0, 18, l.length, rfl, by omega, by omega, by omega, by omega, fun _ => ⟨rfl, by omega⟩⟩
  rw [if_neg c1]
  by_cases c2 : k ≤ 2 ∧ 55296 ≤ unN k l ∧ unN k l < 56320
  · rw [if_pos c2]
    have hz : szK k = 2 := by simp [szK, c2.1]
    by_cases c3 : l.length < 4
    · rw [if_pos c3]; exact ⟨0, 18, l.length, rfl, by omega, by omega, by omega, by omega, fun _ => ⟨rfl, by omega⟩⟩
    rw [if_neg c3]
    by_cases c4 : 56320 ≤ unN k (l.drop 2) ∧ unN k (l.drop 2) < 57344
    · rw [if_pos c4]; exact ⟨_, 0, 4, rfl, by omega, by omega, by omega, by omega, fun h => by omega⟩
    rw [if_neg c4]; exact ⟨_, 17, 2, rfl, by omega, by omega, by omega, by omega, fun h => by omega⟩
  rw [if_neg c2]
  by_cases c3 : scal (unN k l : Int) = true
  · rw [if_pos c3]; exact ⟨_, 0, szK k, rfl, by omega, by omega, by omega, by omega, fun h => by omega⟩
  · rw [if_neg c3]; exact ⟨_, 17, szK k, rfl, by omega, by omega, by omega, by omega, fun h => by omega⟩

/-- What bytes decode to: the characters, the malformed units, and the error. Behind 'f' steps at the most. -/
def decF (k : Nat) (pol : Int) : Nat → Nat → List Nat → List Int × List (Nat × Nat) × Int
  | 0, _, _ => ([], [], 0)
  | f + 1, p, l =>
    if l = [] then ([], [], 0)
    else if (nx k l).2.2 = 0 then
      ((nx k l).1 :: (decF k pol f (p + (nx k l).2.1.toNat) (l.drop (nx k l).2.1.toNat)).1, (decF k pol f (p + (nx k l).2.1.toNat) (l.drop (nx k l).2.1.toNat)).2)
    else if pol = 1 then ([], [(p, (nx k l).2.1.toNat)], 17)
    else ((if pol = 2 then [65533] else []) ++ (decF k pol f (p + (nx k l).2.1.toNat) (l.drop (nx k l).2.1.toNat)).1, (p, (nx k l).2.1.toNat) :: (decF k pol f (p + (nx k l).2.1.toNat) (l.drop (nx k l).2.1.toNat)).2.1, (decF k pol f (p + (nx k l).2.1.toNat) (l.drop (nx k l).2.1.toNat)).2.2)
def dec (k : Nat) (pol : Int) (p : Nat) (l : List Nat) : List Int × List (Nat × Nat) × Int := decF k pol l.length p l

theorem decF_same (k : Nat) (pol : Int) : ∀ (m f : Nat) (p : Nat) (l : List Nat), l.length ≤ m → l.length ≤ f → decF k pol f p l = decF k pol l.length p l := by
  intro m
  induction m with
  | zero =>
    intro f p l hm hf
    have : l = [] := List.eq_nil_of_length_eq_zero (by omega)
    subst this
    cases f <;> simp [decF]
  | succ m ih =>
    intro f p l hm hf
    by_cases hl : l = []
    · subst hl
      cases f <;> simp [decF]
    obtain ⟨r, e, n, hx, h1, h2, h3, h4, h5⟩ := nx_step k l hl
    have hp : 0 < l.length := List.length_pos_iff.2 hl
    obtain ⟨f, rfl⟩ : ∃ g, f = g + 1 := ⟨f - 1, by omega⟩
    obtain ⟨g, hg⟩ : ∃ g, l.length = g + 1 := ⟨l.length - 1, by omega⟩
    have hd : (l.drop n).length ≤ m := by rw [List.length_drop]; omega
    have e1 := ih f (p + n) (l.drop n) hd (by rw [List.length_drop]; omega)
    have e2 := ih g (p + n) (l.drop n) hd (by rw [List.length_drop]; omega)
    rw [hg]
    simp only [decF, hl, hx, Int.toNat_natCast, e1, e2]

theorem dec_nil (k : Nat) (pol : Int) (p : Nat) : dec k pol p [] = ([], [], 0) := rfl
theorem dec_ok (k : Nat) (pol : Int) (p : Nat) (l : List Nat) (hl : l ≠ []) (r : Int) (n : Nat) (hx : nx k l = (r, (n : Int), 0)) (h1 : 1 ≤ n) : dec k pol p l = (r :: (dec k pol (p + n) (l.drop n)).1, (dec k pol (p + n) (l.drop n)).2) := by
  have hp : 0 < l.length := List.length_pos_iff.2 hl
  obtain ⟨g, hg⟩ : ∃ g, l.length = g + 1 := ⟨l.length - 1, by omega⟩
  have e2 := decF_same k pol (l.drop n).length g (p + n) (l.drop n) (Nat.le_refl _) (by rw [List.length_drop]; omega)
  unfold dec
  rw [hg]
  simp only [decF, hl, hx, Int.toNat_natCast, e2]
  simp
theorem dec_bad1 (k : Nat) (p : Nat) (l : List Nat) (hl : l ≠ []) (r e : Int) (n : Nat) (hx : nx k l = (r, (n : Int), e)) (he : e ≠ 0) : dec k 1 p l = ([], [(p, n)], 17) := by
  have hp : 0 < l.length := List.length_pos_iff.2 hl
  obtain ⟨g, hg⟩ : ∃ g, l.length = g + 1 := ⟨l.length - 1, by omega⟩
  unfold dec
  rw [hg]
  simp [decF, hl, hx, he]
theorem dec_bad (k : Nat) (pol : Int) (hpol : pol ≠ 1) (p : Nat) (l : List Nat) (hl : l ≠ []) (r e : Int) (n : Nat) (hx : nx k l = (r, (n : Int), e)) (he : e ≠ 0) (h1 : 1 ≤ n) :
    dec k pol p l = ((if pol = 2 then [65533] else []) ++ (dec k pol (p + n) (l.drop n)).1, (p, n) :: (dec k pol (p + n) (l.drop n)).2.1, (dec k pol (p + n) (l.drop n)).2.2) := by
  have hp : 0 < l.length := List.length_pos_iff.2 hl
  obtain ⟨g, hg⟩ : ∃ g, l.length = g + 1 := ⟨l.length - 1, by omega⟩
  have e2 := decF_same k pol (l.drop n).length g (p + n) (l.drop n) (Nat.le_refl _) (by rw [List.length_drop]; omega)
  unfold dec
  rw [hg]
  simp only [decF, hl, hx, Int.toNat_natCast, e2]
  simp [he, hpol]
theorem dec_err (k : Nat) (pol : Int) (hp : pol ≠ 1) : ∀ (m p : Nat) (l : List Nat), l.length ≤ m → (dec k pol p l).2.2 = 0 := by
  intro m
  induction m with
  | zero =>
    intro p l hl
    have : l = [] := List.eq_nil_of_length_eq_zero (by omega)
    subst this
    simp [dec_nil]
  | succ m ih =>
    intro p l hl
    by_cases hne : l = []
    · subst hne
      simp [dec_nil]
    obtain ⟨r, e, n, hx, h1, h2, h3, h4, h5⟩ := nx_step k l hne
    have hI := ih (p + n) (l.drop n) (by rw [List.length_drop]; omega)
    by_cases he : e = 0
    · subst he
      rw [dec_ok k pol p l hne r n hx h1]
      exact hI
    · rw [dec_bad k pol hp p l hne r e n hx he h1]
      exact hI
theorem dec_two_three (k : Nat) : ∀ (m p : Nat) (l : List Nat), l.length ≤ m → (dec k 2 p l).2.1 = (dec k 3 p l).2.1 ∧ (dec k 2 p l).1.length = (dec k 3 p l).1.length + (dec k 2 p l).2.1.length := by
  intro m
  induction m with
  | zero =>
    intro p l hl
    have : l = [] := List.eq_nil_of_length_eq_zero (by omega)
    subst this
    simp [dec_nil]
  | succ m ih =>
    intro p l hl
    by_cases hne : l = []
    · subst hne
      simp [dec_nil]
    obtain ⟨r, e, n, hx, h1, h2, h3, h4, h5⟩ := nx_step k l hne
    have hI := ih (p + n) (l.drop n) (by rw [List.length_drop]; omega)
    by_cases he : e = 0
    · subst he
      rw [dec_ok k 2 p l hne r n hx h1, dec_ok k 3 p l hne r n hx h1]
      simp only [List.length_cons]
      exact ⟨hI.1, by omega⟩
    · rw [dec_bad k 2 (by decide) p l hne r e n hx he h1, dec_bad k 3 (by decide) p l hne r e n hx he h1]
      simp
      exact ⟨hI.1, by omega⟩
theorem dec_from (k : Nat) (pol : Int) : ∀ (m p : Nat) (l : List Nat), l.length ≤ m → ∀ x ∈ (dec k pol p l).2.1, p ≤ x.1 ∧ x.1 + x.2 ≤ p + l.length := by
  intro m
  induction m with
  | zero =>
    intro p l hl
    have : l = [] := List.eq_nil_of_length_eq_zero (by omega)
    subst this
    simp [dec_nil]
  | succ m ih =>
    intro p l hl x hx'
    by_cases hne : l = []
    · subst hne
      simp [dec_nil] at hx'
    obtain ⟨r, e, n, hx, h1, h2, h3, h4, h5⟩ := nx_step k l hne
    have hI := ih (p + n) (l.drop n) (by rw [List.length_drop]; omega) x
    rw [List.length_drop] at hI
    by_cases he : e = 0
    · subst he
      rw [dec_ok k pol p l hne r n hx h1] at hx'
      have := hI hx'
      omega
    · by_cases hp : pol = 1
      · subst hp
        rw [dec_bad1 k p l hne r e n hx he] at hx'
        simp at hx'
        subst hx'
        simp
        omega
      · rw [dec_bad k pol hp p l hne r e n hx he h1] at hx'
        simp only [List.mem_cons] at hx'
        rcases hx' with rfl | hx'
        · simp; omega
        · have := hI hx'
          omega
theorem dec_shift (k : Nat) (pol : Int) : ∀ (m p j : Nat) (l : List Nat), l.length ≤ m → dec k pol (j + p) l = ((dec k pol p l).1, (dec k pol p l).2.1.map (fun x => (j + x.1, x.2)), (dec k pol p l).2.2) := by
  intro m
  induction m with
  | zero =>
    intro p j l hl
    have : l = [] := List.eq_nil_of_length_eq_zero (by omega)
    subst this
    simp [dec_nil]
  | succ m ih =>
    intro p j l hl
    by_cases hne : l = []
    · subst hne
      simp [dec_nil]
    obtain ⟨r, e, n, hx, h1, h2, h3, h4, h5⟩ := nx_step k l hne
    have hI := ih (p + n) j (l.drop n) (by rw [List.length_drop]; omega)
    rw [← Nat.add_assoc] at hI
    by_cases he : e = 0
    · subst he
      rw [dec_ok k pol (j + p) l hne r n hx h1, dec_ok k pol p l hne r n hx h1, hI]
    · by_cases hp : pol = 1
      · subst hp
        rw [dec_bad1 k (j + p) l hne r e n hx he, dec_bad1 k p l hne r e n hx he]
        simp
      · rw [dec_bad k pol hp (j + p) l hne r e n hx he h1, dec_bad k pol hp p l hne r e n hx he h1, hI]
        simp
theorem dec_lens (k : Nat) (pol : Int) : ∀ (m p : Nat) (l : List Nat), l.length ≤ m → (dec k pol p l).1.length ≤ l.length ∧ (dec k pol p l).2.1.length ≤ l.length := by
  intro m
  induction m with
  | zero =>
    intro p l hl
    have : l = [] := List.eq_nil_of_length_eq_zero (by omega)
    subst this
    simp [dec_nil]
  | succ m ih =>
    intro p l hl
    by_cases hne : l = []
    · subst hne
      simp [dec_nil]
    obtain ⟨r, e, n, hx, h1, h2, h3, h4, h5⟩ := nx_step k l hne
    have hI := ih (p + n) (l.drop n) (by rw [List.length_drop]; omega)
    rw [List.length_drop] at hI
    by_cases he : e = 0
    · subst he
      rw [dec_ok k pol p l hne r n hx h1]
      simp only [List.length_cons]
      omega
    · by_cases hp : pol = 1
      · subst hp
        rw [dec_bad1 k p l hne r e n hx he]
        simp
        omega
      · rw [dec_bad k pol hp p l hne r e n hx he h1]
        have : (if pol = 2 then [(65533 : Int)] else []).length ≤ 1 := by split <;> simp
        simp only [List.length_append, List.length_cons]
        omega
end Go.Proofs.YtohjkpdelopknaaDoor

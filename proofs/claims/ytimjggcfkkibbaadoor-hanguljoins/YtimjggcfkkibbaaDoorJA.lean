import Derived.Test.YtimjggcfkkibbaaDoorRows
namespace Go.Proofs.YtimjggcfkkibbaaDoor.Ha

/-- Whether a number is a syllable's. -/
def isS (r : Int) : Bool := decide (44032 ≤ r ∧ r ≤ 55203)
def ldN (r : Int) : Int := (r - 44032) / 588
def vwN (r : Int) : Int := (r - 44032) % 588 / 28
def tlN (r : Int) : Int := (r - 44032) % 588 % 28
theorem isS_iff (r : Int) : isS r = true ↔ 44032 ≤ r ∧ r ≤ 55203 := by simp [isS]
theorem isS_no (r : Int) : isS r = false ↔ ¬ (44032 ≤ r ∧ r ≤ 55203) := by simp only [isS, decide_eq_false_iff_not]
theorem of_parts {r : Int} : 588 * ldN r + 28 * vwN r + tlN r = r - 44032 := by unfold ldN vwN tlN; omega
theorem ldN_bd {r : Int} (h : isS r = true) : 0 ≤ ldN r ∧ ldN r < 19 := by rw [isS_iff] at h; unfold ldN; omega
theorem vwN_bd (r : Int) : 0 ≤ vwN r ∧ vwN r < 21 := by unfold vwN; omega
theorem tlN_bd (r : Int) : 0 ≤ tlN r ∧ tlN r < 28 := by unfold tlN; omega
theorem parts_of {a b c : Int} (hb : 0 ≤ b ∧ b < 21) (hc : 0 ≤ c ∧ c < 28) : ldN (44032 + 588 * a + 28 * b + c) = a ∧ vwN (44032 + 588 * a + 28 * b + c) = b ∧ tlN (44032 + 588 * a + 28 * b + c) = c := by
  unfold ldN vwN tlN
  refine ⟨?_, ?_, ?_⟩ <;> omega

/-- What Full answers. -/
def fullL (r : Int) : List Int := if isS r = true then (if tlN r = 0 then [4352 + ldN r, 4449 + vwN r] else [4352 + ldN r, 4449 + vwN r, 4519 + tlN r]) else []
/-- What Split answers. -/
def splE (r : Int) : Int × Int × Bool := if isS r = true then (if tlN r = 0 then (4352 + ldN r, 4449 + vwN r, true) else (r - tlN r, 4519 + tlN r, true)) else (0, 0, false)
def lvB (a b : Int) : Prop := (4352 ≤ a ∧ a ≤ 4370) ∧ (4449 ≤ b ∧ b ≤ 4469)
def stB (a b : Int) : Prop := (isS a = true ∧ tlN a = 0) ∧ (4520 ≤ b ∧ b ≤ 4546)
instance (a b : Int) : Decidable (lvB a b) := by unfold lvB; infer_instance
instance (a b : Int) : Decidable (stB a b) := by unfold stB; infer_instance
/-- What Join answers. -/
def joinE (a b : Int) : Int × Bool := if lvB a b then (44032 + (a - 4352) * 588 + (b - 4449) * 28, true) else if stB a b then (a + (b - 4519), true) else (0, false)
/-- What a number is replaced by in Parts. -/
def pt (r : Int) : List Int := if isS r = true then fullL r else [r]
def partsL (l : List Int) : List Int := l.flatMap pt
/-- A step of Syllables. -/
def sylS (out : List Int) (r : Int) : List Int := match out.getLast? with
  | none => [r]
  | some x => if (joinE x r).2 = true then out.dropLast ++ [(joinE x r).1] else out ++ [r]
def sylL (l : List Int) : List Int := l.foldl sylS []

def sylA : Int → List Int → List Int
  | c, [] => [c]
  | c, r :: l => if (joinE c r).2 = true then sylA (joinE c r).1 l else c :: sylA r l
theorem sylS_at (pre : List Int) (c r : Int) : sylS (pre ++ [c]) r = if (joinE c r).2 = true then pre ++ [(joinE c r).1] else pre ++ [c] ++ [r] := by
  simp [sylS]
theorem foldl_sylS : ∀ (l : List Int) (pre : List Int) (c : Int), l.foldl sylS (pre ++ [c]) = pre ++ sylA c l
  | [], pre, c => by simp [sylA]
  | r :: l, pre, c => by
    rw [List.foldl_cons, sylS_at]
    split
    · rename_i h
      rw [foldl_sylS l pre, sylA, if_pos h]
    · rename_i h
      rw [foldl_sylS l (pre ++ [c]), sylA, if_neg h]
      simp
theorem sylL_cons (c : Int) (l : List Int) : sylL (c :: l) = sylA c l := by
  have := foldl_sylS l [] c
  simpa [sylL, sylS] using this

/-- Join, as what it is. -/
theorem join_cases {a b : Int} (h : (joinE a b).2 = true) : (lvB a b ∧ joinE a b = (44032 + (a - 4352) * 588 + (b - 4449) * 28, true)) ∨ (stB a b ∧ joinE a b = (a + (b - 4519), true)) := by
  unfold joinE at h ⊢
  split
  · exact .inl ⟨by assumption, rfl⟩
  · split
    · exact .inr ⟨by assumption, rfl⟩
    · rename_i h1 h2
      rw [if_neg h1, if_neg h2] at h
      cases h
theorem lv_syl {a b : Int} (h : lvB a b) : isS (44032 + (a - 4352) * 588 + (b - 4449) * 28) = true ∧ ldN (44032 + (a - 4352) * 588 + (b - 4449) * 28) = a - 4352 ∧ vwN (44032 + (a - 4352) * 588 + (b - 4449) * 28) = b - 4449 ∧ tlN (44032 + (a - 4352) * 588 + (b - 4449) * 28) = 0 := by
  obtain ⟨h1, h2⟩ := h
  have e : 44032 + (a - 4352) * 588 + (b - 4449) * 28 = 44032 + 588 * (a - 4352) + 28 * (b - 4449) + 0 := by omega
  have := parts_of (a := a - 4352) (b := b - 4449) (c := 0) (by omega) (by omega)
  rw [e]
  exact ⟨by rw [isS_iff]; omega, this⟩
theorem st_syl {a b : Int} (h : stB a b) : isS (a + (b - 4519)) = true ∧ ldN (a + (b - 4519)) = ldN a ∧ vwN (a + (b - 4519)) = vwN a ∧ tlN (a + (b - 4519)) = b - 4519 := by
  obtain ⟨⟨h1, h3⟩, h2⟩ := h
  have hp := of_parts (r := a)
  have hb := vwN_bd a
  have hl := ldN_bd h1
  rw [h3] at hp
  have e : a + (b - 4519) = 44032 + 588 * ldN a + 28 * vwN a + (b - 4519) := by omega
  have := parts_of (a := ldN a) (b := vwN a) (c := b - 4519) hb (by omega)
  rw [e]
  exact ⟨by rw [isS_iff]; omega, this⟩
theorem join_isS {a b : Int} (h : (joinE a b).2 = true) : isS (joinE a b).1 = true := by
  rcases join_cases h with ⟨h1, e⟩ | ⟨h1, e⟩ <;> rw [e]
  · exact (lv_syl h1).1
  · exact (st_syl h1).1
theorem pt_no {r : Int} (h : isS r = false) : pt r = [r] := by simp [pt, h]
theorem pt_is {r : Int} (h : isS r = true) : pt r = fullL r := by simp [pt, h]
theorem pt_join {a b : Int} (h : (joinE a b).2 = true) : pt (joinE a b).1 = pt a ++ pt b := by
  rcases join_cases h with ⟨h1, e⟩ | ⟨h1, e⟩ <;> rw [e]
  · obtain ⟨s1, s2, s3, s4⟩ := lv_syl h1
    obtain ⟨k1, k2⟩ := h1
    rw [pt_is s1, pt_no (show isS a = false by rw [isS_no]; omega), pt_no (show isS b = false by rw [isS_no]; omega)]
    unfold fullL
    rw [if_pos s1, if_pos s4, s2, s3]
    simp
    omega
  · obtain ⟨s1, s2, s3, s4⟩ := st_syl h1
    obtain ⟨⟨k1, k3⟩, k2⟩ := h1
    rw [pt_is s1, pt_is k1, pt_no (show isS b = false by rw [isS_no]; omega)]
    unfold fullL
    rw [if_pos s1, if_neg (by omega), s2, s3, s4, if_pos k1, if_pos k3]
    simp
    omega
theorem parts_sylA : ∀ (l : List Int) (c : Int), partsL (sylA c l) = partsL (c :: l)
  | [], c => rfl
  | r :: l, c => by
    rw [sylA]
    split
    · rename_i h
      rw [parts_sylA l]
      simp only [partsL, List.flatMap_cons, pt_join h, List.append_assoc]
    · simp only [partsL, List.flatMap_cons] at *
      have := parts_sylA l r
      simp only [partsL, List.flatMap_cons] at this
      rw [this]
theorem parts_syl (l : List Int) : partsL (sylL l) = partsL l := by
  cases l with
  | nil => rfl
  | cons c l => rw [sylL_cons]; exact parts_sylA l c
theorem pt_mem {r x : Int} (h : x ∈ pt r) : isS x = false := by
  unfold pt at h
  split at h
  · rename_i hr
    have h1 := ldN_bd hr
    have h2 := vwN_bd r
    have h3 := tlN_bd r
    unfold fullL at h
    rw [if_pos hr] at h
    rw [isS_no]
    split at h <;> simp at h <;> omega
  · simp at h
    subst h
    rename_i hr
    simpa using hr
theorem parts_none : ∀ (l : List Int), (∀ x ∈ l, isS x = false) → partsL l = l
  | [], _ => rfl
  | x :: l, h => by
    have := parts_none l fun y hy => h y (.tail _ hy)
    simp only [partsL, List.flatMap_cons] at this ⊢
    rw [pt_no (h x (.head _)), this]
    rfl
theorem parts_parts (l : List Int) : partsL (partsL l) = partsL l := parts_none _ fun x hx => by
  simp only [partsL, List.mem_flatMap] at hx
  obtain ⟨r, _, hr⟩ := hx
  exact pt_mem hr

/-- Nothing joins with a syllable behind it. -/
theorem join_syl {a b : Int} (h : isS b = true) : (joinE a b).2 = false := by
  rw [isS_iff] at h
  unfold joinE
  rw [if_neg (by unfold lvB; omega), if_neg (by unfold stB; rw [isS_iff]; omega)]
theorem sylA_head : ∀ (l : List Int) (c : Int), ∃ x t, sylA c l = x :: t ∧ (x = c ∨ isS x = true)
  | [], c => ⟨c, [], rfl, .inl rfl⟩
  | r :: l, c => by
    rw [sylA]
    split
    · rename_i h
      obtain ⟨x, t, e, hx⟩ := sylA_head l (joinE c r).1
      refine ⟨x, t, e, .inr ?_⟩
      rcases hx with rfl | hx
      · exact join_isS h
      · exact hx
    · exact ⟨c, _, rfl, .inl rfl⟩
/-- No two neighbours join. -/
def apart : List Int → Prop
  | [] => True
  | [_] => True
  | a :: b :: l => (joinE a b).2 = false ∧ apart (b :: l)
theorem sylA_apart : ∀ (l : List Int) (c : Int), apart (sylA c l)
  | [], c => trivial
  | r :: l, c => by
    rw [sylA]
    split
    · exact sylA_apart l _
    · rename_i h
      have h1 := sylA_apart l r
      obtain ⟨x, t, e, hx⟩ := sylA_head l r
      rw [e] at h1 ⊢
      refine ⟨?_, h1⟩
      rcases hx with rfl | hx
      · simpa using h
      · exact join_syl hx
theorem syl_of_apart : ∀ (l : List Int) (c : Int), apart (c :: l) → sylA c l = c :: l
  | [], c, _ => rfl
  | r :: l, c, h => by
    rw [sylA, if_neg (by simp [h.1]), syl_of_apart l r h.2]
theorem syl_syl (l : List Int) : sylL (sylL l) = sylL l := by
  cases l with
  | nil => rfl
  | cons c l =>
    rw [sylL_cons]
    obtain ⟨x, t, e, _⟩ := sylA_head l c
    have h := sylA_apart l c
    rw [e] at h ⊢
    rw [sylL_cons]
    exact syl_of_apart t x h
theorem sylA_len : ∀ (l : List Int) (c : Int), (sylA c l).length ≤ l.length + 1
  | [], c => by simp [sylA]
  | r :: l, c => by
    rw [sylA]
    split
    · have := sylA_len l (joinE c r).1; simp; omega
    · have := sylA_len l r; simp; omega
theorem syl_len (l : List Int) : (sylL l).length ≤ l.length := by
  cases l with
  | nil => simp [sylL]
  | cons c l => rw [sylL_cons]; exact sylA_len l c
/-- Lead and vowel of a syllable join to what it is without its tail; the tail joins to it. -/
theorem join_lv {r : Int} (h : isS r = true) : joinE (4352 + ldN r) (4449 + vwN r) = (r - tlN r, true) := by
  have h1 := ldN_bd h
  have h2 := vwN_bd r
  have h3 := of_parts (r := r)
  unfold joinE
  rw [if_pos ⟨by omega, by omega⟩]
  simp
  omega
theorem bare {r : Int} (h : isS r = true) : isS (r - tlN r) = true ∧ ldN (r - tlN r) = ldN r ∧ vwN (r - tlN r) = vwN r ∧ tlN (r - tlN r) = 0 := by
  have h1 := ldN_bd h
  have h2 := vwN_bd r
  have h3 := of_parts (r := r)
  have h4 := tlN_bd r
  have e : r - tlN r = 44032 + 588 * ldN r + 28 * vwN r + 0 := by omega
  have := parts_of (a := ldN r) (b := vwN r) (c := 0) h2 (by omega)
  rw [e]
  exact ⟨by rw [isS_iff]; omega, this⟩
theorem join_st {r : Int} (h : isS r = true) (ht : tlN r ≠ 0) : joinE (r - tlN r) (4519 + tlN r) = (r, true) := by
  obtain ⟨b1, b2, b3, b4⟩ := bare h
  have h4 := tlN_bd r
  rw [isS_iff] at b1
  unfold joinE
  rw [if_neg (by unfold lvB; omega), if_pos ⟨⟨by rw [isS_iff]; exact b1, b4⟩, by omega, by omega⟩, show r - tlN r + (4519 + tlN r - 4519) = r by omega]
/-- What begins with a lead does not join to a syllable. -/
theorem join_lead {a b : Int} (h : isS a = true) (hb : b ≤ 4370) : (joinE a b).2 = false := by
  rw [isS_iff] at h
  unfold joinE
  rw [if_neg (by unfold lvB; omega), if_neg (by unfold stB; rw [isS_iff]; omega)]
theorem pt_shape {r : Int} (h : isS r = true) : ∃ x t, pt r = x :: t ∧ x ≤ 4370 ∧ ∀ l : List Int, (∀ b, l.head? = some b → b ≤ 4370) → sylA x (t ++ l) = r :: (match l with | [] => [] | b :: l => sylA b l) := by
  have h1 := ldN_bd h
  rw [pt_is h]
  unfold fullL
  rw [if_pos h]
  have j1 := join_lv h
  by_cases ht : tlN r = 0
  · rw [if_pos ht]
    refine ⟨_, _, rfl, by omega, fun l hl => ?_⟩
    rw [ht, Int.sub_zero] at j1
    simp only [List.cons_append, List.nil_append, sylA]
    rw [j1]
    simp only [if_true]
    cases l with
    | nil => rfl
    | cons b l => rw [sylA, if_neg (by rw [join_lead h (hl b rfl)]; simp)]
  · rw [if_neg ht]
    refine ⟨_, _, rfl, by omega, fun l hl => ?_⟩
    have j2 := join_st h ht
    simp only [List.cons_append, List.nil_append, sylA]
    rw [j1]
    simp only [if_true]
    rw [j2]
    simp only [if_true]
    cases l with
    | nil => rfl
    | cons b l => rw [sylA, if_neg (by rw [join_lead h (hl b rfl)]; simp)]
theorem parts_head : ∀ (l : List Int), (∀ x ∈ l, isS x = true) → ∀ b, (partsL l).head? = some b → b ≤ 4370
  | [], _, b, h => by cases h
  | r :: l, hl, b, h => by
    obtain ⟨x, t, e, hx, _⟩ := pt_shape (hl r (.head _))
    simp only [partsL, List.flatMap_cons, e, List.cons_append, List.head?_cons, Option.some.injEq] at h
    omega
/-- Syllables of Parts of syllables alone is them. -/
theorem syl_parts : ∀ (l : List Int), (∀ x ∈ l, isS x = true) → sylL (partsL l) = l
  | [], _ => rfl
  | r :: l, hl => by
    have ih := syl_parts l fun x hx => hl x (.tail _ hx)
    have hh := parts_head l fun x hx => hl x (.tail _ hx)
    obtain ⟨x, t, e, _, hs⟩ := pt_shape (hl r (.head _))
    have e2 : partsL (r :: l) = x :: (t ++ partsL l) := by simp [partsL, e]
    rw [e2, sylL_cons, hs _ hh]
    generalize partsL l = p at ih
    cases p with
    | nil => rw [← ih]; rfl
    | cons b p => rw [sylL_cons] at ih; simp only [ih]
/-- Join of Split. -/
theorem join_split {r : Int} (h : isS r = true) : joinE (splE r).1 (splE r).2.1 = (r, true) ∧ isS (splE r).2.1 = false := by
  have h1 := ldN_bd h
  have h2 := vwN_bd r
  have h4 := tlN_bd r
  unfold splE
  rw [if_pos h]
  split
  · rename_i ht
    have := join_lv h
    rw [ht, Int.sub_zero] at this
    exact ⟨this, by rw [isS_no]; show ¬ (44032 ≤ 4449 + vwN r ∧ _); omega⟩
  · rename_i ht
    exact ⟨join_st h ht, by rw [isS_no]; show ¬ (44032 ≤ 4519 + tlN r ∧ _); omega⟩
theorem split_no {r : Int} (h : isS r = false) : splE r = (0, 0, false) := by simp [splE, h]
theorem split_is (r : Int) : (splE r).2.2 = isS r := by
  unfold splE
  split
  · rename_i h; rw [h]; split <;> rfl
  · rename_i h; simpa using h
theorem split_join {a b : Int} (h : (joinE a b).2 = true) : splE (joinE a b).1 = (a, b, true) := by
  have hs := join_isS h
  rcases join_cases h with ⟨h1, e⟩ | ⟨h1, e⟩ <;> rw [e] at hs ⊢
  · obtain ⟨s1, s2, s3, s4⟩ := lv_syl h1
    unfold splE
    rw [if_pos s1, if_pos s4, s2, s3]
    simp
    omega
  · obtain ⟨s1, s2, s3, s4⟩ := st_syl h1
    obtain ⟨⟨k1, k3⟩, k2⟩ := h1
    show splE (a + (b - 4519)) = (a, b, true)
    unfold splE
    rw [if_pos s1, if_neg (by omega), s4, show a + (b - 4519) - (b - 4519) = a by omega, show 4519 + (b - 4519) = b by omega]
theorem join_no {a b : Int} (h : (joinE a b).2 = false) : joinE a b = (0, false) := by
  unfold joinE at h ⊢
  split
  · rename_i h1; rw [if_pos h1] at h; cases h
  · rename_i h1
    rw [if_neg h1] at h
    split
    · rename_i h2; rw [if_pos h2] at h; cases h
    · rfl
/-- Full is Split again and again. -/
theorem full_split {r : Int} (h : isS r = true) : fullL r = if (splE (splE r).1).2.2 = true then [(splE (splE r).1).1, (splE (splE r).1).2.1, (splE r).2.1] else [(splE r).1, (splE r).2.1] := by
  have h1 := ldN_bd h
  obtain ⟨b1, b2, b3, b4⟩ := bare h
  rw [split_is]
  unfold fullL
  rw [if_pos h]
  by_cases ht : tlN r = 0
  · have e : splE r = (4352 + ldN r, 4449 + vwN r, true) := by unfold splE; rw [if_pos h, if_pos ht]
    rw [e, if_pos ht, if_neg (by rw [isS_iff]; simp only; omega)]
  · have e : splE r = (r - tlN r, 4519 + tlN r, true) := by unfold splE; rw [if_pos h, if_neg ht]
    have e2 : splE (r - tlN r) = (4352 + ldN r, 4449 + vwN r, true) := by unfold splE; rw [if_pos b1, if_pos b4, b2, b3]
    rw [e, if_neg ht]
    simp only
    rw [if_pos b1, e2]
theorem full_inj {r s : Int} (h : isS r = true) (e : fullL r = fullL s) : r = s := by
  by_cases hs : isS s = true
  · have h1 := of_parts (r := r)
    have h2 := of_parts (r := s)
    have h3 := tlN_bd r
    have h4 := tlN_bd s
    unfold fullL at e
    rw [if_pos h, if_pos hs] at e
    split at e <;> split at e <;> simp at e <;> omega
  · unfold fullL at e
    rw [if_pos h, if_neg hs] at e
    split at e <;> cases e
theorem syl_full {r : Int} (h : isS r = true) : sylL (fullL r) = [r] := by
  have := syl_parts [r] (by simp [h])
  simpa [partsL, pt_is h] using this

end Go.Proofs.YtimjggcfkkibbaaDoor.Ha

import Derived.Test.YtagbeioooohbgaaGreatDoorRows
section
namespace Go.Proofs.YtagbeioooohbgaaGreatDoor.Ha

/-- Whether a number is a syllable's. -/
def isS (r : Int) : Bool := decide (44032 ≤ r ∧ r ≤ 55203)
def ldN (r : Int) : Int := (r - 44032) / 588
def vwN (r : Int) : Int := (r - 44032) % 588 / 28
def tlN (r : Int) : Int := (r - 44032) % 588 % 28
theorem isS_iff (r : Int) : isS r = true ↔ 44032 ≤ r ∧ r ≤ 55203 := by simp [isS]
theorem isS_no (r : Int) : isS r = false ↔ ¬ (44032 ≤ r ∧ r ≤ 55203) := by simp only [isS, decide_eq_false_iff_not]
theorem of_parts {r : Int} : 588 * ldN r + 28 * vwN r + tlN r = r - 44032 := by unfold ldN vwN tlN; omega
theorem ldN_bd {r : Int} (h : isS r = true) : 0 ≤ ldN r ∧ ldN r < 19 := by rw [isS_iff] at h; unfold ldN; omega
theorem vwN_bd (r : Int) : 0 ≤ vwN r ∧ vwN r < 21 := by unfold vwN; omega
theorem tlN_bd (r : Int) : 0 ≤ tlN r ∧ tlN r < 28 := by unfold tlN; omega
theorem parts_of {a b c : Int} (hb : 0 ≤ b ∧ b < 21) (hc : 0 ≤ c ∧ c < 28) : ldN (44032 + 588 * a + 28 * b + c) = a ∧ vwN (44032 + 588 * a + 28 * b + c) = b ∧ tlN (44032 + 588 * a + 28 * b + c) = c := by
  unfold ldN vwN tlN
  refine ⟨?_, ?_, ?_⟩ <;> omega

/-- What Full answers. -/
def fullL (r : Int) : List Int := if isS r = true then (if tlN r = 0 then [4352 + ldN r, 4449 + vwN r] else [4352 + ldN r, 4449 + vwN r, 4519 + tlN r]) else []
/-- What Split answers. -/
def splE (r : Int) : Int × Int × Bool := if isS r = true then (if tlN r = 0 then (4352 + ldN r, 4449 + vwN r, true) else (r - tlN r, 4519 + tlN r, true)) else (0, 0, false)
def lvB (a b : Int) : Prop := (4352 ≤ a ∧ a ≤ 4370) ∧ (4449 ≤ b ∧ b ≤ 4469)
def stB (a b : Int) : Prop := (isS a = true ∧ tlN a = 0) ∧ (4520 ≤ b ∧ b ≤ 4546)
instance (a b : Int) : Decidable (lvB a b) := by unfold lvB; infer_instance
instance (a b : Int) : Decidable (stB a b) := by unfold stB; infer_instance
/-- What Join answers. -/
def joinE (a b : Int) : Int × Bool := if lvB a b then (44032 + (a - 4352) * 588 + (b - 4449) * 28, true) else if stB a b then (a + (b - 4519), true) else (0, false)
/-- What a number is replaced by in Parts. -/
def pt (r : Int) : List Int := if isS r = true then fullL r else [r]
def partsL (l : List Int) : List Int := l.flatMap pt
/-- A step of Syllables. -/
def sylS (out : List Int) (r : Int) : List Int := match out.getLast? with
  | none => [r]
  | some x => if (joinE x r).2 = true then out.dropLast ++ [(joinE x r).1] else out ++ [r]
def sylL (l : List Int) : List Int := l.foldl sylS []

def sylA : Int → List Int → List Int
  | c, [] => [c]
  | c, r :: l => if (joinE c r).2 = true then sylA (joinE c r).1 l else c :: sylA r l
theorem sylS_at (pre : List Int) (c r : Int) : sylS (pre ++ [c]) r = if (joinE c r).2 = true then pre ++ [(joinE c r).1] else pre ++ [c] ++ [r] := by
  simp [sylS]
theorem foldl_sylS : ∀ (l : List Int) (pre : List Int) (c : Int), l.foldl sylS (pre ++ [c]) = pre ++ sylA c l
  | [], pre, c => by simp [sylA]
  | r :: l, pre, c => by
    rw [List.foldl_cons, sylS_at]
    split
    · rename_i h
      rw [foldl_sylS l pre, sylA, if_pos h]
    · rename_i h
      rw [foldl_sylS l (pre ++ [c]), sylA, if_neg h]
      simp
theorem sylL_cons (c : Int) (l : List Int) : sylL (c :: l) = sylA c l := by
  have := foldl_sylS l [] c
  simpa [sylL, sylS] using this

/-- Join, as what it is. -/
theorem join_cases {a b : Int} (h : (joinE a b).2 = true) : (lvB a b ∧ joinE a b = (44032 + (a - 4352) * 588 + (b - 4449) * 28, true)) ∨ (stB a b ∧ joinE a b = (a + (b - 4519), true)) := by
  unfold joinE at h ⊢
  split
  · exact .inl ⟨by assumption, rfl⟩
  · split
    · exact .inr ⟨by assumption, rfl⟩
    · rename_i h1 h2
      rw [if_neg h1, if_neg h2] at h
      cases h
theorem lv_syl {a b : Int} (h : lvB a b) : isS (44032 + (a - 4352) * 588 + (b - 4449) * 28) = true ∧ ldN (44032 + (a - 4352) * 588 + (b - 4449) * 28) = a - 4352 ∧ vwN (44032 + (a - 4352) * 588 + (b - 4449) * 28) = b - 4449 ∧ tlN (44032 + (a - 4352) * 588 + (b - 4449) * 28) = 0 := by
  obtain ⟨h1, h2⟩ := h
  have e : 44032 + (a - 4352) * 588 + (b - 4449) * 28 = 44032 + 588 * (a - 4352) + 28 * (b - 4449) + 0 := by omega
  have := parts_of (a := a - 4352) (b := b - 4449) (c := 0) (by omega) (by omega)
  rw [e]
  exact ⟨by rw [isS_iff]; omega, this⟩
theorem st_syl {a b : Int} (h : stB a b) : isS (a + (b - 4519)) = true ∧ ldN (a + (b - 4519)) = ldN a ∧ vwN (a + (b - 4519)) = vwN a ∧ tlN (a + (b - 4519)) = b - 4519 := by
  obtain ⟨⟨h1, h3⟩, h2⟩ := h
  have hp := of_parts (r := a)
  have hb := vwN_bd a
  have hl := ldN_bd h1
  rw [h3] at hp
  have e : a + (b - 4519) = 44032 + 588 * ldN a + 28 * vwN a + (b - 4519) := by omega
  have := parts_of (a := ldN a) (b := vwN a) (c := b - 4519) hb (by omega)
  rw [e]
  exact ⟨by rw [isS_iff]; omega, this⟩
theorem join_isS {a b : Int} (h : (joinE a b).2 = true) : isS (joinE a b).1 = true := by
  rcases join_cases h with ⟨h1, e⟩ | ⟨h1, e⟩ <;> rw [e]
  · exact (lv_syl h1).1
  · exact (st_syl h1).1
theorem pt_no {r : Int} (h : isS r = false) : pt r = [r] := by simp [pt, h]
theorem pt_is {r : Int} (h : isS r = true) : pt r = fullL r := by simp [pt, h]
theorem pt_join {a b : Int} (h : (joinE a b).2 = true) : pt (joinE a b).1 = pt a ++ pt b := by
  rcases join_cases h with ⟨h1, e⟩ | ⟨h1, e⟩ <;> rw [e]
  · obtain ⟨s1, s2, s3, s4⟩ := lv_syl h1
    obtain ⟨k1, k2⟩ := h1
    rw [pt_is s1, pt_no (show isS a = false by rw [isS_no]; omega), pt_no (show isS b = false by rw [isS_no]; omega)]
    unfold fullL
    rw [if_pos s1, if_pos s4, s2, s3]
    simp
    omega
  · obtain ⟨s1, s2, s3, s4⟩ := st_syl h1
    obtain ⟨⟨k1, k3⟩, k2⟩ := h1
    rw [pt_is s1, pt_is k1, pt_no (show isS b = false by rw [isS_no]; omega)]
    unfold fullL
    rw [if_pos s1, if_neg (by omega), s2, s3, s4, if_pos k1, if_pos k3]
    simp
    omega
theorem parts_sylA : ∀ (l : List Int) (c : Int), partsL (sylA c l) = partsL (c :: l)
  | [], c => rfl
  | r :: l, c => by
    rw [sylA]
    split
    · rename_i h
      rw [parts_sylA l]
      simp only [partsL, List.flatMap_cons, pt_join h, List.append_assoc]
    · simp only [partsL, List.flatMap_cons] at *
      have := parts_sylA l r
      simp only [partsL, List.flatMap_cons] at this
      rw [this]
theorem parts_syl (l : List Int) : partsL (sylL l) = partsL l := by
  cases l with
  | nil => rfl
  | cons c l => rw [sylL_cons]; exact parts_sylA l c
theorem pt_mem {r x : Int} (h : x ∈ pt r) : isS x = false := by
  unfold pt at h
  split at h
  · rename_i hr
    have h1 := ldN_bd hr
    have h2 := vwN_bd r
    have h3 := tlN_bd r
    unfold fullL at h
    rw [if_pos hr] at h
    rw [isS_no]
    split at h <;> simp at h <;> omega
  · simp at h
    subst h
    rename_i hr
    simpa using hr
theorem parts_none : ∀ (l : List Int), (∀ x ∈ l, isS x = false) → partsL l = l
  | [], _ => rfl
  | x :: l, h => by
    have := parts_none l fun y hy => h y (.tail _ hy)
    simp only [partsL, List.flatMap_cons] at this ⊢
    rw [pt_no (h x (.head _)), this]
    rfl
theorem parts_parts (l : List Int) : partsL (partsL l) = partsL l := parts_none _ fun x hx => by
  simp only [partsL, List.mem_flatMap] at hx
  obtain ⟨r, _, hr⟩ := hx
  exact pt_mem hr

/-- Nothing joins with a syllable behind it. -/
theorem join_syl {a b : Int} (h : isS b = true) : (joinE a b).2 = false := by
  rw [isS_iff] at h
  unfold joinE
  rw [if_neg (by unfold lvB; omega), if_neg (by unfold stB; rw [isS_iff]; omega)]
theorem sylA_head : ∀ (l : List Int) (c : Int), ∃ x t, sylA c l = x :: t ∧ (x = c ∨ isS x = true)
  | [], c => ⟨c, [], rfl, .inl rfl⟩
  | r :: l, c => by
    rw [sylA]
    split
    · rename_i h
      obtain ⟨x, t, e, hx⟩ := sylA_head l (joinE c r).1
      refine ⟨x, t, e, .inr ?_⟩
      rcases hx with rfl | hx
      · exact join_isS h
      · exact hx
    · exact ⟨c, _, rfl, .inl rfl⟩
/-- No two neighbours join. -/
def apart : List Int → Prop
  | [] => True
  | [_] => True
  | a :: b :: l => (joinE a b).2 = false ∧ apart (b :: l)
theorem sylA_apart : ∀ (l : List Int) (c : Int), apart (sylA c l)
  | [], c => trivial
  | r :: l, c => by
    rw [sylA]
    split
    · exact sylA_apart l _
    · rename_i h
      have h1 := sylA_apart l r
      obtain ⟨x, t, e, hx⟩ := sylA_head l r
      rw [e] at h1 ⊢
      refine ⟨?_, h1⟩
      rcases hx with rfl | hx
      · simpa using h
      · exact join_syl hx
theorem syl_of_apart : ∀ (l : List Int) (c : Int), apart (c :: l) → sylA c l = c :: l
  | [], c, _ => rfl
  | r :: l, c, h => by
    rw [sylA, if_neg (by simp [h.1]), syl_of_apart l r h.2]
theorem syl_syl (l : List Int) : sylL (sylL l) = sylL l := by
  cases l with
  | nil => rfl
  | cons c l =>
    rw [sylL_cons]
    obtain ⟨x, t, e, _⟩ := sylA_head l c
    have h := sylA_apart l c
    rw [e] at h ⊢
    rw [sylL_cons]
    exact syl_of_apart t x h
theorem sylA_len : ∀ (l : List Int) (c : Int), (sylA c l).length ≤ l.length + 1
  | [], c => by simp [sylA]
  | r :: l, c => by
    rw [sylA]
    split
    · have := sylA_len l (joinE c r).1; simp; omega
    · have := sylA_len l r; simp; omega
theorem syl_len (l : List Int) : (sylL l).length ≤ l.length := by
  cases l with
  | nil => simp [sylL]
  | cons c l => rw [sylL_cons]; exact sylA_len l c
/-- Lead and vowel of a syllable join to what it is without its tail; the tail joins to it. -/
theorem join_lv {r : Int} (h : isS r = true) : joinE (4352 + ldN r) (4449 + vwN r) = (r - tlN r, true) := by
  have h1 := ldN_bd h
  have h2 := vwN_bd r
  have h3 := of_parts (r := r)
  unfold joinE
  rw [if_pos ⟨by omega, by omega⟩]
  simp
  omega
theorem bare {r : Int} (h : isS r = true) : isS (r - tlN r) = true ∧ ldN (r - tlN r) = ldN r ∧ vwN (r - tlN r) = vwN r ∧ tlN (r - tlN r) = 0 := by
  have h1 := ldN_bd h
  have h2 := vwN_bd r
  have h3 := of_parts (r := r)
  have h4 := tlN_bd r
  have e : r - tlN r = 44032 + 588 * ldN r + 28 * vwN r + 0 := by omega
  have := parts_of (a := ldN r) (b := vwN r) (c := 0) h2 (by omega)
  rw [e]
  exact ⟨by rw [isS_iff]; omega, this⟩
theorem join_st {r : Int} (h : isS r = true) (ht : tlN r ≠ 0) : joinE (r - tlN r) (4519 + tlN r) = (r, true) := by
  obtain ⟨b1, b2, b3, b4⟩ := bare h
  have h4 := tlN_bd r
  rw [isS_iff] at b1
  unfold joinE
  rw [if_neg (by unfold lvB; omega), if_pos ⟨⟨by rw [isS_iff]; exact b1, b4⟩, by omega, by omega⟩, show r - tlN r + (4519 + tlN r - 4519) = r by omega]
/-- What begins with a lead does not join to a syllable. -/
theorem join_lead {a b : Int} (h : isS a = true) (hb : b ≤ 4370) : (joinE a b).2 = false := by
  rw [isS_iff] at h
  unfold joinE
  rw [if_neg (by unfold lvB; omega), if_neg (by unfold stB; rw [isS_iff]; omega)]
theorem pt_shape {r : Int} (h : isS r = true) : ∃ x t, pt r = x :: t ∧ x ≤ 4370 ∧ ∀ l : List Int, (∀ b, l.head? = some b → b ≤ 4370) → sylA x (t ++ l) = r :: (match l with | [] => [] | b :: l => sylA b l) := by
  have h1 := ldN_bd h
  rw [pt_is h]
  unfold fullL
  rw [if_pos h]
  have j1 := join_lv h
  by_cases ht : tlN r = 0
  · rw [if_pos ht]
    refine ⟨_, _, rfl, by omega, fun l hl => ?_⟩
    rw [ht, Int.sub_zero] at j1
    simp only [List.cons_append, List.nil_append, sylA]
    rw [j1]
    simp only [if_true]
    cases l with
    | nil => rfl
    | cons b l => rw [sylA, if_neg (by rw [join_lead h (hl b rfl)]; simp)]
  · rw [if_neg ht]
    refine ⟨_, _, rfl, by omega, fun l hl => ?_⟩
    have j2 := join_st h ht
    simp only [List.cons_append, List.nil_append, sylA]
    rw [j1]
    simp only [if_true]
    rw [j2]
    simp only [if_true]
    cases l with
    | nil => rfl
    | cons b l => rw [sylA, if_neg (by rw [join_lead h (hl b rfl)]; simp)]
theorem parts_head : ∀ (l : List Int), (∀ x ∈ l, isS x = true) → ∀ b, (partsL l).head? = some b → b ≤ 4370
  | [], _, b, h => by cases h
  | r :: l, hl, b, h => by
    obtain ⟨x, t, e, hx, _⟩ := pt_shape (hl r (.head _))
    simp only [partsL, List.flatMap_cons, e, List.cons_append, List.head?_cons, Option.some.injEq] at h
    omega
/-- Syllables of Parts of syllables alone is them. -/
theorem syl_parts : ∀ (l : List Int), (∀ x ∈ l, isS x = true) → sylL (partsL l) = l
  | [], _ => rfl
  | r :: l, hl => by
    have ih := syl_parts l fun x hx => hl x (.tail _ hx)
    have hh := parts_head l fun x hx => hl x (.tail _ hx)
    obtain ⟨x, t, e, _, hs⟩ := pt_shape (hl r (.head _))
    have e2 : partsL (r :: l) = x :: (t ++ partsL l) := by simp [partsL, e]
    rw [e2, sylL_cons, hs _ hh]
    generalize partsL l = p at ih
    cases p with
    | nil => rw [← ih]; rfl
    | cons b p => rw [sylL_cons] at ih; simp only [ih]
/-- Join of Split. -/
theorem join_split {r : Int} (h : isS r = true) : joinE (splE r).1 (splE r).2.1 = (r, true) ∧ isS (splE r).2.1 = false := by
  have h1 := ldN_bd h
  have h2 := vwN_bd r
  have h4 := tlN_bd r
  unfold splE
  rw [if_pos h]
  split
  · rename_i ht
    have := join_lv h
    rw [ht, Int.sub_zero] at this
    exact ⟨this, by rw [isS_no]; show ¬ (44032 ≤ 4449 + vwN r ∧ _); omega⟩
  · rename_i ht
    exact ⟨join_st h ht, by rw [isS_no]; show ¬ (44032 ≤ 4519 + tlN r ∧ _); omega⟩
theorem split_no {r : Int} (h : isS r = false) : splE r = (0, 0, false) := by simp [splE, h]
theorem split_is (r : Int) : (splE r).2.2 = isS r := by
  unfold splE
  split
  · rename_i h; rw [h]; split <;> rfl
  · rename_i h; simpa using h
theorem split_join {a b : Int} (h : (joinE a b).2 = true) : splE (joinE a b).1 = (a, b, true) := by
  have hs := join_isS h
  rcases join_cases h with ⟨h1, e⟩ | ⟨h1, e⟩ <;> rw [e] at hs ⊢
  · obtain ⟨s1, s2, s3, s4⟩ := lv_syl h1
    unfold splE
    rw [if_pos s1, if_pos s4, s2, s3]
    simp
    omega
  · obtain ⟨s1, s2, s3, s4⟩ := st_syl h1
    obtain ⟨⟨k1, k3⟩, k2⟩ := h1
    show splE (a + (b - 4519)) = (a, b, true)
    unfold splE
    rw [if_pos s1, if_neg (by omega), s4, show a + (b - 4519) - (b - 4519) = a by omega, show 4519 + (b - 4519) = b by omega]
theorem join_no {a b : Int} (h : (joinE a b).2 = false) : joinE a b = (0, false) := by
  unfold joinE at h ⊢
  split
  · rename_i h1; rw [if_pos h1] at h; cases h
  · rename_i h1
    rw [if_neg h1] at h
    split
    · rename_i h2; rw [if_pos h2] at h; cases h
    · rfl
/-- Full is Split again and again. -/
theorem full_split {r : Int} (h : isS r = true) : fullL r = if (splE (splE r).1).2.2 = true then [(splE (splE r).1).1, (splE (splE r).1).2.1, (splE r).2.1] else [(splE r).1, (splE r).2.1] := by
  have h1 := ldN_bd h
  obtain ⟨b1, b2, b3, b4⟩ := bare h
  rw [split_is]
  unfold fullL
  rw [if_pos h]
  by_cases ht : tlN r = 0
  · have e : splE r = (4352 + ldN r, 4449 + vwN r, true) := by unfold splE; rw [if_pos h, if_pos ht]
    rw [e, if_pos ht, if_neg (by rw [isS_iff]; simp only; omega)]
  · have e : splE r = (r - tlN r, 4519 + tlN r, true) := by unfold splE; rw [if_pos h, if_neg ht]
    have e2 : splE (r - tlN r) = (4352 + ldN r, 4449 + vwN r, true) := by unfold splE; rw [if_pos b1, if_pos b4, b2, b3]
    rw [e, if_neg ht]
    simp only
    rw [if_pos b1, e2]
theorem full_inj {r s : Int} (h : isS r = true) (e : fullL r = fullL s) : r = s := by
  by_cases hs : isS s = true
  · have h1 := of_parts (r := r)
    have h2 := of_parts (r := s)
    have h3 := tlN_bd r
    have h4 := tlN_bd s
    unfold fullL at e
    rw [if_pos h, if_pos hs] at e
    split at e <;> split at e <;> simp at e <;> omega
  · unfold fullL at e
    rw [if_pos h, if_neg hs] at e
    split at e <;> cases e
theorem syl_full {r : Int} (h : isS r = true) : sylL (fullL r) = [r] := by
  have := syl_parts [r] (by simp [h])
  simpa [partsL, pt_is h] using this

end Go.Proofs.YtagbeioooohbgaaGreatDoor.Ha
end
section
namespace Go.Proofs.YtagbeioooohbgaaGreatDoor.Tr

/-- Numbers that have one value: the first, the last, the value. -/
abbrev Sp := Int × Int × Int
def inS (s : Sp) (r : Int) : Bool := decide (s.1 ≤ r) && decide (r ≤ s.2.1)
/-- The value that the last range has in which a number lies. -/
def getL (nn : Int) (L : List Sp) (r : Int) : Int := L.foldl (fun v s => if inS s r then s.2.2 else v) nn
theorem getL_nil (nn r : Int) : getL nn [] r = nn := rfl
theorem getL_snoc (nn : Int) (L : List Sp) (s : Sp) (r : Int) : getL nn (L ++ [s]) r = if inS s r then s.2.2 else getL nn L r := by unfold getL; rw [List.foldl_append]; rfl
theorem getL_same {nn : Int} {r r' : Int} : ∀ {L : List Sp}, (∀ s ∈ L, inS s r = inS s r') → getL nn L r = getL nn L r' := by
  intro L
  unfold getL
  induction L generalizing nn with
  | nil => intro _; rfl
  | cons s L ih =>
    intro h
    rw [List.foldl_cons, List.foldl_cons, h s (by simp)]
    exact ih fun x hx => h x (by simp [hx])
theorem getL_out {nn r : Int} : ∀ {L : List Sp}, (∀ s ∈ L, inS s r = false) → getL nn L r = nn := by
  intro L
  unfold getL
  induction L generalizing nn with
  | nil => intro _; rfl
  | cons s L ih =>
    intro h
    rw [List.foldl_cons, h s (by simp)]
    exact ih fun x hx => h x (by simp [hx])
/-- One number more behind all others. -/
def push (nn : Int) (l : List Sp) (r v : Int) : List Sp :=
  if v = nn then l else match l.getLast? with
    | none => l ++ [(r, r, v)]
    | some s => if s.2.1 = r - 1 ∧ s.2.2 = v then l.dropLast ++ [(s.1, r, s.2.2)] else l ++ [(r, r, v)]
/-- The longest ranges among the numbers below n. -/
def scan (g : Int → Int) (nn : Int) : Nat → List Sp
  | 0 => []
  | n + 1 => push nn (scan g nn n) n (g n)
/-- Numbers from r on and below e, all of one value. -/
def pushS (nn : Int) (l : List Sp) (r e v : Int) : List Sp :=
  if v = nn then l else match l.getLast? with
    | none => l ++ [(r, e - 1, v)]
    | some s => if s.2.1 = r - 1 ∧ s.2.2 = v then l.dropLast ++ [(s.1, e - 1, s.2.2)] else l ++ [(r, e - 1, v)]
theorem push_one (nn : Int) (l : List Sp) (r v : Int) : pushS nn l r (r + 1) v = push nn l r v := by
  unfold pushS push
  have e : r + 1 - 1 = r := by omega
  rw [e]
theorem push_more {nn : Int} {l : List Sp} {r e v : Int} (_h : r < e) : push nn (pushS nn l r e v) e v = pushS nn l r (e + 1) v := by
  have e1 : e + 1 - 1 = e := by omega
  unfold pushS
  rw [e1]
  by_cases hv : v = nn
  · rw [if_pos hv, if_pos hv]; unfold push; rw [if_pos hv]
  · rw [if_neg hv, if_neg hv]
    have key : ∀ (m : List Sp) (f : Int), push nn (m ++ [(f, e - 1, v)]) e v = m ++ [(f, e, v)] := fun m f => by
      unfold push
      rw [if_neg hv, List.getLast?_concat]
      simp
    cases hl : l.getLast? with
    | none => exact key _ _
    | some s =>
      simp only
      by_cases hc : s.2.1 = r - 1 ∧ s.2.2 = v
      · rw [if_pos hc, if_pos hc, hc.2]; exact key _ _
      · rw [if_neg hc, if_neg hc]; exact key _ _
theorem scan_seg {g : Int → Int} {nn v : Int} {r : Nat} : ∀ {e : Nat}, r < e → (∀ x : Nat, r ≤ x → x < e → g x = v) → scan g nn e = pushS nn (scan g nn r) r e v
  | 0, h, _ => absurd h (by omega)
  | e + 1, h, hg => by
    by_cases hr : r = e
    · subst hr
      rw [show (((r + 1 : Nat) : Int)) = (r : Int) + 1 by omega, push_one, scan, hg r (by omega) (by omega)]
    · rw [show (((e + 1 : Nat) : Int)) = (e : Int) + 1 by omega, ← push_more (by omega), ← scan_seg (e := e) (by omega) (fun x h1 h2 => hg x h1 (by omega)), scan, hg e (by omega) (by omega)]
theorem scan_none {g : Int → Int} {nn : Int} {r e : Nat} (h : r ≤ e) (hg : ∀ x : Nat, r ≤ x → x < e → g x = nn) : scan g nn e = scan g nn r := by
  by_cases hr : r = e
  · subst hr; rfl
  · rw [scan_seg (r := r) (v := nn) (by omega) hg]
    unfold pushS
    rw [if_pos rfl]
theorem scan_same {g g' : Int → Int} {nn : Int} : ∀ {n : Nat}, (∀ x : Nat, x < n → g x = g' x) → scan g nn n = scan g' nn n
  | 0, _ => rfl
  | n + 1, h => by rw [scan, scan, scan_same (fun x hx => h x (by omega)), h n (by omega)]
/-- The first number behind another one at which any range begins, or behind which any ends. -/
def edgS (r o : Int) (s : Sp) : Int :=
  if r < s.2.1 + 1 ∧ s.2.1 + 1 < (if r < s.1 ∧ s.1 < o then s.1 else o) then s.2.1 + 1 else (if r < s.1 ∧ s.1 < o then s.1 else o)
def edgF (r : Int) (L : List Sp) (o : Int) : Int := L.foldl (edgS r) o
def edge (L : List Sp) (r : Int) : Int := edgF r L 1114112
theorem edgS_le (r o : Int) (s : Sp) (h : r < o) : r < edgS r o s ∧ edgS r o s ≤ o ∧ ¬ (r < s.1 ∧ s.1 < edgS r o s) ∧ ¬ (r < s.2.1 + 1 ∧ s.2.1 + 1 < edgS r o s) := by
  unfold edgS
  split <;> split <;> omega
theorem edgF_spec (r : Int) : ∀ (L : List Sp) (o : Int), r < o → r < edgF r L o ∧ edgF r L o ≤ o ∧ ∀ s ∈ L, ¬ (r < s.1 ∧ s.1 < edgF r L o) ∧ ¬ (r < s.2.1 + 1 ∧ s.2.1 + 1 < edgF r L o)
  | [], o, h => ⟨h, Int.le_refl _, fun s hs => by cases hs⟩
  | s :: L, o, h => by
    obtain ⟨a, b, c, d⟩ := edgS_le r o s h
    obtain ⟨a', b', h'⟩ := edgF_spec r L _ a
    have e : edgF r (s :: L) o = edgF r L (edgS r o s) := rfl
    rw [e]
    refine ⟨a', by omega, fun x hx => ?_⟩
    rcases List.mem_cons.1 hx with rfl | hx
    · exact ⟨by omega, by omega⟩
    · exact h' x hx
theorem edge_spec (L : List Sp) {r : Int} (h : r < 1114112) : r < edge L r ∧ edge L r ≤ 1114112 ∧ ∀ (nn x : Int), r ≤ x → x < edge L r → getL nn L x = getL nn L r := by
  obtain ⟨a, b, c⟩ := edgF_spec r L 1114112 h
  refine ⟨a, b, fun nn x h1 h2 => getL_same fun s hs => ?_⟩
  obtain ⟨p, q⟩ := c s hs
  have h2' : x < edgF r L 1114112 := h2
  unfold inS
  rw [show decide (s.1 ≤ x) = decide (s.1 ≤ r) from decide_eq_decide.2 (by omega), show decide (x ≤ s.2.1) = decide (r ≤ s.2.1) from decide_eq_decide.2 (by omega)]
/-- All ranges. -/
def allG (g : Int → Int) (nn : Int) : List Sp := scan g nn 1114112
/-- How many blocks tell something among the numbers below n, and the last one of them. -/
def cbF (g : Int → Int) (nn : Int) : Nat → Int × Int
  | 0 => (0, -1)
  | n + 1 => if g n = nn then cbF g nn n else if (n : Int) / 256 = (cbF g nn n).2 then cbF g nn n else ((cbF g nn n).1 + 1, (n : Int) / 256)
def blkS (x : Int × Int) (s : Sp) : Int × Int :=
  if (if s.1 / 256 = x.2 then s.1 / 256 + 1 else s.1 / 256) ≤ s.2.1 / 256 then (x.1 + (s.2.1 / 256 - (if s.1 / 256 = x.2 then s.1 / 256 + 1 else s.1 / 256)) + 1, s.2.1 / 256) else x
def blkF (l : List Sp) : Int × Int := l.foldl blkS (0, -1)
theorem blkF_snoc (l : List Sp) (s : Sp) : blkF (l ++ [s]) = blkS (blkF l) s := by unfold blkF; rw [List.foldl_append]; rfl
theorem scan_last (g : Int → Int) (nn : Int) : ∀ n : Nat, ∀ s ∈ scan g nn n, 0 ≤ s.1 ∧ s.1 ≤ s.2.1 ∧ s.2.1 < n ∧ s.2.2 ≠ nn
  | 0, s, h => by cases h
  | n + 1, s, h => by
    have ih := scan_last g nn n
    have old : ∀ x ∈ scan g nn n, 0 ≤ x.1 ∧ x.1 ≤ x.2.1 ∧ x.2.1 < ((n + 1 : Nat) : Int) ∧ x.2.2 ≠ nn := fun x hx => by
      obtain ⟨a, b, c, d⟩ := ih x hx
      exact ⟨a, b, by omega, d⟩
    have new : ∀ v : Int, v ≠ nn → 0 ≤ ((n : Int), (n : Int), v).1 ∧ ((n : Int), (n : Int), v).1 ≤ ((n : Int), (n : Int), v).2.1 ∧ ((n : Int), (n : Int), v).2.1 < ((n + 1 : Nat) : Int) ∧ ((n : Int), (n : Int), v).2.2 ≠ nn := fun v hv => ⟨by simp, by simp, by simp; omega, hv⟩
    rw [scan] at h
    unfold push at h
    split at h
    · exact old s h
    · rename_i hv
      split at h
      · rcases List.mem_append.1 h with h | h
        · exact old s h
        · simp only [List.mem_singleton] at h; subst h; exact new _ hv
      · rename_i x hx
        have hm := old x (List.mem_of_getLast? hx)
        split at h
        · rcases List.mem_append.1 h with h | h
          · exact old s ((List.dropLast_sublist _).subset h)
          · simp only [List.mem_singleton] at h; subst h; exact ⟨hm.1, by simp only; omega, by simp only; omega, hm.2.2.2⟩
        · rcases List.mem_append.1 h with h | h
          · exact old s h
          · simp only [List.mem_singleton] at h; subst h; exact new _ hv
theorem cbF_last (g : Int → Int) (nn : Int) : ∀ n : Nat, (cbF g nn n).2 ≤ ((n : Int) - 1) / 256 ∧ -1 ≤ (cbF g nn n).2 ∧ 0 ≤ (cbF g nn n).1 ∧ (cbF g nn n).1 ≤ (cbF g nn n).2 + 1
  | 0 => by simp [cbF]
  | n + 1 => by
    have ih := cbF_last g nn n
    rw [cbF]
    split
    · omega
    · split
      · omega
      · simp only; omega
theorem blkF_scan (g : Int → Int) (nn : Int) : ∀ n : Nat, blkF (scan g nn n) = cbF g nn n
  | 0 => rfl
  | n + 1 => by
    have ih := blkF_scan g nn n
    have hl := scan_last g nn n
    have hc := cbF_last g nn n
    rw [scan, cbF]
    unfold push
    by_cases hv : g n = nn
    · rw [if_pos hv, if_pos hv]; exact ih
    · rw [if_neg hv, if_neg hv]
      have new : blkF (scan g nn n ++ [((n : Int), (n : Int), g n)]) = if (n : Int) / 256 = (cbF g nn n).2 then cbF g nn n else ((cbF g nn n).1 + 1, (n : Int) / 256) := by
        rw [blkF_snoc, ih]
        unfold blkS
        simp only
        by_cases h1 : (n : Int) / 256 = (cbF g nn n).2
        · rw [if_pos h1, if_pos h1, if_neg (by omega)]
        · rw [if_neg h1, if_neg h1, if_pos (Int.le_refl _)]
          simp
      cases hg : (scan g nn n).getLast? with
      | none => exact new
      | some s =>
        simp only
        by_cases hq : s.2.1 = (n : Int) - 1 ∧ s.2.2 = g n
        · rw [if_pos hq]
          obtain ⟨m, hm⟩ : ∃ m, scan g nn n = m ++ [s] := by
            rw [List.getLast?_eq_some_iff] at hg
            exact hg
          obtain ⟨s0, s1, _, _⟩ := hl s (List.mem_of_getLast? hg)
          rw [hm, List.dropLast_concat, blkF_snoc]
          rw [hm, blkF_snoc] at ih
          rw [← ih]
          rw [← ih] at hc
          obtain ⟨f, t, u⟩ := s
          obtain ⟨c, la⟩ := blkF m
          unfold blkS at *
          simp only at *
          obtain ⟨rfl, rfl⟩ := hq
          by_cases h1 : f / 256 = la
          · simp only [if_pos h1] at *
            by_cases h2 : f / 256 + 1 ≤ ((n : Int) - 1) / 256
            · simp only [if_pos h2] at *
              rw [if_pos (by omega)]
              split
              · rw [Prod.mk.injEq]; omega
              · rw [Prod.mk.injEq]; omega
            · simp only [if_neg h2] at *
              by_cases h3 : f / 256 + 1 ≤ (n : Int) / 256
              · rw [if_pos h3, if_neg (by omega), Prod.mk.injEq]; omega
              · rw [if_neg h3, if_pos (by omega)]
          · simp only [if_neg h1] at *
            have h2 : f / 256 ≤ ((n : Int) - 1) / 256 := by omega
            simp only [if_pos h2] at *
            rw [if_pos (by omega)]
            split
            · rw [Prod.mk.injEq]; omega
            · rw [Prod.mk.injEq]; omega
        · rw [if_neg hq]; exact new

end Go.Proofs.YtagbeioooohbgaaGreatDoor.Tr
end
section
namespace Go.Proofs.YtagbeioooohbgaaGreatDoor.Tr

/-- Does a block tell something? -/
def nzB (g : Int → Int) (nn : Int) (b : Nat) : Bool := (List.range 256).any fun i => decide (g ((b * 256 + i : Nat) : Int) ≠ nn)
theorem cbF_in (g : Int → Int) (nn : Int) (m : Nat) (h : (cbF g nn (m * 256)).2 < m) : ∀ j : Nat, j ≤ 256 →
    cbF g nn (m * 256 + j) = if ((List.range j).any fun i => decide (g ((m * 256 + i : Nat) : Int) ≠ nn)) = true then ((cbF g nn (m * 256)).1 + 1, (m : Int)) else cbF g nn (m * 256)
  | 0, _ => by simp
  | j + 1, hj => by
    have ih := cbF_in g nn m h j (by omega)
    rw [show m * 256 + (j + 1) = (m * 256 + j) + 1 by omega, cbF, ih, List.range_succ, List.any_append]
    have hd : ((m * 256 + j : Nat) : Int) / 256 = (m : Int) := by omega
    rw [hd]
    by_cases h1 : g ((m * 256 + j : Nat) : Int) = nn
    · rw [if_pos h1]
      have e : (List.any [j] fun i => decide (g ((m * 256 + i : Nat) : Int) ≠ nn)) = false := by simp only [List.any_cons, List.any_nil, Bool.or_false]; simpa using h1
      rw [e, Bool.or_false]
    · rw [if_neg h1]
      have e : (List.any [j] fun i => decide (g ((m * 256 + i : Nat) : Int) ≠ nn)) = true := by simp only [List.any_cons, List.any_nil, Bool.or_false]; simpa using h1
      rw [e, Bool.or_true, if_pos rfl]
      cases ha : ((List.range j).any fun i => decide (g ((m * 256 + i : Nat) : Int) ≠ nn)) with
      | true => simp
      | false =>
        simp only [Bool.false_eq_true, if_false]
        rw [if_neg (by omega)]
theorem cbF_blocks (g : Int → Int) (nn : Int) : ∀ m : Nat, (cbF g nn (m * 256)).1 = ((List.range m).countP (nzB g nn) : Nat) ∧ (cbF g nn (m * 256)).2 < m
  | 0 => by simp [cbF]
  | m + 1 => by
    obtain ⟨h1, h2⟩ := cbF_blocks g nn m
    have h3 := cbF_in g nn m h2 256 (Nat.le_refl _)
    have e : ((List.range 256).any fun i => decide (g ((m * 256 + i : Nat) : Int) ≠ nn)) = nzB g nn m := rfl
    rw [e] at h3
    rw [show (m + 1) * 256 = m * 256 + 256 by omega, h3, List.range_succ (n := m), List.countP_append]
    cases hb : nzB g nn m with
    | true =>
      simp only [if_true]
      refine ⟨?_, by omega⟩
      rw [h1]
      simp [hb]
    | false =>
      simp only [Bool.false_eq_true, if_false]
      refine ⟨?_, by omega⟩
      rw [h1]
      simp [hb]
/-- How many blocks tell something. -/
def blkN (g : Int → Int) (nn : Int) : Nat := (List.range 4352).countP (nzB g nn)
theorem blkF_all (g : Int → Int) (nn : Int) : (blkF (allG g nn)).1 = (blkN g nn : Nat) := by
  unfold allG
  rw [blkF_scan]
  exact (cbF_blocks g nn 4352).1

/-- All ranges, by the ranges that were set: from edge to edge. -/
theorem all_step {nn : Int} {L : List Sp} {r : Nat} (h : r < 1114112) : scan (getL nn L) nn (edge L r).toNat = pushS nn (scan (getL nn L) nn r) r (edge L r) (getL nn L r) := by
  obtain ⟨h1, h2, h3⟩ := edge_spec L (r := (r : Int)) (by omega)
  have e : (((edge L r).toNat : Nat) : Int) = edge L r := by omega
  rw [scan_seg (r := r) (e := (edge L r).toNat) (v := getL nn L r) (by omega) (fun x a b => h3 nn x (by omega) (by omega)), e]
end Go.Proofs.YtagbeioooohbgaaGreatDoor.Tr
end

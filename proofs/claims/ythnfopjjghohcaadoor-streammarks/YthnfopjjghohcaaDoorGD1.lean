import Derived.Test.YthnfopjjghohcaaDoorGC1
import Derived.Test.YthnfopjjghohcaaDoorGU3
import Derived.Test.YthnfopjjghohcaaDoorGW4
/- Decoding by whatever tells what bytes begin with: the characters, the malformed units, where bytes may be cut, and what is sure. Plain: no program is named. -/
namespace Go.Proofs.YthnfopjjghohcaaDoor.Dg

/-- What is asked of a function that tells what bytes begin with: the character, how many bytes, the error. -/
structure Nx (nx : List Nat → Int × Int × Int) : Prop where
  step : ∀ l : List Nat, l ≠ [] → ∃ r e : Int, ∃ n : Nat, nx l = (r, (n : Int), e) ∧ 1 ≤ n ∧ n ≤ l.length ∧ n ≤ 4 ∧ (e = 0 ∨ e = 17 ∨ e = 18) ∧ (e = 18 → n = l.length ∧ n ≤ 3)
  app : ∀ (s t : List Nat) (r e : Int) (n : Nat), s ≠ [] → nx s = (r, (n : Int), e) → e ≠ 18 → nx (s ++ t) = (r, (n : Int), e)

/-- What bytes decode to. Behind 'f' steps at the most. -/
def decF (nx : List Nat → Int × Int × Int) (pol : Int) : Nat → Nat → List Nat → List Int × List (Nat × Nat) × Int
  | 0, _, _ => ([], [], 0)
  | f + 1, p, l =>
    if l = [] then ([], [], 0)
    else if (nx l).2.2 = 0 then
      ((nx l).1 :: (decF nx pol f (p + (nx l).2.1.toNat) (l.drop (nx l).2.1.toNat)).1, (decF nx pol f (p + (nx l).2.1.toNat) (l.drop (nx l).2.1.toNat)).2)
    else if pol = 1 then ([], [(p, (nx l).2.1.toNat)], 17)
    else ((if pol = 2 then [65533] else []) ++ (decF nx pol f (p + (nx l).2.1.toNat) (l.drop (nx l).2.1.toNat)).1, (p, (nx l).2.1.toNat) :: (decF nx pol f (p + (nx l).2.1.toNat) (l.drop (nx l).2.1.toNat)).2.1, (decF nx pol f (p + (nx l).2.1.toNat) (l.drop (nx l).2.1.toNat)).2.2)
def dec (nx : List Nat → Int × Int × Int) (pol : Int) (p : Nat) (l : List Nat) : List Int × List (Nat × Nat) × Int := decF nx pol l.length p l
/-- What is sure of bytes: up to a beginning at the end that is not whole. Behind 'f' steps at the most. -/
def surF (nx : List Nat → Int × Int × Int) (pol : Int) : Nat → Nat → List Nat → List Int × List (Nat × Nat) × Int
  | 0, _, _ => ([], [], 0)
  | f + 1, p, l =>
    if l = [] then ([], [], 0)
    else if (nx l).2.2 = 18 then ([], [], 0)
    else if (nx l).2.2 = 0 then
      ((nx l).1 :: (surF nx pol f (p + (nx l).2.1.toNat) (l.drop (nx l).2.1.toNat)).1, (surF nx pol f (p + (nx l).2.1.toNat) (l.drop (nx l).2.1.toNat)).2)
    else if pol = 1 then ([], [(p, (nx l).2.1.toNat)], 17)
    else ((if pol = 2 then [65533] else []) ++ (surF nx pol f (p + (nx l).2.1.toNat) (l.drop (nx l).2.1.toNat)).1, (p, (nx l).2.1.toNat) :: (surF nx pol f (p + (nx l).2.1.toNat) (l.drop (nx l).2.1.toNat)).2.1, (surF nx pol f (p + (nx l).2.1.toNat) (l.drop (nx l).2.1.toNat)).2.2)
def sur (nx : List Nat → Int × Int × Int) (pol : Int) (p : Nat) (l : List Nat) : List Int × List (Nat × Nat) × Int := surF nx pol l.length p l
/-- Where bytes may be cut: ahead of a beginning at the end that is not whole. -/
def scanF (nx : List Nat → Int × Int × Int) : Nat → List Nat → Nat
  | 0, _ => 0
  | f + 1, l => if l = [] then 0 else if (nx l).2.2 = 18 then 0 else (nx l).2.1.toNat + scanF nx f (l.drop (nx l).2.1.toNat)
def scan (nx : List Nat → Int × Int × Int) (l : List Nat) : Nat := scanF nx l.length l

variable {nx : List Nat → Int × Int × Int}
theorem decF_same (H : Nx nx) (pol : Int) : ∀ (m f : Nat) (p : Nat) (l : List Nat), l.length ≤ m → l.length ≤ f → decF nx pol f p l = decF nx pol l.length p l := by
  intro m
  induction m with
  | zero =>
    intro f p l hm hf
    have : l = [] := List.eq_nil_of_length_eq_zero (by omega)
    subst this
    cases f <;> simp [decF]
  | succ m ih =>
    intro f p l hm hf
    by_cases hl : l = []
    · subst hl
      cases f <;> simp [decF]
    obtain ⟨r, e, n, hx, h1, h2, h3, h4, h5⟩ := H.step l hl
    have hp : 0 < l.length := List.length_pos_iff.2 hl
    obtain ⟨f, rfl⟩ : ∃ g, f = g + 1 := ⟨f - 1, by omega⟩
    obtain ⟨g, hg⟩ : ∃ g, l.length = g + 1 := ⟨l.length - 1, by omega⟩
    have hd : (l.drop n).length ≤ m := by rw [List.length_drop]; omega
    have e1 := ih f (p + n) (l.drop n) hd (by rw [List.length_drop]; omega)
    have e2 := ih g (p + n) (l.drop n) hd (by rw [List.length_drop]; omega)
    rw [hg]
    simp only [decF, hl, hx, Int.toNat_natCast, e1, e2]
theorem scanF_same (H : Nx nx) : ∀ (m f : Nat) (l : List Nat), l.length ≤ m → l.length ≤ f → scanF nx f l = scanF nx l.length l := by
  intro m
  induction m with
  | zero =>
    intro f l hm hf
    have : l = [] := List.eq_nil_of_length_eq_zero (by omega)
    subst this
    cases f <;> simp [scanF]
  | succ m ih =>
    intro f l hm hf
    by_cases hl : l = []
    · subst hl
      cases f <;> simp [scanF]
    obtain ⟨r, e, n, hx, h1, h2, h3, h4, h5⟩ := H.step l hl
    have hp : 0 < l.length := List.length_pos_iff.2 hl
    obtain ⟨f, rfl⟩ : ∃ g, f = g + 1 := ⟨f - 1, by omega⟩
    obtain ⟨g, hg⟩ : ∃ g, l.length = g + 1 := ⟨l.length - 1, by omega⟩
    have hd : (l.drop n).length ≤ m := by rw [List.length_drop]; omega
    have e1 := ih f (l.drop n) hd (by rw [List.length_drop]; omega)
    have e2 := ih g (l.drop n) hd (by rw [List.length_drop]; omega)
    rw [hg]
    simp only [scanF, hl, hx, Int.toNat_natCast, e1, e2]
theorem dec_nil (pol : Int) (p : Nat) : dec nx pol p [] = ([], [], 0) := rfl
theorem scan_nil : scan nx [] = 0 := rfl
theorem dec_ok (H : Nx nx) (pol : Int) (p : Nat) (l : List Nat) (hl : l ≠ []) (r : Int) (n : Nat) (hx : nx l = (r, (n : Int), 0)) (h1 : 1 ≤ n) : dec nx pol p l = (r :: (dec nx pol (p + n) (l.drop n)).1, (dec nx pol (p + n) (l.drop n)).2) := by
  have hp : 0 < l.length := List.length_pos_iff.2 hl
  obtain ⟨g, hg⟩ : ∃ g, l.length = g + 1 := ⟨l.length - 1, by omega⟩
  have e2 := decF_same H pol (l.drop n).length g (p + n) (l.drop n) (Nat.le_refl _) (by rw [List.length_drop]; omega)
  unfold dec
  rw [hg]
  simp only [decF, hl, hx, Int.toNat_natCast, e2]
  simp
theorem dec_bad1 (p : Nat) (l : List Nat) (hl : l ≠ []) (r e : Int) (n : Nat) (hx : nx l = (r, (n : Int), e)) (he : e ≠ 0) : dec nx 1 p l = ([], [(p, n)], 17) := by
  have hp : 0 < l.length := List.length_pos_iff.2 hl
  obtain ⟨g, hg⟩ : ∃ g, l.length = g + 1 := ⟨l.length - 1, by omega⟩
  unfold dec
  rw [hg]
  simp [decF, hl, hx, he]
theorem dec_bad (H : Nx nx) (pol : Int) (hpol : pol ≠ 1) (p : Nat) (l : List Nat) (hl : l ≠ []) (r e : Int) (n : Nat) (hx : nx l = (r, (n : Int), e)) (he : e ≠ 0) (h1 : 1 ≤ n) :
    dec nx pol p l = ((if pol = 2 then [65533] else []) ++ (dec nx pol (p + n) (l.drop n)).1, (p, n) :: (dec nx pol (p + n) (l.drop n)).2.1, (dec nx pol (p + n) (l.drop n)).2.2) := by
  have hp : 0 < l.length := List.length_pos_iff.2 hl
  obtain ⟨g, hg⟩ : ∃ g, l.length = g + 1 := ⟨l.length - 1, by omega⟩
  have e2 := decF_same H pol (l.drop n).length g (p + n) (l.drop n) (Nat.le_refl _) (by rw [List.length_drop]; omega)
  unfold dec
  rw [hg]
  simp only [decF, hl, hx, Int.toNat_natCast, e2]
  simp [he, hpol]
theorem scan_more (l : List Nat) (hl : l ≠ []) (r : Int) (n : Nat) (hx : nx l = (r, (n : Int), 18)) : scan nx l = 0 := by
  have hp : 0 < l.length := List.length_pos_iff.2 hl
  obtain ⟨g, hg⟩ : ∃ g, l.length = g + 1 := ⟨l.length - 1, by omega⟩
  unfold scan
  rw [hg]
  simp [scanF, hl, hx]
theorem scan_step (H : Nx nx) (l : List Nat) (hl : l ≠ []) (r e : Int) (n : Nat) (hx : nx l = (r, (n : Int), e)) (he : e ≠ 18) (h1 : 1 ≤ n) : scan nx l = n + scan nx (l.drop n) := by
  have hp : 0 < l.length := List.length_pos_iff.2 hl
  obtain ⟨g, hg⟩ : ∃ g, l.length = g + 1 := ⟨l.length - 1, by omega⟩
  have e2 := scanF_same H (l.drop n).length g (l.drop n) (Nat.le_refl _) (by rw [List.length_drop]; omega)
  unfold scan
  rw [hg]
  simp only [scanF, hl, hx, Int.toNat_natCast, e2]
  simp [he]
/-- By the number of bytes: nothing is shown of no bytes but what is shown of all. -/
theorem ind (P : List Nat → Prop) (h0 : P []) (hs : ∀ l, l ≠ [] → (∀ n, 1 ≤ n → P (l.drop n)) → P l) (l : List Nat) : P l := by
  have key : ∀ (m : Nat) (l : List Nat), l.length ≤ m → P l := by
    intro m
    induction m with
    | zero =>
      intro l hl
      have : l = [] := List.eq_nil_of_length_eq_zero (by omega)
      subst this
      exact h0
    | succ m ih =>
      intro l hl
      by_cases hne : l = []
      · subst hne; exact h0
      · exact hs l hne (fun n hn => ih (l.drop n) (by rw [List.length_drop]; omega))
  exact key l.length l (Nat.le_refl _)
theorem dec_err (H : Nx nx) (pol : Int) (hp : pol ≠ 1) (l : List Nat) : ∀ p, (dec nx pol p l).2.2 = 0 := by
  refine ind (fun l => ∀ p, (dec nx pol p l).2.2 = 0) (fun p => rfl) (fun l hne ih p => ?_) l
  obtain ⟨r, e, n, hx, h1, h2, h3, h4, h5⟩ := H.step l hne
  by_cases he : e = 0
  · subst he
    rw [dec_ok H pol p l hne r n hx h1]
    exact ih n h1 (p + n)
  · rw [dec_bad H pol hp p l hne r e n hx he h1]
    exact ih n h1 (p + n)
theorem dec_err1 (H : Nx nx) (l : List Nat) : ∀ p, ((dec nx 1 p l).2.2 = 0 ∧ (dec nx 1 p l).2.1 = []) ∨ ((dec nx 1 p l).2.2 = 17 ∧ ∃ x, (dec nx 1 p l).2.1 = [x]) := by
  refine ind (fun l => ∀ p, ((dec nx 1 p l).2.2 = 0 ∧ (dec nx 1 p l).2.1 = []) ∨ ((dec nx 1 p l).2.2 = 17 ∧ ∃ x, (dec nx 1 p l).2.1 = [x])) (fun p => .inl ⟨rfl, rfl⟩) (fun l hne ih p => ?_) l
  obtain ⟨r, e, n, hx, h1, h2, h3, h4, h5⟩ := H.step l hne
  by_cases he : e = 0
  · subst he
    rw [dec_ok H 1 p l hne r n hx h1]
    exact ih n h1 (p + n)
  · rw [dec_bad1 p l hne r e n hx he]
    exact .inr ⟨rfl, _, rfl⟩
theorem dec_lens (H : Nx nx) (pol : Int) (l : List Nat) : ∀ p, (dec nx pol p l).1.length ≤ l.length ∧ (dec nx pol p l).2.1.length ≤ l.length := by
  refine ind (fun l => ∀ p, (dec nx pol p l).1.length ≤ l.length ∧ (dec nx pol p l).2.1.length ≤ l.length) (fun p => by simp [dec_nil]) (fun l hne ih p => ?_) l
  obtain ⟨r, e, n, hx, h1, h2, h3, h4, h5⟩ := H.step l hne
  have hI := ih n h1 (p + n)
  rw [List.length_drop] at hI
  by_cases he : e = 0
  · subst he
    rw [dec_ok H pol p l hne r n hx h1]
    simp only [List.length_cons]
    omega
  · by_cases hp : pol = 1
    · subst hp
      rw [dec_bad1 p l hne r e n hx he]
      simp
      omega
    · rw [dec_bad H pol hp p l hne r e n hx he h1]
      have : (if pol = 2 then [(65533 : Int)] else []).length ≤ 1 := by split <;> simp
      simp only [List.length_append, List.length_cons]
      omega
theorem dec_from (H : Nx nx) (pol : Int) (l : List Nat) : ∀ p, ∀ x ∈ (dec nx pol p l).2.1, p ≤ x.1 ∧ 1 ≤ x.2 ∧ x.1 + x.2 ≤ p + l.length := by
  refine ind (fun l => ∀ p, ∀ x ∈ (dec nx pol p l).2.1, p ≤ x.1 ∧ 1 ≤ x.2 ∧ x.1 + x.2 ≤ p + l.length) (fun p => by simp [dec_nil]) (fun l hne ih p x hx' => ?_) l
  obtain ⟨r, e, n, hx, h1, h2, h3, h4, h5⟩ := H.step l hne
  have hI := ih n h1 (p + n) x
  rw [List.length_drop] at hI
  by_cases he : e = 0
  · subst he
    rw [dec_ok H pol p l hne r n hx h1] at hx'
    have := hI hx'
    omega
  · by_cases hp : pol = 1
    · subst hp
      rw [dec_bad1 p l hne r e n hx he] at hx'
      simp at hx'
      subst hx'
      simp
      omega
    · rw [dec_bad H pol hp p l hne r e n hx he h1] at hx'
      simp only [List.mem_cons] at hx'
      rcases hx' with rfl | hx'
      · simp; omega
      · have := hI hx'
        omega
theorem dec_shift (H : Nx nx) (pol : Int) (l : List Nat) : ∀ p j, dec nx pol (j + p) l = ((dec nx pol p l).1, (dec nx pol p l).2.1.map (fun x => (j + x.1, x.2)), (dec nx pol p l).2.2) := by
  refine ind (fun l => ∀ p j, dec nx pol (j + p) l = ((dec nx pol p l).1, (dec nx pol p l).2.1.map (fun x => (j + x.1, x.2)), (dec nx pol p l).2.2)) (fun p j => by simp [dec_nil]) (fun l hne ih p j => ?_) l
  obtain ⟨r, e, n, hx, h1, h2, h3, h4, h5⟩ := H.step l hne
  have hI := ih n h1 (p + n) j
  rw [← Nat.add_assoc] at hI
  by_cases he : e = 0
  · subst he
    rw [dec_ok H pol (j + p) l hne r n hx h1, dec_ok H pol p l hne r n hx h1, hI]
  · by_cases hp : pol = 1
    · subst hp
      rw [dec_bad1 (j + p) l hne r e n hx he, dec_bad1 p l hne r e n hx he]
      simp
    · rw [dec_bad H pol hp (j + p) l hne r e n hx he h1, dec_bad H pol hp p l hne r e n hx he h1, hI]
      simp
theorem scan_le (H : Nx nx) (l : List Nat) : scan nx l ≤ l.length ∧ l.length - scan nx l ≤ 3 := by
  refine ind (fun l => scan nx l ≤ l.length ∧ l.length - scan nx l ≤ 3) (by simp [scan_nil]) (fun l hne ih => ?_) l
  obtain ⟨r, e, n, hx, h1, h2, h3, h4, h5⟩ := H.step l hne
  by_cases he : e = 18
  · subst he
    rw [scan_more l hne r n hx]
    have := h5 rfl
    omega
  · rw [scan_step H l hne r e n hx he h1]
    have := ih n h1
    rw [List.length_drop] at this
    omega
theorem surF_same (H : Nx nx) (pol : Int) : ∀ (m f : Nat) (p : Nat) (l : List Nat), l.length ≤ m → l.length ≤ f → surF nx pol f p l = surF nx pol l.length p l := by
  intro m
  induction m with
  | zero =>
    intro f p l hm hf
    have : l = [] := List.eq_nil_of_length_eq_zero (by omega)
    subst this
    cases f <;> simp [surF]
  | succ m ih =>
    intro f p l hm hf
    by_cases hl : l = []
    · subst hl
      cases f <;> simp [surF]
    obtain ⟨r, e, n, hx, h1, h2, h3, h4, h5⟩ := H.step l hl
    have hp : 0 < l.length := List.length_pos_iff.2 hl
    obtain ⟨f, rfl⟩ : ∃ g, f = g + 1 := ⟨f - 1, by omega⟩
    obtain ⟨g, hg⟩ : ∃ g, l.length = g + 1 := ⟨l.length - 1, by omega⟩
    have hd : (l.drop n).length ≤ m := by rw [List.length_drop]; omega
    have e1 := ih f (p + n) (l.drop n) hd (by rw [List.length_drop]; omega)
    have e2 := ih g (p + n) (l.drop n) hd (by rw [List.length_drop]; omega)
    rw [hg]
    simp only [surF, hl, hx, Int.toNat_natCast, e1, e2]
theorem sur_nil (pol : Int) (p : Nat) : sur nx pol p [] = ([], [], 0) := rfl
theorem sur_more (pol : Int) (p : Nat) (l : List Nat) (hl : l ≠ []) (r : Int) (n : Nat) (hx : nx l = (r, (n : Int), 18)) : sur nx pol p l = ([], [], 0) := by
  have hp : 0 < l.length := List.length_pos_iff.2 hl
  obtain ⟨g, hg⟩ : ∃ g, l.length = g + 1 := ⟨l.length - 1, by omega⟩
  unfold sur
  rw [hg]
  simp [surF, hl, hx]
theorem sur_ok (H : Nx nx) (pol : Int) (p : Nat) (l : List Nat) (hl : l ≠ []) (r : Int) (n : Nat) (hx : nx l = (r, (n : Int), 0)) (h1 : 1 ≤ n) : sur nx pol p l = (r :: (sur nx pol (p + n) (l.drop n)).1, (sur nx pol (p + n) (l.drop n)).2) := by
  have hp : 0 < l.length := List.length_pos_iff.2 hl
  obtain ⟨g, hg⟩ : ∃ g, l.length = g + 1 := ⟨l.length - 1, by omega⟩
  have e2 := surF_same H pol (l.drop n).length g (p + n) (l.drop n) (Nat.le_refl _) (by rw [List.length_drop]; omega)
  unfold sur
  rw [hg]
  simp only [surF, hl, hx, Int.toNat_natCast, e2]
  simp
theorem sur_bad1 (p : Nat) (l : List Nat) (hl : l ≠ []) (r e : Int) (n : Nat) (hx : nx l = (r, (n : Int), e)) (he : e ≠ 0) (h8 : e ≠ 18) : sur nx 1 p l = ([], [(p, n)], 17) := by
  have hp : 0 < l.length := List.length_pos_iff.2 hl
  obtain ⟨g, hg⟩ : ∃ g, l.length = g + 1 := ⟨l.length - 1, by omega⟩
  unfold sur
  rw [hg]
  simp [surF, hl, hx, he, h8]
theorem sur_bad (H : Nx nx) (pol : Int) (hpol : pol ≠ 1) (p : Nat) (l : List Nat) (hl : l ≠ []) (r e : Int) (n : Nat) (hx : nx l = (r, (n : Int), e)) (he : e ≠ 0) (h8 : e ≠ 18) (h1 : 1 ≤ n) :
    sur nx pol p l = ((if pol = 2 then [65533] else []) ++ (sur nx pol (p + n) (l.drop n)).1, (p, n) :: (sur nx pol (p + n) (l.drop n)).2.1, (sur nx pol (p + n) (l.drop n)).2.2) := by
  have hp : 0 < l.length := List.length_pos_iff.2 hl
  obtain ⟨g, hg⟩ : ∃ g, l.length = g + 1 := ⟨l.length - 1, by omega⟩
  have e2 := surF_same H pol (l.drop n).length g (p + n) (l.drop n) (Nat.le_refl _) (by rw [List.length_drop]; omega)
  unfold sur
  rw [hg]
  simp only [surF, hl, hx, Int.toNat_natCast, e2]
  simp [he, hpol, h8]
theorem sur_err (H : Nx nx) (pol : Int) (hp : pol ≠ 1) (l : List Nat) : ∀ p, (sur nx pol p l).2.2 = 0 := by
  refine ind (fun l => ∀ p, (sur nx pol p l).2.2 = 0) (fun p => rfl) (fun l hne ih p => ?_) l
  obtain ⟨r, e, n, hx, h1, h2, h3, h4, h5⟩ := H.step l hne
  by_cases h8 : e = 18
  · subst h8; rw [sur_more pol p l hne r n hx]
  by_cases he : e = 0
  · subst he
    rw [sur_ok H pol p l hne r n hx h1]
    exact ih n h1 (p + n)
  · rw [sur_bad H pol hp p l hne r e n hx he h8 h1]
    exact ih n h1 (p + n)
theorem sur_err1 (H : Nx nx) (l : List Nat) : ∀ p, ((sur nx 1 p l).2.2 = 0 ∧ (sur nx 1 p l).2.1 = []) ∨ ((sur nx 1 p l).2.2 = 17 ∧ ∃ x, (sur nx 1 p l).2.1 = [x]) := by
  refine ind (fun l => ∀ p, ((sur nx 1 p l).2.2 = 0 ∧ (sur nx 1 p l).2.1 = []) ∨ ((sur nx 1 p l).2.2 = 17 ∧ ∃ x, (sur nx 1 p l).2.1 = [x])) (fun p => .inl ⟨rfl, rfl⟩) (fun l hne ih p => ?_) l
  obtain ⟨r, e, n, hx, h1, h2, h3, h4, h5⟩ := H.step l hne
  by_cases h8 : e = 18
  · subst h8; rw [sur_more 1 p l hne r n hx]; exact .inl ⟨rfl, rfl⟩
  by_cases he : e = 0
  · subst he
    rw [sur_ok H 1 p l hne r n hx h1]
    exact ih n h1 (p + n)
  · rw [sur_bad1 p l hne r e n hx he h8]
    exact .inr ⟨rfl, _, rfl⟩
/-- One decoding behind another: where the first one was wrong by Strict, it is all. -/
def cat (a b : List Int × List (Nat × Nat) × Int) : List Int × List (Nat × Nat) × Int := if a.2.2 = 0 then (a.1 ++ b.1, a.2.1 ++ b.2.1, b.2.2) else a
theorem cat_cons (r : Int) (a b : List Int × List (Nat × Nat) × Int) : cat (r :: a.1, a.2) b = (r :: (cat a b).1, (cat a b).2) := by
  unfold cat
  by_cases h : a.2.2 = 0 <;> simp [h]
theorem cat_bad (x : List Int) (f : Nat × Nat) (a b : List Int × List (Nat × Nat) × Int) : cat (x ++ a.1, f :: a.2.1, a.2.2) b = (x ++ (cat a b).1, f :: (cat a b).2.1, (cat a b).2.2) := by
  unfold cat
  by_cases h : a.2.2 = 0 <;> simp [h]
theorem cat_nil (b : List Int × List (Nat × Nat) × Int) : cat ([], [], 0) b = b := by simp [cat]
theorem cat_stop (x : List Int) (f : List (Nat × Nat)) (b : List Int × List (Nat × Nat) × Int) : cat (x, f, 17) b = (x, f, 17) := by simp [cat]
/-- All is what is sure, and behind it what waits, read as it stands. -/
theorem dec_sur (H : Nx nx) (pol : Int) (l : List Nat) : ∀ p, dec nx pol p l = cat (sur nx pol p l) (dec nx pol (p + scan nx l) (l.drop (scan nx l))) := by
  refine ind (fun l => ∀ p, dec nx pol p l = cat (sur nx pol p l) (dec nx pol (p + scan nx l) (l.drop (scan nx l)))) (fun p => by simp [dec_nil, sur_nil, cat_nil, scan_nil]) (fun l hne ih p => ?_) l
  obtain ⟨r, e, n, hx, h1, h2, h3, h4, h5⟩ := H.step l hne
  by_cases h8 : e = 18
  · subst h8
    rw [sur_more pol p l hne r n hx, cat_nil, scan_more l hne r n hx]
    rfl
  have hI := ih n h1 (p + n)
  rw [List.drop_drop, Nat.add_assoc, ← scan_step H l hne r e n hx h8 h1] at hI
  by_cases he : e = 0
  · subst he
    rw [dec_ok H pol p l hne r n hx h1, sur_ok H pol p l hne r n hx h1, cat_cons, ← hI]
  · by_cases hp : pol = 1
    · subst hp
      rw [dec_bad1 p l hne r e n hx he, sur_bad1 p l hne r e n hx he h8, cat_stop]
    · rw [dec_bad H pol hp p l hne r e n hx he h1, sur_bad H pol hp p l hne r e n hx he h8 h1, cat_bad, ← hI]
/-- Bytes that come behind: what is sure then is what was, and behind it what is of what waited and came. -/
theorem sur_app (H : Nx nx) (pol : Int) (m l : List Nat) : ∀ p, sur nx pol p (l ++ m) = cat (sur nx pol p l) (sur nx pol (p + scan nx l) (l.drop (scan nx l) ++ m)) := by
  refine ind (fun l => ∀ p, sur nx pol p (l ++ m) = cat (sur nx pol p l) (sur nx pol (p + scan nx l) (l.drop (scan nx l) ++ m))) (fun p => by simp [sur_nil, cat_nil, scan_nil]) (fun l hne ih p => ?_) l
  obtain ⟨r, e, n, hx, h1, h2, h3, h4, h5⟩ := H.step l hne
  by_cases h8 : e = 18
  · subst h8
    rw [sur_more pol p l hne r n hx, cat_nil, scan_more l hne r n hx]
    rfl
  have hI := ih n h1 (p + n)
  rw [List.drop_drop, Nat.add_assoc, ← scan_step H l hne r e n hx h8 h1] at hI
  have hxa := H.app l m r e n hne hx h8
  have hne2 : l ++ m ≠ [] := by simp [hne]
  have hd : (l ++ m).drop n = l.drop n ++ m := List.drop_append_of_le_length h2
  by_cases he : e = 0
  · subst he
    rw [sur_ok H pol p (l ++ m) hne2 r n hxa h1, sur_ok H pol p l hne r n hx h1, cat_cons, hd, hI]
  · by_cases hp : pol = 1
    · subst hp
      rw [sur_bad1 p (l ++ m) hne2 r e n hxa he h8, sur_bad1 p l hne r e n hx he h8, cat_stop]
    · rw [sur_bad H pol hp p (l ++ m) hne2 r e n hxa he h8 h1, sur_bad H pol hp p l hne r e n hx he h8 h1, cat_bad, hd, hI]
theorem scan_app (H : Nx nx) (m l : List Nat) : scan nx (l ++ m) = scan nx l + scan nx (l.drop (scan nx l) ++ m) := by
  refine ind (fun l => scan nx (l ++ m) = scan nx l + scan nx (l.drop (scan nx l) ++ m)) (by simp [scan_nil]) (fun l hne ih => ?_) l
  obtain ⟨r, e, n, hx, h1, h2, h3, h4, h5⟩ := H.step l hne
  by_cases h8 : e = 18
  · subst h8
    rw [scan_more l hne r n hx, Nat.zero_add, List.drop_zero]
  have hI := ih n h1
  have hst := scan_step H l hne r e n hx h8 h1
  rw [List.drop_drop, ← hst] at hI
  have hxa := H.app l m r e n hne hx h8
  have hne2 : l ++ m ≠ [] := by simp [hne]
  have hd : (l ++ m).drop n = l.drop n ++ m := List.drop_append_of_le_length h2
  rw [scan_step H (l ++ m) hne2 r e n hxa h8 h1, hd, hI]
  omega
theorem scan_scan (H : Nx nx) (l : List Nat) : scan nx (l.drop (scan nx l)) = 0 := by
  refine ind (fun l => scan nx (l.drop (scan nx l)) = 0) rfl (fun l hne ih => ?_) l
  obtain ⟨r, e, n, hx, h1, h2, h3, h4, h5⟩ := H.step l hne
  by_cases h8 : e = 18
  · subst h8
    rw [scan_more l hne r n hx, List.drop_zero, scan_more l hne r n hx]
  · have hI := ih n h1
    rw [List.drop_drop, ← scan_step H l hne r e n hx h8 h1] at hI
    exact hI
/-- What waits is nothing, or one beginning that is not whole. -/
theorem waits_form (H : Nx nx) (l : List Nat) : l.drop (scan nx l) = [] ∨ ∃ r : Int, ∃ n : Nat, nx (l.drop (scan nx l)) = (r, (n : Int), 18) ∧ n = (l.drop (scan nx l)).length ∧ 1 ≤ n ∧ n ≤ 3 := by
  by_cases h : l.drop (scan nx l) = []
  · exact .inl h
  · right
    obtain ⟨r, e, n, hx, h1, h2, h3, h4, h5⟩ := H.step _ h
    by_cases h8 : e = 18
    · subst h8
      exact ⟨r, n, hx, (h5 rfl).1, h1, (h5 rfl).2⟩
    · have h0 := scan_scan H l
      rw [scan_step H _ h r e n hx h8 h1] at h0
      omega
end Go.Proofs.YthnfopjjghohcaaDoor.Dg
/- The two ways of telling the next character, as what Dg asks; and that to decode what is ahead of the cut is what is sure. Plain. -/
namespace Go.Proofs.YthnfopjjghohcaaDoor.Dg

/-- Of bytes up to the cut the first unit is the same, or is a beginning of as many bytes. -/
def Pre (nx : List Nat → Int × Int × Int) : Prop :=
  ∀ (l : List Nat) (r e : Int) (n : Nat), l ≠ [] → nx l = (r, (n : Int), e) → e ≠ 18 → nx (l.take (n + scan nx (l.drop n))) = (r, (n : Int), e) ∨ (e = 17 ∧ scan nx (l.drop n) = 0 ∧ ∃ r' : Int, nx (l.take n) = (r', (n : Int), 18))
variable {nx : List Nat → Int × Int × Int}
theorem sur_zero (H : Nx nx) (pol : Int) (p : Nat) (l : List Nat) (h : scan nx l = 0) : sur nx pol p l = ([], [], 0) := by
  by_cases hne : l = []
  · subst hne; rfl
  obtain ⟨r, e, n, hx, h1, h2, h3, h4, h5⟩ := H.step l hne
  by_cases h8 : e = 18
  · subst h8; exact sur_more pol p l hne r n hx
  · rw [scan_step H l hne r e n hx h8 h1] at h; omega
theorem dec_cut (H : Nx nx) (HP : Pre nx) (pol : Int) (l : List Nat) : ∀ p, dec nx pol p (l.take (scan nx l)) = sur nx pol p l := by
  refine ind (fun l => ∀ p, dec nx pol p (l.take (scan nx l)) = sur nx pol p l) (fun p => rfl) (fun l hne ih p => ?_) l
  obtain ⟨r, e, n, hx, h1, h2, h3, h4, h5⟩ := H.step l hne
  by_cases h8 : e = 18
  · subst h8
    rw [scan_more l hne r n hx, sur_more pol p l hne r n hx]
    rfl
  have hI := ih n h1 (p + n)
  have hst := scan_step H l hne r e n hx h8 h1
  have hne2 : l.take (n + scan nx (l.drop n)) ≠ [] := by
    intro h0
    have := congrArg List.length h0
    rw [List.length_take, List.length_nil] at this
    have := List.length_pos_iff.2 hne
    omega
  have htd : (l.take (n + scan nx (l.drop n))).drop n = (l.drop n).take (scan nx (l.drop n)) := by rw [List.drop_take, Nat.add_sub_cancel_left]
  rw [hst]
  rcases HP l r e n hne hx h8 with hp | ⟨he, hc, r', hp⟩
  · by_cases he : e = 0
    · subst he
      rw [dec_ok H pol p _ hne2 r n hp h1, htd, hI, sur_ok H pol p l hne r n hx h1]
    · by_cases h1p : pol = 1
      · subst h1p
        rw [dec_bad1 p _ hne2 r e n hp he, sur_bad1 p l hne r e n hx he h8]
      · rw [dec_bad H pol h1p p _ hne2 r e n hp he h1, htd, hI, sur_bad H pol h1p p l hne r e n hx he h8 h1]
  · subst he
    rw [hc, Nat.add_zero] at hne2 ⊢
    have hd0 : (l.take n).drop n = [] := List.drop_eq_nil_of_le (by rw [List.length_take]; omega)
    by_cases h1p : pol = 1
    · subst h1p
      rw [dec_bad1 p _ hne2 r' 18 n hp (by decide), sur_bad1 p l hne r 17 n hx (by decide) h8]
    · rw [dec_bad H pol h1p p _ hne2 r' 18 n hp (by decide) h1, hd0, dec_nil, sur_bad H pol h1p p l hne r 17 n hx (by decide) h8 h1, sur_zero H pol (p + n) _ hc]

/-! utf8 -/
theorem nx8 : Nx U8.nx where
  step := fun l h => by
    obtain ⟨r, e, n, hx, h1, h2, h3, h4, h5, h6⟩ := U8.nx_step l h
    exact ⟨r, e, n, hx, h1, h2, h3, h4, fun he => ⟨h5 he, h6 (by rw [he]; decide)⟩⟩
  app := fun s t r e n hs hx he => by
    rw [U8.nx_ex] at hx ⊢
    rw [U8.ex_app s t hs (by rw [hx]; exact he), hx]
theorem dec8 (pol : Int) : ∀ (p : Nat) (l : List Nat), U8.dec pol p l = dec U8.nx pol p l := by
  have key : ∀ (f p : Nat) (l : List Nat), U8.decF pol f p l = decF U8.nx pol f p l := by
    intro f
    induction f with
    | zero => intro p l; rfl
    | succ f ih => intro p l; simp only [U8.decF, decF, ih]
  exact fun p l => key _ p l
theorem cut8 (l : List Nat) : U8.cutN l = scan U8.nx l := by
  have key : ∀ l : List Nat, (∀ j, j < l.length → ¬ U8.Inc l j ∨ j = scan U8.nx l) ∧ (scan U8.nx l = l.length ∨ U8.Inc l (scan U8.nx l)) := by
    refine ind _ ⟨fun j hj => by simp at hj, .inl rfl⟩ (fun l hne ih => ?_)
    obtain ⟨r, e, n, hx, h1, h2, h3, h4, h5⟩ := nx8.step l hne
    by_cases h8 : e = 18
    · subst h8
      rw [scan_more l hne r n hx]
      have hi : U8.Inc l 0 := ⟨List.length_pos_iff.2 hne, by rw [List.drop_zero, hx]⟩
      refine ⟨fun j hj => ?_, .inr hi⟩
      by_cases hc : U8.Inc l j
      · exact .inr (U8.inc_one hc hi)
      · exact .inl hc
    · have hI := ih n h1
      rw [scan_step nx8 l hne r e n hx h8 h1]
      refine ⟨fun j hj => ?_, ?_⟩
      · rcases Nat.lt_or_ge j n with hjn | hjn
        · left
          rcases Nat.eq_zero_or_pos j with rfl | hp
          · intro hi
            have := hi.2
            rw [List.drop_zero, hx] at this
            exact h8 this
          · exact U8.inc_in (k := 0) (by rw [List.drop_zero]; exact hx) hp (by omega)
        · rcases hI.1 (j - n) (by rw [List.length_drop]; omega) with h | h
          · left
            intro hi
            exact h ⟨by rw [List.length_drop]; have := hi.1; omega, by rw [List.drop_drop, show n + (j - n) = j by omega]; exact hi.2⟩
          · right; omega
      · rcases hI.2 with h | h
        · left; rw [h, List.length_drop]; omega
        · right
          exact ⟨by have := h.1; rw [List.length_drop] at this; omega, by have := h.2; rw [List.drop_drop] at this; exact this⟩
  exact U8.cutN_eq l _ (key l).1 (key l).2
set_option maxRecDepth 20000 in
/-- Whatever comes behind a beginning that is not whole: the unit has no fewer bytes, and if it has no more it is malformed. -/
theorem more8 (s t : List Nat) (hs : s ≠ []) (h : (U8.ex s).2.2 = 18) : (s.length : Int) ≤ (U8.ex (s ++ t)).2.1 ∧ ((U8.ex (s ++ t)).2.1 = (s.length : Int) → (U8.ex (s ++ t)).2.2 ≠ 0) := by
  match s, hs with
  | [b0], _ =>
    simp only [U8.ex] at h
    by_cases c1 : U8.fsz b0 = 0
    · simp [c1] at h
    by_cases c2 : U8.fsz b0 = 1
    · simp [c2] at h
    match t with
    | [] => simp [U8.ex, c1, c2]
    | [b1] =>
      simp only [U8.ex, List.cons_append, List.nil_append, c1, c2, if_false]
      (repeat' split) <;> simp
    | [b1, b2] =>
      simp only [U8.ex, List.cons_append, List.nil_append, c1, c2, if_false]
      (repeat' split) <;> simp
    | b1 :: b2 :: b3 :: u =>
      simp only [U8.ex, List.cons_append, List.nil_append, c1, c2, if_false]
      (repeat' split) <;> simp
  | [b0, b1], _ =>
    simp only [U8.ex] at h
    by_cases c1 : U8.fsz b0 = 0
    · simp [c1] at h
    by_cases c2 : U8.fsz b0 = 1
    · simp [c2] at h
    by_cases c3 : U8.lo1 b0 ≤ b1 ∧ b1 < U8.hi1 b0
    · by_cases c4 : U8.fsz b0 = 2
      · simp [c3, c4] at h
      match t with
      | [] => simp [U8.ex, c1, c2, c3, c4]
      | [b2] =>
        simp only [U8.ex, List.cons_append, List.nil_append, c1, c2, c3, c4, if_false]
        (repeat' split) <;> simp_all
      | b2 :: b3 :: u =>
        simp only [U8.ex, List.cons_append, List.nil_append, c1, c2, c3, c4, if_false]
        (repeat' split) <;> simp_all
    · simp [c1, c2, c3] at h
  | [b0, b1, b2], _ =>
    simp only [U8.ex] at h
    by_cases c1 : U8.fsz b0 = 0
    · simp [c1] at h
    by_cases c2 : U8.fsz b0 = 1
    · simp [c2] at h
    by_cases c3 : U8.lo1 b0 ≤ b1 ∧ b1 < U8.hi1 b0
    · by_cases c4 : U8.fsz b0 = 2
      · simp [c3, c4] at h
      by_cases c5 : 128 ≤ b2 ∧ b2 < 192
      · by_cases c6 : U8.fsz b0 = 3
        · simp [c3, c5, c6] at h
        match t with
        | [] => simp [U8.ex, c1, c2, c3, c4, c5, c6]
        | b3 :: u =>
          simp only [U8.ex, List.cons_append, List.nil_append, c1, c2, c3, c4, c5, c6, if_false]
          (repeat' split) <;> simp_all
      · simp [c1, c2, c3, c4, c5] at h
    · simp [c1, c2, c3] at h
  | b0 :: b1 :: b2 :: b3 :: u, _ =>
    exfalso
    have hne : b0 :: b1 :: b2 :: b3 :: u ≠ [] := by simp
    obtain ⟨r, e, n, hx, h1, h2, h3, h4, h5⟩ := nx8.step _ hne
    rw [U8.nx_ex] at hx
    rw [hx] at h
    have := h5 h
    simp at this
    omega
theorem pre8 : Pre U8.nx := by
  intro l r e n hne hx h8
  obtain ⟨r0, e0, n0, hx0, h1, h2, h3, h4, h5⟩ := nx8.step l hne
  rw [hx] at hx0
  simp only [Prod.mk.injEq] at hx0
  obtain ⟨rfl, hn, rfl⟩ := hx0
  obtain rfl : n = n0 := by omega
  obtain ⟨c, hc⟩ : ∃ c, scan U8.nx (l.drop n) = c := ⟨_, rfl⟩
  have hcl := scan_le nx8 (l.drop n)
  rw [hc, List.length_drop] at hcl
  rw [hc]
  have hl : (l.take (n + c)).length = n + c := by rw [List.length_take]; omega
  have hne2 : l.take (n + c) ≠ [] := by
    intro h0
    rw [h0] at hl
    simp at hl
    omega
  obtain ⟨r', e', n', hx', g1, g2, g3, g4, g5⟩ := nx8.step _ hne2
  by_cases h8' : e' = 18
  · subst h8'
    have hm := more8 (l.take (n + c)) (l.drop (n + c)) hne2 (by rw [← U8.nx_ex, hx'])
    rw [List.take_append_drop, ← U8.nx_ex, hx, hl] at hm
    simp only at hm
    obtain ⟨m1, m2⟩ := hm
    have hc0 : c = 0 := by omega
    subst hc0
    right
    refine ⟨?_, rfl, r', ?_⟩
    · have := m2 (by simp)
      omega
    · have hn' := (g5 rfl).1
      rw [hl, Nat.add_zero] at hn'
      rw [Nat.add_zero] at hx'
      rw [hx', hn']
  · left
    have := nx8.app (l.take (n + c)) (l.drop (n + c)) r' e' n' hne2 hx' h8'
    rw [List.take_append_drop, hx] at this
    rw [hx', ← this]

/-! wide -/
theorem nxW (k : Nat) : Nx (Wd.nx k) where
  step := fun l h => Wd.nx_step k l h
  app := fun s t r e n _ hx he => Wd.nx_app k s t r e n hx he
theorem decW (k : Nat) (pol : Int) : ∀ (p : Nat) (l : List Nat), Wd.dec k pol p l = dec (Wd.nx k) pol p l := by
  have key : ∀ (f p : Nat) (l : List Nat), Wd.decF k pol f p l = decF (Wd.nx k) pol f p l := by
    intro f
    induction f with
    | zero => intro p l; rfl
    | succ f ih => intro p l; simp only [Wd.decF, decF, ih]
  exact fun p l => key _ p l
theorem cutW (k : Nat) (l : List Nat) : Wd.cutK k l = scan (Wd.nx k) l := by
  refine ind (fun l => Wd.cutK k l = scan (Wd.nx k) l) (Wd.cutK_nil k) (fun l hne ih => ?_) l
  obtain ⟨r, e, n, hx, h1, h2, h3, h4, h5⟩ := (nxW k).step l hne
  by_cases h8 : e = 18
  · subst h8
    rw [Wd.cutK_more k l r n hx, scan_more l hne r n hx]
  · rw [Wd.cutK_step k l r e n hx h8 h2, scan_step (nxW k) l hne r e n hx h8 h1, ih n h1]
theorem scanW_mod (k : Nat) (l : List Nat) : scan (Wd.nx k) l % Wd.szK k = 0 := by
  refine ind (fun l => scan (Wd.nx k) l % Wd.szK k = 0) (by simp [scan_nil]) (fun l hne ih => ?_) l
  obtain ⟨r, e, n, hx, h1, h2, h3, h4, h5⟩ := (nxW k).step l hne
  by_cases h8 : e = 18
  · subst h8
    rw [scan_more l hne r n hx]
    exact Nat.zero_mod _
  · rw [scan_step (nxW k) l hne r e n hx h8 h1]
    have hI := ih n h1
    have hn : n % Wd.szK k = 0 := by
      rcases Wd.nx_cases k l r e n hx h8 with ⟨hh, _⟩ | ⟨hh, hh2, _⟩
      · rw [hh]; exact Nat.mod_self _
      · rw [hh2, show Wd.szK k = 2 by simp [Wd.szK, hh]]
    rw [Nat.add_mod, hn, hI]
    simp
theorem preW (k : Nat) : Pre (Wd.nx k) := by
  intro l r e n hne hx h8
  have hz := Wd.szK_bd k
  have hmod := scanW_mod k (l.drop n)
  obtain ⟨c, hc⟩ : ∃ c, scan (Wd.nx k) (l.drop n) = c := ⟨_, rfl⟩
  obtain ⟨r0, e0, n0, hx0, h1, h2, h3, h4, h5⟩ := (nxW k).step l hne
  rw [hx] at hx0
  simp only [Prod.mk.injEq] at hx0
  obtain ⟨rfl, hn, rfl⟩ := hx0
  obtain rfl : n = n0 := by omega
  have hcl := scan_le (nxW k) (l.drop n)
  rw [hc, List.length_drop] at hcl
  rw [hc] at hmod ⊢
  have hl : (l.take (n + c)).length = n + c := by rw [List.length_take]; omega
  have hne2 : l.take (n + c) ≠ [] := by
    intro h0
    rw [h0] at hl
    simp at hl
    omega
  obtain ⟨r', e', n', hx', g1, g2, g3, g4, g5⟩ := (nxW k).step _ hne2
  by_cases h8' : e' = 18
  · subst h8'
    have hn' := (g5 rfl).1
    have hn3 := (g5 rfl).2
    rw [hl] at hn'
    right
    rcases Wd.nx_cases k l r e n hx h8 with ⟨hh, hh2, hh3⟩ | ⟨hh, hh2, hh3, hh4⟩
    · have hc0 : c = 0 := by
        rcases hz.2.2 with hq | hq <;> rw [hq] at hmod hh <;> omega
      subst hc0
      rw [Nat.add_zero] at hx' hn'
      refine ⟨?_, rfl, r', by rw [hx', hn']⟩
      rcases h4 with h4 | h4 | h4
      · exfalso
        subst h4
        have hu : Wd.unN k (l.take n) = Wd.unN k l := by unfold Wd.unN; rw [List.take_take, Nat.min_eq_left (by omega)]
        have hln : (l.take n).length = n := by rw [List.length_take]; omega
        unfold Wd.nx at hx'
        rw [hln, if_neg (by omega), hu] at hx'
        by_cases hq : k ≤ 2 ∧ 55296 ≤ Wd.unN k l ∧ Wd.unN k l < 56320
        · have hz2 : Wd.szK k = 2 := by simp [Wd.szK, hq.1]
          unfold Wd.nx at hx
          rw [if_neg (by omega), if_pos hq, if_neg (by have := hh3 hq.1 hq.2.1 hq.2.2; omega)] at hx
          split at hx <;> simp at hx <;> omega
        · rw [if_neg hq] at hx'
          split at hx' <;> simp at hx'
      · exact h4
      · exact absurd h4 h8
    · exfalso; omega
  · left
    have := (nxW k).app (l.take (n + c)) (l.drop (n + c)) r' e' n' hne2 hx' h8'
    rw [List.take_append_drop, hx] at this
    rw [hx', ← this]
end Go.Proofs.YthnfopjjghohcaaDoor.Dg
/- Marks, and what bytes that are all there, or come in parts, are (layer 3, in the document's words). Plain. -/
namespace Go.Proofs.YthnfopjjghohcaaDoor.Dg

/-- Does a list begin with another one? -/
def pf : List Nat → List Nat → Bool
  | [], _ => true
  | _ :: _, [] => false
  | a :: s, b :: t => a == b && pf s t
theorem pf_len : ∀ (s t : List Nat), pf s t = true → s.length ≤ t.length
  | [], _, _ => by simp
  | _ :: _, [], h => by simp [pf] at h
  | a :: s, b :: t, h => by
    simp only [pf, Bool.and_eq_true] at h
    have := pf_len s t h.2
    simp; omega
theorem pf_take : ∀ (s t : List Nat), pf s t = decide (s.length ≤ t.length ∧ t.take s.length = s)
  | [], _ => by simp [pf]
  | _ :: _, [] => by simp [pf]
  | a :: s, b :: t => by
    rw [pf, pf_take s t, Bool.eq_iff_iff]
    simp
    constructor
    · rintro ⟨rfl, h1, h2⟩; exact ⟨h1, rfl, h2⟩
    · rintro ⟨h1, rfl, h2⟩; exact ⟨rfl, h1, h2⟩
theorem pf_app : ∀ (s t m : List Nat), s.length ≤ t.length → pf s (t ++ m) = pf s t
  | [], _, _, _ => by simp [pf]
  | _ :: _, [], _, h => by simp at h
  | a :: s, b :: t, m, h => by
    rw [List.cons_append, pf, pf, pf_app s t m (by simpa using h)]
/-- What is no beginning of a list stays none. -/
theorem pf_no : ∀ (s t m : List Nat), pf t s = false → pf (t ++ m) s = false
  | _, [], _, h => by simp [pf] at h
  | [], _ :: _, _, _ => by simp [pf]
  | a :: s, b :: t, m, h => by
    rw [List.cons_append, pf]
    rw [pf] at h
    by_cases hab : b == a
    · rw [hab, Bool.true_and] at h ⊢
      exact pf_no s t m h
    · simp [hab]
/-- A list that is no beginning of another one, and does not begin with it, stays so. -/
theorem pf_not : ∀ (s t m : List Nat), pf t s = false → pf s t = false → pf s (t ++ m) = false
  | [], t, _, _, h => by simp [pf] at h
  | _ :: _, [], _, h, _ => by simp [pf] at h
  | a :: s, b :: t, m, h, h' => by
    rw [List.cons_append, pf]
    rw [pf] at h h'
    by_cases hab : a == b
    · have hba : (b == a) = true := by simp at hab ⊢; exact hab.symm
      rw [hba, Bool.true_and] at h
      rw [hab, Bool.true_and] at h' ⊢
      exact pf_not s t m h h'
    · simp [hab]
theorem pf_mono : ∀ (s t m : List Nat), pf s t = true → pf s (t ++ m) = true
  | [], _, _, _ => by simp [pf]
  | _ :: _, [], _, h => by simp [pf] at h
  | a :: s, b :: t, m, h => by
    rw [List.cons_append, pf]
    rw [pf] at h
    simp only [Bool.and_eq_true] at h ⊢
    exact ⟨h.1, pf_mono s t m h.2⟩
/-- A kind's mark. -/
def mkL (k : Nat) : List Nat := if k = 5 then [239, 187, 191] else if k = 3 then [255, 254, 0, 0] else if k = 4 then [0, 0, 254, 255] else if k = 1 then [255, 254] else if k = 2 then [254, 255] else []
/-- Which mark bytes begin with, and how many bytes it has. -/
def gs5 (l : List Nat) : Nat × Nat :=
  if pf (mkL 5) l then (5, 3) else if pf (mkL 3) l then (3, 4) else if pf (mkL 4) l then (4, 4) else if pf (mkL 1) l then (1, 2) else if pf (mkL 2) l then (2, 2) else (0, 0)
/-- May bytes become a mark, or another one than they are? -/
def und (l : List Nat) : Bool := decide (l.length < 4) && !(l == mkL 5) && (pf l (mkL 5) || pf l (mkL 3) || pf l (mkL 4) || pf l (mkL 1) || pf l (mkL 2))
theorem und_nil : und [] = true := by decide
theorem gs5_four (l m : List Nat) (h : 4 ≤ l.length) : gs5 (l ++ m) = gs5 l := by
  unfold gs5
  rw [pf_app (mkL 5) l m (by simp [mkL]; omega), pf_app (mkL 3) l m (by simp [mkL]; omega), pf_app (mkL 4) l m (by simp [mkL]; omega), pf_app (mkL 1) l m (by simp [mkL]; omega), pf_app (mkL 2) l m (by simp [mkL]; omega)]
theorem und_four (l : List Nat) (h : 4 ≤ l.length) : und l = false := by
  unfold und
  rw [show decide (l.length < 4) = false by simp; omega]
  rfl
theorem eq_of_pf : ∀ (s t : List Nat), pf s t = true → t.length ≤ s.length → t = s
  | [], t, _, h => by simpa using h
  | _ :: _, [], h, _ => by simp [pf] at h
  | a :: s, b :: t, h, hl => by
    simp only [pf, Bool.and_eq_true, beq_iff_eq] at h
    rw [h.1, eq_of_pf s t h.2 (by simpa using hl)]
/-- Bytes that are decided stay so, whatever comes behind. -/
theorem und_app (l m : List Nat) (h : und l = false) : und (l ++ m) = false ∧ gs5 (l ++ m) = gs5 l := by
  by_cases h4 : 4 ≤ l.length
  · exact ⟨und_four _ (by rw [List.length_append]; omega), gs5_four l m h4⟩
  have hd : decide (l.length < 4) = true := by simp; omega
  by_cases h5 : l = mkL 5
  · subst h5
    constructor
    · cases m with
      | nil => rw [List.append_nil]; exact h
      | cons x m => exact und_four _ (by simp [mkL])
    · simp [gs5, mkL, pf]
  · have hb : (l == mkL 5) = false := by simpa using h5
    unfold und at h
    rw [hd, hb] at h
    simp only [Bool.not_false, Bool.true_and, Bool.or_eq_false_iff] at h
    obtain ⟨⟨⟨⟨n5, n3⟩, n4⟩, n1⟩, n2⟩ := h
    constructor
    · unfold und
      rw [pf_no _ l m n5, pf_no _ l m n3, pf_no _ l m n4, pf_no _ l m n1, pf_no _ l m n2]
      simp
    · have same : ∀ k : Nat, pf l (mkL k) = false → pf (mkL k) (l ++ m) = pf (mkL k) l := by
        intro k hk
        cases hh : pf (mkL k) l
        · exact pf_not (mkL k) l m hk hh
        · exact pf_mono (mkL k) l m hh
      unfold gs5
      rw [same 5 n5, same 3 n3, same 4 n4, same 1 n1, same 2 n2]
/-- What the next character is, by the kind. -/
def nx5 (k : Nat) : List Nat → Int × Int × Int := if k = 5 then U8.nx else Wd.nx k
theorem nxOk (k : Nat) : Nx (nx5 k) := by
  unfold nx5
  split
  · exact nx8
  · exact nxW k
theorem preOk (k : Nat) : Pre (nx5 k) := by
  unfold nx5
  split
  · exact pre8
  · exact preW k
/-- The kind that bytes go by, and where behind a mark they begin. -/
def knd (k : Nat) (guess : Bool) (l : List Nat) : Nat := if guess = true ∧ 0 < (gs5 l).1 then (gs5 l).1 else k
def beg (guess : Bool) (l : List Nat) : Nat := if guess then (gs5 l).2 else 0
/-- Bytes that are all there. -/
def whole (k : Nat) (pol : Int) (guess : Bool) (l : List Nat) : List Int × List (Nat × Nat) × Int := dec (nx5 (knd k guess l)) pol (beg guess l) (l.drop (beg guess l))
/-- Bytes so far: what is sure, and where what waits begins. -/
def sure (k : Nat) (pol : Int) (guess : Bool) (l : List Nat) : List Int × List (Nat × Nat) × Int := if guess && und l then ([], [], 0) else sur (nx5 (knd k guess l)) pol (beg guess l) (l.drop (beg guess l))
def sureK (k : Nat) (guess : Bool) (l : List Nat) : Nat := if guess && und l then k else knd k guess l
def cut5 (k : Nat) (guess : Bool) (l : List Nat) : Nat := if guess && und l then 0 else beg guess l + scan (nx5 (knd k guess l)) (l.drop (beg guess l))
theorem gs5_le (l : List Nat) : (gs5 l).2 ≤ l.length := by
  unfold gs5
  by_cases c5 : pf (mkL 5) l = true
  · rw [if_pos c5]; exact pf_len _ _ c5
  rw [if_neg c5]
  by_cases c3 : pf (mkL 3) l = true
  · rw [if_pos c3]; exact pf_len _ _ c3
  rw [if_neg c3]
  by_cases c4 : pf (mkL 4) l = true
  · rw [if_pos c4]; exact pf_len _ _ c4
  rw [if_neg c4]
  by_cases c1 : pf (mkL 1) l = true
  · rw [if_pos c1]; exact pf_len _ _ c1
  rw [if_neg c1]
  by_cases c2 : pf (mkL 2) l = true
  · rw [if_pos c2]; exact pf_len _ _ c2
  rw [if_neg c2]
  exact Nat.zero_le _
theorem beg_le (guess : Bool) (l : List Nat) : beg guess l ≤ l.length := by
  unfold beg
  split
  · exact gs5_le l
  · exact Nat.zero_le _
/-- No more than three bytes wait. -/
theorem waits_le (k : Nat) (guess : Bool) (l : List Nat) : cut5 k guess l ≤ l.length ∧ l.length - cut5 k guess l ≤ 3 := by
  unfold cut5
  by_cases h : (guess && und l) = true
  · rw [if_pos h]
    simp only [Bool.and_eq_true] at h
    have := h.2
    unfold und at this
    simp only [Bool.and_eq_true, decide_eq_true_eq] at this
    omega
  · rw [if_neg h]
    have h1 := beg_le guess l
    have h2 := scan_le (nxOk (knd k guess l)) (l.drop (beg guess l))
    rw [List.length_drop] at h2
    omega
/-- Once decided, the kind and the beginning stay, whatever comes behind. -/
theorem dec_stay (k : Nat) (guess : Bool) (l m : List Nat) (h : ¬ (guess && und l) = true) : ¬ (guess && und (l ++ m)) = true ∧ knd k guess (l ++ m) = knd k guess l ∧ beg guess (l ++ m) = beg guess l := by
  cases guess
  · exact ⟨by simp, rfl, rfl⟩
  · have hu : und l = false := by simpa using h
    obtain ⟨h1, h2⟩ := und_app l m hu
    exact ⟨by simp [h1], by unfold knd; rw [h2], by unfold beg; rw [h2]⟩
/-- All bytes are what is sure, and behind it what waits, read as it stands. -/
theorem whole_sure (k : Nat) (pol : Int) (guess : Bool) (l : List Nat) (h : ¬ (guess && und l) = true) :
    whole k pol guess l = cat (sure k pol guess l) (dec (nx5 (knd k guess l)) pol (cut5 k guess l) (l.drop (cut5 k guess l))) := by
  unfold whole sure cut5
  rw [if_neg h, if_neg h, dec_sur (nxOk _) pol, List.drop_drop]
/-- Bytes that come behind decided ones. -/
theorem sure_app (k : Nat) (pol : Int) (guess : Bool) (l m : List Nat) (h : ¬ (guess && und l) = true) :
    sure k pol guess (l ++ m) = cat (sure k pol guess l) (sur (nx5 (knd k guess l)) pol (cut5 k guess l) (l.drop (cut5 k guess l) ++ m)) ∧ cut5 k guess (l ++ m) = cut5 k guess l + scan (nx5 (knd k guess l)) (l.drop (cut5 k guess l) ++ m) := by
  obtain ⟨h1, h2, h3⟩ := dec_stay k guess l m h
  have hb := beg_le guess l
  unfold sure cut5
  rw [if_neg h, if_neg h1, if_neg h, if_neg h1, h2, h3, List.drop_append_of_le_length hb]
  constructor
  · rw [sur_app (nxOk _) pol, List.drop_drop]
  · rw [scan_app (nxOk _), List.drop_drop, Nat.add_assoc]
end Go.Proofs.YthnfopjjghohcaaDoor.Dg
/- A decoder that is fed part by part: what is sure of all bytes, by what is sure of those that waited and those that came. Plain. -/
namespace Go.Proofs.YthnfopjjghohcaaDoor.Dg

/-- Malformed units, moved. -/
def shf (j : Nat) (a : List Int × List (Nat × Nat) × Int) : List Int × List (Nat × Nat) × Int := (a.1, a.2.1.map (fun x => (j + x.1, x.2)), a.2.2)
theorem shf_zero (a : List Int × List (Nat × Nat) × Int) : shf 0 a = a := by
  obtain ⟨x, y, z⟩ := a
  simp [shf]
theorem dec_shf {nx : List Nat → Int × Int × Int} (H : Nx nx) (pol : Int) (j : Nat) (l : List Nat) : dec nx pol j l = shf j (dec nx pol 0 l) := by
  have := dec_shift H pol l 0 j
  rw [Nat.add_zero] at this
  exact this
theorem sur_shf {nx : List Nat → Int × Int × Int} (H : Nx nx) (HP : Pre nx) (pol : Int) (j : Nat) (l : List Nat) : sur nx pol j l = shf j (sur nx pol 0 l) := by
  rw [← dec_cut H HP pol l j, ← dec_cut H HP pol l 0]
  exact dec_shf H pol j _
theorem sure_no (k : Nat) (pol : Int) (l : List Nat) : sure k pol false l = sur (nx5 k) pol 0 l := by
  simp [sure, knd, beg]
theorem whole_no (k : Nat) (pol : Int) (l : List Nat) : whole k pol false l = dec (nx5 k) pol 0 l := by
  simp [whole, knd, beg]
theorem cut5_no (k : Nat) (l : List Nat) : cut5 k false l = scan (nx5 k) l := by
  simp [cut5, knd, beg]
theorem sureK_no (k : Nat) (l : List Nat) : sureK k false l = k := by simp [sureK, knd]
theorem knd_no (k : Nat) (l : List Nat) : knd k false l = k := by simp [knd]
/-- Bytes that are fed. -/
theorem feed_step (k : Nat) (pol : Int) (guess : Bool) (L s : List Nat) :
    sure k pol guess (L ++ s) = cat (sure k pol guess L) (shf (cut5 k guess L) (sure (sureK k guess L) pol (guess && und L) (L.drop (cut5 k guess L) ++ s)))
    ∧ cut5 k guess (L ++ s) = cut5 k guess L + cut5 (sureK k guess L) (guess && und L) (L.drop (cut5 k guess L) ++ s)
    ∧ sureK k guess (L ++ s) = sureK (sureK k guess L) (guess && und L) (L.drop (cut5 k guess L) ++ s)
    ∧ (guess && und (L ++ s)) = ((guess && und L) && und (L.drop (cut5 k guess L) ++ s)) := by
  by_cases h : (guess && und L) = true
  · have hc : cut5 k guess L = 0 := by unfold cut5; rw [if_pos h]
    have hs : sure k pol guess L = ([], [], 0) := by unfold sure; rw [if_pos h]
    have hk : sureK k guess L = k := by unfold sureK; rw [if_pos h]
    have hg : guess = true := by simp only [Bool.and_eq_true] at h; exact h.1
    rw [hc, hs, hk, h, cat_nil, shf_zero, List.drop_zero, hg]
    simp
  · have hf : (guess && und L) = false := by simpa using h
    obtain ⟨h1, h2, h3⟩ := dec_stay k guess L s h
    obtain ⟨h4, h5⟩ := sure_app k pol guess L s h
    have hk : sureK k guess L = knd k guess L := by unfold sureK; rw [if_neg h]
    rw [hf, hk, sure_no, cut5_no, sureK_no, ← sur_shf (nxOk _) (preOk _)]
    refine ⟨h4, h5, ?_, by simpa using h1⟩
    unfold sureK
    rw [if_neg h1, h2]
theorem close_step (k : Nat) (pol : Int) (guess : Bool) (L : List Nat) :
    whole k pol guess L = cat (sure k pol guess L) (shf (cut5 k guess L) (whole (sureK k guess L) pol (guess && und L) (L.drop (cut5 k guess L))))
    ∧ knd k guess L = knd (sureK k guess L) (guess && und L) (L.drop (cut5 k guess L)) := by
  by_cases h : (guess && und L) = true
  · have hc : cut5 k guess L = 0 := by unfold cut5; rw [if_pos h]
    have hs : sure k pol guess L = ([], [], 0) := by unfold sure; rw [if_pos h]
    have hk : sureK k guess L = k := by unfold sureK; rw [if_pos h]
    have hg : guess = true := by simp only [Bool.and_eq_true] at h; exact h.1
    rw [hc, hs, hk, h, cat_nil, shf_zero, List.drop_zero, hg]
    exact ⟨rfl, rfl⟩
  · have hf : (guess && und L) = false := by simpa using h
    have hk : sureK k guess L = knd k guess L := by unfold sureK; rw [if_neg h]
    rw [hf, hk, whole_no, knd_no, ← dec_shf (nxOk _)]
    exact ⟨whole_sure k pol guess L h, rfl⟩
theorem sure_nil (k : Nat) (pol : Int) (guess : Bool) : sure k pol guess [] = ([], [], 0) ∧ cut5 k guess [] = 0 ∧ sureK k guess [] = k ∧ (guess && und []) = guess := by
  cases guess
  · rw [sure_no, cut5_no, sureK_no]; exact ⟨rfl, rfl, rfl, rfl⟩
  · simp [sure, cut5, sureK, und_nil]
theorem cat_err (a b : List Int × List (Nat × Nat) × Int) (h : a.2.2 = 0) : cat a b = (a.1 ++ b.1, a.2.1 ++ b.2.1, b.2.2) := by unfold cat; rw [if_pos h]
theorem cat_bad17 (a b : List Int × List (Nat × Nat) × Int) (h : a.2.2 ≠ 0) : cat a b = a := by unfold cat; rw [if_neg h]
theorem sur_lens {nx : List Nat → Int × Int × Int} (H : Nx nx) (HP : Pre nx) (pol : Int) (p : Nat) (l : List Nat) : (sur nx pol p l).1.length ≤ l.length ∧ (sur nx pol p l).2.1.length ≤ l.length := by
  rw [← dec_cut H HP pol l p]
  have := dec_lens H pol (l.take (scan nx l)) p
  rw [List.length_take] at this
  omega
theorem sure_lens (k : Nat) (pol : Int) (guess : Bool) (l : List Nat) : (sure k pol guess l).1.length ≤ l.length ∧ (sure k pol guess l).2.1.length ≤ l.length := by
  unfold sure
  split
  · simp
  · have := sur_lens (nxOk (knd k guess l)) (preOk (knd k guess l)) pol (beg guess l) (l.drop (beg guess l))
    rw [List.length_drop] at this
    omega
theorem whole_lens (k : Nat) (pol : Int) (guess : Bool) (l : List Nat) : (whole k pol guess l).1.length ≤ l.length ∧ (whole k pol guess l).2.1.length ≤ l.length := by
  unfold whole
  have := dec_lens (nxOk (knd k guess l)) pol (l.drop (beg guess l)) (beg guess l)
  rw [List.length_drop] at this
  omega
theorem sure_err (k : Nat) (pol : Int) (guess : Bool) (l : List Nat) (hp : pol ≠ 1) : (sure k pol guess l).2.2 = 0 := by
  unfold sure
  split
  · rfl
  · exact sur_err (nxOk _) pol hp _ _
theorem whole_err (k : Nat) (pol : Int) (guess : Bool) (l : List Nat) (hp : pol ≠ 1) : (whole k pol guess l).2.2 = 0 := dec_err (nxOk _) pol hp _ _
theorem sure_errs (k : Nat) (pol : Int) (guess : Bool) (l : List Nat) : (sure k pol guess l).2.2 = 0 ∨ (sure k pol guess l).2.2 = 17 := by
  by_cases hp : pol = 1
  · subst hp
    unfold sure
    split
    · exact .inl rfl
    · rcases sur_err1 (nxOk (knd k guess l)) (l.drop (beg guess l)) (beg guess l) with h | h
      · exact .inl h.1
      · exact .inr h.1
  · exact .inl (sure_err k pol guess l hp)
theorem whole_errs (k : Nat) (pol : Int) (guess : Bool) (l : List Nat) : (whole k pol guess l).2.2 = 0 ∨ (whole k pol guess l).2.2 = 17 := by
  by_cases hp : pol = 1
  · subst hp
    rcases dec_err1 (nxOk (knd k guess l)) (l.drop (beg guess l)) (beg guess l) with h | h
    · exact .inl h.1
    · exact .inr h.1
  · exact .inl (whole_err k pol guess l hp)
/-- The kinds that may be stay so. -/
theorem gs5_kind (l : List Nat) : (gs5 l).1 ≤ 5 ∧ ((gs5 l).1 = 0 → (gs5 l).2 = 0) ∧ (gs5 l).2 ≤ 4 := by
  unfold gs5
  split
  · simp
  split
  · simp
  split
  · simp
  split
  · simp
  split <;> simp
theorem knd_bd (k : Nat) (guess : Bool) (l : List Nat) (h1 : 1 ≤ k) (h5 : k ≤ 5) : 1 ≤ knd k guess l ∧ knd k guess l ≤ 5 := by
  unfold knd
  have := gs5_kind l
  split <;> omega
theorem sureK_bd (k : Nat) (guess : Bool) (l : List Nat) (h1 : 1 ≤ k) (h5 : k ≤ 5) : 1 ≤ sureK k guess l ∧ sureK k guess l ≤ 5 := by
  unfold sureK
  split
  · exact ⟨h1, h5⟩
  · exact knd_bd k guess l h1 h5
end Go.Proofs.YthnfopjjghohcaaDoor.Dg

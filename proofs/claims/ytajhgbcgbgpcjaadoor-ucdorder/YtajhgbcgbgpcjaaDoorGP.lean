import Derived.Test.YtajhgbcgbgpcjaaDoorGA
import Derived.Test.YtajhgbcgbgpcjaaDoorFP
import Derived.Test.YtajhgbcgbgpcjaaDoorFN
namespace Go.Proofs.YtajhgbcgbgpcjaaDoor.Uc
open Go.RowKit Fi

theorem intT_ok {k s : List UInt8} {need : Bool} (h : (intT k s need).2.2 = 0) : (intT k s need).1 = k ∧ (intT k s need).2.1 = (rnsE s).1 ∧ (rnsE s).2 = 0 ∧ (need = true → (rnsE s).1 ≠ []) ∧ (rnsE s).1.length ≤ 18 := by
  unfold intT at h ⊢
  by_cases h1 : (rnsE s).2 ≠ 0
  · rw [if_pos h1] at h; exact absurd h h1
  · rw [if_neg h1] at h ⊢
    by_cases h2 : need = true ∧ (rnsE s).1 = []
    · rw [if_pos h2] at h; exact absurd h (by decide)
    · rw [if_neg h2] at h ⊢
      by_cases h3 : 18 < (rnsE s).1.length
      · rw [if_pos h3] at h; exact absurd h (by decide)
      · rw [if_neg h3]
        exact ⟨rfl, rfl, by simpa using h1, fun hn he => h2 ⟨hn, he⟩, by omega⟩
theorem intT_err {k s : List UInt8} {need : Bool} (h : (intT k s need).2.2 ≠ 0) : (intT k s need).1 = [] ∧ (intT k s need).2.1 = [] := by
  unfold intT at h ⊢
  by_cases h1 : (rnsE s).2 ≠ 0
  · rw [if_pos h1]; exact ⟨rfl, rfl⟩
  · rw [if_neg h1] at h ⊢
    by_cases h2 : need = true ∧ (rnsE s).1 = []
    · rw [if_pos h2]; exact ⟨rfl, rfl⟩
    · rw [if_neg h2] at h ⊢
      by_cases h3 : 18 < (rnsE s).1.length
      · rw [if_pos h3]; exact ⟨rfl, rfl⟩
      · rw [if_neg h3] at h; exact absurd rfl h
theorem rnsW_scal : ∀ (x : List (List UInt8)) (acc : List Int), (∀ y ∈ acc, scal y = true) → ∀ y ∈ (rnsW acc x).1, scal y = true
  | [], acc, h => by simpa [rnsW] using h
  | z :: x, acc, h => by
    by_cases h2 : (hexE z).2 = 0
    · rw [rnsW_ok h2]
      refine rnsW_scal x _ (fun y hy => ?_)
      rcases List.mem_append.1 hy with hy | hy
      · exact h y hy
      · simp at hy
        subst hy
        rcases hexE_cases z with h3 | h3
        · exact h3.2
        · omega
    · rw [rnsW_no h2]; intro y hy; cases hy
theorem rnsE_scal (l : List UInt8) : ∀ y ∈ (rnsE l).1, scal y = true := rnsW_scal _ _ (fun y hy => by cases hy)
theorem intE_ok {s : List UInt8} (h : (intE s).2.2 = 0) : ltrs (intE s).1 = true ∧ (intE s).2.1.length ≤ 18 ∧ ((intE s).2.1 = [] → (intE s).1 = []) ∧ ∀ x ∈ (intE s).2.1, scal x = true := by
  unfold intE at h ⊢
  by_cases h1 : Lib.hasPrefix s [60] = true
  · rw [if_pos h1] at h ⊢
    by_cases h2 : (Lib.cut (s.drop 1) [62]).2.2 = true ∧ (Lib.cut (s.drop 1) [62]).1 ≠ [] ∧ ltrs (Lib.cut (s.drop 1) [62]).1 = true
    · rw [if_pos h2] at h ⊢
      obtain ⟨a, b, _, d, e⟩ := intT_ok h
      rw [a, b]
      exact ⟨h2.2.2, e, fun hh => absurd hh (d rfl), rnsE_scal _⟩
    · rw [if_neg h2] at h; exact absurd h (by decide)
  · rw [if_neg h1] at h ⊢
    obtain ⟨a, b, _, _, e⟩ := intT_ok h
    rw [a, b]
    exact ⟨rfl, e, fun _ => rfl, rnsE_scal _⟩
theorem intE_err {s : List UInt8} (h : (intE s).2.2 ≠ 0) : (intE s).1 = [] ∧ (intE s).2.1 = [] := by
  unfold intE at h ⊢
  by_cases h1 : Lib.hasPrefix s [60] = true
  · rw [if_pos h1] at h ⊢
    by_cases h2 : (Lib.cut (s.drop 1) [62]).2.2 = true ∧ (Lib.cut (s.drop 1) [62]).1 ≠ [] ∧ ltrs (Lib.cut (s.drop 1) [62]).1 = true
    · rw [if_pos h2] at h ⊢; exact intT_err h
    · rw [if_neg h2]; exact ⟨rfl, rfl⟩
  · rw [if_neg h1] at h ⊢; exact intT_err h
theorem intE_len (s : List UInt8) : (intE s).2.1.length ≤ 18 := by
  by_cases h : (intE s).2.2 = 0
  · exact (intE_ok h).2.1
  · rw [(intE_err h).2]; simp
theorem intE_kd (s : List UInt8) : (intE s).1.length ≤ s.length := by
  by_cases h : (intE s).2.2 = 0
  · unfold intE at h ⊢
    by_cases h1 : Lib.hasPrefix s [60] = true
    · rw [if_pos h1] at h ⊢
      by_cases h2 : (Lib.cut (s.drop 1) [62]).2.2 = true ∧ (Lib.cut (s.drop 1) [62]).1 ≠ [] ∧ ltrs (Lib.cut (s.drop 1) [62]).1 = true
      · rw [if_pos h2] at h ⊢
        rw [(intT_ok h).1]
        have := (cut_le (s.drop 1) [62]).1
        rw [List.length_drop] at this
        omega
      · rw [if_neg h2]; simp
    · rw [if_neg h1] at h ⊢; rw [(intT_ok h).1]; simp
  · rw [(intE_err h).1]; simp
theorem nmE_bd (l : List UInt8) : 0 ≤ (nmE l).1 ∧ (nmE l).1 ≤ 99999 ∧ ((nmE l).2 = 0 ∨ (nmE l).2 = 10) := by
  unfold nmE
  cases h : digs 10 5 l with
  | none => simp
  | some n =>
    have := digs_lt (by omega) h
    simp
    omega
structure RowOk (x : Rw) : Prop where
  tt : x.tt = x.fr
  fr : scal x.fr = true
  cl0 : 0 ≤ x.cl
  cl1 : x.cl ≤ 254
  kd : ltrs x.kd = true
  into : x.into.length ≤ 18
  none : x.into = [] → x.kd = []
  sc : ∀ y ∈ x.into, scal y = true
theorem rowF_ok {f : List (List UInt8)} (h : (rowF f).2 = 0) : RowOk (rowF f).1 := by
  unfold rowF at h ⊢
  by_cases h1 : (hexE (f.getD 0 [])).2 ≠ 0
  · rw [if_pos h1] at h; exact absurd h h1
  · rw [if_neg h1] at h ⊢
    by_cases h2 : (nmE (f.getD 3 [])).2 ≠ 0
    · rw [if_pos h2] at h; exact absurd h h2
    · rw [if_neg h2] at h ⊢
      by_cases h3 : 254 < (nmE (f.getD 3 [])).1
      · rw [if_pos h3] at h; exact absurd h (by decide)
      · rw [if_neg h3] at h ⊢
        by_cases h4 : (intE (f.getD 5 [])).2.2 ≠ 0
        · rw [if_pos h4] at h; exact absurd h h4
        · rw [if_neg h4]
          obtain ⟨a, b, c, d⟩ := intE_ok (Decidable.not_not.1 h4)
          refine ⟨rfl, ?_, (nmE_bd _).1, by show (nmE (f.getD 3 [])).1 ≤ 254; omega, a, b, c, d⟩
          rcases hexE_cases (f.getD 0 []) with h5 | h5
          · exact h5.2
          · omega
theorem rowE_ok {l : List UInt8} (h : (rowE l).2 = 0) : RowOk (rowE l).1 := by
  unfold rowE at h ⊢
  by_cases h1 : (fld l).length < 6
  · rw [if_pos h1] at h; exact absurd h (by decide)
  · rw [if_neg h1] at h ⊢; exact rowF_ok h

theorem wds_blank : ∀ l : List UInt8, (∀ c ∈ l, isb c = true) → wds [] l = []
  | [], _ => rfl
  | c :: l, h => by
    have hc := h c (by simp)
    rw [isb_blk, blB_blk] at hc
    rw [wds, hc]
    simpa using wds_blank l (fun d hd => h d (by simp [hd]))
theorem wds_some : ∀ (l cur : List UInt8), (cur ≠ [] ∨ ∃ c ∈ l, isb c = false) → wds cur l ≠ []
  | [], cur, h => by
    rcases h with h | ⟨c, hc, _⟩
    · rw [wds, if_neg h]; simp
    · cases hc
  | c :: l, cur, h => by
    rw [wds]
    cases hc : blk c.toNat with
    | true =>
      simp only [if_true]
      by_cases h0 : cur = []
      · rw [if_pos h0]
        refine wds_some l [] (.inr ?_)
        rcases h with h | ⟨d, hd, hi⟩
        · exact absurd h0 h
        · rcases List.mem_cons.1 hd with rfl | hd
          · rw [isb_blk, blB_blk, hc] at hi; cases hi
          · exact ⟨d, hd, hi⟩
      · rw [if_neg h0]; simp
    | false =>
      simp only [Bool.false_eq_true, if_false]
      exact wds_some l _ (.inl (by simp))
theorem rt_nil : ∀ l : List UInt8, rt l = [] ↔ ∀ c ∈ l, isb c = true
  | [] => by simp [rt]
  | c :: l => by
    rw [rt_cons]
    have ih := rt_nil l
    by_cases h : rt l = []
    · rw [if_pos h]
      have h2 := ih.1 h
      cases hc : isb c with
      | true => simp only [if_true, true_iff]; intro d hd; rcases List.mem_cons.1 hd with rfl | hd; exact hc; exact h2 d hd
      | false => simp [hc]
    · rw [if_neg h]
      refine ⟨fun h3 => by simp at h3, fun h3 => absurd (ih.2 (fun d hd => h3 d (by simp [hd]))) h⟩
theorem lt_cases : ∀ l : List UInt8, (lt l = [] ∧ ∀ c ∈ l, isb c = true) ∨ ∃ c r, lt l = c :: r ∧ isb c = false
  | [] => .inl ⟨rfl, fun c hc => by cases hc⟩
  | c :: l => by
    cases hc : isb c with
    | false => exact .inr ⟨c, l, lt_no hc, hc⟩
    | true =>
      rw [lt_yes hc]
      rcases lt_cases l with ⟨h1, h2⟩ | h
      · exact .inl ⟨h1, fun d hd => by rcases List.mem_cons.1 hd with rfl | hd; exact hc; exact h2 d hd⟩
      · exact .inr h
theorem bareL_nil (l : List UInt8) : bareL l = [] ↔ ∀ c ∈ l, isb c = true := by
  rw [bareL_rt, rt_nil]
  rcases lt_cases l with ⟨h1, h2⟩ | ⟨d, r, h1, h2⟩
  · rw [h1]
    exact ⟨fun _ => h2, fun _ c hc => by cases hc⟩
  · rw [h1]
    refine ⟨fun h => ?_, fun h => ?_⟩
    · have := h d (by simp); rw [h2] at this; cases this
    · have hd : d ∈ l := (List.dropWhile_sublist isb).subset (by show d ∈ lt l; rw [h1]; simp)
      have := h d hd; rw [h2] at this; cases this
theorem rnsW_len2 : ∀ (x : List (List UInt8)) (acc : List Int), (rnsW acc x).2 = 0 → (rnsW acc x).1.length = acc.length + x.length
  | [], acc, _ => by simp [rnsW]
  | z :: x, acc, h => by
    by_cases h2 : (hexE z).2 = 0
    · rw [rnsW_ok h2] at h ⊢
      rw [rnsW_len2 x _ h]
      simp
      omega
    · rw [rnsW_no h2] at h; exact absurd h h2
/-- There are characters, or an error, where there is anything but blanks. -/
theorem rns_bare (l : List UInt8) : bareL l = [] ↔ rnsE l = ([], 0) := by
  rw [bareL_nil]
  constructor
  · intro h
    unfold rnsE
    rw [wds_blank l h]
    rfl
  · intro h c hc
    cases hi : isb c with
    | true => rfl
    | false =>
      exfalso
      have h2 := wds_some l [] (.inr ⟨c, hc, hi⟩)
      have h3 := rnsW_len2 (wds [] l) [] (by show (rnsE l).2 = 0; rw [h])
      have h4 : (rnsW [] (wds [] l)).1 = [] := by show (rnsE l).1 = []; rw [h]
      rw [h4] at h3
      simp at h3
      exact h2 (List.eq_nil_of_length_eq_zero h3.symm)

theorem fld_len (l : List UInt8) : (fld l).length = l.count 59 + 1 := by unfold fld; rw [List.length_map, spl_len]
theorem run_cons {rs : List Rw} {op : Nat} {x : Nat × List UInt8} {r : List (Nat × List UInt8)} (h : (stp rs op x.1 x.2).2.2 = 0) : run rs op (x :: r) = run (stp rs op x.1 x.2).1 (stp rs op x.1 x.2).2.1 r := by rw [run, if_neg (by simpa using h)]
theorem run_wrong {rs : List Rw} {op : Nat} {x : Nat × List UInt8} {r : List (Nat × List UInt8)} (h : (stp rs op x.1 x.2).2.2 ≠ 0) : run rs op (x :: r) = ((stp rs op x.1 x.2).1, (stp rs op x.1 x.2).2.1, x.1, (stp rs op x.1 x.2).2.2) := by rw [run, if_pos h]

end Go.Proofs.YtajhgbcgbgpcjaaDoor.Uc

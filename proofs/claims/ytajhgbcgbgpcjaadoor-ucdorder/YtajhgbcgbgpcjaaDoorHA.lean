import Derived.Test.YtajhgbcgbgpcjaaDoorGB
namespace Go.Proofs.YtajhgbcgbgpcjaaDoor.Uc
open Go.RowKit Fi

/-- The characters among the n numbers from f on. -/
def chP (f : Int) (n : Nat) : List Int := ((List.range n).map fun j : Nat => f + (j : Int)).filter scal
def chs (f t : Int) : List Int := chP f (t - f + 1).toNat
theorem chP_zero (f : Int) : chP f 0 = [] := rfl
theorem chP_yes {f : Int} {n : Nat} (h : scal (f + n) = true) : chP f (n + 1) = chP f n ++ [f + n] := by
  unfold chP
  rw [List.range_succ, List.map_append, List.filter_append]
  simp [h]
theorem chP_no {f : Int} {n : Nat} (h : scal (f + n) = false) : chP f (n + 1) = chP f n := by
  unfold chP
  rw [List.range_succ, List.map_append, List.filter_append]
  simp [h]
theorem chP_mem {f x : Int} {n : Nat} (h : x ∈ chP f n) : f ≤ x ∧ x < f + n ∧ scal x = true := by
  unfold chP at h
  obtain ⟨h1, h2⟩ := List.mem_filter.1 h
  obtain ⟨j, hj, rfl⟩ := List.mem_map.1 h1
  have := List.mem_range.1 hj
  exact ⟨by omega, by omega, h2⟩
theorem chs_mem {f t x : Int} (h : x ∈ chs f t) : f ≤ x ∧ x ≤ t ∧ scal x = true := by
  obtain ⟨a, b, c⟩ := chP_mem h
  exact ⟨a, by omega, c⟩
theorem chP_rise (f : Int) : ∀ n, (chP f n).Pairwise (· < ·)
  | 0 => by simp [chP]
  | n + 1 => by
    have ih := chP_rise f n
    cases h : scal (f + n) with
    | true =>
      rw [chP_yes h, List.pairwise_append]
      exact ⟨ih, by simp, fun x hx y hy => by
        simp at hy
        subst hy
        exact (chP_mem hx).2.1⟩
    | false => rw [chP_no h]; exact ih
theorem chP_pre (f : Int) (n : Nat) : ∀ m, n ≤ m → ∃ r, chP f m = chP f n ++ r
  | 0, h => ⟨[], by obtain rfl : n = 0 := by omega
                    simp⟩
  | m + 1, h => by
    by_cases e : n = m + 1
    · subst e; exact ⟨[], by simp⟩
    · obtain ⟨r, hr⟩ := chP_pre f n m (by omega)
      cases hs : scal (f + m) with
      | true => exact ⟨r ++ [f + m], by rw [chP_yes hs, hr]; simp⟩
      | false => exact ⟨r, by rw [chP_no hs, hr]⟩

/-- How many are less. -/
def cnt (s : List Int) (f : Int) : Nat := s.countP fun x => decide (x < f)
theorem cnt_of {s : List Int} {f : Int} {i : Nat} (hi : i ≤ s.length) (h1 : ∀ k (hk : k < s.length), k < i → s[k] < f) (h2 : ∀ k (hk : k < s.length), i ≤ k → f ≤ s[k]) : cnt s f = i := by
  unfold cnt
  have e : s = s.take i ++ s.drop i := (List.take_append_drop i s).symm
  rw [e, List.countP_append]
  have e1 : (s.take i).countP (fun x => decide (x < f)) = (s.take i).length := by
    rw [List.countP_eq_length]
    intro x hx
    obtain ⟨j, hj, rfl⟩ := List.mem_iff_getElem.1 hx
    have hj' : j < i := by rw [List.length_take] at hj; omega
    rw [List.getElem_take]
    simpa using h1 j (by omega) hj'
  have e2 : (s.drop i).countP (fun x => decide (x < f)) = 0 := by
    rw [List.countP_eq_zero]
    intro x hx
    obtain ⟨j, hj, rfl⟩ := List.mem_iff_getElem.1 hx
    have hj' : j < s.length - i := by rw [List.length_drop] at hj; omega
    rw [List.getElem_drop]
    have := h2 (i + j) (by omega) (by omega)
    simp
    omega
  rw [e1, e2, List.length_take]
  omega
theorem cnt_split (f : Int) : ∀ {s : List Int}, s.Pairwise (· < ·) → ∃ a b, s = a ++ b ∧ cnt s f = a.length ∧ (∀ x ∈ a, x < f) ∧ ∀ x ∈ b, f ≤ x
  | [], _ => ⟨[], [], rfl, rfl, (fun x hx => by cases hx), (fun x hx => by cases hx)⟩
  | x :: s, h => by
    obtain ⟨h1, h2⟩ := List.pairwise_cons.1 h
    by_cases hx : x < f
    · obtain ⟨a, b, e, c, ha, hb⟩ := cnt_split f h2
      refine ⟨x :: a, b, by rw [e]; rfl, ?_, fun y hy => ?_, hb⟩
      · unfold cnt at c ⊢
        rw [List.countP_cons_of_pos (by simpa using hx), c]; rfl
      · rcases List.mem_cons.1 hy with rfl | hy
        · exact hx
        · exact ha y hy
    · refine ⟨[], x :: s, rfl, ?_, (fun y hy => by cases hy), fun y hy => ?_⟩
      · unfold cnt
        rw [List.length_nil, List.countP_eq_zero]
        intro y hy
        rcases List.mem_cons.1 hy with rfl | hy
        · simpa using hx
        · have := h1 y hy
          simp
          omega
      · rcases List.mem_cons.1 hy with rfl | hy
        · omega
        · have := h1 y hy
          omega
theorem cnt_le (s : List Int) (f : Int) : cnt s f ≤ s.length := List.countP_le_length

/-- What a line makes of the characters so far, and the error. -/
def inR (f t x : Int) : Bool := decide (f ≤ x) && decide (x ≤ t)
def stR (s : List Int) (r : Int × Int × Int) : List Int × Int :=
  if r.2.2 ≠ 0 then (s, r.2.2)
  else if s.any (inR r.1 r.2.1) then (s, 12)
  else if 4096 < s.length + (chs r.1 r.2.1).length then (s, 14)
  else (s.take (cnt s r.1) ++ (chs r.1 r.2.1 ++ s.drop (cnt s r.1)), 0)
def stS (s : List Int) (tx : List UInt8) : List Int × Int := stR s (rngE ((fld tx).getD 0 []))
def runS (s : List Int) : List (Nat × List UInt8) → List Int × Nat × Int
  | [] => (s, 0, 0)
  | x :: l => if (stS s x.2).2 ≠ 0 then (s, x.1, (stS s x.2).2) else runS (stS s x.2).1 l
def setsE (l : List UInt8) : List Int × Nat × Int :=
  if (linE l).2 ≠ 0 then ([], 0, (linE l).2)
  else if (runS [] (linE l).1).2.2 ≠ 0 then ([], (runS [] (linE l).1).2.1, (runS [] (linE l).1).2.2) else ((runS [] (linE l).1).1, 0, 0)
structure SInv (s : List Int) : Prop where
  rise : s.Pairwise (· < ·)
  scs : ∀ x ∈ s, scal x = true
  len : s.length ≤ 4096
theorem SInv.nil : SInv [] := ⟨by simp, (fun x hx => by cases hx), by simp⟩
theorem stR_inv {s : List Int} {r : Int × Int × Int} (h : SInv s) : SInv (stR s r).1 := by
  unfold stR
  split
  · exact h
  · split
    · exact h
    · rename_i hany
      split
      · exact h
      · rename_i hlen
        obtain ⟨a, b, e, c, ha, hb⟩ := cnt_split r.1 h.rise
        have e1 : s.take (cnt s r.1) = a := by rw [c, e]; simp
        have e2 : s.drop (cnt s r.1) = b := by rw [c, e]; simp
        simp only [e1, e2]
        have hp := h.rise
        rw [e, List.pairwise_append] at hp
        have hb' : ∀ x ∈ b, r.2.1 < x := fun x hx => by
          have h1 := hb x hx
          refine Int.not_le.1 fun h2 => hany (List.any_eq_true.2 ⟨x, by rw [e]; simp [hx], by simp [inR, h1, h2]⟩)
        refine ⟨?_, fun x hx => ?_, ?_⟩
        · rw [List.pairwise_append, List.pairwise_append]
          refine ⟨hp.1, ⟨chP_rise _ _, hp.2.1, fun x hx y hy => ?_⟩, fun x hx y hy => ?_⟩
          · have h1 := (chs_mem hx).2.1
            have h2 := hb' y hy
            omega
          · rcases List.mem_append.1 hy with hy | hy
            · have h1 := (chs_mem hy).1
              have h2 := ha x hx
              omega
            · exact hp.2.2 x hx y hy
        · rcases List.mem_append.1 hx with hx | hx
          · exact h.scs x (by rw [e]; simp [hx])
          · rcases List.mem_append.1 hx with hx | hx
            · exact (chs_mem hx).2.2
            · exact h.scs x (by rw [e]; simp [hx])
        · have h1 : s.length = a.length + b.length := by rw [e, List.length_append]
          rw [List.length_append, List.length_append]
          omega
theorem runS_inv : ∀ {l : List (Nat × List UInt8)} {s : List Int}, SInv s → SInv (runS s l).1
  | [], _, h => h
  | x :: l, s, h => by
    rw [runS]
    split
    · exact h
    · exact runS_inv (stR_inv h)
theorem setsE_inv (l : List UInt8) : SInv (setsE l).1 ∧ ((setsE l).2.2 ≠ 0 → (setsE l).1 = []) := by
  unfold setsE
  split
  · exact ⟨SInv.nil, fun _ => rfl⟩
  · split
    · exact ⟨SInv.nil, fun _ => rfl⟩
    · exact ⟨runS_inv SInv.nil, fun h => absurd rfl h⟩
/-- The program's question: does one lie in the range? -/
theorem any_at {s : List Int} {f t : Int} (h : s.Pairwise (· < ·)) : s.any (inR f t) = true ↔ ∃ hc : cnt s f < s.length, s[cnt s f] ≤ t := by
  obtain ⟨a, b, e, c, ha, hb⟩ := cnt_split f h
  constructor
  · intro hany
    obtain ⟨x, hx, hr⟩ := List.any_eq_true.1 hany
    simp [inR] at hr
    have hxb : x ∈ b := by
      rw [e] at hx
      rcases List.mem_append.1 hx with hx | hx
      · have := ha x hx; omega
      · exact hx
    obtain ⟨y, b', rfl⟩ : ∃ y b', b = y :: b' := by cases b with
      | nil => cases hxb
      | cons y b' => exact ⟨y, b', rfl⟩
    have hlt : cnt s f < s.length := by rw [c, e]; simp
    refine ⟨hlt, ?_⟩
    have e3 : s[cnt s f] = y := by
      have : s[cnt s f]? = some y := by rw [c, e]; simp
      rw [List.getElem?_eq_getElem hlt] at this
      exact Option.some.inj this
    rw [e3]
    have hp := h
    rw [e, List.pairwise_append] at hp
    rcases List.mem_cons.1 hxb with rfl | hxb
    · exact hr.2
    · have := (List.pairwise_cons.1 hp.2.1).1 x hxb
      omega
  · rintro ⟨hlt, hle⟩
    have hm : s[cnt s f] ∈ b := by
      have e3 : s[cnt s f]? = b[0]? := by
        have : (a ++ b)[a.length]? = b[0]? := by rw [List.getElem?_append_right (Nat.le_refl _), Nat.sub_self]
        rw [c]
        rw [← e] at this
        exact this
      rw [List.getElem?_eq_getElem hlt] at e3
      exact List.mem_of_getElem? e3.symm
    exact List.any_eq_true.2 ⟨_, List.getElem_mem hlt, by simp [inR, hb _ hm, hle]⟩
/-- The reference's characters, in whatever order. -/
theorem perm_any {us s : List Int} (h : us.Perm s) (p : Int → Bool) : us.any p = s.any p := by
  rw [Bool.eq_iff_iff, List.any_eq_true, List.any_eq_true]
  constructor
  · rintro ⟨x, hx, hp⟩; exact ⟨x, h.mem_iff.1 hx, hp⟩
  · rintro ⟨x, hx, hp⟩; exact ⟨x, h.mem_iff.2 hx, hp⟩
theorem perm_st {us s : List Int} (h : us.Perm s) (f t : Int) : (us ++ chs f t).Perm (s.take (cnt s f) ++ (chs f t ++ s.drop (cnt s f))) := by
  have h1 : (us ++ chs f t).Perm (s ++ chs f t) := h.append_right _
  refine h1.trans ?_
  have e : s ++ chs f t = s.take (cnt s f) ++ (s.drop (cnt s f) ++ chs f t) := by rw [← List.append_assoc, List.take_append_drop]
  rw [e]
  exact List.perm_append_comm.append_left _
theorem perm_rise : ∀ {us s : List Int}, us.Perm s → us.Pairwise (· ≤ ·) → s.Pairwise (· < ·) → us = s
  | [], s, h, _, _ => by rw [List.nil_perm.1 h]
  | x :: us, [], h, _, _ => by cases (List.perm_nil.1 h)
  | x :: us, y :: s, h, hu, hs => by
    obtain ⟨u1, u2⟩ := List.pairwise_cons.1 hu
    obtain ⟨s1, s2⟩ := List.pairwise_cons.1 hs
    have e : x = y := by
      have hx : x ∈ y :: s := h.mem_iff.1 (by simp)
      have hy : y ∈ x :: us := h.mem_iff.2 (by simp)
      rcases List.mem_cons.1 hx with rfl | hx
      · rfl
      · rcases List.mem_cons.1 hy with rfl | hy
        · rfl
        · have a := s1 x hx
          have b := u1 y hy
          omega
    subst e
    rw [perm_rise (List.Perm.cons_inv h) u2 s2]

end Go.Proofs.YtajhgbcgbgpcjaaDoor.Uc

import Derived.Test.YtajhgbcgbgpcjaaGreatDoorGN
namespace Go.Proofs.YtajhgbcgbgpcjaaGreatDoor.Uc
open Go.RowKit Fi

theorem cut_no (c : UInt8) : ∀ l : List UInt8, (∀ b ∈ l, b ≠ c) → Lib.cut l [c] = (l, [], false)
  | [], _ => cut_nil (by simp)
  | b :: l, h => by
    rw [cut_skip (by rw [pre_one]; simpa using h b (by simp)), cut_no c l (fun d hd => h d (by simp [hd]))]
    rfl
theorem cut_at (c : UInt8) : ∀ (l t : List UInt8), (∀ b ∈ l, b ≠ c) → Lib.cut (l ++ c :: t) [c] = (l, t, true)
  | [], t, _ => by rw [List.nil_append, cut_hit (by rw [pre_one]; simp)]; simp
  | b :: l, t, h => by
    rw [List.cons_append, cut_skip (by rw [pre_one]; simpa using h b (by simp)), cut_at c l t (fun d hd => h d (by simp [hd]))]
    rfl
theorem last_app {r q h : List UInt8} {c : UInt8} (e : q ++ h = r ++ [c]) (hne : h ≠ []) : c ∈ h := by
  rcases List.eq_nil_or_concat h with rfl | ⟨h', d, hd⟩
  · exact absurd rfl hne
  · have e2 : h = h' ++ [d] := by rw [hd]; simp
    rw [e2, ← List.append_assoc] at e
    have := List.append_inj' e rfl
    have e3 : d = c := by simpa using this.2
    rw [e2, e3]
    simp
theorem txE_last {l : List Int} {r : List UInt8} {c : UInt8} (e : txE l = r ++ [c]) : isb c = false := by
  rcases List.eq_nil_or_concat l with rfl | ⟨m, x, hx⟩
  · simp [txE, Lib.join, List.intercalate] at e
  · have e2 : l = m ++ [x] := by rw [hx]; simp
    subst e2
    by_cases hm : m = []
    · subst hm
      rw [List.nil_append, txE_one] at e
      exact (hx4_plain _ c (last_app (q := []) e (hx4_ne _))).1
    · rw [txE_more m x hm, show txE m ++ 32 :: hx4 x.toNat = (txE m ++ [32]) ++ hx4 x.toNat by simp] at e
      exact (hx4_plain _ c (last_app e (hx4_ne _))).1
theorem txE_head {l : List Int} {c : UInt8} {r : List UInt8} (e : txE l = c :: r) : isb c = false ∧ c ≠ 60 := by
  cases l with
  | nil => simp [txE, Lib.join, List.intercalate] at e
  | cons x l =>
    have h : ∃ t, txE (x :: l) = hx4 x.toNat ++ t := by
      unfold txE
      rw [List.map_cons, Lib.join_cons]
      exact ⟨_, rfl⟩
    obtain ⟨t, ht⟩ := h
    rw [ht] at e
    cases hh : hx4 x.toNat with
    | nil => exact absurd hh (hx4_ne _)
    | cons d u =>
      rw [hh, List.cons_append] at e
      have e2 : d = c := by injection e
      subst e2
      exact ⟨(hx4_plain _ d (by rw [hh]; simp)).1, (hx4_tame _ d (by rw [hh]; simp)).2⟩
theorem txE_nil {l : List Int} (h : txE l = []) : l = [] := by
  cases l with
  | nil => rfl
  | cons x l =>
    exfalso
    unfold txE at h
    rw [List.map_cons, Lib.join_cons] at h
    exact hx4_ne _ (List.append_eq_nil_iff.1 h).1
theorem inP_last {k : List UInt8} {l : List Int} (hk : k ≠ [] → l ≠ []) {r : List UInt8} {c : UInt8} (e : inP k l = r ++ [c]) : isb c = false := by
  unfold inP at e
  split at e
  · exact txE_last e
  · rename_i hk0
    have ht : txE l ≠ [] := fun h => hk hk0 (txE_nil h)
    rw [show (60 : UInt8) :: (k ++ 62 :: 32 :: txE l) = (60 :: (k ++ [62, 32])) ++ txE l by simp] at e
    have hm := last_app e ht
    rcases List.eq_nil_or_concat (txE l) with h9 | ⟨q, d, hq⟩
    · exact absurd h9 ht
    · have e2 : txE l = q ++ [d] := by rw [hq]; simp
      rw [e2, ← List.append_assoc] at e
      have := List.append_inj' e rfl
      have e3 : d = c := by simpa using this.2
      rw [← e3]
      exact txE_last e2
theorem inP_bare {k : List UInt8} {l : List Int} (hk : k ≠ [] → l ≠ []) : bareL (inP k l) = inP k l := by
  refine bare_of (fun c r e => ?_) (fun r c e => inP_last hk e)
  unfold inP at e
  split at e
  · exact (txE_head e).1
  · have : (60 : UInt8) = c := by injection e
    rw [← this]
    decide
theorem hx4_bare (n : Nat) : bareL (hx4 n) = hx4 n := bare_of (fun c r e => (hx4_plain n c (by rw [e]; simp)).1) (fun r c e => (hx4_plain n c (by rw [e]; simp)).1)
theorem dig_isb {c : UInt8} (h : 48 ≤ c.toNat ∧ c.toNat ≤ 57) : isb c = false ∧ tame c := by
  have : ∀ y : _root_.Fin 256, 48 ≤ (UInt8.ofNat y.val).toNat ∧ (UInt8.ofNat y.val).toNat ≤ 57 → isb (UInt8.ofNat y.val) = false ∧ ((UInt8.ofNat y.val) ≠ 10 ∧ (UInt8.ofNat y.val) ≠ 35 ∧ (UInt8.ofNat y.val) ≠ 59) := by decide +kernel
  have h2 := this ⟨c.toNat, c.toNat_lt⟩
  simp only [UInt8.ofNat_toNat] at h2
  exact h2 h
theorem itoa_bare {cl : Int} (h0 : 0 ≤ cl) (h1 : cl ≤ 254) : bareL (Lib.itoa cl) = Lib.itoa cl := bare_of (fun c r e => (dig_isb ((itoa_ok h0 h1).1 c (by rw [e]; simp))).1) (fun r c e => (dig_isb ((itoa_ok h0 h1).1 c (by rw [e]; simp))).1)
theorem rns_lead (l : List UInt8) : rnsE (32 :: l) = rnsE l := by
  unfold rnsE
  rw [wds, show blk (32 : UInt8).toNat = true by decide]
  simp
theorem intE_inP {k : List UInt8} {l : List Int} (hk : ltrs k = true) (hkl : k ≠ [] → l ≠ []) (hl : l.length ≤ 18) (hs : ∀ x ∈ l, scal x = true) : intE (inP k l) = (k, l, 0) := by
  have hr := rns_text l hs
  by_cases h : k = []
  · subst h
    have e : inP [] l = txE l := by unfold inP; rw [if_pos rfl]
    rw [e]
    unfold intE
    have hp : Lib.hasPrefix (txE l) [60] = false := by
      unfold Lib.hasPrefix
      cases ht : txE l with
      | nil => rfl
      | cons c r => rw [pre_one]; simpa using (txE_head ht).2
    rw [hp, if_neg (by simp), intT_4 (by rw [hr]) (fun h => by cases h.1) (by rw [hr]; simp only; omega), hr]
  · have e : inP k l = 60 :: (k ++ 62 :: 32 :: txE l) := by unfold inP; rw [if_neg h]
    rw [e]
    unfold intE
    have hk' := List.all_eq_true.1 hk
    rw [show Lib.hasPrefix (60 :: (k ++ 62 :: 32 :: txE l)) [60] = true by unfold Lib.hasPrefix; rw [pre_one]; rfl, if_pos rfl]
    rw [show (60 :: (k ++ 62 :: 32 :: txE l)).drop 1 = k ++ 62 :: 32 :: txE l from rfl, cut_at 62 k _ (fun b hb => (ltr_tame (hk' b hb)).2)]
    simp only
    rw [if_pos ⟨by trivial, h, hk⟩, intT_4 (by rw [rns_lead, hr]) (fun h9 => by rw [rns_lead, hr] at h9; exact hkl h h9.2) (by rw [rns_lead, hr]; simp only; omega), rns_lead, hr]
/-- What a line needs that it is read as it was written. -/
structure LnOk (c : Int) (n g : List UInt8) (cl : Int) (k : List UInt8) (l : List Int) : Prop where
  sc : scal c = true
  nt : ∀ b ∈ n, tame b
  nb : bareL n = n
  gt : ∀ b ∈ g, tame b
  gb : bareL g = g
  cl0 : 0 ≤ cl
  cl1 : cl ≤ 254
  kd : ltrs k = true
  kn : k ≠ [] → l ≠ []
  len : l.length ≤ 18
  ls : ∀ x ∈ l, scal x = true
theorem body_row {c : Int} {n g : List UInt8} {cl : Int} {k : List UInt8} {l : List Int} (h : LnOk c n g cl k l) : rowE (bodyE c n g cl k l) = (⟨c, c, n, g, cl, k, l⟩, 0) := by
  have hi := itoa_ok h.cl0 h.cl1
  have hf : fld (bodyE c n g cl k l) = [hx4 c.toNat, n, g, Lib.itoa cl, [], inP k l] := by
    unfold fld bodyE
    rw [spl_no 59 _ [] _ (fun b hb => (hx4_tame _ b hb).1.2.2), spl_no 59 n [] _ (fun b hb => (h.nt b hb).2.2), spl_no 59 g [] _ (fun b hb => (h.gt b hb).2.2), spl_no 59 (Lib.itoa cl) [] _ (fun b hb => (dig_isb (hi.1 b hb)).2.2.2), spl_no 59 [] [] _ (fun b hb => by cases hb), spl_one 59 (inP k l) [] (fun b hb => (inP_tame h.kd b hb).2.2)]
    simp only [List.nil_append, List.map_cons, List.map_nil]
    rw [hx4_bare, h.nb, h.gb, itoa_bare h.cl0 h.cl1, inP_bare h.kn, show bareL [] = [] from rfl]
  have hc := scal_bd h.sc
  have e0 : hexE (hx4 c.toNat) = (c, 0) := by
    have : (c.toNat : Int) = c := by omega
    rw [hexE_hx4 (by rw [this]; exact h.sc), this]
  have e5 := intE_inP h.kd h.kn h.len h.ls
  unfold rowE
  rw [hf, if_neg (by simp)]
  have g0 : ([hx4 c.toNat, n, g, Lib.itoa cl, [], inP k l] : List (List UInt8)).getD 0 [] = hx4 c.toNat := rfl
  have g3 : ([hx4 c.toNat, n, g, Lib.itoa cl, [], inP k l] : List (List UInt8)).getD 3 [] = Lib.itoa cl := rfl
  have g5 : ([hx4 c.toNat, n, g, Lib.itoa cl, [], inP k l] : List (List UInt8)).getD 5 [] = inP k l := rfl
  rw [rowF_5 (by rw [g0, e0]) (by rw [g3, hi.2.2]) (by rw [g3, hi.2.2]; simp only; have := h.cl1; omega) (by rw [g5, e5]), g0, g3, g5, e0, e5, hi.2.2]
  rfl
theorem body_mem {c : Int} {n g : List UInt8} {cl : Int} {k : List UInt8} {l : List Int} (h : LnOk c n g cl k l) : ∀ b ∈ bodyE c n g cl k l, b ≠ 10 ∧ b ≠ 35 := by
  have hi := itoa_ok h.cl0 h.cl1
  have e59 : (59 : UInt8) ≠ 10 ∧ (59 : UInt8) ≠ 35 := by decide
  intro b hb
  unfold bodyE at hb
  simp only [List.mem_append, List.mem_cons, List.not_mem_nil, false_or] at hb
  rcases hb with hb | rfl | hb | rfl | hb | rfl | hb | rfl | rfl | hb
  · exact ⟨(hx4_tame _ b hb).1.1, (hx4_tame _ b hb).1.2.1⟩
  · exact e59
  · exact ⟨(h.nt b hb).1, (h.nt b hb).2.1⟩
  · exact e59
  · exact ⟨(h.gt b hb).1, (h.gt b hb).2.1⟩
  · exact e59
  · exact ⟨(dig_isb (hi.1 b hb)).2.1, (dig_isb (hi.1 b hb)).2.2.1⟩
  · exact e59
  · exact e59
  · exact ⟨(inP_tame h.kd b hb).1, (inP_tame h.kd b hb).2.1⟩
theorem body_told {c : Int} {n g : List UInt8} {cl : Int} {k : List UInt8} {l : List Int} (h : LnOk c n g cl k l) : toldL (bodyE c n g cl k l) = bodyE c n g cl k l ∧ bodyE c n g cl k l ≠ [] := by
  refine ⟨?_, ?_⟩
  · unfold toldL
    rw [cut_no 35 _ (fun b hb => (body_mem h b hb).2)]
    refine bare_of (fun b r e => ?_) (fun r b e => ?_)
    · unfold bodyE at e
      cases hh : hx4 c.toNat with
      | nil => exact absurd hh (hx4_ne _)
      | cons d u =>
        rw [hh, List.cons_append] at e
        have e2 : d = b := by injection e
        subst e2
        exact (hx4_plain _ d (by rw [hh]; simp)).1
    · unfold bodyE at e
      by_cases hp : inP k l = []
      · rw [hp] at e
        have e2 : (hx4 c.toNat ++ 59 :: (n ++ 59 :: (g ++ 59 :: (Lib.itoa cl ++ [59])))) ++ [59] = r ++ [b] := by rw [← e]; simp
        have := List.append_inj' e2 rfl
        have e3 : (59 : UInt8) = b := by simpa using this.2
        rw [← e3]
        decide
      · have e2 : (hx4 c.toNat ++ 59 :: (n ++ 59 :: (g ++ 59 :: (Lib.itoa cl ++ [59, 59])))) ++ inP k l = r ++ [b] := by rw [← e]; simp
        rcases List.eq_nil_or_concat (inP k l) with h9 | ⟨q, d, hq⟩
        · exact absurd h9 hp
        · have e3 : inP k l = q ++ [d] := by rw [hq]; simp
          rw [e3, ← List.append_assoc] at e2
          have := List.append_inj' e2 rfl
          have e4 : d = b := by simpa using this.2
          rw [← e4]
          exact inP_last h.kn e3
  · unfold bodyE
    intro h9
    exact hx4_ne _ (List.append_eq_nil_iff.1 h9).1

end Go.Proofs.YtajhgbcgbgpcjaaGreatDoor.Uc

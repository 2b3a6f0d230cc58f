import Derived.Test.YtajhgbcgbgpcjaaGreatDoorGO
import Derived.Test.YtajhgbcgbgpcjaaGreatDoorGJ
namespace Go.Proofs.YtajhgbcgbgpcjaaGreatDoor.Uc
open Go.RowKit Fi

def bodies (x : Rw) : List (List UInt8) := if x.fr = x.tt then [bodyE x.fr x.nm x.ct x.cl x.kd x.into] else [bodyE x.fr (60 :: (x.nm ++ firstE)) x.ct x.cl x.kd x.into, bodyE x.tt (60 :: (x.nm ++ lastE)) x.ct x.cl x.kd x.into]
theorem lineS_bodies (x : Rw) : lineS x = (bodies x).flatMap fun b => b ++ [10] := by
  unfold lineS bodies
  split
  · simp [lnE_body]
  · simp [lnE_body]
theorem flat_bodies : ∀ l : List Rw, l.flatMap lineS = (l.flatMap bodies).flatMap fun b => b ++ [10]
  | [] => rfl
  | x :: l => by rw [List.flatMap_cons, List.flatMap_cons, List.flatMap_append, flat_bodies l, lineS_bodies]
theorem spl_lines : ∀ bs : List (List UInt8), (∀ b ∈ bs, ∀ c ∈ b, c ≠ 10) → spl 10 [] (bs.flatMap fun b => b ++ [10]) = bs ++ [[]]
  | [], _ => by simp [spl]
  | b :: bs, h => by
    rw [List.flatMap_cons, List.append_assoc, show [10] ++ (bs.flatMap fun b => b ++ [10]) = 10 :: (bs.flatMap fun b => b ++ [10]) from rfl, spl_no 10 b [] _ (h b (by simp)), spl_lines bs (fun d hd => h d (by simp [hd]))]
    rfl
theorem first_tame : ∀ c ∈ firstE, tame c := by unfold tame; decide
theorem last_tame : ∀ c ∈ lastE, tame c := by unfold tame; decide
theorem name_bare (n e : List UInt8) (h : ∃ q, e = q ++ [62]) : bareL (60 :: (n ++ e)) = 60 :: (n ++ e) := by
  obtain ⟨q, rfl⟩ := h
  refine bare_of (fun c r e => ?_) (fun r c e => ?_)
  · have : (60 : UInt8) = c := by injection e
    rw [← this]; decide
  · have e2 : (60 :: (n ++ q)) ++ [62] = r ++ [c] := by rw [← e]; simp
    have := List.append_inj' e2 rfl
    have e3 : (62 : UInt8) = c := by simpa using this.2
    rw [← e3]; decide
theorem name_tame {n e : List UInt8} (hn : ∀ c ∈ n, tame c) (he : ∀ c ∈ e, tame c) : ∀ c ∈ 60 :: (n ++ e), tame c := by
  intro c hc
  rcases List.mem_cons.1 hc with rfl | hc
  · exact ⟨by decide, by decide, by decide⟩
  · rcases List.mem_append.1 hc with hc | hc
    · exact hn c hc
    · exact he c hc
theorem rg_self (n e : List UInt8) : rgN (60 :: (n ++ e)) e = some n := by
  unfold rgN
  rw [show Lib.hasPrefix (60 :: (n ++ e)) [60] = true by unfold Lib.hasPrefix; rw [pre_one]; rfl, if_pos rfl]
  rw [show (60 :: (n ++ e)).drop 1 = n ++ e from rfl, show Lib.hasSuffix (n ++ e) e = true from List.isSuffixOf_iff_suffix.2 ⟨n, rfl⟩, if_pos rfl]
  congr 1
  rw [show (60 :: (n ++ e)).length - 1 - e.length = n.length by simp]
  simp
theorem rg_first (n : List UInt8) : rgN (60 :: (n ++ firstE)) lastE = none := by
  unfold rgN
  rw [show Lib.hasPrefix (60 :: (n ++ firstE)) [60] = true by unfold Lib.hasPrefix; rw [pre_one]; rfl, if_pos rfl, show (60 :: (n ++ firstE)).drop 1 = n ++ firstE from rfl]
  have h : Lib.hasSuffix (n ++ firstE) lastE = false := by
    cases hh : Lib.hasSuffix (n ++ firstE) lastE with
    | false => rfl
    | true =>
      exfalso
      have h1 := List.suffix_iff_eq_drop.1 (List.isSuffixOf_iff_suffix.1 hh)
      rw [List.length_append, show firstE.length = 8 from rfl, show lastE.length = 7 from rfl, show n.length + 8 - 7 = n.length + 1 by omega, List.drop_append, List.drop_eq_nil_of_le (by omega)] at h1
      rw [show n.length + 1 - n.length = 1 by omega] at h1
      exact absurd h1 (by decide)
  rw [h]
  rfl
theorem chk_ln {x : Rw} (h : ChkOk x) {c : Int} (hc : scal c = true) {n : List UInt8} (hn : ∀ b ∈ n, tame b) (hb : bareL n = n) : LnOk c n x.ct x.cl x.kd x.into :=
  ⟨hc, hn, hb, plB_tame h.ct, plB_bare h.ct, h.cl0, h.cl1, h.kd, h.kn, h.len, h.sc⟩
theorem chk_ln0 {x : Rw} (h : ChkOk x) : LnOk x.fr x.nm x.ct x.cl x.kd x.into := chk_ln h h.fr (plB_tame h.nm) (plB_bare h.nm)
theorem chk_ln1 {x : Rw} (h : ChkOk x) : LnOk x.fr (60 :: (x.nm ++ firstE)) x.ct x.cl x.kd x.into := chk_ln h h.fr (name_tame (plB_tame h.nm) first_tame) (name_bare _ _ ⟨[44, 32, 70, 105, 114, 115, 116], rfl⟩)
theorem chk_ln2 {x : Rw} (h : ChkOk x) : LnOk x.tt (60 :: (x.nm ++ lastE)) x.ct x.cl x.kd x.into := chk_ln h h.tt (name_tame (plB_tame h.nm) last_tame) (name_bare _ _ ⟨[44, 32, 76, 97, 115, 116], rfl⟩)
theorem tl_one (no : Nat) {b : List UInt8} (h : toldL b = b ∧ b ≠ []) (r : List (List UInt8)) : tl no (b :: r) = (no, b) :: tl (no + 1) r := by
  rw [tl, h.1, if_neg h.2]
theorem run_row {rs : List Rw} {x : Rw} {no : Nat} (h : ChkOk x) (hr : Rise (rs ++ [x])) (hno : 1 ≤ no) (rest : List (Nat × List UInt8)) : run rs 0 (tl no (bodies x) ++ rest) = run (rs ++ [x]) 0 rest := by
  have h3 : ∀ f, f = x.fr → ¬ (rs ≠ [] ∧ f ≤ (lastR rs).tt) := fun f hf h9 => by
    have := (rise_snoc.1 hr).2 h9.1
    omega
  unfold bodies
  by_cases he : x.fr = x.tt
  · rw [if_pos he, tl_one no (body_told (chk_ln0 h))]
    have hb := body_row (chk_ln0 h)
    have hs := stp_one (rs := rs) (op := 0) (no := no) (t := bodyE x.fr x.nm x.ct x.cl x.kd x.into) (by rw [hb]) (by rw [hb]; simp [(h.eq he).2]) (by rw [hb]; exact h3 _ rfl) (by rw [hb]; exact (h.eq he).1)
    rw [List.cons_append, run_cons (by simp only; rw [hs]), hs, hb]
    have : (⟨x.fr, x.fr, x.nm, x.ct, x.cl, x.kd, x.into⟩ : Rw) = x := by
      obtain ⟨f, t, _, _, _, _, _⟩ := x
      simp only at he
      subst he
      rfl
    rw [this]
    rfl
  · rw [if_neg he, tl_one no (body_told (chk_ln1 h)), tl_one (no + 1) (body_told (chk_ln2 h))]
    have hi := h.ne he
    have hk : x.kd = [] := Decidable.byContradiction fun h9 => h.kn h9 hi
    have hb1 := body_row (chk_ln1 h)
    have hb2 := body_row (chk_ln2 h)
    have hs1 := stp_first (rs := rs) (op := 0) (no := no) (t := bodyE x.fr (60 :: (x.nm ++ firstE)) x.ct x.cl x.kd x.into) (n := x.nm) (by rw [hb1]) (by rw [hb1]; simp [rg_first]) (by rw [hb1]; exact h3 _ rfl) (by rw [hb1]; exact rg_self _ _)
    rw [hb1] at hs1
    simp only at hs1
    have hen : endB ⟨x.tt, x.tt, 60 :: (x.nm ++ lastE), x.ct, x.cl, x.kd, x.into⟩ ⟨x.fr, x.fr, x.nm, x.ct, x.cl, x.kd, x.into⟩ = true := by
      unfold endB
      simp only
      rw [rg_self]
      simp [hi, h.le]
    have hs2 := stp_last (rs := rs ++ [⟨x.fr, x.fr, x.nm, x.ct, x.cl, x.kd, x.into⟩]) (op := no) (no := no + 1) (t := bodyE x.tt (60 :: (x.nm ++ lastE)) x.ct x.cl x.kd x.into) (by rw [hb2]) (.inl (by rw [hb2]; simp only; rw [rg_self]; rfl)) (by rw [hb2, lastR_snoc, hen]; simp; omega)
    rw [hb2, putTo_snoc] at hs2
    simp only at hs2
    rw [List.cons_append, run_cons (by simp only; rw [hs1]), hs1, List.cons_append, run_cons (by simp only; rw [hs2]), hs2]
    rfl
theorem run_rows5 : ∀ (l rs : List Rw) (no : Nat), (∀ x ∈ l, ChkOk x) → Rise (rs ++ l) → 1 ≤ no → run rs 0 (tl no (l.flatMap bodies)) = (rs ++ l, 0, 0, 0)
  | [], rs, no, _, _, _ => by simp [tl, run]
  | x :: l, rs, no, h, hr, hno => by
    have e : rs ++ x :: l = (rs ++ [x]) ++ l := by simp
    have h1 : Rise (rs ++ [x]) := by
      have := rise_of_take (k := rs.length + 1) hr
      rw [e, List.take_append_of_le_length (by simp), List.take_of_length_le (by simp)] at this
      exact this
    rw [List.flatMap_cons, tl_app, run_row (h x (by simp)) h1 hno, run_rows5 l (rs ++ [x]) _ (fun y hy => h y (by simp [hy])) (by rw [← e]; exact hr) (by omega), e]
theorem body_len {c : Int} {n g : List UInt8} {cl : Int} {k : List UInt8} {l : List Int} (h0 : 0 ≤ cl) (h1 : cl ≤ 254) : (bodyE c n g cl k l).length + 1 ≤ n.length + g.length + k.length + 9 * l.length + 30 := by
  have := lnE_len (c := c) (n := n) (g := g) (k := k) (l := l) h0 h1
  rw [lnE_body, List.length_append] at this
  exact this
theorem bodies_ok {x : Rw} (h : ChkOk x) (hk : x.kd.length ≤ 50) : (bodies x).length ≤ 2 ∧ ∀ b ∈ bodies x, (∀ c ∈ b, c ≠ 10) ∧ b.length ≤ 512 := by
  have a1 := plB_len h.nm
  have a2 := plB_len h.ct
  have a3 := h.len
  have e1 : firstE.length = 8 := rfl
  have e2 : lastE.length = 7 := rfl
  unfold bodies
  split
  · refine ⟨by simp, fun b hb => ?_⟩
    simp at hb
    subst hb
    have := body_len (c := x.fr) (n := x.nm) (g := x.ct) (k := x.kd) (l := x.into) h.cl0 h.cl1
    exact ⟨fun c hc => (body_mem (chk_ln0 h) c hc).1, by omega⟩
  · refine ⟨by simp, fun b hb => ?_⟩
    simp at hb
    rcases hb with rfl | rfl
    · have := body_len (c := x.fr) (n := 60 :: (x.nm ++ firstE)) (g := x.ct) (k := x.kd) (l := x.into) h.cl0 h.cl1
      rw [List.length_cons, List.length_append, e1] at this
      exact ⟨fun c hc => (body_mem (chk_ln1 h) c hc).1, by omega⟩
    · have := body_len (c := x.tt) (n := 60 :: (x.nm ++ lastE)) (g := x.ct) (k := x.kd) (l := x.into) h.cl0 h.cl1
      rw [List.length_cons, List.length_append, e2] at this
      exact ⟨fun c hc => (body_mem (chk_ln2 h) c hc).1, by omega⟩
theorem flat_two : ∀ {l : List Rw}, (∀ x ∈ l, (bodies x).length ≤ 2) → (l.flatMap bodies).length ≤ 2 * l.length
  | [], _ => by simp
  | x :: l, h => by
    have h1 := h x (by simp)
    have h2 := flat_two (l := l) (fun y hy => h y (by simp [hy]))
    rw [List.flatMap_cons, List.length_append, List.length_cons]
    omega
/-- Rows of Print is the rows. -/
theorem rws_back {l : List Rw} (h : ∀ x ∈ l, ChkOk x) (hk : ∀ x ∈ l, x.kd.length ≤ 50) (hl : l.length ≤ 40) (hr : Rise l) : rwsE (l.flatMap lineS) = (l, 0, 0) := by
  have hb : ∀ b ∈ l.flatMap bodies, (∀ c ∈ b, c ≠ 10) ∧ b.length ≤ 512 := fun b hb => by
    obtain ⟨x, hx, hb⟩ := List.mem_flatMap.1 hb
    exact (bodies_ok (h x hx) (hk x hx)).2 b hb
  have h2 := flat_two (l := l) (fun x hx => (bodies_ok (h x hx) (hk x hx)).1)
  have hs := spl_lines (l.flatMap bodies) (fun b hb' => (hb b hb').1)
  have hL : linE (l.flatMap lineS) = (tl 1 (l.flatMap bodies), 0) := by
    rw [flat_bodies]
    unfold linE
    rw [hs, if_neg (by rw [List.length_append, List.length_singleton]; omega), lnsW_tl, if_neg, tl_app]
    · simp [tl, show toldL [] = [] from rfl]
    · intro h9
      obtain ⟨b, hb', hd⟩ := List.any_eq_true.1 h9
      simp at hd
      rcases List.mem_append.1 hb' with hb' | hb'
      · have := (hb b hb').2; omega
      · simp at hb'; subst hb'; simp at hd
  have hR := run_rows5 l [] 1 h hr (by omega)
  rw [List.nil_append] at hR
  rw [rws_of hL, hR]
  simp

end Go.Proofs.YtajhgbcgbgpcjaaGreatDoor.Uc

import Derived.Test.YtajhgbcgbgpcjaaGreatDoorGQ
namespace Go.Proofs.YtajhgbcgbgpcjaaGreatDoor.Uc
open Go.RowKit Fi

theorem spl_join (c : UInt8) : ∀ (s cur t : List UInt8), spl c cur (s ++ c :: t) = spl c cur s ++ spl c [] t
  | [], cur, t => by simp [spl]
  | b :: s, cur, t => by
    by_cases h : b = c
    · rw [List.cons_append, spl, if_pos h, spl, if_pos h, spl_join c s [] t]; rfl
    · rw [List.cons_append, spl, if_neg h, spl, if_neg h, spl_join c s _ t]
theorem tl_app : ∀ (x y : List (List UInt8)) (no : Nat), tl no (x ++ y) = tl no x ++ tl (no + x.length) y
  | [], y, no => by simp [tl]
  | z :: x, y, no => by
    rw [List.cons_append, tl, tl, tl_app x y (no + 1), List.length_cons, show no + 1 + x.length = no + (x.length + 1) by omega]
    split
    · rfl
    · rfl
theorem tl_shift : ∀ (x : List (List UInt8)) (no d : Nat), tl (no + d) x = (tl no x).map fun y => (y.1 + d, y.2)
  | [], _, _ => rfl
  | z :: x, no, d => by
    have ih := tl_shift x (no + 1) d
    rw [show no + 1 + d = no + d + 1 by omega] at ih
    rw [tl, tl, ih]
    split
    · rfl
    · rfl
theorem lin_ok {l : List UInt8} (h : (linE l).2 = 0) : (spl 10 [] l).any (fun y => decide (512 < y.length)) = false ∧ linE l = (tl 1 (spl 10 [] l), 0) := by
  unfold linE at h ⊢
  split at h
  · exact absurd h (by decide)
  · rename_i hc
    rw [if_neg hc]
    rw [lnsW_tl] at h ⊢
    cases ha : (spl 10 [] l).any (fun y => decide (512 < y.length)) with
    | true => rw [ha] at h; exact absurd h (by simp)
    | false => exact ⟨rfl, by simp⟩
theorem lin_join {s t : List UInt8} (hs : (linE s).2 = 0) (ht : (linE t).2 = 0) (hz : s.length + t.length ≤ 4000) :
    linE (s ++ 10 :: t) = (tl 1 (spl 10 [] s) ++ (tl 1 (spl 10 [] t)).map (fun y => (y.1 + (spl 10 [] s).length, y.2)), 0) := by
  obtain ⟨a1, _⟩ := lin_ok hs
  obtain ⟨b1, _⟩ := lin_ok ht
  unfold linE
  have h1 := spl_len 10 s []
  have h2 := spl_len 10 t []
  have h3 := List.count_le_length (a := (10 : UInt8)) (l := s)
  have h4 := List.count_le_length (a := (10 : UInt8)) (l := t)
  rw [spl_join, if_neg (by rw [List.length_append]; omega), lnsW_tl, if_neg (by rw [List.any_append, a1, b1]; decide), tl_app, ← tl_shift]
  rfl
theorem run_app : ∀ (x y : List (Nat × List UInt8)) (rs : List Rw) (op : Nat), (run rs op x).2.2.2 = 0 → run rs op (x ++ y) = run (run rs op x).1 (run rs op x).2.1 y
  | [], y, rs, op, _ => rfl
  | z :: x, y, rs, op, h => by
    by_cases h1 : (stp rs op z.1 z.2).2.2 = 0
    · rw [run_cons h1] at h
      rw [List.cons_append, run_cons h1, run_cons h1]
      exact run_app x y _ _ h
    · rw [run_wrong h1] at h; exact absurd h h1
theorem lastR_app {a rs : List Rw} (h : rs ≠ []) : lastR (a ++ rs) = lastR rs := by
  obtain ⟨m, y, rfl⟩ := snoc_of h
  rw [← List.append_assoc, lastR_snoc, lastR_snoc]
theorem putTo_app {a rs : List Rw} (t : Int) (h : rs ≠ []) : putTo (a ++ rs) t = a ++ putTo rs t := by
  obtain ⟨m, y, rfl⟩ := snoc_of h
  rw [← List.append_assoc, putTo_snoc, putTo_snoc, List.append_assoc]
theorem stp_app {a rs : List Rw} {op op' no no' : Nat} {t : List UInt8} (hne : rs ≠ []) (hop : op = 0 ↔ op' = 0) (h1 : no ≠ 0) (h2 : no' ≠ 0) (hok : (stp rs op no t).2.2 = 0) :
    (stp (a ++ rs) op' no' t).1 = a ++ (stp rs op no t).1 ∧ (stp (a ++ rs) op' no' t).2.2 = 0 ∧ ((stp rs op no t).2.1 = 0 ↔ (stp (a ++ rs) op' no' t).2.1 = 0) ∧ (stp rs op no t).1 ≠ [] ∧ ((stp rs op no t).1.headD z0).fr = (rs.headD z0).fr := by
  by_cases e1 : (rowE t).2 = 0
  · by_cases e2 : (rgN (rowE t).1.nm lastE).isSome = true ∨ op ≠ 0
    · have e2' : (rgN (rowE t).1.nm lastE).isSome = true ∨ op' ≠ 0 := by rcases e2 with h | h; exact .inl h; exact .inr (fun h9 => h (hop.2 h9))
      by_cases e3 : op = 0 ∨ endB (rowE t).1 (lastR rs) = false
      · rw [stp_bad e1 e2 e3] at hok; exact absurd hok (by simp)
      · have e3' : ¬ (op' = 0 ∨ endB (rowE t).1 (lastR (a ++ rs)) = false) := by
          rw [lastR_app hne]
          rintro (h | h)
          · exact e3 (.inl (hop.2 h))
          · exact e3 (.inr h)
        rw [stp_last e1 e2 e3, stp_last e1 e2' e3', putTo_app _ hne]
        refine ⟨rfl, rfl, by simp, by simp [putTo], ?_⟩
        obtain ⟨m, y, rfl⟩ := snoc_of hne
        rw [putTo_snoc]
        cases m <;> rfl
    · have e2' : ¬ ((rgN (rowE t).1.nm lastE).isSome = true ∨ op' ≠ 0) := by
        rintro (h | h)
        · exact e2 (.inl h)
        · exact e2 (.inr (fun h9 => h (hop.1 h9)))
      by_cases e3 : rs ≠ [] ∧ (rowE t).1.fr ≤ (lastR rs).tt
      · rw [stp_there e1 e2 e3] at hok; exact absurd hok (by simp)
      · have e3' : ¬ (a ++ rs ≠ [] ∧ (rowE t).1.fr ≤ (lastR (a ++ rs)).tt) := by
          rw [lastR_app hne]
          exact fun h => e3 ⟨hne, h.2⟩
        cases e4 : rgN (rowE t).1.nm firstE with
        | some n =>
          rw [stp_first e1 e2 e3 e4, stp_first e1 e2' e3' e4]
          refine ⟨by simp, rfl, by simp [h1, h2], by simp, ?_⟩
          cases rs with
          | nil => exact absurd rfl hne
          | cons _ _ => rfl
        | none =>
          rw [stp_one e1 e2 e3 e4, stp_one e1 e2' e3' e4]
          refine ⟨by simp, rfl, hop, by simp, ?_⟩
          cases rs with
          | nil => exact absurd rfl hne
          | cons _ _ => rfl
  · rw [stp_err e1] at hok; exact absurd hok e1
theorem run_pre {a : List Rw} {d : Nat} : ∀ (l : List (Nat × List UInt8)) (rs : List Rw) (op op' : Nat), rs ≠ [] → (op = 0 ↔ op' = 0) → (∀ y ∈ l, 1 ≤ y.1) → (run rs op l).2.2.2 = 0 →
    (run (a ++ rs) op' (l.map fun y => (y.1 + d, y.2))).1 = a ++ (run rs op l).1 ∧ (run (a ++ rs) op' (l.map fun y => (y.1 + d, y.2))).2.2.2 = 0 ∧ (run (a ++ rs) op' (l.map fun y => (y.1 + d, y.2))).2.2.1 = 0 ∧ ((run rs op l).2.1 = 0 ↔ (run (a ++ rs) op' (l.map fun y => (y.1 + d, y.2))).2.1 = 0) ∧ (run rs op l).1 ≠ [] ∧ ((run rs op l).1.headD z0).fr = (rs.headD z0).fr
  | [], rs, op, op', hne, hop, _, _ => ⟨rfl, rfl, rfl, hop, hne, rfl⟩
  | y :: l, rs, op, op', hne, hop, hp, h => by
    by_cases h1 : (stp rs op y.1 y.2).2.2 = 0
    · have hy := hp y (by simp)
      obtain ⟨c1, c2, c3, c4, c5⟩ := stp_app (a := a) (no' := y.1 + d) hne hop (by omega) (by omega) h1
      rw [run_cons h1] at h
      rw [run_cons h1, List.map_cons, run_cons c2]
      simp only
      rw [c1]
      obtain ⟨d1, d2, d3, d4, d5, d6⟩ := run_pre l (stp rs op y.1 y.2).1 _ (stp (a ++ rs) op' (y.1 + d) y.2).2.1 c4 c3 (fun z hz => hp z (by simp [hz])) h
      exact ⟨d1, d2, d3, d4, d5, d6.trans c5⟩
    · rw [run_wrong h1] at h; exact absurd h h1
theorem rws_ok {s : List UInt8} {a : List Rw} (h : rwsE s = (a, 0, 0)) : (linE s).2 = 0 ∧ run [] 0 (tl 1 (spl 10 [] s)) = (a, 0, (run [] 0 (tl 1 (spl 10 [] s))).2.2.1, 0) := by
  unfold rwsE at h
  by_cases h1 : (linE s).2 ≠ 0
  · rw [if_pos h1] at h
    simp only [Prod.mk.injEq] at h
    exact absurd h.2.2 h1
  · rw [if_neg h1] at h
    have h1' : (linE s).2 = 0 := by simpa using h1
    rw [(lin_ok h1').2] at h
    simp only at h
    refine ⟨h1', ?_⟩
    by_cases h2 : (run [] 0 (tl 1 (spl 10 [] s))).2.2.2 ≠ 0
    · rw [if_pos h2] at h
      simp only [Prod.mk.injEq] at h
      exact absurd h.2.2 h2
    · rw [if_neg h2] at h
      by_cases h3 : (run [] 0 (tl 1 (spl 10 [] s))).2.1 ≠ 0
      · rw [if_pos h3] at h
        simp only [Prod.mk.injEq] at h
        exact absurd h.2.2 (by decide)
      · rw [if_neg h3] at h
        simp only [Prod.mk.injEq] at h
        have e2 : (run [] 0 (tl 1 (spl 10 [] s))).2.2.2 = 0 := by simpa using h2
        have e3 : (run [] 0 (tl 1 (spl 10 [] s))).2.1 = 0 := by simpa using h3
        rw [← h.1]
        exact Prod.ext rfl (Prod.ext e3 (Prod.ext rfl e2))
theorem rws_of {s : List UInt8} {l : List (Nat × List UInt8)} (h : linE s = (l, 0)) : rwsE s = if (run [] 0 l).2.2.2 ≠ 0 then ([], (run [] 0 l).2.2.1, (run [] 0 l).2.2.2) else if (run [] 0 l).2.1 ≠ 0 then ([], (run [] 0 l).2.1, 10) else ((run [] 0 l).1, 0, 0) := by
  unfold rwsE
  rw [h, if_neg (by simp)]
/-- The rows of two files, one behind the other. -/
theorem rws_join {s t : List UInt8} {a b : List Rw} (hs : rwsE s = (a, 0, 0)) (ht : rwsE t = (b, 0, 0)) (hz : s.length + t.length ≤ 4000) :
    (a ≠ [] ∧ b ≠ [] ∧ (b.headD z0).fr ≤ (lastR a).tt → ∃ n, n ≠ 0 ∧ rwsE (s ++ 10 :: t) = ([], n, 12)) ∧ (¬ (a ≠ [] ∧ b ≠ [] ∧ (b.headD z0).fr ≤ (lastR a).tt) → rwsE (s ++ 10 :: t) = (a ++ b, 0, 0)) := by
  obtain ⟨l1, r1⟩ := rws_ok hs
  obtain ⟨l2, r2⟩ := rws_ok ht
  have hj := lin_join l1 l2 hz
  have hw := rws_of hj
  have hp := tl_pos (spl 10 [] t) 1
  rw [run_app _ _ _ _ (by rw [r1]), r1] at hw
  simp only at hw
  generalize (spl 10 [] s).length = d at *
  generalize tl 1 (spl 10 [] t) = M at *
  cases M with
  | nil =>
    rw [show run [] 0 [] = ([], 0, 0, 0) from rfl] at r2
    simp only [Prod.mk.injEq] at r2
    obtain ⟨rfl, _⟩ := r2
    refine ⟨fun h => absurd rfl h.2.1, fun _ => ?_⟩
    rw [hw]
    simp [run]
  | cons y M =>
    have hy := hp y (by simp)
    have hp2 : ∀ z ∈ M, 1 ≤ z.1 := fun z hz => hp z (by simp [hz])
    by_cases h1 : (stp [] 0 y.1 y.2).2.2 = 0
    · rw [run_cons h1] at r2
      have herr : (run (stp [] 0 y.1 y.2).1 (stp [] 0 y.1 y.2).2.1 M).2.2.2 = 0 := by rw [r2]
      by_cases e1 : (rowE y.2).2 = 0
      · by_cases e2 : (rgN (rowE y.2).1.nm lastE).isSome = true ∨ (0 : Nat) ≠ 0
        · rw [stp_bad e1 e2 (.inl rfl)] at h1; exact absurd h1 (by simp)
        · have e3 : ¬ (([] : List Rw) ≠ [] ∧ (rowE y.2).1.fr ≤ (lastR []).tt) := fun h => h.1 rfl
          obtain ⟨x, op1, op2, hx, hst, hsa, hop⟩ : ∃ x op1 op2, x.fr = (rowE y.2).1.fr ∧ stp [] 0 y.1 y.2 = ([x], op1, 0) ∧ (¬ (a ≠ [] ∧ (rowE y.2).1.fr ≤ (lastR a).tt) → stp a 0 (y.1 + d) y.2 = (a ++ [x], op2, 0)) ∧ (op1 = 0 ↔ op2 = 0) := by
            cases e4 : rgN (rowE y.2).1.nm firstE with
            | some n => exact ⟨{ (rowE y.2).1 with nm := n }, _, y.1 + d, rfl, stp_first e1 e2 e3 e4, fun h => stp_first e1 e2 h e4, by omega⟩
            | none => exact ⟨_, _, 0, rfl, stp_one e1 e2 e3 e4, fun h => stp_one e1 e2 h e4, Iff.rfl⟩
          rw [hst] at herr r2
          simp only at herr r2
          obtain ⟨d1, d2, d3, d4, d5, d6⟩ := run_pre (a := a) (d := d) M [x] op1 op2 (by simp) hop hp2 herr
          rw [r2] at d1 d4 d5 d6
          simp only at d1 d4 d5 d6
          have hfr : (b.headD z0).fr = (rowE y.2).1.fr := d6.trans hx
          refine ⟨fun h => ?_, fun h => ?_⟩
          · have ht := stp_there (no := y.1 + d) e1 e2 (rs := a) ⟨h.1, by rw [← hfr]; exact h.2.2⟩
            refine ⟨y.1 + d, by omega, ?_⟩
            rw [hw, List.map_cons, run_wrong (by simp only; rw [ht]; simp)]
            simp only
            rw [ht]
            simp
          · have ha := hsa (fun h9 => h ⟨h9.1, d5, by rw [hfr]; exact h9.2⟩)
            rw [hw, List.map_cons, run_cons (by simp only; rw [ha])]
            simp only
            rw [ha]
            simp only
            rw [d1, d2, d4.1 trivial]
            simp
      · rw [stp_err e1] at h1; exact absurd h1 e1
    · rw [run_wrong h1] at r2
      simp only [Prod.mk.injEq] at r2
      exact absurd r2.2.2.2 h1

end Go.Proofs.YtajhgbcgbgpcjaaGreatDoor.Uc

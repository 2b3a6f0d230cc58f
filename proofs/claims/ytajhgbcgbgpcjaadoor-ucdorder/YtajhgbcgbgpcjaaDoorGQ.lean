import Derived.Test.YtajhgbcgbgpcjaaDoorGP
namespace Go.Proofs.YtajhgbcgbgpcjaaDoor.Uc
open Go.RowKit Fi

theorem stp_err {rs : List Rw} {op no : Nat} {t : List UInt8} (h : (rowE t).2 ≠ 0) : stp rs op no t = (rs, op, (rowE t).2) := by unfold stp; rw [if_pos h]
theorem stp_bad {rs : List Rw} {op no : Nat} {t : List UInt8} (h : (rowE t).2 = 0) (h2 : (rgN (rowE t).1.nm lastE).isSome = true ∨ op ≠ 0) (h3 : op = 0 ∨ endB (rowE t).1 (lastR rs) = false) : stp rs op no t = (rs, op, 10) := by
  unfold stp; rw [if_neg (by simpa using h), if_pos h2, if_pos h3]
theorem stp_last {rs : List Rw} {op no : Nat} {t : List UInt8} (h : (rowE t).2 = 0) (h2 : (rgN (rowE t).1.nm lastE).isSome = true ∨ op ≠ 0) (h3 : ¬ (op = 0 ∨ endB (rowE t).1 (lastR rs) = false)) : stp rs op no t = (putTo rs (rowE t).1.tt, 0, 0) := by
  unfold stp; rw [if_neg (by simpa using h), if_pos h2, if_neg h3]
theorem stp_there {rs : List Rw} {op no : Nat} {t : List UInt8} (h : (rowE t).2 = 0) (h2 : ¬ ((rgN (rowE t).1.nm lastE).isSome = true ∨ op ≠ 0)) (h3 : rs ≠ [] ∧ (rowE t).1.fr ≤ (lastR rs).tt) : stp rs op no t = (rs, op, 12) := by
  unfold stp; rw [if_neg (by simpa using h), if_neg h2, if_pos h3]
theorem stp_first {rs : List Rw} {op no : Nat} {t n : List UInt8} (h : (rowE t).2 = 0) (h2 : ¬ ((rgN (rowE t).1.nm lastE).isSome = true ∨ op ≠ 0)) (h3 : ¬ (rs ≠ [] ∧ (rowE t).1.fr ≤ (lastR rs).tt)) (h4 : rgN (rowE t).1.nm firstE = some n) : stp rs op no t = (rs ++ [{ (rowE t).1 with nm := n }], no, 0) := by
  unfold stp; rw [if_neg (by simpa using h), if_neg h2, if_neg h3, h4]
theorem stp_one {rs : List Rw} {op no : Nat} {t : List UInt8} (h : (rowE t).2 = 0) (h2 : ¬ ((rgN (rowE t).1.nm lastE).isSome = true ∨ op ≠ 0)) (h3 : ¬ (rs ≠ [] ∧ (rowE t).1.fr ≤ (lastR rs).tt)) (h4 : rgN (rowE t).1.nm firstE = none) : stp rs op no t = (rs ++ [(rowE t).1], op, 0) := by
  unfold stp; rw [if_neg (by simpa using h), if_neg h2, if_neg h3, h4]

theorem lastR_snoc (l : List Rw) (y : Rw) : lastR (l ++ [y]) = y := by simp [lastR]
theorem putTo_snoc (l : List Rw) (y : Rw) (t : Int) : putTo (l ++ [y]) t = l ++ [{ y with tt := t }] := by simp [putTo, lastR_snoc]
theorem snoc_of {l : List Rw} (h : l ≠ []) : ∃ m y, l = m ++ [y] := ⟨l.dropLast, l.getLast h, (List.dropLast_concat_getLast h).symm⟩

structure Fin (x : Rw) : Prop where
  fr : scal x.fr = true
  tt : scal x.tt = true
  le : x.fr ≤ x.tt
  cl0 : 0 ≤ x.cl
  cl1 : x.cl ≤ 254
  kd : ltrs x.kd = true
  into : x.into.length ≤ 18
  none : x.into = [] → x.kd = []
  sc : ∀ y ∈ x.into, scal y = true
  rg : x.fr ≠ x.tt → x.into = []
theorem RowOk.fin {x : Rw} (h : RowOk x) : Fin x := ⟨h.fr, by rw [h.tt]; exact h.fr, by rw [h.tt]; exact Int.le_refl _, h.cl0, h.cl1, h.kd, h.into, h.none, h.sc, fun hn => absurd h.tt.symm hn⟩
theorem RowOk.fin2 {x : Rw} (h : RowOk x) (n : List UInt8) : Fin { x with nm := n } := ⟨h.fr, by show scal x.tt = true; rw [h.tt]; exact h.fr, by show x.fr ≤ x.tt; rw [h.tt]; exact Int.le_refl _, h.cl0, h.cl1, h.kd, h.into, h.none, h.sc, fun hn => absurd h.tt.symm hn⟩
def Rise (l : List Rw) : Prop := ∀ i (h : i + 1 < l.length), (l[i]'(by omega)).tt < (l[i + 1]).fr
theorem rise_snoc {l : List Rw} {y : Rw} : Rise (l ++ [y]) ↔ Rise l ∧ (l ≠ [] → (lastR l).tt < y.fr) := by
  constructor
  · intro h
    refine ⟨fun i hi => ?_, fun hl => ?_⟩
    · have := h i (by simp; omega)
      rwa [List.getElem_append_left (by omega), List.getElem_append_left (by omega)] at this
    · obtain ⟨m, z, rfl⟩ := snoc_of hl
      rw [lastR_snoc]
      have := h m.length (by simp)
      simpa using this
  · rintro ⟨h1, h2⟩ i hi
    rw [List.length_append] at hi
    simp at hi
    by_cases hlt : i + 1 < l.length
    · rw [List.getElem_append_left (by omega), List.getElem_append_left (by omega)]
      exact h1 i hlt
    · have h4 : i + 1 = l.length := by omega
      have hl : l ≠ [] := by rintro rfl; simp at h4
      have h3 := h2 hl
      obtain ⟨m, z, rfl⟩ := snoc_of hl
      rw [lastR_snoc] at h3
      have him : i = m.length := by simpa using h4
      subst him
      simpa using h3
theorem rise_nil : Rise [] := fun i h => by simp at h
structure Inv (rs : List Rw) (op : Nat) : Prop where
  fin : ∀ x ∈ rs, Fin x
  rise : Rise rs
  ne : op ≠ 0 → rs ≠ []
theorem Inv.nil : Inv [] 0 := ⟨fun x hx => (by cases hx), rise_nil, fun h => absurd rfl h⟩
theorem endB_yes {x y : Rw} (h : endB x y = true) : ∃ n, rgN x.nm lastE = some n ∧ n = y.nm ∧ x.ct = y.ct ∧ x.cl = y.cl ∧ x.into = [] ∧ y.into = [] ∧ y.fr ≤ x.fr := by
  unfold endB at h
  cases hr : rgN x.nm lastE with
  | none => rw [hr] at h; cases h
  | some n =>
    rw [hr] at h
    simp only [Bool.and_eq_true, decide_eq_true_eq] at h
    obtain ⟨h1, h2, h3, h4, h5, h6⟩ := h
    exact ⟨n, rfl, h1, h2, h3, List.eq_nil_of_length_eq_zero h4, List.eq_nil_of_length_eq_zero h5, h6⟩
theorem app_inv {rs : List Rw} {op op' : Nat} {x : Rw} (h : Inv rs op) (hx : Fin x) (h3 : ¬ (rs ≠ [] ∧ x.fr ≤ (lastR rs).tt)) : Inv (rs ++ [x]) op' := by
  refine ⟨fun y hy => ?_, rise_snoc.2 ⟨h.rise, fun hne => ?_⟩, fun _ => by simp⟩
  · rcases List.mem_append.1 hy with hy | hy
    · exact h.fin y hy
    · simp at hy; subst hy; exact hx
  · by_cases hl : (lastR rs).tt < x.fr
    · exact hl
    · exact absurd ⟨hne, by omega⟩ h3
theorem stp_inv {rs : List Rw} {op no : Nat} {t : List UInt8} (h : Inv rs op) : Inv (stp rs op no t).1 (stp rs op no t).2.1 := by
  by_cases h1 : (rowE t).2 = 0
  · have hok := rowE_ok h1
    by_cases h2 : (rgN (rowE t).1.nm lastE).isSome = true ∨ op ≠ 0
    · by_cases h3 : op = 0 ∨ endB (rowE t).1 (lastR rs) = false
      · rw [stp_bad h1 h2 h3]; exact h
      · rw [stp_last h1 h2 h3]
        have hop : op ≠ 0 := fun e => h3 (.inl e)
        have hen : endB (rowE t).1 (lastR rs) = true := by cases he : endB (rowE t).1 (lastR rs) with | true => rfl | false => exact absurd (.inr he) h3
        obtain ⟨m, y, rfl⟩ := snoc_of (h.ne hop)
        rw [lastR_snoc] at hen
        obtain ⟨n, _, _, _, _, hxi, hyi, hle⟩ := endB_yes hen
        rw [putTo_snoc]
        have hy := h.fin y (by simp)
        obtain ⟨hr1, hr2⟩ := rise_snoc.1 h.rise
        refine ⟨fun z hz => ?_, rise_snoc.2 ⟨hr1, hr2⟩, fun h => absurd rfl h⟩
        rcases List.mem_append.1 hz with hz | hz
        · exact h.fin z (by simp [hz])
        · simp at hz
          subst hz
          refine ⟨hy.fr, by show scal (rowE t).1.tt = true; rw [hok.tt]; exact hok.fr, by show y.fr ≤ (rowE t).1.tt; rw [hok.tt]; exact hle, hy.cl0, hy.cl1, hy.kd, hy.into, hy.none, hy.sc, fun _ => hyi⟩
    · by_cases h3 : rs ≠ [] ∧ (rowE t).1.fr ≤ (lastR rs).tt
      · rw [stp_there h1 h2 h3]; exact h
      · cases h4 : rgN (rowE t).1.nm firstE with
        | some n => rw [stp_first h1 h2 h3 h4]; exact app_inv h (hok.fin2 n) h3
        | none => rw [stp_one h1 h2 h3 h4]; exact app_inv h hok.fin h3
  · rw [stp_err h1]; exact h
theorem stp_len {rs : List Rw} {op no : Nat} {t : List UInt8} : (stp rs op no t).1.length ≤ rs.length + 1 ∧ ((stp rs op no t).2.1 = op ∨ (stp rs op no t).2.1 = no ∨ (stp rs op no t).2.1 = 0) := by
  by_cases h1 : (rowE t).2 = 0
  · by_cases h2 : (rgN (rowE t).1.nm lastE).isSome = true ∨ op ≠ 0
    · by_cases h3 : op = 0 ∨ endB (rowE t).1 (lastR rs) = false
      · rw [stp_bad h1 h2 h3]; simp
      · rw [stp_last h1 h2 h3]; simp [putTo]
    · by_cases h3 : rs ≠ [] ∧ (rowE t).1.fr ≤ (lastR rs).tt
      · rw [stp_there h1 h2 h3]; simp
      · cases h4 : rgN (rowE t).1.nm firstE with
        | some n => rw [stp_first h1 h2 h3 h4]; simp
        | none => rw [stp_one h1 h2 h3 h4]; simp
  · rw [stp_err h1]; simp
theorem run_inv : ∀ (l : List (Nat × List UInt8)) (rs : List Rw) (op : Nat), Inv rs op → Inv (run rs op l).1 (run rs op l).2.1
  | [], rs, op, h => h
  | x :: l, rs, op, h => by
    by_cases h1 : (stp rs op x.1 x.2).2.2 = 0
    · rw [run_cons h1]; exact run_inv l _ _ (stp_inv h)
    · rw [run_wrong h1]; exact stp_inv h

/-- The lines that tell something, with their numbers. -/
def tl : Nat → List (List UInt8) → List (Nat × List UInt8)
  | _, [] => []
  | no, x :: r => if toldL x = [] then tl (no + 1) r else (no, toldL x) :: tl (no + 1) r
theorem lnsW_tl : ∀ (x : List (List UInt8)) (no : Nat) (acc : List (Nat × List UInt8)), lnsW no acc x = if (x.any fun y => decide (512 < y.length)) = true then ([], 10) else (acc ++ tl no x, 0)
  | [], no, acc => by simp [lnsW, tl]
  | y :: x, no, acc => by
    by_cases h : 512 < y.length
    · rw [lnsW_long h]; simp [h]
    · by_cases h2 : toldL y = []
      · rw [lnsW_mute h h2, lnsW_tl x, tl, if_pos h2]; simp [h]
      · rw [lnsW_told h h2, lnsW_tl x, tl, if_neg h2]; simp [h]
theorem tl_pos : ∀ (x : List (List UInt8)) (no : Nat), ∀ y ∈ tl no x, no ≤ y.1
  | [], _, _, h => by cases h
  | z :: x, no, y, h => by
    rw [tl] at h
    split at h
    · have := tl_pos x (no + 1) y h; omega
    · rcases List.mem_cons.1 h with rfl | h
      · exact Nat.le_refl _
      · have := tl_pos x (no + 1) y h; omega
theorem linE_cases (l : List UInt8) : linE l = ([], 14) ∨ linE l = ([], 10) ∨ linE l = (tl 1 (spl 10 [] l), 0) := by
  unfold linE
  split
  · exact .inl rfl
  · rw [lnsW_tl]
    split
    · exact .inr (.inl rfl)
    · exact .inr (.inr (by simp))
theorem run_no : ∀ (l : List (Nat × List UInt8)) (rs : List Rw) (op : Nat), (∀ y ∈ l, 1 ≤ y.1) → (run rs op l).2.2.2 ≠ 0 → 1 ≤ (run rs op l).2.2.1
  | [], rs, op, _, h => absurd rfl h
  | x :: l, rs, op, hp, h => by
    by_cases h1 : (stp rs op x.1 x.2).2.2 = 0
    · rw [run_cons h1] at h ⊢; exact run_no l _ _ (fun y hy => hp y (by simp [hy])) h
    · rw [run_wrong h1]; exact hp x (by simp)
/-- What the rows of a file are, and its error's number. -/
theorem rws_sure (s : List UInt8) : (∀ x ∈ (rwsE s).1, Fin x) ∧ Rise (rwsE s).1 ∧ ((rwsE s).2.2 ≠ 0 → (rwsE s).1 = []) ∧ ((rwsE s).2.2 = 0 → (rwsE s).2.1 = 0) ∧ ((rwsE s).2.2 ≠ 0 → (rwsE s).2.1 ≠ 0 ∨ (rwsE s).2.2 = 14 ∨ (rwsE s).2.2 = 10) := by
  have hn : (∀ x ∈ ([] : List Rw), Fin x) := fun x hx => by cases hx
  unfold rwsE
  rcases linE_cases s with h | h | h
  · rw [h]; exact ⟨hn, rise_nil, fun _ => rfl, fun h => by simp at h, fun _ => .inr (.inl rfl)⟩
  · rw [h]; exact ⟨hn, rise_nil, fun _ => rfl, fun h => by simp at h, fun _ => .inr (.inr rfl)⟩
  · rw [h, if_neg (by simp)]
    have hi := run_inv (tl 1 (spl 10 [] s)) [] 0 Inv.nil
    by_cases h1 : (run [] 0 (tl 1 (spl 10 [] s))).2.2.2 ≠ 0
    · simp only [if_pos h1]
      have := run_no (tl 1 (spl 10 [] s)) [] 0 (tl_pos _ 1) h1
      exact ⟨hn, rise_nil, fun _ => trivial, fun h => absurd h h1, fun _ => .inl (by show (run [] 0 (tl 1 (spl 10 [] s))).2.2.1 ≠ 0; omega)⟩
    · simp only [if_neg h1]
      by_cases h2 : (run [] 0 (tl 1 (spl 10 [] s))).2.1 ≠ 0
      · simp only [if_pos h2]
        exact ⟨hn, rise_nil, fun _ => trivial, fun h => by simp at h, fun _ => .inr (.inr trivial)⟩
      · simp only [if_neg h2]
        exact ⟨hi.fin, hi.rise, fun h => by simp at h, fun _ => trivial, fun h => by simp at h⟩

end Go.Proofs.YtajhgbcgbgpcjaaDoor.Uc

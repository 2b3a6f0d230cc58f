import Derived.Test.YtfjckdjnnbpcnaaXE
namespace Go.Proofs.Ytfjckdjnnbpcnaa.Tr
open Go.RowKit Go.Shelf

theorem chain_prefix {L pre : List Sp} {x : Sp} {k : Nat} (hch : ∀ i (hi : i + 1 < L.length), nbr L[i] L[i + 1]) (h : pre ++ [x] <+: L) (hk : k + 1 = pre.length) : nbr (pre[k]'(by omega)) x := by
  obtain ⟨r, rfl⟩ := h
  have h1 := hch k (by simp; omega)
  simp only [List.append_assoc] at h1
  rw [List.getElem_append_left (by omega), List.getElem_append_right (by omega)] at h1
  simpa [hk] using h1
theorem prefix_mem {L pre : List Sp} {x : Sp} (h : pre ++ [x] <+: L) : x ∈ L := h.subset (by simp)
theorem getD_at {ys : List Sp} {j : Nat} {d : Sp} (h : j < ys.length) : ys.getD j d = ys[j] := by simp [List.getD, List.getElem?_eq_getElem h]
/-- What is set, going round from a place. -/
def rot (ys : List Sp) (q k : Nat) : List Sp := (List.range k).map fun i => ys.getD ((q + i) % ys.length) (0, 0, 0)
theorem rot_succ (ys : List Sp) (q k : Nat) : rot ys q (k + 1) = rot ys q k ++ [ys.getD ((q + k) % ys.length) (0, 0, 0)] := by
  unfold rot
  rw [List.range_succ, List.map_append]
  rfl
theorem rot_mem {ys : List Sp} {q : Nat} (hq : q < ys.length) (s : Sp) : s ∈ rot ys q ys.length ↔ s ∈ ys := by
  unfold rot
  rw [List.mem_map]
  constructor
  · rintro ⟨i, _, rfl⟩
    have hl : (q + i) % ys.length < ys.length := Nat.mod_lt _ (by omega)
    rw [getD_at hl]
    exact List.getElem_mem hl
  · intro hs
    obtain ⟨j, hj, rfl⟩ := List.mem_iff_getElem.1 hs
    refine ⟨(j + ys.length - q) % ys.length, List.mem_range.2 (Nat.mod_lt _ (by omega)), ?_⟩
    have e : (q + (j + ys.length - q) % ys.length) % ys.length = j := by
      by_cases h1 : q ≤ j
      · have e1 : (j + ys.length - q) % ys.length = j - q := by
          rw [show j + ys.length - q = (j - q) + ys.length by omega, Nat.add_mod_right, Nat.mod_eq_of_lt (by omega)]
        rw [e1, show q + (j - q) = j by omega, Nat.mod_eq_of_lt hj]
      · have e1 : (j + ys.length - q) % ys.length = j + ys.length - q := Nat.mod_eq_of_lt (by omega)
        rw [e1, show q + (j + ys.length - q) = j + ys.length by omega, Nat.add_mod_right, Nat.mod_eq_of_lt hj]
    rw [e, getD_at hj]
theorem rot_nil {ys : List Sp} (h : ys.length = 0) (q : Nat) (s : Sp) : s ∈ rot ys q ys.length ↔ s ∈ ys := by
  have : ys = [] := List.eq_nil_of_length_eq_zero h
  subst this
  simp [rot]
theorem setG_snoc (g : Int → Int) (l : List Sp) (s : Sp) : setG g (l ++ [s]) = updS (setG g l) s := by
  unfold setG
  rw [List.foldl_append]
  rfl
/-- What comes of 'from' going round. -/
theorem round_at (fr : Int) {N : Nat} (hN : 0 < N) : ∃ q1 : Int, ∃ q : Nat, fr.tmod N = q1 ∧ -(N : Int) < q1 ∧ q1 < N ∧ (q1 + N).tmod N = (q : Int) ∧ q < N := by
  have hb : (fr.tmod N).natAbs < N := by
    have := Int.natAbs_tmod fr (N : Int)
    rw [this]
    exact Nat.mod_lt _ (by simpa using hN)
  refine ⟨fr.tmod N, ((fr.tmod N + N) % N).toNat, rfl, by omega, by omega, ?_, ?_⟩
  · rw [Int.tmod_eq_emod_of_nonneg (by omega)]
    have := Int.emod_nonneg (fr.tmod N + N) (show (N : Int) ≠ 0 by omega)
    omega
  · have := Int.emod_nonneg (fr.tmod N + N) (show (N : Int) ≠ 0 by omega)
    have := Int.emod_lt_of_pos (fr.tmod N + N) (show (0 : Int) < N by omega)
    omega
theorem round_at2 {q i N : Nat} (_hN : 0 < N) : ((q : Int) + i).tmod N = (((q + i) % N : Nat) : Int) := by
  rw [Int.tmod_eq_emod_of_nonneg (by omega)]
  simp
theorem wrap_in {x : Int} (h1 : -4611686018427387904 ≤ x) (h2 : x ≤ 4611686018427387904) : wrap64 x = x := by unfold wrap64; omega
theorem wrap_inK {x : Int} (h1 : -4611686018427387904 ≤ x) (h2 : x ≤ 4611686018427387904) : IntKind.i64.wrap x = x := by rw [IntKind.wrap_i64]; omega
/-- All that a round's index asks. -/
theorem round_all {N q k : Nat} {q1 : Int} (hN : N ≤ 1114112) (hk : k < N) (b1 : -(N : Int) < q1) (b2 : q1 < N) (hq : q < N) :
    ∃ j : Nat, j = (q + k) % N ∧ j < N ∧ ((q : Int) + k).tmod N = (j : Int) ∧ wrap64 q1 = q1 ∧ wrap64 (q1 + N) = q1 + N ∧ wrap64 (q : Int) = q ∧ wrap64 ((q : Int) + k) = (q : Int) + k ∧ wrap64 (j : Int) = j ∧ (j : Int) < N ∧ (0 : Int) ≤ (j : Int) ∧ IntKind.i64.wrap q1 = q1 ∧ IntKind.i64.wrap (q1 + N) = q1 + N ∧ IntKind.i64.wrap (q : Int) = q ∧ IntKind.i64.wrap ((q : Int) + k) = (q : Int) + k ∧ IntKind.i64.wrap (j : Int) = j := by
  have hjl : (q + k) % N < N := Nat.mod_lt _ (by omega)
  have h3 := round_at2 (q := q) (i := k) (N := N) (by omega)
  generalize (q + k) % N = j at *
  exact ⟨j, rfl, hjl, h3, wrap_in (by omega) (by omega), wrap_in (by omega) (by omega), wrap_in (by omega) (by omega), wrap_in (by omega) (by omega), wrap_in (by omega) (by omega), by omega, by omega, wrap_inK (by omega) (by omega), wrap_inK (by omega) (by omega), wrap_inK (by omega) (by omega), wrap_inK (by omega) (by omega), wrap_inK (by omega) (by omega)⟩
variable {T : Tbl}
theorem Mv.onT {F : Nat → Prop} {wL w w' : World} {b Y : Nat} {nn : Int} {g : Int → Int} (m : Mv F (T.fp w Y) wL w) (h : T.Tb w b Y nn g) (hb : Below w.heap.size w w') : Mv F (T.fp w' Y) wL w' :=
  m.trans ⟨hb.os, hb.tape, hb.output, hb.size, fun k hk _ => hb.block k hk, fun k hk => .inl ((T.fpon h (fun k hk _ => hb.block k hk) k).1 hk)⟩

end Go.Proofs.Ytfjckdjnnbpcnaa.Tr

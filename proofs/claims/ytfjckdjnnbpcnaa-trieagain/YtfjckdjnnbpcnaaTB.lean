import Derived.Test.YtfjckdjnnbpcnaaTA
namespace Go.Proofs.Ytfjckdjnnbpcnaa.Tr

/-- Does a block tell something? -/
def nzB (g : Int → Int) (nn : Int) (b : Nat) : Bool := (List.range 256).any fun i => decide (g ((b * 256 + i : Nat) : Int) ≠ nn)
theorem cbF_in (g : Int → Int) (nn : Int) (m : Nat) (h : (cbF g nn (m * 256)).2 < m) : ∀ j : Nat, j ≤ 256 →
    cbF g nn (m * 256 + j) = if ((List.range j).any fun i => decide (g ((m * 256 + i : Nat) : Int) ≠ nn)) = true then ((cbF g nn (m * 256)).1 + 1, (m : Int)) else cbF g nn (m * 256)
  | 0, _ => by simp
  | j + 1, hj => by
    have ih := cbF_in g nn m h j (by omega)
    rw [show m * 256 + (j + 1) = (m * 256 + j) + 1 by omega, cbF, ih, List.range_succ, List.any_append]
    have hd : ((m * 256 + j : Nat) : Int) / 256 = (m : Int) := by omega
    rw [hd]
    by_cases h1 : g ((m * 256 + j : Nat) : Int) = nn
    · rw [if_pos h1]
      have e : (List.any [j] fun i => decide (g ((m * 256 + i : Nat) : Int) ≠ nn)) = false := by simp only [List.any_cons, List.any_nil, Bool.or_false]; simpa using h1
      rw [e, Bool.or_false]
    · rw [if_neg h1]
      have e : (List.any [j] fun i => decide (g ((m * 256 + i : Nat) : Int) ≠ nn)) = true := by simp only [List.any_cons, List.any_nil, Bool.or_false]; simpa using h1
      rw [e, Bool.or_true, if_pos rfl]
      cases ha : ((List.range j).any fun i => decide (g ((m * 256 + i : Nat) : Int) ≠ nn)) with
      | true => simp
      | false =>
        simp only [Bool.false_eq_true, if_false]
        rw [if_neg (by omega)]
theorem cbF_blocks (g : Int → Int) (nn : Int) : ∀ m : Nat, (cbF g nn (m * 256)).1 = ((List.range m).countP (nzB g nn) : Nat) ∧ (cbF g nn (m * 256)).2 < m
  | 0 => by simp [cbF]
  | m + 1 => by
    obtain ⟨h1, h2⟩ := cbF_blocks g nn m
    have h3 := cbF_in g nn m h2 256 (Nat.le_refl _)
    have e : ((List.range 256).any fun i => decide (g ((m * 256 + i : Nat) : Int) ≠ nn)) = nzB g nn m := rfl
    rw [e] at h3
    rw [show (m + 1) * 256 = m * 256 + 256 by omega, h3, List.range_succ (n := m), List.countP_append]
    cases hb : nzB g nn m with
    | true =>
      simp only [if_true]
      refine ⟨?_, by omega⟩
      rw [h1]
      simp [hb]
    | false =>
      simp only [Bool.false_eq_true, if_false]
      refine ⟨?_, by omega⟩
      rw [h1]
      simp [hb]
/-- How many blocks tell something. -/
def blkN (g : Int → Int) (nn : Int) : Nat := (List.range 4352).countP (nzB g nn)
theorem blkF_all (g : Int → Int) (nn : Int) : (blkF (allG g nn)).1 = (blkN g nn : Nat) := by
  unfold allG
  rw [blkF_scan]
  exact (cbF_blocks g nn 4352).1

/-- All ranges, by the ranges that were set: from edge to edge. -/
theorem all_step {nn : Int} {L : List Sp} {r : Nat} (h : r < 1114112) : scan (getL nn L) nn (edge L r).toNat = pushS nn (scan (getL nn L) nn r) r (edge L r) (getL nn L r) := by
  obtain ⟨h1, h2, h3⟩ := edge_spec L (r := (r : Int)) (by omega)
  have e : (((edge L r).toNat : Nat) : Int) = edge L r := by omega
  rw [scan_seg (r := r) (e := (edge L r).toNat) (v := getL nn L r) (by omega) (fun x a b => h3 nn x (by omega) (by omega)), e]
end Go.Proofs.Ytfjckdjnnbpcnaa.Tr

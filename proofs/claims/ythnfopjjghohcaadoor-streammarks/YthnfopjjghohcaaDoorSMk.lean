/- Behind a kind's mark: what bytes are there, by that kind. Plain. -/
import Derived.Test.YthnfopjjghohcaaDoorGD1
namespace Go.Proofs.YthnfopjjghohcaaDoor.Dg

theorem pf_two (L : List Nat) (h : L = [] ∨ ∃ x t, L = x :: t ∧ x ≠ 0) : pf [255, 254, 0, 0] ([255, 254] ++ L) = false := by
  rcases h with rfl | ⟨x, t, rfl, hx⟩
  · rfl
  · simp [pf]
    intro h
    exact absurd h.symm hx
theorem gs5_mark (k : Nat) (h1 : 1 ≤ k) (h5 : k ≤ 5) (L : List Nat) (h : L = [] ∨ ∃ x t, L = x :: t ∧ x ≠ 0) : gs5 (mkL k ++ L) = (k, (mkL k).length) := by
  have hk : k = 1 ∨ k = 2 ∨ k = 3 ∨ k = 4 ∨ k = 5 := by omega
  rcases hk with rfl | rfl | rfl | rfl | rfl
  · have h3 := pf_two L h
    unfold gs5
    rw [show mkL 1 = [255, 254] from rfl, show mkL 3 = [255, 254, 0, 0] from rfl, h3]
    simp [pf, mkL]
  · simp [gs5, pf, mkL]
  · simp [gs5, pf, mkL]
  · simp [gs5, pf, mkL]
  · simp [gs5, pf, mkL]
theorem nx5_mark (k : Nat) (h1 : 1 ≤ k) (h5 : k ≤ 5) (L : List Nat) : nx5 k (mkL k ++ L) = (65279, ((mkL k).length : Int), 0) := by
  have hk : k = 1 ∨ k = 2 ∨ k = 3 ∨ k = 4 ∨ k = 5 := by omega
  rcases hk with rfl | rfl | rfl | rfl | rfl
  · simp [nx5, Wd.nx, mkL, Wd.szK, Wd.unN, Wd.loK, Wd.leN, scal]
  · simp [nx5, Wd.nx, mkL, Wd.szK, Wd.unN, Wd.loK, Wd.leN, scal]
  · simp [nx5, Wd.nx, mkL, Wd.szK, Wd.unN, Wd.loK, Wd.leN, scal]
  · simp [nx5, Wd.nx, mkL, Wd.szK, Wd.unN, Wd.loK, Wd.leN, scal]
  · rfl
theorem mkL_len (k : Nat) (h1 : 1 ≤ k) (h5 : k ≤ 5) : 2 ≤ (mkL k).length ∧ (mkL k).length ≤ 4 := by
  have hk : k = 1 ∨ k = 2 ∨ k = 3 ∨ k = 4 ∨ k = 5 := by omega
  rcases hk with rfl | rfl | rfl | rfl | rfl <;> decide
/-- With a guess: the bytes behind the mark. -/
theorem marks1 (k0 k : Nat) (pol : Int) (h1 : 1 ≤ k) (h5 : k ≤ 5) (L : List Nat) (h : L = [] ∨ ∃ x t, L = x :: t ∧ x ≠ 0) : whole k0 pol true (mkL k ++ L) = shf (mkL k).length (whole k pol false L) ∧ knd k0 true (mkL k ++ L) = k := by
  have hg := gs5_mark k h1 h5 L h
  have hk : knd k0 true (mkL k ++ L) = k := by unfold knd; rw [hg, if_pos ⟨rfl, by omega⟩]
  have hb : beg true (mkL k ++ L) = (mkL k).length := by unfold beg; rw [hg]; rfl
  refine ⟨?_, hk⟩
  unfold whole
  rw [hk, hb, knd_no, List.drop_left]
  show dec _ _ _ _ = shf _ (dec _ _ 0 L)
  rw [← dec_shf (nxOk k)]
/-- Without one: the mark is a character. -/
theorem marks2 (k : Nat) (pol : Int) (h1 : 1 ≤ k) (h5 : k ≤ 5) (L : List Nat) : whole k pol false (mkL k ++ L) = (65279 :: (whole k pol false L).1, (shf (mkL k).length (whole k pol false L)).2.1, (whole k pol false L).2.2) := by
  have hl := mkL_len k h1 h5
  rw [whole_no, whole_no, dec_ok (nxOk k) pol 0 (mkL k ++ L) (by intro e; have h0 := congrArg List.length e; rw [List.length_append, List.length_nil] at h0; omega) 65279 (mkL k).length (nx5_mark k h1 h5 L) (by omega), List.drop_left, Nat.zero_add, dec_shf (nxOk k) pol (mkL k).length L]
  rfl
end Go.Proofs.YthnfopjjghohcaaDoor.Dg

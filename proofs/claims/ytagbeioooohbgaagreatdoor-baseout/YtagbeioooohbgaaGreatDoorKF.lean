import Derived.Test.YtagbeioooohbgaaGreatDoorM03
import Derived.Test.YtagbeioooohbgaaGreatDoorFU
import Derived.Test.YtagbeioooohbgaaGreatDoorM04
namespace Go.Proofs.YtagbeioooohbgaaGreatDoor.Ba
open Go.RowKit
open Fi Uc

/-! A character's hex digits, as a line of exclusions -/
def udB (d : Nat) : UInt8 := UInt8.ofNat (if d < 10 then 48 + d else 55 + d)
/-- The last k digits of a number. -/
def fwB : Nat → Nat → List UInt8
  | 0, _ => []
  | k + 1, n => fwB k (n / 16) ++ [udB (n % 16)]
theorem fwB_len : ∀ k n, (fwB k n).length = k
  | 0, _ => rfl
  | k + 1, n => by rw [fwB, List.length_append, fwB_len k]; rfl
set_option maxRecDepth 100000 in
theorem dv_udB : ∀ d : Fin 16, dv (udB d.val).toNat = d.val := by decide +kernel
theorem dgs_more (b : Nat) : ∀ (l : List UInt8) (n m : Nat) (c : UInt8), dgs b n l = some m → dv c.toNat < b → dgs b n (l ++ [c]) = some (m * b + dv c.toNat)
  | [], n, m, c, h, hc => by cases h; simp [dgs, hc]
  | d :: l, n, m, c, h, hc => by
    rw [dgs] at h
    rw [List.cons_append, dgs]
    split at h
    · rename_i hd
      rw [if_pos hd]
      exact dgs_more b l _ m c h hc
    · cases h
theorem dgs_fw : ∀ k n, n < 16 ^ k → dgs 16 0 (fwB k n) = some n
  | 0, n, h => by simp at h; subst h; rfl
  | k + 1, n, h => by
    have hd := dv_udB ⟨n % 16, Nat.mod_lt _ (by omega)⟩
    simp only at hd
    rw [fwB, dgs_more 16 _ 0 (n / 16) _ (dgs_fw k (n / 16) ?_) (by rw [hd]; exact Nat.mod_lt _ (by omega)), hd]
    · congr 1; omega
    · rw [Nat.pow_succ] at h; omega
theorem hexE_4 {n : Nat} (h : scal (n : Int) = true) (h4 : n < 65536) : hexE (fwB 4 n) = ((n : Int), 0) := by
  refine hexE_yes ?_ h
  rw [digs_in (by rw [fwB_len]; omega), dgs_fw _ _ (by omega)]
set_option maxRecDepth 100000 in
theorem ud_bare : ∀ d : Fin 16, isb (udB d.val) = false ∧ udB d.val ≠ 46 ∧ udB d.val ≠ 10 ∧ udB d.val ≠ 35 ∧ udB d.val ≠ 59 := by decide +kernel
theorem fwB_bare : ∀ k n, ∀ c ∈ fwB k n, isb c = false ∧ c ≠ 46 ∧ c ≠ 10 ∧ c ≠ 35 ∧ c ≠ 59
  | 0, _, c, h => by simp [fwB] at h
  | k + 1, n, c, h => by
    rw [fwB] at h
    rcases List.mem_append.1 h with h | h
    · exact fwB_bare k _ c h
    · simp at h
      subst h
      exact ud_bare ⟨n % 16, Nat.mod_lt _ (by omega)⟩
theorem no_pre {a b : UInt8} {l r : List UInt8} (h : b ≠ a) : (a :: r).isPrefixOf (b :: l) = false := by
  simp [List.isPrefixOf]
  intro h2
  exact absurd h2.symm h
theorem no_cut (a : UInt8) (r : List UInt8) : ∀ (l : List UInt8), (∀ c ∈ l, c ≠ a) → (Lib.cut l (a :: r)).2.2 = false
  | [], _ => by rw [cut_nil (by simp)]
  | b :: l, h => by
    rw [cut_skip (no_pre (h b (by simp))), no_cut a r l (fun c hc => h c (by simp [hc]))]
    rfl
theorem bare_same (l : List UInt8) (h : ∀ c ∈ l, isb c = false) : bareL l = l := by
  have h1 : rt l = l := by
    rcases List.eq_nil_or_concat l with rfl | ⟨l', c, rfl⟩
    · rfl
    · rw [List.concat_eq_append]
      exact rt_no (h c (by simp))
  have h2 : lt l = l := by
    cases l with
    | nil => rfl
    | cons c l => exact lt_no (h c (by simp))
  rw [bareL_eq, h1, h2]
theorem no_spl (a : UInt8) : ∀ (l cur : List UInt8), (∀ c ∈ l, c ≠ a) → spl a cur l = [cur ++ l]
  | [], cur, _ => by simp [spl]
  | c :: l, cur, h => by
    rw [spl, if_neg (h c (by simp)), no_spl a l (cur ++ [c]) (fun d hd => h d (by simp [hd]))]
    simp
theorem rng_4 {n : Nat} (h : scal (n : Int) = true) (h4 : n < 65536) : rngE (fwB 4 n) = ((n : Int), (n : Int), 0) := by
  unfold rngE
  rw [no_cut 46 [46] _ (fun c hc => (fwB_bare 4 n c hc).2.1)]
  simp [hexE_4 h h4]
theorem told_4 (n : Nat) : toldL (fwB 4 n) = fwB 4 n := by
  unfold toldL
  rw [(cut_miss (no_cut 35 [] _ (fun c hc => (fwB_bare 4 n c hc).2.2.2.1))).1]
  exact bare_same _ fun c hc => (fwB_bare 4 n c hc).1
theorem sets_4 {n : Nat} (h : scal (n : Int) = true) (h4 : n < 65536) : setsE (fwB 4 n) = ([(n : Int)], 0, 0) := by
  have hne : fwB 4 n ≠ [] := fun e => by
    have := congrArg List.length e
    rw [fwB_len] at this
    cases this
  have hl : linE (fwB 4 n) = ([(1, fwB 4 n)], 0) := by
    rw [lin_one (fun c hc => (fwB_bare 4 n c hc).2.2.1) (by rw [fwB_len]; omega), told_4, if_neg hne]
  have hf : (fld (fwB 4 n)).getD 0 [] = fwB 4 n := by
    unfold fld
    rw [no_spl 59 _ [] (fun c hc => (fwB_bare 4 n c hc).2.2.2.2)]
    exact bare_same _ fun c hc => (fwB_bare 4 n c hc).1
  have hc : chs (n : Int) (n : Int) = [(n : Int)] := by
    unfold chs
    rw [show ((n : Int) - n + 1).toNat = 1 by omega]
    unfold chP
    simp [h]
  have hs : stS [] (fwB 4 n) = ([(n : Int)], 0) := by
    unfold stS
    rw [hf, rng_4 h h4]
    unfold stR
    simp [hc]
  have hr : runS [] [(1, fwB 4 n)] = ([(n : Int)], 0, 0) := by
    rw [runS, hs]
    simp [runS]
  unfold setsE
  rw [hl, hr]
  simp

end Go.Proofs.YtagbeioooohbgaaGreatDoor.Ba

import Derived.Test.YtajhgbcgbgpcjaaGreatDoorFL
namespace Go.Proofs.YtajhgbcgbgpcjaaGreatDoor.Fi
open Go.RowKit

/-- A digit at base 16, with small letters, and with large ones. -/
def ld (d : Nat) : UInt8 := UInt8.ofNat (if d < 10 then 48 + d else 87 + d)
def ud (d : Nat) : UInt8 := UInt8.ofNat (if d < 10 then 48 + d else 55 + d)
/-- The last k digits of a number. -/
def fwl : Nat → Nat → List UInt8
  | 0, _ => []
  | k + 1, n => fwl k (n / 16) ++ [ld (n % 16)]
def fwu : Nat → Nat → List UInt8
  | 0, _ => []
  | k + 1, n => fwu k (n / 16) ++ [ud (n % 16)]
theorem fwl_len : ∀ k n, (fwl k n).length = k
  | 0, _ => rfl
  | k + 1, n => by rw [fwl, List.length_append, fwl_len k]; rfl
theorem fwu_len : ∀ k n, (fwu k n).length = k
  | 0, _ => rfl
  | k + 1, n => by rw [fwu, List.length_append, fwu_len k]; rfl
/-- One digit more, ahead. -/
theorem fwl_head : ∀ k n, fwl (k + 1) n = ld (n / 16 ^ k % 16) :: fwl k n
  | 0, n => by simp [fwl]
  | k + 1, n => by
    rw [fwl, fwl_head k (n / 16), fwl, Nat.div_div_eq_div_mul, ← Nat.pow_succ']
    rfl
theorem fwu_head : ∀ k n, fwu (k + 1) n = ud (n / 16 ^ k % 16) :: fwu k n
  | 0, n => by simp [fwu]
  | k + 1, n => by
    rw [fwu, fwu_head k (n / 16), fwu, Nat.div_div_eq_div_mul, ← Nat.pow_succ']
    rfl
theorem fwu_pad : ∀ j k n, n < 16 ^ k → fwu (k + j) n = List.replicate j 48 ++ fwu k n
  | 0, _, _, _ => rfl
  | j + 1, k, n, h => by
    have h2 : n < 16 ^ (k + j) := Nat.lt_of_lt_of_le h (Nat.pow_le_pow_right (by omega) (by omega))
    rw [← Nat.add_assoc, fwu_head, Nat.div_eq_of_lt h2, fwu_pad j k n h]
    rfl
/-- How many digits a number is told with. -/
def wd (n : Nat) : Nat := if n < 65536 then 4 else if n < 1048576 then 5 else if n < 16777216 then 6 else if n < 268435456 then 7 else 8
theorem wd_of {n k : Nat} (hn : n < 2147483648) (h1 : n < 16 ^ k) (h2 : k = 4 ∨ (4 ≤ k ∧ 16 ^ (k - 1) ≤ n)) : k = wd n := by
  have hk : k ≤ 8 := by
    rcases Nat.lt_or_ge 8 k with h | h
    · exfalso
      rcases h2 with rfl | ⟨_, h2⟩
      · omega
      · have : 16 ^ 8 ≤ 16 ^ (k - 1) := Nat.pow_le_pow_right (by omega) (by omega)
        omega
    · exact h
  have h4 : 4 ≤ k := by omega
  unfold wd
  obtain rfl | rfl | rfl | rfl | rfl : k = 4 ∨ k = 5 ∨ k = 6 ∨ k = 7 ∨ k = 8 := by omega
  all_goals simp at h1 h2
  · rw [if_pos h1]
  · rw [if_neg (by omega), if_pos h1]
  · rw [if_neg (by omega), if_neg (by omega), if_pos h1]
  · rw [if_neg (by omega), if_neg (by omega), if_neg (by omega), if_pos h1]
  · rw [if_neg (by omega), if_neg (by omega), if_neg (by omega), if_neg (by omega)]
theorem wd_bd (n : Nat) : 4 ≤ wd n ∧ wd n ≤ 8 := by
  unfold wd
  split
  · omega
  · split
    · omega
    · split
      · omega
      · split <;> omega
theorem wd_lt {n : Nat} (h : n < 2147483648) : n < 16 ^ wd n := by
  unfold wd
  split
  · omega
  · split
    · omega
    · split
      · omega
      · split
        · omega
        · omega
/-- A character's digits. -/
def hx4 (n : Nat) : List UInt8 := fwu (wd n) n
set_option maxRecDepth 100000 in
theorem up_ld : ∀ d : Fin 16, Lib.upperB (ld d.val) = ud d.val := by decide +kernel
set_option maxRecDepth 100000 in
theorem dv_ud : ∀ d : Fin 16, dv (ud d.val).toNat = d.val := by decide +kernel
set_option maxRecDepth 100000 in
theorem ld_ascii : ∀ d : Fin 16, (ld d.val).toNat < 128 := by decide +kernel
theorem fwl_up : ∀ k n, (fwl k n).map Lib.upperB = fwu k n
  | 0, _ => rfl
  | k + 1, n => by
    rw [fwl, fwu, List.map_append, fwl_up k]
    have := up_ld ⟨n % 16, Nat.mod_lt _ (by omega)⟩
    simp at this
    simp [this]
theorem fwl_ascii : ∀ k n, ∀ c ∈ fwl k n, c.toNat < 128
  | 0, _, c, h => by simp [fwl] at h
  | k + 1, n, c, h => by
    rw [fwl] at h
    rcases List.mem_append.1 h with h | h
    · exact fwl_ascii k _ c h
    · simp at h
      subst h
      exact ld_ascii ⟨n % 16, Nat.mod_lt _ (by omega)⟩
theorem hx4_of {n k : Nat} (hn : n < 2147483648) (h1 : n < 16 ^ k) (h2 : k = 1 ∨ 16 ^ (k - 1) ≤ n) (h3 : 1 ≤ k) : List.replicate (4 - k) 48 ++ fwu k n = hx4 n := by
  unfold hx4
  rcases Nat.lt_or_ge k 4 with h | h
  · rw [← wd_of hn (k := 4) (Nat.lt_of_lt_of_le h1 (Nat.pow_le_pow_right (by omega) (by omega))) (.inl rfl), ← fwu_pad _ _ _ h1, show k + (4 - k) = 4 by omega]
  · rw [← wd_of hn h1 (by omega), show 4 - k = 0 by omega]
    rfl

end Go.Proofs.YtajhgbcgbgpcjaaGreatDoor.Fi

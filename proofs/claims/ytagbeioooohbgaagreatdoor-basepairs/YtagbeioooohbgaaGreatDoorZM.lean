import Derived.Test.YtagbeioooohbgaaGreatDoorM20
import Derived.Test.YtagbeioooohbgaaGreatDoorSk
import Derived.Lib.ItoaNum
namespace Go.Proofs.YtagbeioooohbgaaGreatDoor.So
open Go.RowKit Go.Sort Tr

/-! The next power of two. -/
set_option maxHeartbeats 4000000 in
set_option maxRecDepth 100000 in
theorem pow_any (n : Nat) (w : World) (h1 : 1 ≤ n) (h2 : n ≤ 100000) :
    Calls Tryz.prog 139 #[.int .i64 n] w fun e w' => ∃ m : Nat, e = .returned (.int .u64 m) ∧ 1 ≤ m ∧ m ≤ 2 * n ∧ w' = w := by
  obtain ⟨k, hk⟩ : ∃ k, k = Lib.bitLen n := ⟨_, rfl⟩
  obtain ⟨a, b, c⟩ := Lib.bitLenAux_bounds 64 n (by omega) (by omega)
  have hk64 : Lib.bitLenAux 64 n = k := hk.symm
  rw [hk64] at a b c
  obtain ⟨q, hq⟩ : ∃ q, q = 2 ^ (k - 1) := ⟨_, rfl⟩
  have hq2 : 2 ^ k = 2 * q := by
    rw [hq, ← Nat.pow_succ']
    congr 1
    omega
  have hk17 : k ≤ 17 := by
    refine Nat.le_of_not_lt fun hlt => ?_
    have h3 : 2 ^ 17 ≤ 2 ^ (k - 1) := Nat.pow_le_pow_right (by omega) (by omega)
    omega
  have hq1 : 1 ≤ q := by rw [hq]; exact Nat.one_le_two_pow
  rw [← hq] at b
  clear hq c hk64
  go_enter Tryz.func139, Tryz.ntmps139
  go_wp2_with (go_at_call 89; refine (Tryz.bits_Len _ _ (by omega) (by omega)).mono ?_; rintro e w' ⟨rfl, rfl⟩; rw [Int.toNat_natCast])
  go_ret
  have h3 : ((2 : Int) ^ Lib.bitLen n) = ((2 * q : Nat) : Int) := by rw [← hk, ← hq2]; norm_cast
  refine ⟨2 * q, ?_, by omega, by omega, rfl⟩
  show Ending.returned (Value.int IntKind.u64 (IntKind.u64.wrap ((2 : Int) ^ Lib.bitLen n))) = _
  rw [h3, IntWalk.u64_in _ ⟨by omega, by omega⟩]

end Go.Proofs.YtagbeioooohbgaaGreatDoor.So

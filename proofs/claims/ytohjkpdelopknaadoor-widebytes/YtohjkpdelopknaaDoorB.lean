import Derived.Test.YtohjkpdelopknaaDoorA
import Derived.Lib.Strings
import Derived.IntWalk
import Derived.Laws.BitsAllLaws
import Derived.Deep.QuietTactic
import Derived.BigQuiet
import Derived.Deep.RegionHeld3
namespace Go.Proofs.YtohjkpdelopknaaDoor
open Go.RowKit

set_option maxHeartbeats 400000 in
theorem shift_lo (z : Int) (pr : Bool) (i q : Int) (w : World) (h0 : 0 ≤ i) (h3 : i ≤ 3) (hq : 8 * i = q) :
    Calls Tryd.prog 43 #[.agg #[.int .i64 z, .bool true, .bool pr], .int .i64 i] w fun e w' => e = .returned (.int .i64 q) ∧ Below w.heap.size w w' := by
  have HQ := Lib.hid hq
  clear hq
  go_enter Tryd.func43, Tryd.ntmps43
  go_wp2
  go_ret
  exact ⟨ret_int HQ.out, (Below.refl _ _).alloc (Nat.le_refl _) _⟩
set_option maxHeartbeats 400000 in
theorem shift_hi (z : Int) (pr : Bool) (i q : Int) (w : World) (hz : z ≤ 4) (h0 : 0 ≤ i) (h3 : i ≤ z - 1) (hq : 8 * (z - 1 - i) = q) :
    Calls Tryd.prog 43 #[.agg #[.int .i64 z, .bool false, .bool pr], .int .i64 i] w fun e w' => e = .returned (.int .i64 q) ∧ Below w.heap.size w w' := by
  have HQ := Lib.hid hq
  clear hq
  go_enter Tryd.func43, Tryd.ntmps43
  go_wp2
  go_ret
  exact ⟨ret_int HQ.out, (Below.refl _ _).alloc (Nat.le_refl _) _⟩

theorem andNot_nat (n : Nat) (h : n < 4294967296) : bits .andNot .u32 (n : Int) 1023 = ((n / 1024 * 1024 : Nat) : Int) := by
  have e := u32_andNot_nat n 1023 h (by omega)
  have e' : bits .andNot .u32 (n : Int) 1023 = ((n &&& (4294967295 - 1023) : Nat) : Int) := e
  rw [e']
  congr 1
  have h1 : n &&& (4294967295 - 1023) = (n >>> 10) <<< 10 := by
    apply Nat.eq_of_testBit_eq
    intro i
    have hc : (4294967295 - 1023 : Nat) = (2 ^ 22 - 1) <<< 10 := by decide
    rw [Nat.testBit_and, hc, Nat.testBit_shiftLeft, Nat.testBit_shiftLeft, Nat.testBit_two_pow_sub_one, Nat.testBit_shiftRight]
    by_cases hi : 10 ≤ i
    · simp only [hi, decide_true, Bool.true_and]
      rw [show 10 + (i - 10) = i by omega]
      by_cases hj : i - 10 < 22
      · simp [hj]
      · have : n.testBit i = false := Nat.testBit_lt_two_pow (Nat.lt_of_lt_of_le h (by
          rw [show (4294967296 : Nat) = 2 ^ 32 by decide]
          exact Nat.pow_le_pow_right (by omega) (by omega)))
        simp [this]
    · simp [hi]
  rw [h1, Nat.shiftLeft_eq, Nat.shiftRight_eq_div_pow]
theorem high_fact (n : Nat) (h : n < 4294967296) : (bits .andNot .u32 (n : Int) 1023 == 55296) = decide (55296 ≤ n ∧ n < 56320) := by
  rw [andNot_nat n h, Bool.eq_iff_iff]
  simp
  omega
theorem low_fact (n : Nat) (h : n < 4294967296) : (bits .andNot .u32 (n : Int) 1023 == 56320) = decide (56320 ≤ n ∧ n < 57344) := by
  rw [andNot_nat n h, Bool.eq_iff_iff]
  simp
  omega
/-- Whether a unit is a high one, of a kind with pairs. -/
def hiB (pr : Bool) (n : Nat) : Bool := pr && decide (55296 ≤ n ∧ n < 56320)
set_option maxHeartbeats 400000 in
theorem isHigh_any (z : Int) (lo pr : Bool) (n : Nat) (w : World) (h : n < 4294967296) :
    Calls Tryd.prog 36 #[.agg #[.int .i64 z, .bool lo, .bool pr], .int .u32 (n : Int)] w fun e w' => e = .returned (.bool (hiB pr n)) ∧ Below w.heap.size w w' := by
  have hf := high_fact n h
  cases pr
  · clear hf
    go_enter Tryd.func36, Tryd.ntmps36
    go_wp2
    go_ret
    exact ⟨rfl, (Below.refl _ _).alloc (Nat.le_refl _) _⟩
  · have HF := Lib.hid (show decide (55296 ≤ n ∧ n < 56320) = hiB true n by simp [hiB])
    generalize decide (55296 ≤ n ∧ n < 56320) = b at hf HF
    go_enter Tryd.func36, Tryd.ntmps36
    go_wp2
    go_ret
    exact ⟨ret_bool HF.out, (Below.refl _ _).alloc (Nat.le_refl _) _⟩
set_option maxHeartbeats 400000 in
theorem isLow_any (n : Nat) (w : World) (h : n < 4294967296) :
    Calls Tryd.prog 44 #[.int .u32 (n : Int)] w fun e w' => e = .returned (.bool (decide (56320 ≤ n ∧ n < 57344))) ∧ w = w' := by
  have hf := low_fact n h
  generalize decide (56320 ≤ n ∧ n < 57344) = b at hf ⊢
  go_enter Tryd.func44, Tryd.ntmps44
  go_wp2
  go_ret
  exact ⟨rfl, rfl⟩
end Go.Proofs.YtohjkpdelopknaaDoor

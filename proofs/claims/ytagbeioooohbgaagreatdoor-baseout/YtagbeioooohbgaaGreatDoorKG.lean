import Derived.Test.YtagbeioooohbgaaGreatDoorKF
import Derived.Test.YtagbeioooohbgaaGreatDoorM32
namespace Go.Proofs.YtagbeioooohbgaaGreatDoor.Ba
open Go.RowKit
open Fi (scal scal_bd)

/-! hex -/
theorem fwB_head : ∀ k n, fwB (k + 1) n = udB (n / 16 ^ k % 16) :: fwB k n
  | 0, n => by simp [fwB]
  | k + 1, n => by
    rw [fwB, fwB_head k (n / 16), fwB, Nat.div_div_eq_div_mul, ← Nat.pow_succ']
    rfl
set_option maxRecDepth 100000 in
theorem letter_at : ∀ d : Fin 16, (⟨#[48, 49, 50, 51, 52, 53, 54, 55, 56, 57, 65, 66, 67, 68, 69, 70]⟩ : ByteArray).extract d.val (d.val + 1) = ⟨#[udB d.val]⟩ := by decide +kernel
set_option maxRecDepth 100000 in
set_option maxHeartbeats 4000000 in
theorem hex_any (n : Nat) (w : World) (hn : n < 65536) :
    Calls Tryz.prog 21 #[.int .i32 (n : Int)] w fun e w' => e = .returned (.string ⟨(fwB 4 n).toArray⟩) ∧ w = w' := by
  go_enter Tryz.func21, Tryz.ntmps21
  go_wp2_with fail
  go_loopw [0, 4, 5] (fun s0 s4 s5 wr => ∃ i m : Nat, s0 = .int .i32 (m : Int) ∧ s4 = .string ⟨(fwB i n).toArray⟩ ∧ s5 = .int .i64 (i : Int) ∧ i ≤ 4 ∧ m < 65536 ∧ Hid (m = n / 16 ^ i) ∧ wr = w) (fun _ _ s5 _ => 4 - (intOf s5).toNat)
  case atStart => exact ⟨0, n, rfl, rfl, rfl, by omega, hn, Lib.hid (by simp), rfl⟩
  case round =>
    obtain ⟨i, m, rfl, rfl, rfl, hi, hm, HM, rfl⟩ := hrel
    by_cases hlt : i < 4
    · have hltI : (i : Int) < 4 := by omega
      have hcap : ¬ 9223372036854775807 < min (m % 16 + 1) 16 - m % 16 + (fwB i n).length := by rw [fwB_len]; omega
      go_wp2_with fail
      refine ⟨⟨i + 1, m / 16, by go_num, ?_, by go_num, by omega, by omega, Lib.hid ?_, trivial⟩, ?_⟩
      · rw [letter_at ⟨m % 16, Nat.mod_lt _ (by omega)⟩, fwB_head, ← HM.out]
        rfl
      · rw [HM.out, Nat.div_div_eq_div_mul, ← Nat.pow_succ]
      · simp [intOf]; omega
    · have hltI : ¬ (i : Int) < 4 := by omega
      have e : i = 4 := by omega
      subst e
      go_wp2_with fail
      go_ret
      exact ⟨rfl, rfl⟩

end Go.Proofs.YtagbeioooohbgaaGreatDoor.Ba

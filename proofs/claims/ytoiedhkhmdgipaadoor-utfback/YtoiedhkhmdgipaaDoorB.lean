import Derived.Test.YtoiedhkhmdgipaaDoorA
namespace Go.Proofs.YtoiedhkhmdgipaaDoor
open Go.RowKit

theorem or0 (r : Int) (h0 : 0 ≤ r) (h1 : r < 2097152) : bits .or .i32 r 0 = r := by
  obtain ⟨n, rfl⟩ := Int.eq_ofNat_of_zero_le h0
  show IntKind.i32.wrap ((BitVec.ofInt 32 (n : Int) ||| BitVec.ofInt 32 0).toNat : Int) = _
  have e : (BitVec.ofInt 32 (n : Int) ||| BitVec.ofInt 32 0) = BitVec.ofNat 32 n := by simp
  rw [e, BitVec.toNat_ofNat, Nat.mod_eq_of_lt (by omega)]
  simp [IntKind.wrap, IntKind.bits, IntKind.signed]
  omega

/-- Whether one end of the numbers r*p .. r*p + p - 1 is a character of so many bytes. -/
def ldB (p r size : Int) : Bool := lenI (r * p) == size || lenI (r * p + (p - 1)) == size

set_option maxHeartbeats 400000 in
theorem leads11 (r : Int) (w : World) (hT : Tab w) (h0 : 0 ≤ r) (h1 : r < 2097152) : Calls Tryd.prog 25 #[.int .i32 r, .int .i64 1, .int .i64 1] w fun e w' => e = .returned (.bool (ldB 1 r 1)) ∧ w = w' := by
  have hd : ldB 1 r 1 = (lenI r == 1 || lenI r == 1) := by simp [ldB]
  rw [hd]; clear hd
  cases e1 : lenI r == 1
  · go_enter Tryd.func25, Tryd.ntmps25
    go_wp2_with fail
    refine (len_any _ _ hT).mono ?_
    rintro e w' ⟨rfl, rfl⟩
    go_wp2_with fail
    refine (len_any _ _ hT).mono ?_
    rintro e w' ⟨rfl, rfl⟩
    go_wp2
    go_ret
    exact ⟨ret_bool (by rw [or0 r h0 h1]; simpa using e1), rfl⟩
  · go_enter Tryd.func25, Tryd.ntmps25
    go_wp2_with fail
    refine (len_any _ _ hT).mono ?_
    rintro e w' ⟨rfl, rfl⟩
    go_wp2
    go_ret
    exact ⟨ret_bool (by simp), rfl⟩

set_option maxHeartbeats 400000 in
theorem leads21 (r : Int) (w : World) (hT : Tab w) (h0 : 0 ≤ r) (h1 : r < 32768) : Calls Tryd.prog 25 #[.int .i32 r, .int .i64 2, .int .i64 1] w fun e w' => e = .returned (.bool (ldB 64 r 2)) ∧ w = w' := by
  have hd : ldB 64 r 2 = (lenI (r * 64) == 2 || lenI (r * 64 + 63) == 2) := by simp [ldB]
  rw [hd]; clear hd
  cases e1 : lenI (r * 64) == 2
  · go_enter Tryd.func25, Tryd.ntmps25
    go_wp2_with fail
    refine (len_any _ _ hT).mono ?_
    rintro e w' ⟨rfl, rfl⟩
    go_wp2_with fail
    refine (len_any _ _ hT).mono ?_
    rintro e w' ⟨rfl, rfl⟩
    go_wp2
    go_ret
    exact ⟨ret_bool (by simp), rfl⟩
  · go_enter Tryd.func25, Tryd.ntmps25
    go_wp2_with fail
    refine (len_any _ _ hT).mono ?_
    rintro e w' ⟨rfl, rfl⟩
    go_wp2
    go_ret
    exact ⟨ret_bool (by simp), rfl⟩

set_option maxHeartbeats 400000 in
theorem leads22 (r : Int) (w : World) (hT : Tab w) (h0 : 0 ≤ r) (h1 : r < 2097152) : Calls Tryd.prog 25 #[.int .i32 r, .int .i64 2, .int .i64 2] w fun e w' => e = .returned (.bool (ldB 1 r 2)) ∧ w = w' := by
  have hd : ldB 1 r 2 = (lenI r == 2 || lenI r == 2) := by simp [ldB]
  rw [hd]; clear hd
  cases e1 : lenI r == 2
  · go_enter Tryd.func25, Tryd.ntmps25
    go_wp2_with fail
    refine (len_any _ _ hT).mono ?_
    rintro e w' ⟨rfl, rfl⟩
    go_wp2_with fail
    refine (len_any _ _ hT).mono ?_
    rintro e w' ⟨rfl, rfl⟩
    go_wp2
    go_ret
    exact ⟨ret_bool (by rw [or0 r h0 h1]; simpa using e1), rfl⟩
  · go_enter Tryd.func25, Tryd.ntmps25
    go_wp2_with fail
    refine (len_any _ _ hT).mono ?_
    rintro e w' ⟨rfl, rfl⟩
    go_wp2
    go_ret
    exact ⟨ret_bool (by simp), rfl⟩

set_option maxHeartbeats 400000 in
theorem leads31 (r : Int) (w : World) (hT : Tab w) (h0 : 0 ≤ r) (h1 : r < 512) : Calls Tryd.prog 25 #[.int .i32 r, .int .i64 3, .int .i64 1] w fun e w' => e = .returned (.bool (ldB 4096 r 3)) ∧ w = w' := by
  have hd : ldB 4096 r 3 = (lenI (r * 4096) == 3 || lenI (r * 4096 + 4095) == 3) := by simp [ldB]
  rw [hd]; clear hd
  cases e1 : lenI (r * 4096) == 3
  · go_enter Tryd.func25, Tryd.ntmps25
    go_wp2_with fail
    refine (len_any _ _ hT).mono ?_
    rintro e w' ⟨rfl, rfl⟩
    go_wp2_with fail
    refine (len_any _ _ hT).mono ?_
    rintro e w' ⟨rfl, rfl⟩
    go_wp2
    go_ret
    exact ⟨ret_bool (by simp), rfl⟩
  · go_enter Tryd.func25, Tryd.ntmps25
    go_wp2_with fail
    refine (len_any _ _ hT).mono ?_
    rintro e w' ⟨rfl, rfl⟩
    go_wp2
    go_ret
    exact ⟨ret_bool (by simp), rfl⟩

set_option maxHeartbeats 400000 in
theorem leads32 (r : Int) (w : World) (hT : Tab w) (h0 : 0 ≤ r) (h1 : r < 32768) : Calls Tryd.prog 25 #[.int .i32 r, .int .i64 3, .int .i64 2] w fun e w' => e = .returned (.bool (ldB 64 r 3)) ∧ w = w' := by
  have hd : ldB 64 r 3 = (lenI (r * 64) == 3 || lenI (r * 64 + 63) == 3) := by simp [ldB]
  rw [hd]; clear hd
  cases e1 : lenI (r * 64) == 3
  · go_enter Tryd.func25, Tryd.ntmps25
    go_wp2_with fail
    refine (len_any _ _ hT).mono ?_
    rintro e w' ⟨rfl, rfl⟩
    go_wp2_with fail
    refine (len_any _ _ hT).mono ?_
    rintro e w' ⟨rfl, rfl⟩
    go_wp2
    go_ret
    exact ⟨ret_bool (by simp), rfl⟩
  · go_enter Tryd.func25, Tryd.ntmps25
    go_wp2_with fail
    refine (len_any _ _ hT).mono ?_
    rintro e w' ⟨rfl, rfl⟩
    go_wp2
    go_ret
    exact ⟨ret_bool (by simp), rfl⟩

set_option maxHeartbeats 400000 in
theorem leads33 (r : Int) (w : World) (hT : Tab w) (h0 : 0 ≤ r) (h1 : r < 2097152) : Calls Tryd.prog 25 #[.int .i32 r, .int .i64 3, .int .i64 3] w fun e w' => e = .returned (.bool (ldB 1 r 3)) ∧ w = w' := by
  have hd : ldB 1 r 3 = (lenI r == 3 || lenI r == 3) := by simp [ldB]
  rw [hd]; clear hd
  cases e1 : lenI r == 3
  · go_enter Tryd.func25, Tryd.ntmps25
    go_wp2_with fail
    refine (len_any _ _ hT).mono ?_
    rintro e w' ⟨rfl, rfl⟩
    go_wp2_with fail
    refine (len_any _ _ hT).mono ?_
    rintro e w' ⟨rfl, rfl⟩
    go_wp2
    go_ret
    exact ⟨ret_bool (by rw [or0 r h0 h1]; simpa using e1), rfl⟩
  · go_enter Tryd.func25, Tryd.ntmps25
    go_wp2_with fail
    refine (len_any _ _ hT).mono ?_
    rintro e w' ⟨rfl, rfl⟩
    go_wp2
    go_ret
    exact ⟨ret_bool (by simp), rfl⟩

set_option maxHeartbeats 400000 in
theorem leads41 (r : Int) (w : World) (hT : Tab w) (h0 : 0 ≤ r) (h1 : r < 8) : Calls Tryd.prog 25 #[.int .i32 r, .int .i64 4, .int .i64 1] w fun e w' => e = .returned (.bool (ldB 262144 r 4)) ∧ w = w' := by
  have hd : ldB 262144 r 4 = (lenI (r * 262144) == 4 || lenI (r * 262144 + 262143) == 4) := by simp [ldB]
  rw [hd]; clear hd
  cases e1 : lenI (r * 262144) == 4
  · go_enter Tryd.func25, Tryd.ntmps25
    go_wp2_with fail
    refine (len_any _ _ hT).mono ?_
    rintro e w' ⟨rfl, rfl⟩
    go_wp2_with fail
    refine (len_any _ _ hT).mono ?_
    rintro e w' ⟨rfl, rfl⟩
    go_wp2
    go_ret
    exact ⟨ret_bool (by simp), rfl⟩
  · go_enter Tryd.func25, Tryd.ntmps25
    go_wp2_with fail
    refine (len_any _ _ hT).mono ?_
    rintro e w' ⟨rfl, rfl⟩
    go_wp2
    go_ret
    exact ⟨ret_bool (by simp), rfl⟩

set_option maxHeartbeats 400000 in
theorem leads42 (r : Int) (w : World) (hT : Tab w) (h0 : 0 ≤ r) (h1 : r < 512) : Calls Tryd.prog 25 #[.int .i32 r, .int .i64 4, .int .i64 2] w fun e w' => e = .returned (.bool (ldB 4096 r 4)) ∧ w = w' := by
  have hd : ldB 4096 r 4 = (lenI (r * 4096) == 4 || lenI (r * 4096 + 4095) == 4) := by simp [ldB]
  rw [hd]; clear hd
  cases e1 : lenI (r * 4096) == 4
  · go_enter Tryd.func25, Tryd.ntmps25
    go_wp2_with fail
    refine (len_any _ _ hT).mono ?_
    rintro e w' ⟨rfl, rfl⟩
    go_wp2_with fail
    refine (len_any _ _ hT).mono ?_
    rintro e w' ⟨rfl, rfl⟩
    go_wp2
    go_ret
    exact ⟨ret_bool (by simp), rfl⟩
  · go_enter Tryd.func25, Tryd.ntmps25
    go_wp2_with fail
    refine (len_any _ _ hT).mono ?_
    rintro e w' ⟨rfl, rfl⟩
    go_wp2
    go_ret
    exact ⟨ret_bool (by simp), rfl⟩

set_option maxHeartbeats 400000 in
theorem leads43 (r : Int) (w : World) (hT : Tab w) (h0 : 0 ≤ r) (h1 : r < 32768) : Calls Tryd.prog 25 #[.int .i32 r, .int .i64 4, .int .i64 3] w fun e w' => e = .returned (.bool (ldB 64 r 4)) ∧ w = w' := by
  have hd : ldB 64 r 4 = (lenI (r * 64) == 4 || lenI (r * 64 + 63) == 4) := by simp [ldB]
  rw [hd]; clear hd
  cases e1 : lenI (r * 64) == 4
  · go_enter Tryd.func25, Tryd.ntmps25
    go_wp2_with fail
    refine (len_any _ _ hT).mono ?_
    rintro e w' ⟨rfl, rfl⟩
    go_wp2_with fail
    refine (len_any _ _ hT).mono ?_
    rintro e w' ⟨rfl, rfl⟩
    go_wp2
    go_ret
    exact ⟨ret_bool (by simp), rfl⟩
  · go_enter Tryd.func25, Tryd.ntmps25
    go_wp2_with fail
    refine (len_any _ _ hT).mono ?_
    rintro e w' ⟨rfl, rfl⟩
    go_wp2
    go_ret
    exact ⟨ret_bool (by simp), rfl⟩

set_option maxHeartbeats 400000 in
theorem leads44 (r : Int) (w : World) (hT : Tab w) (h0 : 0 ≤ r) (h1 : r < 2097152) : Calls Tryd.prog 25 #[.int .i32 r, .int .i64 4, .int .i64 4] w fun e w' => e = .returned (.bool (ldB 1 r 4)) ∧ w = w' := by
  have hd : ldB 1 r 4 = (lenI r == 4 || lenI r == 4) := by simp [ldB]
  rw [hd]; clear hd
  cases e1 : lenI r == 4
  · go_enter Tryd.func25, Tryd.ntmps25
    go_wp2_with fail
    refine (len_any _ _ hT).mono ?_
    rintro e w' ⟨rfl, rfl⟩
    go_wp2_with fail
    refine (len_any _ _ hT).mono ?_
    rintro e w' ⟨rfl, rfl⟩
    go_wp2
    go_ret
    exact ⟨ret_bool (by rw [or0 r h0 h1]; simpa using e1), rfl⟩
  · go_enter Tryd.func25, Tryd.ntmps25
    go_wp2_with fail
    refine (len_any _ _ hT).mono ?_
    rintro e w' ⟨rfl, rfl⟩
    go_wp2
    go_ret
    exact ⟨ret_bool (by simp), rfl⟩
end Go.Proofs.YtoiedhkhmdgipaaDoor

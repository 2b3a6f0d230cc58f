import Derived.Test.YthnfopjjghohcaaDoorGC1
namespace Go.Proofs.YthnfopjjghohcaaDoor.U8
open Go.RowKit

/-- The table 'shapes' as it lies in memory: fifteen cells of block 0. -/
structure Tab (w : World) : Prop where
  l1 : w.cell? ⟨0, 3, none⟩ = some (.int .i32 127)
  l2 : w.cell? ⟨0, 6, none⟩ = some (.int .i32 2047)
  l3 : w.cell? ⟨0, 9, none⟩ = some (.int .i32 65535)
  l4 : w.cell? ⟨0, 12, none⟩ = some (.int .i32 1114111)
  d1 : w.cell? ⟨0, 4, none⟩ = some (.int .u8 0)
  d2 : w.cell? ⟨0, 7, none⟩ = some (.int .u8 192)
  d3 : w.cell? ⟨0, 10, none⟩ = some (.int .u8 224)
  d4 : w.cell? ⟨0, 13, none⟩ = some (.int .u8 240)
  b1 : w.cell? ⟨0, 5, none⟩ = some (.int .i64 7)
  b2 : w.cell? ⟨0, 8, none⟩ = some (.int .i64 5)
  b3 : w.cell? ⟨0, 11, none⟩ = some (.int .i64 4)
  b4 : w.cell? ⟨0, 14, none⟩ = some (.int .i64 3)

def lenI (r : Int) : Int := if scal r then (if r ≤ 127 then 1 else if r ≤ 2047 then 2 else if r ≤ 65535 then 3 else 4) else 0

theorem lenI_no {r : Int} (h : scal r = false) : 0 = lenI r := by simp [lenI, h]
theorem lenI_yes {r : Int} (h : scal r = true) : (if r ≤ 127 then 1 else if r ≤ 2047 then 2 else if r ≤ 65535 then 3 else 4) = lenI r := by simp [lenI, h]
set_option maxHeartbeats 400000 in
theorem len_any (r : Int) (w : World) (hT : Tab w) : Calls Tryd.prog 75 #[.int .i32 r] w fun e w' => e = .returned (.int .i64 (lenI r)) ∧ w = w' := by
  obtain ⟨l1, l2, l3, l4, -, -, -, -, -, -, -, -⟩ := hT
  cases hs : scal r
  · have H := Lib.hid (lenI_no hs)
    go_enter Tryd.func75, Tryd.ntmps75
    go_wp2_with fail
    refine (scalar_any _ _).mono ?_
    rw [hs]
    rintro e w' ⟨rfl, rfl⟩
    go_wp2
    go_ret
    exact ⟨ret_int H.out, rfl⟩
  · have H := Lib.hid (lenI_yes hs)
    obtain ⟨g0, g1⟩ := scal_bd hs
    have HS := Lib.hid hs
    clear hs
    go_enter Tryd.func75, Tryd.ntmps75
    go_wp2_with fail
    refine (scalar_any _ _).mono ?_
    rw [HS.out]
    rintro e w' ⟨rfl, rfl⟩
    go_wp2_with fail
    go_loop [3] (fun n => ∃ k : Int, n = .int .i64 k ∧ 1 ≤ k ∧ k ≤ 4 ∧ (1 < k → 127 < r) ∧ (2 < k → 2047 < r) ∧ (3 < k → 65535 < r)) (fun n => (4 - intOf n).toNat)
    case atStart => exact ⟨1, rfl, by omega, by omega, by omega, by omega, by omega⟩
    case round =>
      obtain ⟨k, rfl, k1, k4, a1, a2, a3⟩ := hrel
      have hk : k = 1 ∨ k = 2 ∨ k = 3 ∨ k = 4 := by omega
      rcases hk with rfl | rfl | rfl | rfl
      · clear a1 a2 a3 k1 k4
        by_cases hr : r ≤ 127
        · go_wp2
          go_ret
          exact ⟨ret_int (by rw [← H.out, if_pos hr]), rfl⟩
        · go_wp2
          go_round
          case rel => exact ⟨2, rfl, by omega, by omega, by omega, by omega, by omega⟩
          case measure => simp [intOf]
      · replace a1 := a1 (by omega)
        clear a2 a3 k1 k4
        by_cases hr : r ≤ 2047
        · go_wp2
          go_ret
          exact ⟨ret_int (by rw [← H.out, if_neg (by omega), if_pos hr]), rfl⟩
        · go_wp2
          go_round
          case rel => exact ⟨3, rfl, by omega, by omega, by omega, by omega, by omega⟩
          case measure => simp [intOf]
      · replace a2 := a2 (by omega)
        clear a1 a3 k1 k4
        by_cases hr : r ≤ 65535
        · go_wp2
          go_ret
          exact ⟨ret_int (by rw [← H.out, if_neg (by omega), if_neg (by omega), if_pos hr]), rfl⟩
        · go_wp2
          go_round
          case rel => exact ⟨4, rfl, by omega, by omega, by omega, by omega, by omega⟩
          case measure => simp [intOf]
      · replace a3 := a3 (by omega)
        clear a1 a2 k1 k4
        go_wp2
        go_ret
        exact ⟨ret_int (by rw [← H.out, if_neg (by omega), if_neg (by omega), if_neg (by omega)]), rfl⟩

theorem Tab.below {B : Nat} {w w' : World} (h : Tab w) (hb : Below B w w') (h1 : 0 + 1 ≤ B) : Tab w' := by
  have hc : ∀ o, w'.cell? ⟨0, o, none⟩ = w.cell? ⟨0, o, none⟩ := fun o => hb.cell (p := ⟨0, o, none⟩) (by show 0 < B; omega)
  exact ⟨(hc _).trans h.l1, (hc _).trans h.l2, (hc _).trans h.l3, (hc _).trans h.l4, (hc _).trans h.d1, (hc _).trans h.d2, (hc _).trans h.d3, (hc _).trans h.d4, (hc _).trans h.b1, (hc _).trans h.b2, (hc _).trans h.b3, (hc _).trans h.b4⟩
theorem Tab.pos {w : World} (h : Tab w) : 0 + 1 ≤ w.heap.size := by
  have := World.block_lt_of_cell? w _ h.l1
  exact this

end Go.Proofs.YthnfopjjghohcaaDoor.U8
namespace Go.Proofs.YthnfopjjghohcaaDoor.U8
open Go.RowKit

theorem or0 (r : Int) (h0 : 0 ≤ r) (h1 : r < 2097152) : bits .or .i32 r 0 = r := by
  obtain ⟨n, rfl⟩ := Int.eq_ofNat_of_zero_le h0
  show IntKind.i32.wrap ((BitVec.ofInt 32 (n : Int) ||| BitVec.ofInt 32 0).toNat : Int) = _
  have e : (BitVec.ofInt 32 (n : Int) ||| BitVec.ofInt 32 0) = BitVec.ofNat 32 n := by simp
  rw [e, BitVec.toNat_ofNat, Nat.mod_eq_of_lt (by omega)]
  simp [IntKind.wrap, IntKind.bits, IntKind.signed]
  omega

/-- Whether one end of the numbers r*p .. r*p + p - 1 is a character of so many bytes. -/
def ldB (p r size : Int) : Bool := lenI (r * p) == size || lenI (r * p + (p - 1)) == size

set_option maxHeartbeats 400000 in
theorem leads11 (r : Int) (w : World) (hT : Tab w) (h0 : 0 ≤ r) (h1 : r < 2097152) : Calls Tryd.prog 67 #[.int .i32 r, .int .i64 1, .int .i64 1] w fun e w' => e = .returned (.bool (ldB 1 r 1)) ∧ w = w' := by
  have hd : ldB 1 r 1 = (lenI r == 1 || lenI r == 1) := by simp [ldB]
  rw [hd]; clear hd
  cases e1 : lenI r == 1
  · go_enter Tryd.func67, Tryd.ntmps67
    go_wp2_with fail
    refine (len_any _ _ hT).mono ?_
    rintro e w' ⟨rfl, rfl⟩
    go_wp2_with fail
    refine (len_any _ _ hT).mono ?_
    rintro e w' ⟨rfl, rfl⟩
    go_wp2
    go_ret
    exact ⟨ret_bool (by rw [or0 r h0 h1]; simpa using e1), rfl⟩
  · go_enter Tryd.func67, Tryd.ntmps67
    go_wp2_with fail
    refine (len_any _ _ hT).mono ?_
    rintro e w' ⟨rfl, rfl⟩
    go_wp2
    go_ret
    exact ⟨ret_bool (by simp), rfl⟩

set_option maxHeartbeats 400000 in
theorem leads21 (r : Int) (w : World) (hT : Tab w) (h0 : 0 ≤ r) (h1 : r < 32768) : Calls Tryd.prog 67 #[.int .i32 r, .int .i64 2, .int .i64 1] w fun e w' => e = .returned (.bool (ldB 64 r 2)) ∧ w = w' := by
  have hd : ldB 64 r 2 = (lenI (r * 64) == 2 || lenI (r * 64 + 63) == 2) := by simp [ldB]
  rw [hd]; clear hd
  cases e1 : lenI (r * 64) == 2
  · go_enter Tryd.func67, Tryd.ntmps67
    go_wp2_with fail
    refine (len_any _ _ hT).mono ?_
    rintro e w' ⟨rfl, rfl⟩
    go_wp2_with fail
    refine (len_any _ _ hT).mono ?_
    rintro e w' ⟨rfl, rfl⟩
    go_wp2
    go_ret
    exact ⟨ret_bool (by simp), rfl⟩
  · go_enter Tryd.func67, Tryd.ntmps67
    go_wp2_with fail
    refine (len_any _ _ hT).mono ?_
    rintro e w' ⟨rfl, rfl⟩
    go_wp2
    go_ret
    exact ⟨ret_bool (by simp), rfl⟩

set_option maxHeartbeats 400000 in
theorem leads22 (r : Int) (w : World) (hT : Tab w) (h0 : 0 ≤ r) (h1 : r < 2097152) : Calls Tryd.prog 67 #[.int .i32 r, .int .i64 2, .int .i64 2] w fun e w' => e = .returned (.bool (ldB 1 r 2)) ∧ w = w' := by
  have hd : ldB 1 r 2 = (lenI r == 2 || lenI r == 2) := by simp [ldB]
  rw [hd]; clear hd
  cases e1 : lenI r == 2
  · go_enter Tryd.func67, Tryd.ntmps67
    go_wp2_with fail
    refine (len_any _ _ hT).mono ?_
    rintro e w' ⟨rfl, rfl⟩
    go_wp2_with fail
    refine (len_any _ _ hT).mono ?_
    rintro e w' ⟨rfl, rfl⟩
    go_wp2
    go_ret
    exact ⟨ret_bool (by rw [or0 r h0 h1]; simpa using e1), rfl⟩
  · go_enter Tryd.func67, Tryd.ntmps67
    go_wp2_with fail
    refine (len_any _ _ hT).mono ?_
    rintro e w' ⟨rfl, rfl⟩
    go_wp2
    go_ret
    exact ⟨ret_bool (by simp), rfl⟩

set_option maxHeartbeats 400000 in
theorem leads31 (r : Int) (w : World) (hT : Tab w) (h0 : 0 ≤ r) (h1 : r < 512) : Calls Tryd.prog 67 #[.int .i32 r, .int .i64 3, .int .i64 1] w fun e w' => e = .returned (.bool (ldB 4096 r 3)) ∧ w = w' := by
  have hd : ldB 4096 r 3 = (lenI (r * 4096) == 3 || lenI (r * 4096 + 4095) == 3) := by simp [ldB]
  rw [hd]; clear hd
  cases e1 : lenI (r * 4096) == 3
  · go_enter Tryd.func67, Tryd.ntmps67
    go_wp2_with fail
    refine (len_any _ _ hT).mono ?_
    rintro e w' ⟨rfl, rfl⟩
    go_wp2_with fail
    refine (len_any _ _ hT).mono ?_
    rintro e w' ⟨rfl, rfl⟩
    go_wp2
    go_ret
    exact ⟨ret_bool (by simp), rfl⟩
  · go_enter Tryd.func67, Tryd.ntmps67
    go_wp2_with fail
    refine (len_any _ _ hT).mono ?_
    rintro e w' ⟨rfl, rfl⟩
    go_wp2
    go_ret
    exact ⟨ret_bool (by simp), rfl⟩

set_option maxHeartbeats 400000 in
theorem leads32 (r : Int) (w : World) (hT : Tab w) (h0 : 0 ≤ r) (h1 : r < 32768) : Calls Tryd.prog 67 #[.int .i32 r, .int .i64 3, .int .i64 2] w fun e w' => e = .returned (.bool (ldB 64 r 3)) ∧ w = w' := by
  have hd : ldB 64 r 3 = (lenI (r * 64) == 3 || lenI (r * 64 + 63) == 3) := by simp [ldB]
  rw [hd]; clear hd
  cases e1 : lenI (r * 64) == 3
  · go_enter Tryd.func67, Tryd.ntmps67
    go_wp2_with fail
    refine (len_any _ _ hT).mono ?_
    rintro e w' ⟨rfl, rfl⟩
    go_wp2_with fail
    refine (len_any _ _ hT).mono ?_
    rintro e w' ⟨rfl, rfl⟩
    go_wp2
    go_ret
    exact ⟨ret_bool (by simp), rfl⟩
  · go_enter Tryd.func67, Tryd.ntmps67
    go_wp2_with fail
    refine (len_any _ _ hT).mono ?_
    rintro e w' ⟨rfl, rfl⟩
    go_wp2
    go_ret
    exact ⟨ret_bool (by simp), rfl⟩

set_option maxHeartbeats 400000 in
theorem leads33 (r : Int) (w : World) (hT : Tab w) (h0 : 0 ≤ r) (h1 : r < 2097152) : Calls Tryd.prog 67 #[.int .i32 r, .int .i64 3, .int .i64 3] w fun e w' => e = .returned (.bool (ldB 1 r 3)) ∧ w = w' := by
  have hd : ldB 1 r 3 = (lenI r == 3 || lenI r == 3) := by simp [ldB]
  rw [hd]; clear hd
  cases e1 : lenI r == 3
  · go_enter Tryd.func67, Tryd.ntmps67
    go_wp2_with fail
    refine (len_any _ _ hT).mono ?_
    rintro e w' ⟨rfl, rfl⟩
    go_wp2_with fail
    refine (len_any _ _ hT).mono ?_
    rintro e w' ⟨rfl, rfl⟩
    go_wp2
    go_ret
    exact ⟨ret_bool (by rw [or0 r h0 h1]; simpa using e1), rfl⟩
  · go_enter Tryd.func67, Tryd.ntmps67
    go_wp2_with fail
    refine (len_any _ _ hT).mono ?_
    rintro e w' ⟨rfl, rfl⟩
    go_wp2
    go_ret
    exact ⟨ret_bool (by simp), rfl⟩

set_option maxHeartbeats 400000 in
theorem leads41 (r : Int) (w : World) (hT : Tab w) (h0 : 0 ≤ r) (h1 : r < 8) : Calls Tryd.prog 67 #[.int .i32 r, .int .i64 4, .int .i64 1] w fun e w' => e = .returned (.bool (ldB 262144 r 4)) ∧ w = w' := by
  have hd : ldB 262144 r 4 = (lenI (r * 262144) == 4 || lenI (r * 262144 + 262143) == 4) := by simp [ldB]
  rw [hd]; clear hd
  cases e1 : lenI (r * 262144) == 4
  · go_enter Tryd.func67, Tryd.ntmps67
    go_wp2_with fail
    refine (len_any _ _ hT).mono ?_
    rintro e w' ⟨rfl, rfl⟩
    go_wp2_with fail
    refine (len_any _ _ hT).mono ?_
    rintro e w' ⟨rfl, rfl⟩
    go_wp2
    go_ret
    exact ⟨ret_bool (by simp), rfl⟩
  · go_enter Tryd.func67, Tryd.ntmps67
    go_wp2_with fail
    refine (len_any _ _ hT).mono ?_
    rintro e w' ⟨rfl, rfl⟩
    go_wp2
    go_ret
    exact ⟨ret_bool (by simp), rfl⟩

set_option maxHeartbeats 400000 in
theorem leads42 (r : Int) (w : World) (hT : Tab w) (h0 : 0 ≤ r) (h1 : r < 512) : Calls Tryd.prog 67 #[.int .i32 r, .int .i64 4, .int .i64 2] w fun e w' => e = .returned (.bool (ldB 4096 r 4)) ∧ w = w' := by
  have hd : ldB 4096 r 4 = (lenI (r * 4096) == 4 || lenI (r * 4096 + 4095) == 4) := by simp [ldB]
  rw [hd]; clear hd
  cases e1 : lenI (r * 4096) == 4
  · go_enter Tryd.func67, Tryd.ntmps67
    go_wp2_with fail
    refine (len_any _ _ hT).mono ?_
    rintro e w' ⟨rfl, rfl⟩
    go_wp2_with fail
    refine (len_any _ _ hT).mono ?_
    rintro e w' ⟨rfl, rfl⟩
    go_wp2
    go_ret
    exact ⟨ret_bool (by simp), rfl⟩
  · go_enter Tryd.func67, Tryd.ntmps67
    go_wp2_with fail
    refine (len_any _ _ hT).mono ?_
    rintro e w' ⟨rfl, rfl⟩
    go_wp2
    go_ret
    exact ⟨ret_bool (by simp), rfl⟩

set_option maxHeartbeats 400000 in
theorem leads43 (r : Int) (w : World) (hT : Tab w) (h0 : 0 ≤ r) (h1 : r < 32768) : Calls Tryd.prog 67 #[.int .i32 r, .int .i64 4, .int .i64 3] w fun e w' => e = .returned (.bool (ldB 64 r 4)) ∧ w = w' := by
  have hd : ldB 64 r 4 = (lenI (r * 64) == 4 || lenI (r * 64 + 63) == 4) := by simp [ldB]
  rw [hd]; clear hd
  cases e1 : lenI (r * 64) == 4
  · go_enter Tryd.func67, Tryd.ntmps67
    go_wp2_with fail
    refine (len_any _ _ hT).mono ?_
    rintro e w' ⟨rfl, rfl⟩
    go_wp2_with fail
    refine (len_any _ _ hT).mono ?_
    rintro e w' ⟨rfl, rfl⟩
    go_wp2
    go_ret
    exact ⟨ret_bool (by simp), rfl⟩
  · go_enter Tryd.func67, Tryd.ntmps67
    go_wp2_with fail
    refine (len_any _ _ hT).mono ?_
    rintro e w' ⟨rfl, rfl⟩
    go_wp2
    go_ret
    exact ⟨ret_bool (by simp), rfl⟩

set_option maxHeartbeats 400000 in
theorem leads44 (r : Int) (w : World) (hT : Tab w) (h0 : 0 ≤ r) (h1 : r < 2097152) : Calls Tryd.prog 67 #[.int .i32 r, .int .i64 4, .int .i64 4] w fun e w' => e = .returned (.bool (ldB 1 r 4)) ∧ w = w' := by
  have hd : ldB 1 r 4 = (lenI r == 4 || lenI r == 4) := by simp [ldB]
  rw [hd]; clear hd
  cases e1 : lenI r == 4
  · go_enter Tryd.func67, Tryd.ntmps67
    go_wp2_with fail
    refine (len_any _ _ hT).mono ?_
    rintro e w' ⟨rfl, rfl⟩
    go_wp2_with fail
    refine (len_any _ _ hT).mono ?_
    rintro e w' ⟨rfl, rfl⟩
    go_wp2
    go_ret
    exact ⟨ret_bool (by rw [or0 r h0 h1]; simpa using e1), rfl⟩
  · go_enter Tryd.func67, Tryd.ntmps67
    go_wp2_with fail
    refine (len_any _ _ hT).mono ?_
    rintro e w' ⟨rfl, rfl⟩
    go_wp2
    go_ret
    exact ⟨ret_bool (by simp), rfl⟩
end Go.Proofs.YthnfopjjghohcaaDoor.U8
namespace Go.Proofs.YthnfopjjghohcaaDoor.U8
open Go.RowKit

theorem xor_fact (c m : Nat) (hc : c < 256) (h : ∀ b : Fin 256, (c ≤ b.val ∧ b.val < c + m → b.val ^^^ c = b.val - c) ∧ (¬ (c ≤ b.val ∧ b.val < c + m) → m ≤ b.val ^^^ c)) (b : Int) (h0 : 0 ≤ b) (h1 : b < 256) :
    ((c : Int) ≤ b ∧ b < c + m → bits .xor .u8 b c = b - c) ∧ (¬ ((c : Int) ≤ b ∧ b < c + m) → ∃ q : Int, bits .xor .u8 b c = q ∧ (m : Int) ≤ q ∧ q < 256) := by
  obtain ⟨n, rfl⟩ := Int.eq_ofNat_of_zero_le h0
  have hn : n < 256 := by omega
  have := h ⟨n, hn⟩
  rw [u8_xor_nat n c hn hc]
  constructor
  · intro hh
    rw [this.1 (by simp; omega)]
    simp; omega
  · intro hh
    refine ⟨_, rfl, ?_, ?_⟩
    · have := this.2 (by simp; omega)
      simp at this
      omega
    · have : n ^^^ c < 2 ^ 8 := Nat.xor_lt_two_pow (by omega) (by omega)
      omega
theorem x0 (b : Int) (h0 : 0 ≤ b) (h1 : b < 256) : (0 ≤ b ∧ b < 128 → bits .xor .u8 b 0 = b - 0) ∧ (¬ (0 ≤ b ∧ b < 128) → ∃ q : Int, bits .xor .u8 b 0 = q ∧ 128 ≤ q ∧ q < 256) := by
  have h := xor_fact 0 128 (by omega) (by decide +kernel) b h0 h1
  simpa using h
theorem x2 (b : Int) (h0 : 0 ≤ b) (h1 : b < 256) : (192 ≤ b ∧ b < 224 → bits .xor .u8 b 192 = b - 192) ∧ (¬ (192 ≤ b ∧ b < 224) → ∃ q : Int, bits .xor .u8 b 192 = q ∧ 32 ≤ q ∧ q < 256) := by
  have h := xor_fact 192 32 (by omega) (by decide +kernel) b h0 h1
  simpa using h
theorem x3 (b : Int) (h0 : 0 ≤ b) (h1 : b < 256) : (224 ≤ b ∧ b < 240 → bits .xor .u8 b 224 = b - 224) ∧ (¬ (224 ≤ b ∧ b < 240) → ∃ q : Int, bits .xor .u8 b 224 = q ∧ 16 ≤ q ∧ q < 256) := by
  have h := xor_fact 224 16 (by omega) (by decide +kernel) b h0 h1
  simpa using h
theorem x4 (b : Int) (h0 : 0 ≤ b) (h1 : b < 256) : (240 ≤ b ∧ b < 248 → bits .xor .u8 b 240 = b - 240) ∧ (¬ (240 ≤ b ∧ b < 248) → ∃ q : Int, bits .xor .u8 b 240 = q ∧ 8 ≤ q ∧ q < 256) := by
  have h := xor_fact 240 8 (by omega) (by decide +kernel) b h0 h1
  simpa using h

theorem ld1 (r : Int) (h0 : 0 ≤ r) (h1 : r < 128) : ldB 1 r 1 = true := by
  simp [ldB, lenI, scal]; omega
theorem ld2y (r : Int) (h0 : 2 ≤ r) (h1 : r < 32) : ldB 64 r 2 = true := by
  have : lenI (r * 64) = 2 := by
    unfold lenI; rw [if_pos (by simp [scal]; omega), if_neg (by omega), if_pos (by omega)]
  simp [ldB, this]
theorem ld2n (r : Int) (h0 : 0 ≤ r) (h1 : r < 2) : ldB 64 r 2 = false := by
  have : r = 0 ∨ r = 1 := by omega
  rcases this with rfl | rfl <;> decide
theorem ld3 (r : Int) (h0 : 0 ≤ r) (h1 : r < 16) : ldB 4096 r 3 = true := by
  have : r = 0 ∨ r = 1 ∨ r = 2 ∨ r = 3 ∨ r = 4 ∨ r = 5 ∨ r = 6 ∨ r = 7 ∨ r = 8 ∨ r = 9 ∨ r = 10 ∨ r = 11 ∨ r = 12 ∨ r = 13 ∨ r = 14 ∨ r = 15 := by omega
  rcases this with rfl | rfl | rfl | rfl | rfl | rfl | rfl | rfl | rfl | rfl | rfl | rfl | rfl | rfl | rfl | rfl <;> decide
theorem ld4y (r : Int) (h0 : 0 ≤ r) (h1 : r < 5) : ldB 262144 r 4 = true := by
  have : r = 0 ∨ r = 1 ∨ r = 2 ∨ r = 3 ∨ r = 4 := by omega
  rcases this with rfl | rfl | rfl | rfl | rfl <;> decide
theorem ld4n (r : Int) (h0 : 5 ≤ r) (h1 : r < 8) : ldB 262144 r 4 = false := by
  have : r = 5 ∨ r = 6 ∨ r = 7 := by omega
  rcases this with rfl | rfl | rfl <;> decide

/-- How many bytes a character has that begins with the byte b, 0 if there is none; and which bits b holds. -/
def fsz (b : Int) : Int := if b < 128 then 1 else if b < 194 then 0 else if b < 224 then 2 else if b < 240 then 3 else if b < 245 then 4 else 0
def frv (b : Int) : Int := if b < 128 then b else if b < 194 then 0 else if b < 224 then b - 192 else if b < 240 then b - 224 else if b < 245 then b - 240 else 0

set_option maxHeartbeats 1000000 in
theorem first_any (b : Int) (w : World) (hT : Tab w) (h0 : 0 ≤ b) (h1 : b < 256): Calls Tryd.prog 66 #[.int .u8 b] w fun e w' => e = .returned (.tuple #[.int .i64 (fsz b), .int .i32 (frv b)]) ∧ w = w' := by
  obtain ⟨-, -, -, -, d1, d2, d3, d4, b1, b2, b3, b4⟩ := id hT
  have y1 := x0 b h0 h1
  have y2 := x2 b h0 h1
  have y3 := x3 b h0 h1
  have y4 := x4 b h0 h1
  have Y1 := Lib.hid y1
  have Y2 := Lib.hid y2
  have Y3 := Lib.hid y3
  have Y4 := Lib.hid y4
  clear y1 y2 y3 y4
  go_enter Tryd.func66, Tryd.ntmps66
  go_wp2_with fail
  go_loop [3, 4] (fun r n => ∃ k : Int, n = .int .i64 k ∧ 1 ≤ k ∧ k ≤ 5 ∧ (1 < k → 128 ≤ b) ∧ (2 < k → b < 194 ∨ 224 ≤ b) ∧ (3 < k → b < 224 ∨ 240 ≤ b) ∧ (4 < k → b < 240 ∨ 245 ≤ b)) (fun _ n => (5 - intOf n).toNat)
  case atStart => exact ⟨1, rfl, by omega, by omega, by omega, by omega, by omega, by omega⟩
  case round =>
    obtain ⟨k, rfl, k1, k5, a1, a2, a3, a4⟩ := hrel
    have hk : k = 1 ∨ k = 2 ∨ k = 3 ∨ k = 4 ∨ k = 5 := by omega
    rcases hk with rfl | rfl | rfl | rfl | rfl
    · clear a1 a2 a3 a4 k1 k5
      by_cases hr : b < 128
      · have hx := Y1.out.1 (by omega)
        simp only [Int.sub_zero] at hx
        have hl := Lib.hid (ld1 b h0 hr)
        go_wp2_with fail
        refine (leads11 _ _ hT (by omega) (by omega)).mono ?_
        rintro e w' ⟨rfl, rfl⟩
        rw [hl.out]
        go_wp2
        go_ret2
        exact ⟨ret2 (by simp [fsz, hr]) (by simp [frv, hr]), rfl⟩
      · obtain ⟨q, hx, q1, q2⟩ := Y1.out.2 (by omega)
        go_wp2
        go_round
        case rel => exact ⟨2, rfl, by omega, by omega, by omega, by omega, by omega, by omega⟩
        case measure => simp [intOf]
    · replace a1 := a1 (by omega)
      clear a2 a3 a4 k1 k5
      by_cases hr : 192 ≤ b ∧ b < 224
      · have hx := Y2.out.1 (by omega)
        by_cases hs : b < 194
        · have hl := Lib.hid (ld2n (b - 192) (by omega) (by omega))
          go_wp2_with fail
          refine (leads21 _ _ hT (by omega) (by omega)).mono ?_
          rintro e w' ⟨rfl, rfl⟩
          rw [hl.out]
          go_wp2
          go_round
          case rel => exact ⟨3, rfl, by omega, by omega, by omega, by omega, by omega, by omega⟩
          case measure => simp [intOf]
        · have hl := Lib.hid (ld2y (b - 192) (by omega) (by omega))
          go_wp2_with fail
          refine (leads21 _ _ hT (by omega) (by omega)).mono ?_
          rintro e w' ⟨rfl, rfl⟩
          rw [hl.out]
          go_wp2
          go_ret2
          exact ⟨ret2 (by unfold fsz; rw [if_neg (by omega), if_neg (by omega), if_pos (by omega)]) (by unfold frv; rw [if_neg (by omega), if_neg (by omega), if_pos (by omega)]), rfl⟩
      · obtain ⟨q, hx, q1, q2⟩ := Y2.out.2 (by omega)
        go_wp2
        go_round
        case rel => exact ⟨3, rfl, by omega, by omega, by omega, by omega, by omega, by omega⟩
        case measure => simp [intOf]
    · replace a2 := a2 (by omega)
      replace a1 := a1 (by omega)
      clear a3 a4 k1 k5
      by_cases hr : 224 ≤ b ∧ b < 240
      · have hx := Y3.out.1 (by omega)
        have hl := Lib.hid (ld3 (b - 224) (by omega) (by omega))
        go_wp2_with fail
        refine (leads31 _ _ hT (by omega) (by omega)).mono ?_
        rintro e w' ⟨rfl, rfl⟩
        rw [hl.out]
        go_wp2
        go_ret2
        exact ⟨ret2 (by unfold fsz; rw [if_neg (by omega), if_neg (by omega), if_neg (by omega), if_pos (by omega)]) (by unfold frv; rw [if_neg (by omega), if_neg (by omega), if_neg (by omega), if_pos (by omega)]), rfl⟩
      · obtain ⟨q, hx, q1, q2⟩ := Y3.out.2 (by omega)
        go_wp2
        go_round
        case rel => exact ⟨4, rfl, by omega, by omega, by omega, by omega, by omega, by omega⟩
        case measure => simp [intOf]
    · replace a3 := a3 (by omega)
      replace a2 := a2 (by omega)
      replace a1 := a1 (by omega)
      clear a4 k1 k5
      by_cases hr : 240 ≤ b ∧ b < 248
      · have hx := Y4.out.1 (by omega)
        by_cases hs : b < 245
        · have hl := Lib.hid (ld4y (b - 240) (by omega) (by omega))
          go_wp2_with fail
          refine (leads41 _ _ hT (by omega) (by omega)).mono ?_
          rintro e w' ⟨rfl, rfl⟩
          rw [hl.out]
          go_wp2
          go_ret2
          exact ⟨ret2 (by unfold fsz; rw [if_neg (by omega), if_neg (by omega), if_neg (by omega), if_neg (by omega), if_pos (by omega)]) (by unfold frv; rw [if_neg (by omega), if_neg (by omega), if_neg (by omega), if_neg (by omega), if_pos (by omega)]), rfl⟩
        · have hl := Lib.hid (ld4n (b - 240) (by omega) (by omega))
          go_wp2_with fail
          refine (leads41 _ _ hT (by omega) (by omega)).mono ?_
          rintro e w' ⟨rfl, rfl⟩
          rw [hl.out]
          go_wp2
          go_round
          case rel => exact ⟨5, rfl, by omega, by omega, by omega, by omega, by omega, by omega⟩
          case measure => simp [intOf]
      · obtain ⟨q, hx, q1, q2⟩ := Y4.out.2 (by omega)
        go_wp2
        go_round
        case rel => exact ⟨5, rfl, by omega, by omega, by omega, by omega, by omega, by omega⟩
        case measure => simp [intOf]
    · replace a4 := a4 (by omega)
      replace a3 := a3 (by omega)
      replace a2 := a2 (by omega)
      replace a1 := a1 (by omega)
      clear k1 k5
      go_wp2
      go_ret2
      exact ⟨ret2 (by unfold fsz; rw [if_neg (by omega)]; (repeat' split) <;> omega) (by unfold frv; rw [if_neg (by omega)]; (repeat' split) <;> omega), rfl⟩
end Go.Proofs.YthnfopjjghohcaaDoor.U8
namespace Go.Proofs.YthnfopjjghohcaaDoor.U8
open Go.RowKit

theorem leads_any (r sz n : Int) (f : Nat) (w : World) (hT : Tab w) (hsz : sz = n + f) (hn : 1 ≤ n) (h4 : sz ≤ 4) (h0 : 0 ≤ r) (h1 : r * 64 ^ f + 64 ^ f ≤ 2097152) :
    Calls Tryd.prog 67 #[.int .i32 r, .int .i64 sz, .int .i64 n] w fun e w' => e = .returned (.bool (ldB (64 ^ f) r sz)) ∧ w = w' := by
  have hf : f = 0 ∨ f = 1 ∨ f = 2 ∨ f = 3 := by omega
  rcases hf with rfl | rfl | rfl | rfl
  · have : n = 1 ∨ n = 2 ∨ n = 3 ∨ n = 4 := by omega
    rcases this with rfl | rfl | rfl | rfl <;> subst hsz
    · exact leads11 r w hT h0 (by omega)
    · exact leads22 r w hT h0 (by omega)
    · exact leads33 r w hT h0 (by omega)
    · exact leads44 r w hT h0 (by omega)
  · have : n = 1 ∨ n = 2 ∨ n = 3 := by omega
    rcases this with rfl | rfl | rfl <;> subst hsz
    · exact leads21 r w hT h0 (by omega)
    · exact leads32 r w hT h0 (by omega)
    · exact leads43 r w hT h0 (by omega)
  · have : n = 1 ∨ n = 2 := by omega
    rcases this with rfl | rfl <;> subst hsz
    · exact leads31 r w hT h0 (by omega)
    · exact leads42 r w hT h0 (by omega)
  · have : n = 1 := by omega
    subst this; subst hsz
    exact leads41 r w hT h0 (by omega)

theorem isE (s : ByteArray) : s.toList.isEmpty = decide (s.size = 0) := by
  rw [Lib.size_eq s, Lib.toList_data s]
  cases s.data.toList <;> simp

/-- Behind k of size bytes, whose bits are r: the rest. -/
def nxL (size : Int) : Nat → Int → Int → List Nat → Int × Int × Int
  | 0, _, r, _ => (r, size, 0)
  | _ + 1, k, _, [] => (0, k, 18)
  | f + 1, k, r, b :: t => if 128 ≤ b ∧ b < 192 then (if ldB (64 ^ f) (r * 64 + (b : Int) % 64) size = true then nxL size f (k + 1) (r * 64 + (b : Int) % 64) t else (0, k, 17)) else (0, k, 17)
def nx : List Nat → Int × Int × Int
  | [] => (0, 0, 18)
  | b :: t => if fsz b = 0 then (0, 1, 17) else nxL (fsz b) ((fsz b).toNat - 1) 1 (frv b) t

theorem andNot_fact (b : Int) (h0 : 0 ≤ b) (h1 : b < 256) : (bits .andNot .u8 b 63 != 128) = !(decide (128 ≤ b ∧ b < 192)) := by
  obtain ⟨n, rfl⟩ := Int.eq_ofNat_of_zero_le h0
  have h := u8_andNot_nat n 63 (by omega) (by omega)
  have e : bits .andNot .u8 (n : Int) 63 = ((n &&& (255 - 63) : Nat) : Int) := h
  rw [e]
  have key : ∀ b : Fin 256, (((b.val &&& (255 - 63) : Nat) : Int) != 128) = !(decide (128 ≤ (b.val : Int) ∧ (b.val : Int) < 192)) := by decide +kernel
  exact key ⟨n, by omega⟩

theorem fsz_bd (b : Int) (h0 : 0 ≤ b) (h1 : b < 256) (h : fsz b ≠ 0) : 1 ≤ fsz b ∧ fsz b ≤ 4 ∧ 0 ≤ frv b ∧ frv b * 64 ^ ((fsz b).toNat - 1) + 64 ^ ((fsz b).toNat - 1) ≤ 2097152 := by
  unfold fsz frv at *
  (repeat' split) <;> simp_all <;> omega

theorem ret3 {k l m : IntKind} {a b c d e f : Int} (h : a = b) (h' : c = d) (h'' : e = f) : Ending.returned (.tuple #[.int k a, .int l c, .int m e]) = .returned (.tuple #[.int k b, .int l d, .int m f]) := by rw [h, h', h'']
theorem nx_nil (s : ByteArray) (h : s.size = 0) : nx (bs s) = (0, 0, 18) := by rw [bs_nil s h]; rfl
theorem bs_head (s : ByteArray) (h : 0 < s.size) : bs s = s[0].toNat :: (bs s).drop 1 := by
  have := bs_cut s 0 h
  simpa using this
theorem nx_bad (s : ByteArray) (h : 0 < s.size) (h0 : fsz s[0].toNat = 0) : nx (bs s) = (0, 1, 17) := by
  rw [bs_head s h]; simp [nx, h0]
theorem nx_go (s : ByteArray) (h : 0 < s.size) (h0 : fsz s[0].toNat ≠ 0) : nx (bs s) = nxL (fsz s[0].toNat) ((fsz s[0].toNat).toNat - 1) 1 (frv s[0].toNat) ((bs s).drop 1) := by
  rw [bs_head s h]; simp [nx, h0]
theorem nxL_end (sz : Int) (k q : Int) (l : List Nat) : nxL sz 0 k q l = (q, sz, 0) := rfl
theorem nxL_more (sz : Int) (f : Nat) (k q : Int) : nxL sz (f + 1) k q [] = (0, k, 18) := rfl
theorem nxL_not (sz : Int) (f : Nat) (k q : Int) (b : Nat) (t : List Nat) (h : ¬ (128 ≤ b ∧ b < 192)) : nxL sz (f + 1) k q (b :: t) = (0, k, 17) := by simp [nxL, h]
theorem nxL_bad (sz : Int) (f : Nat) (k q : Int) (b : Nat) (t : List Nat) (h : 128 ≤ b ∧ b < 192) (h' : ldB (64 ^ f) (q * 64 + (b : Int) % 64) sz = false) : nxL sz (f + 1) k q (b :: t) = (0, k, 17) := by simp [nxL, h, h']
theorem nxL_ok (sz : Int) (f : Nat) (k q : Int) (b : Nat) (t : List Nat) (h : 128 ≤ b ∧ b < 192) (h' : ldB (64 ^ f) (q * 64 + (b : Int) % 64) sz = true) : nxL sz (f + 1) k q (b :: t) = nxL sz f (k + 1) (q * 64 + (b : Int) % 64) t := by simp [nxL, h, h']

def bound21 : Int := 2097152
theorem step_bd (f : Nat) (q b : Int) (h : q * 64 ^ (f + 1) + 64 ^ (f + 1) ≤ bound21) (h0 : 0 ≤ b) (h1 : b < 64) : (q * 64 + b) * 64 ^ f + 64 ^ f ≤ bound21 := by
  have e : (64 : Int) ^ (f + 1) = 64 * 64 ^ f := by rw [Int.pow_succ]; omega
  rw [e] at h
  have hp : (0 : Int) ≤ 64 ^ f := Int.le_of_lt (Int.pow_pos (by omega))
  have h2 : (q * 64 + b + 1) * 64 ^ f ≤ (q * 64 + 64) * 64 ^ f := Int.mul_le_mul_of_nonneg_right (by omega) hp
  have h3 : q * (64 * 64 ^ f) + 64 * 64 ^ f = (q * 64 + 64) * 64 ^ f := by rw [Int.add_mul, Int.mul_assoc]
  have h4 : (q * 64 + b + 1) * 64 ^ f = (q * 64 + b) * 64 ^ f + 64 ^ f := by rw [Int.add_mul (q * 64 + b) 1, Int.one_mul]
  omega
theorem q_bd (f : Nat) (q : Int) (h : q * 64 ^ (f + 1) + 64 ^ (f + 1) ≤ bound21) : q < 32768 := by
  have hp : (0 : Int) < 64 ^ f := Int.pow_pos (by omega)
  have e : (64 : Int) ^ (f + 1) = 64 * 64 ^ f := by rw [Int.pow_succ]; omega
  rw [e] at h
  unfold bound21 at h
  rcases Int.lt_or_le q 32768 with h' | h'
  · exact h'
  · have : 32768 * (64 * 64 ^ f) ≤ q * (64 * (64 : Int) ^ f) := Int.mul_le_mul_of_nonneg_right h' (by omega)
    omega

set_option maxRecDepth 100000 in
set_option maxHeartbeats 1000000 in
theorem next_any (s : ByteArray) (w : World) (hT : Tab w) (hs : s.size ≤ 100000) : Calls Tryd.prog 55 #[.string s] w fun e w' => e = .returned (nxV (nx (bs s))) ∧ w = w' := by
  by_cases h1 : s.size = 0
  · have he : s.toList.isEmpty = true := by rw [isE]; simpa using h1
    have HF := Lib.hid (nx_nil s h1)
    clear h1
    go_enter Tryd.func55, Tryd.ntmps55
    go_wp2
    go_ret3
    exact ⟨nxV_eq HF.out, rfl⟩
  have hp : 0 < s.size := by omega
  have he : s.toList.isEmpty = false := by rw [isE]; simpa using h1
  clear h1
  have b0 : (s[0].toNat : Int) < 256 := by have := s[0].toNat_lt; omega
  by_cases h2 : fsz s[0].toNat = 0
  · have HF := Lib.hid (nx_bad s hp h2)
    have H2 := Lib.hid h2
    clear h2
    go_enter Tryd.func55, Tryd.ntmps55
    go_wp2_with fail
    refine (first_any _ _ hT (by omega) (by omega)).mono ?_
    rintro e w' ⟨rfl, rfl⟩
    rw [H2.out]
    go_wp2
    go_ret3
    exact ⟨nxV_eq HF.out, rfl⟩
  have HF := Lib.hid (nx_go s hp h2)
  obtain ⟨z1, z2, z3, z4⟩ := fsz_bd _ (by omega) b0 h2
  have hne : (fsz s[0].toNat == 0) = false := by simpa using h2
  clear h2
  go_enter Tryd.func55, Tryd.ntmps55
  go_wp2_with fail
  refine (first_any _ _ hT (by omega) (by omega)).mono ?_
  rintro e w' ⟨rfl, rfl⟩
  generalize hsz : fsz s[0].toNat = sz at *
  generalize hr0 : frv s[0].toNat = r0 at *
  clear hsz hr0
  have Z4 := Lib.hid z4
  clear z4
  go_wp2_with fail
  go_loop [2, 3] (fun r n => ∃ k f : Nat, ∃ q : Int, r = .int .i32 q ∧ n = .int .i64 k ∧ sz - f ≤ k ∧ k ≤ sz - f ∧ 1 ≤ k ∧ k ≤ s.size ∧ 0 ≤ q ∧ Hid (q * 64 ^ f + 64 ^ f ≤ bound21) ∧ Hid (nx (bs s) = nxL sz f k q ((bs s).drop k))) (fun _ n => (sz - intOf n).toNat)
  case atStart => exact ⟨1, sz.toNat - 1, r0, rfl, rfl, by omega, by omega, by omega, by omega, z3, Z4.out, HF.out⟩
  case round =>
    obtain ⟨k, f, q, rfl, rfl, f1, f2, k1, k2, q1, HQ, HN⟩ := hrel
    cases f with
    | zero =>
      have hk : ¬ (k : Int) < sz := by omega
      go_wp2
      go_ret3
      exact ⟨nxV_eq (by rw [HN.out, nxL_end]), rfl⟩
    | succ f =>
      have hk : (k : Int) < sz := by omega
      have q3 := q_bd f q HQ.out
      by_cases hk2 : k < s.size
      · have hkn : ((k : Int) == (s.size : Int)) = false := by simp; omega
        have hb : (s[k].toNat : Int) < 256 := by have := s[k].toNat_lt; omega
        have hcut := bs_cut s k hk2
        have hand := andNot_fact (s[k].toNat) (by omega) hb
        by_cases hc : 128 ≤ s[k].toNat ∧ s[k].toNat < 192
        · rw [show decide (128 ≤ (s[k].toNat : Int) ∧ (s[k].toNat : Int) < 192) = true by simp; omega] at hand
          simp only [Bool.not_true] at hand
          have HS := Lib.hid (step_bd f q (s[k].toNat % 64) HQ.out (by omega) (by omega))
          cases hl : ldB (64 ^ f) (q * 64 + (s[k].toNat : Int) % 64) sz
          · have HR := Lib.hid (nxL_bad sz f k q _ ((bs s).drop (k + 1)) hc hl)
            rw [← hcut] at HR
            have HL := Lib.hid hl
            clear hl hcut
            go_wp2_with fail
            refine (leads_any _ _ _ f _ hT (by omega) (by omega) (by omega) (by omega) HS.out).mono ?_
            rintro e w' ⟨rfl, rfl⟩
            rw [HL.out]
            go_wp2
            go_ret3
            exact ⟨nxV_eq (by rw [HN.out, HR.out]), rfl⟩
          · have HR := Lib.hid (nxL_ok sz f k q _ ((bs s).drop (k + 1)) hc hl)
            rw [← hcut] at HR
            have HL := Lib.hid hl
            clear hl hcut
            go_wp2_with fail
            refine (leads_any _ _ _ f _ hT (by omega) (by omega) (by omega) (by omega) HS.out).mono ?_
            rintro e w' ⟨rfl, rfl⟩
            rw [HL.out]
            go_wp2
            go_round
            case rel => exact ⟨k + 1, f, _, rfl, by go_num, by omega, by omega, by omega, by omega, by omega, HS.out, by rw [HN.out, HR.out]; rfl⟩
            case measure => simp [intOf]; omega
        · rw [show decide (128 ≤ (s[k].toNat : Int) ∧ (s[k].toNat : Int) < 192) = false by simp; omega] at hand
          simp only [Bool.not_false] at hand
          have HR := Lib.hid (nxL_not sz f k q _ ((bs s).drop (k + 1)) hc)
          rw [← hcut] at HR
          clear hcut hc
          go_wp2
          go_ret3
          exact ⟨nxV_eq (by rw [HN.out, HR.out]), rfl⟩
      · have hkn : ((k : Int) == (s.size : Int)) = true := by simp; omega
        have HR := Lib.hid (nxL_more sz f k q)
        rw [← bs_end s k (by omega)] at HR
        go_wp2
        go_ret3
        exact ⟨nxV_eq (by rw [HN.out, HR.out]), rfl⟩

end Go.Proofs.YthnfopjjghohcaaDoor.U8
namespace Go.Proofs.YthnfopjjghohcaaDoor.U8
open Go.RowKit

theorem lenI1 (v : Int) : lenI v = 1 ↔ 0 ≤ v ∧ v ≤ 127 := by
  cases h : scal v <;> simp only [lenI, h] <;> simp [scal] at h <;> simp <;> (repeat' split) <;> omega
theorem lenI2 (v : Int) : lenI v = 2 ↔ 128 ≤ v ∧ v ≤ 2047 := by
  cases h : scal v <;> simp only [lenI, h] <;> simp [scal] at h <;> simp <;> (repeat' split) <;> omega
theorem lenI3 (v : Int) : lenI v = 3 ↔ 2048 ≤ v ∧ v ≤ 65535 ∧ (v < 55296 ∨ 57343 < v) := by
  cases h : scal v <;> simp only [lenI, h] <;> simp [scal] at h <;> simp <;> (repeat' split) <;> omega
theorem lenI4 (v : Int) : lenI v = 4 ↔ 65536 ≤ v ∧ v ≤ 1114111 := by
  cases h : scal v <;> simp only [lenI, h] <;> simp [scal] at h <;> simp <;> (repeat' split) <;> omega
theorem ldB_iff (p r sz : Int) : ldB p r sz = true ↔ lenI (r * p) = sz ∨ lenI (r * p + (p - 1)) = sz := by simp [ldB]

def lo1 (b0 : Nat) : Nat := if b0 = 224 then 160 else if b0 = 240 then 144 else 128
def hi1 (b0 : Nat) : Nat := if b0 = 237 then 160 else if b0 = 244 then 144 else 192

/-- Which character bytes begin with, written out. -/
def ex : List Nat → Int × Int × Int
  | [] => (0, 0, 18)
  | b0 :: t => if fsz b0 = 0 then (0, 1, 17) else if fsz b0 = 1 then (b0, 1, 0) else
    match t with
    | [] => (0, 1, 18)
    | b1 :: t => if ¬ (lo1 b0 ≤ b1 ∧ b1 < hi1 b0) then (0, 1, 17) else if fsz b0 = 2 then (frv b0 * 64 + (b1 - 128), 2, 0) else
      match t with
      | [] => (0, 2, 18)
      | b2 :: t => if ¬ (128 ≤ b2 ∧ b2 < 192) then (0, 2, 17) else if fsz b0 = 3 then ((frv b0 * 64 + (b1 - 128)) * 64 + (b2 - 128), 3, 0) else
        match t with
        | [] => (0, 3, 18)
        | b3 :: _ => if ¬ (128 ≤ b3 ∧ b3 < 192) then (0, 3, 17) else (((frv b0 * 64 + (b1 - 128)) * 64 + (b2 - 128)) * 64 + (b3 - 128), 4, 0)

theorem fsz_1 (b : Int) (h : b < 128) : fsz b = 1 ∧ frv b = b := by simp [fsz, frv, h]
theorem fsz_2 (b : Int) (h : 194 ≤ b) (h' : b < 224) : fsz b = 2 ∧ frv b = b - 192 := by
  unfold fsz frv; constructor <;> (repeat' split) <;> omega
theorem fsz_3 (b : Int) (h : 224 ≤ b) (h' : b < 240) : fsz b = 3 ∧ frv b = b - 224 := by
  unfold fsz frv; constructor <;> (repeat' split) <;> omega
theorem fsz_4 (b : Int) (h : 240 ≤ b) (h' : b < 245) : fsz b = 4 ∧ frv b = b - 240 := by
  unfold fsz frv; constructor <;> (repeat' split) <;> omega
theorem fsz_0 (b : Int) (h : 128 ≤ b ∧ b < 194 ∨ 245 ≤ b) : fsz b = 0 ∧ frv b = 0 := by
  unfold fsz frv; constructor <;> (repeat' split) <;> omega
theorem parts (b : Int) : (b < 128) ∨ (194 ≤ b ∧ b < 224) ∨ (224 ≤ b ∧ b < 240) ∨ (240 ≤ b ∧ b < 245) ∨ (128 ≤ b ∧ b < 194 ∨ 245 ≤ b) := by omega

theorem mod64 (b : Nat) (h : 128 ≤ b ∧ b < 192) : (b : Int) % 64 = b - 128 := by omega

theorem nx_ex : ∀ l : List Nat, nx l = ex l := by
  intro l
  cases l with
  | nil => rfl
  | cons b0 t =>
  rcases parts b0 with h | ⟨h, h'⟩ | ⟨h, h'⟩ | ⟨h, h'⟩ | h
  · obtain ⟨e1, e2⟩ := fsz_1 b0 h
    simp [nx, ex, e1, e2, nxL]
  · obtain ⟨e1, e2⟩ := fsz_2 b0 h h'
    have hl : lo1 b0 = 128 := by unfold lo1; (repeat' split) <;> omega
    have hh : hi1 b0 = 192 := by unfold hi1; (repeat' split) <;> omega
    simp only [nx, ex, e1, e2, hl, hh]
    cases t with
    | nil => rfl
    | cons b1 t =>
      by_cases hc : 128 ≤ b1 ∧ b1 < 192
      · have hd : ldB (64 ^ 0) ((b0 - 192 : Int) * 64 + (b1 : Int) % 64) 2 = true := by
          rw [ldB_iff, lenI2, lenI2]; simp; omega
        rw [if_neg (by omega), if_neg (by omega), if_neg (by omega)]
        show nxL 2 1 1 _ _ = _
        rw [nxL_ok _ _ _ _ _ _ hc hd, nxL_end, mod64 b1 hc]
        simp [hc]
      · rw [if_neg (by omega), if_neg (by omega)]
        show nxL 2 1 1 _ _ = _
        rw [nxL_not _ _ _ _ _ _ hc]
        simp [hc]
  · obtain ⟨e1, e2⟩ := fsz_3 b0 h h'
    simp only [nx, ex, e1, e2]
    rw [if_neg (by omega), if_neg (by omega), if_neg (by omega)]
    show nxL 3 2 1 _ _ = _
    cases t with
    | nil => rfl
    | cons b1 t =>
      by_cases hc : lo1 b0 ≤ b1 ∧ b1 < hi1 b0
      · have hc' : 128 ≤ b1 ∧ b1 < 192 := by unfold lo1 hi1 at hc; (repeat' split at hc) <;> omega
        have hd : ldB (64 ^ 1) ((b0 - 224 : Int) * 64 + (b1 : Int) % 64) 3 = true := by
          rw [ldB_iff, lenI3, lenI3]; unfold lo1 hi1 at hc; (repeat' split at hc) <;> omega
        rw [nxL_ok _ _ _ _ _ _ hc' hd, mod64 b1 hc']
        dsimp only
        rw [if_neg (not_not_intro hc), if_neg (by decide : ¬ (3 : Int) = 2)]
        cases t with
        | nil => rfl
        | cons b2 t =>
          by_cases hc2 : 128 ≤ b2 ∧ b2 < 192
          · have hd2 : ldB (64 ^ 0) (((b0 - 224 : Int) * 64 + ((b1 : Int) - 128)) * 64 + (b2 : Int) % 64) 3 = true := by
              rw [ldB_iff, lenI3, lenI3]; unfold lo1 hi1 at hc; (repeat' split at hc) <;> omega
            rw [nxL_ok _ _ _ _ _ _ hc2 hd2, nxL_end, mod64 b2 hc2]
            simp [hc2]
          · rw [nxL_not _ _ _ _ _ _ hc2]
            simp [hc2]
      · dsimp only
        rw [if_pos hc]
        by_cases hc' : 128 ≤ b1 ∧ b1 < 192
        · have hd : ldB (64 ^ 1) ((b0 - 224 : Int) * 64 + (b1 : Int) % 64) 3 = false := by
            rw [Bool.eq_false_iff]; intro hx
            rw [ldB_iff, lenI3, lenI3] at hx; unfold lo1 hi1 at hc; (repeat' split at hc) <;> omega
          rw [nxL_bad _ _ _ _ _ _ hc' hd]
        · rw [nxL_not _ _ _ _ _ _ hc']
  · obtain ⟨e1, e2⟩ := fsz_4 b0 h h'
    simp only [nx, ex, e1, e2]
    rw [if_neg (by omega), if_neg (by omega), if_neg (by omega)]
    show nxL 4 3 1 _ _ = _
    cases t with
    | nil => rfl
    | cons b1 t =>
      by_cases hc : lo1 b0 ≤ b1 ∧ b1 < hi1 b0
      · have hc' : 128 ≤ b1 ∧ b1 < 192 := by unfold lo1 hi1 at hc; (repeat' split at hc) <;> omega
        have hd : ldB (64 ^ 2) ((b0 - 240 : Int) * 64 + (b1 : Int) % 64) 4 = true := by
          rw [ldB_iff, lenI4, lenI4]; unfold lo1 hi1 at hc; (repeat' split at hc) <;> omega
        rw [nxL_ok _ _ _ _ _ _ hc' hd, mod64 b1 hc']
        dsimp only
        rw [if_neg (not_not_intro hc), if_neg (by decide : ¬ (4 : Int) = 2)]
        cases t with
        | nil => rfl
        | cons b2 t =>
          by_cases hc2 : 128 ≤ b2 ∧ b2 < 192
          · have hd2 : ldB (64 ^ 1) (((b0 - 240 : Int) * 64 + ((b1 : Int) - 128)) * 64 + (b2 : Int) % 64) 4 = true := by
              rw [ldB_iff, lenI4, lenI4]; unfold lo1 hi1 at hc; (repeat' split at hc) <;> omega
            rw [nxL_ok _ _ _ _ _ _ hc2 hd2, mod64 b2 hc2]
            dsimp only
            rw [if_neg (not_not_intro hc2), if_neg (by decide : ¬ (4 : Int) = 3)]
            cases t with
            | nil => rfl
            | cons b3 t =>
              by_cases hc3 : 128 ≤ b3 ∧ b3 < 192
              · have hd3 : ldB (64 ^ 0) ((((b0 - 240 : Int) * 64 + ((b1 : Int) - 128)) * 64 + ((b2 : Int) - 128)) * 64 + (b3 : Int) % 64) 4 = true := by
                  rw [ldB_iff, lenI4, lenI4]; unfold lo1 hi1 at hc; (repeat' split at hc) <;> omega
                rw [nxL_ok _ _ _ _ _ _ hc3 hd3, nxL_end, mod64 b3 hc3]
                simp [hc3]
              · rw [nxL_not _ _ _ _ _ _ hc3]
                simp [hc3]
          · rw [nxL_not _ _ _ _ _ _ hc2]
            simp [hc2]
      · dsimp only
        rw [if_pos hc]
        by_cases hc' : 128 ≤ b1 ∧ b1 < 192
        · have hd : ldB (64 ^ 2) ((b0 - 240 : Int) * 64 + (b1 : Int) % 64) 4 = false := by
            rw [Bool.eq_false_iff]; intro hx
            rw [ldB_iff, lenI4, lenI4] at hx; unfold lo1 hi1 at hc; (repeat' split at hc) <;> omega
          rw [nxL_bad _ _ _ _ _ _ hc' hd]
        · rw [nxL_not _ _ _ _ _ _ hc']
  · obtain ⟨e1, e2⟩ := fsz_0 b0 h
    simp [nx, ex, e1]
end Go.Proofs.YthnfopjjghohcaaDoor.U8
namespace Go.Proofs.YthnfopjjghohcaaDoor.U8
open Go.RowKit

theorem ex_bd (l : List Nat) (h : l ≠ []) : ∃ n : Nat, (ex l).2.1 = n ∧ 1 ≤ n ∧ n ≤ l.length ∧ n ≤ 4 ∧ ((ex l).2.2 = 0 ∨ (ex l).2.2 = 17 ∨ (ex l).2.2 = 18) ∧ ((ex l).2.2 = 18 → n = l.length) ∧ ((ex l).2.2 ≠ 0 → n ≤ 3) := by
  match l, h with
  | [b0], _ =>
    simp only [ex]
    (repeat' split) <;> exact ⟨_, rfl, by simp⟩
  | [b0, b1], _ =>
    simp only [ex]
    (repeat' split) <;> first | exact ⟨1, rfl, by simp⟩ | exact ⟨2, rfl, by simp⟩
  | [b0, b1, b2], _ =>
    simp only [ex]
    (repeat' split) <;> first | exact ⟨1, rfl, by simp⟩ | exact ⟨2, rfl, by simp⟩ | exact ⟨3, rfl, by simp⟩
  | b0 :: b1 :: b2 :: b3 :: t, _ =>
    simp only [ex]
    (repeat' split) <;> first | exact ⟨1, rfl, by simp⟩ | exact ⟨2, rfl, by simp⟩ | exact ⟨3, rfl, by simp⟩ | exact ⟨4, rfl, by simp⟩

/-- What bytes decode to: the characters, the malformed units, and the error. Behind 'f' steps at the most. -/
def decF (pol : Int) : Nat → Nat → List Nat → List Int × List (Nat × Nat) × Int
  | 0, _, _ => ([], [], 0)
  | f + 1, k, l =>
    if l = [] then ([], [], 0)
    else if (nx l).2.2 = 0 then
      ((nx l).1 :: (decF pol f (k + (nx l).2.1.toNat) (l.drop (nx l).2.1.toNat)).1, (decF pol f (k + (nx l).2.1.toNat) (l.drop (nx l).2.1.toNat)).2)
    else if pol = 1 then ([], [(k, (nx l).2.1.toNat)], 17)
    else ((if pol = 2 then [65533] else []) ++ (decF pol f (k + (nx l).2.1.toNat) (l.drop (nx l).2.1.toNat)).1, (k, (nx l).2.1.toNat) :: (decF pol f (k + (nx l).2.1.toNat) (l.drop (nx l).2.1.toNat)).2.1, (decF pol f (k + (nx l).2.1.toNat) (l.drop (nx l).2.1.toNat)).2.2)
def dec (pol : Int) (k : Nat) (l : List Nat) : List Int × List (Nat × Nat) × Int := decF pol l.length k l

theorem nx_step (l : List Nat) (h : l ≠ []) : ∃ r e : Int, ∃ n : Nat, nx l = (r, (n : Int), e) ∧ 1 ≤ n ∧ n ≤ l.length ∧ n ≤ 4 ∧ (e = 0 ∨ e = 17 ∨ e = 18) ∧ (e = 18 → n = l.length) ∧ (e ≠ 0 → n ≤ 3) := by
  obtain ⟨n, h1, h2⟩ := ex_bd l h
  exact ⟨(ex l).1, (ex l).2.2, n, by rw [nx_ex, ← h1], h2⟩

theorem decF_same (pol : Int) : ∀ (m f : Nat) (k : Nat) (l : List Nat), l.length ≤ m → l.length ≤ f → decF pol f k l = decF pol l.length k l := by
  intro m
  induction m with
  | zero =>
    intro f k l hm hf
    have : l = [] := List.eq_nil_of_length_eq_zero (by omega)
    subst this
    cases f <;> simp [decF]
  | succ m ih =>
    intro f k l hm hf
    by_cases hl : l = []
    · subst hl
      cases f <;> simp [decF]
    obtain ⟨r, e, n, hx, h1, h2, h3, h4, h5⟩ := nx_step l hl
    have hp : 0 < l.length := List.length_pos_iff.2 hl
    obtain ⟨f, rfl⟩ : ∃ g, f = g + 1 := ⟨f - 1, by omega⟩
    obtain ⟨g, hg⟩ : ∃ g, l.length = g + 1 := ⟨l.length - 1, by omega⟩
    have hd : (l.drop n).length ≤ m := by rw [List.length_drop]; omega
    have e1 := ih f (k + n) (l.drop n) hd (by rw [List.length_drop]; omega)
    have e2 := ih g (k + n) (l.drop n) hd (by rw [List.length_drop]; omega)
    rw [hg]
    simp only [decF, hl, hx, Int.toNat_natCast, e1, e2]

theorem dec_nil (pol : Int) (k : Nat) : dec pol k [] = ([], [], 0) := rfl
theorem dec_ok (pol : Int) (k : Nat) (l : List Nat) (hl : l ≠ []) (r : Int) (n : Nat) (hx : nx l = (r, (n : Int), 0)) (h1 : 1 ≤ n) : dec pol k l = (r :: (dec pol (k + n) (l.drop n)).1, (dec pol (k + n) (l.drop n)).2) := by
  have hp : 0 < l.length := List.length_pos_iff.2 hl
  obtain ⟨g, hg⟩ : ∃ g, l.length = g + 1 := ⟨l.length - 1, by omega⟩
  have e2 := decF_same pol (l.drop n).length g (k + n) (l.drop n) (Nat.le_refl _) (by rw [List.length_drop]; omega)
  unfold dec
  rw [hg]
  simp only [decF, hl, hx, Int.toNat_natCast, e2]
  simp
theorem dec_bad1 (k : Nat) (l : List Nat) (hl : l ≠ []) (r e : Int) (n : Nat) (hx : nx l = (r, (n : Int), e)) (he : e ≠ 0) : dec 1 k l = ([], [(k, n)], 17) := by
  have hp : 0 < l.length := List.length_pos_iff.2 hl
  obtain ⟨g, hg⟩ : ∃ g, l.length = g + 1 := ⟨l.length - 1, by omega⟩
  unfold dec
  rw [hg]
  simp [decF, hl, hx, he]
theorem dec_bad (pol : Int) (hpol : pol ≠ 1) (k : Nat) (l : List Nat) (hl : l ≠ []) (r e : Int) (n : Nat) (hx : nx l = (r, (n : Int), e)) (he : e ≠ 0) (h1 : 1 ≤ n) :
    dec pol k l = ((if pol = 2 then [65533] else []) ++ (dec pol (k + n) (l.drop n)).1, (k, n) :: (dec pol (k + n) (l.drop n)).2.1, (dec pol (k + n) (l.drop n)).2.2) := by
  have hp : 0 < l.length := List.length_pos_iff.2 hl
  obtain ⟨g, hg⟩ : ∃ g, l.length = g + 1 := ⟨l.length - 1, by omega⟩
  have e2 := decF_same pol (l.drop n).length g (k + n) (l.drop n) (Nat.le_refl _) (by rw [List.length_drop]; omega)
  unfold dec
  rw [hg]
  simp only [decF, hl, hx, Int.toNat_natCast, e2]
  simp [he, hpol]

theorem next_from (s : ByteArray) (k : Nat) (w : World) (hT : Tab w) (hs : s.size ≤ 100000) (r e : Int) (n : Nat) (hx : nx ((bs s).drop k) = (r, (n : Int), e)) :
    Calls Tryd.prog 55 #[.string (s.extract k s.size)] w fun v w' => v = .returned (.tuple #[.int .i32 r, .int .i64 n, .int .i64 e]) ∧ w = w' := by
  have := next_any (s.extract k s.size) w hT (by rw [ext_from]; omega)
  rw [bs_from, hx] at this
  exact this
end Go.Proofs.YthnfopjjghohcaaDoor.U8
namespace Go.Proofs.YthnfopjjghohcaaDoor.U8
open Go.RowKit

/-- What the loop of a decoder knows at place k. -/
structure DecRel (w wr : World) (out flt : Value) (pol : Int) (k : Nat) (l : List Nat) (tot : List Int × List (Nat × Nat) × Int) (os : List Int) (fs : List (Nat × Nat)) : Prop where
  bel : Below w.heap.size w wr
  o : wr.ownsRow w.heap.size 21 1 out os.length (i32s os)
  f : wr.ownsRow w.heap.size 50 2 flt fs.length (flts fs)
  lo : os.length ≤ k
  lf : fs.length ≤ k
  tot : tot = (os ++ (dec pol k l).1, fs ++ (dec pol k l).2.1, (dec pol k l).2.2)

theorem DecRel.start (w : World) (pol : Int) (l : List Nat) {wr : World} (hb : Below w.heap.size w wr) : DecRel w wr (.slice none 0 0) (.slice none 0 0) pol 0 l (dec pol 0 l) [] [] :=
  ⟨hb, World.ownsRow_nil _ _ _ _, World.ownsRow_nil _ _ _ _, by simp, by simp, by simp⟩
theorem DecRel.ok {w wr w2 : World} {out flt v2 : Value} {pol : Int} {k : Nat} {l : List Nat} {tot : List Int × List (Nat × Nat) × Int} {os : List Int} {fs : List (Nat × Nat)} {o : Obj} (h : DecRel w wr out flt pol k l tot os fs)
    (hl : l ≠ []) {r : Int} {n : Nat} (hx : nx l = (r, (n : Int), 0)) (h1 : 1 ≤ n) (ho : w2.ownsRow w.heap.size 21 1 v2 (os.length + 1) (i32s os ++ [.int .i32 r])) (hg : (wr.alloc o).grownBy w2 out.ownBlock) :
    DecRel w w2 v2 flt pol (k + n) (l.drop n) tot (os ++ [r]) fs := by
  have ha := h.o.alloc o
  have hbl := h.bel.size
  refine ⟨h.bel.trans (((Below.refl _ _).alloc hbl _).trans (below_grown ha hg (by simp; omega))), by simpa [i32s] using ho, (h.f.alloc o).kept hg (own_apart (h.f.alloc o) ha (by decide)), by simp; have := h.lo; omega, by have := h.lf; omega, ?_⟩
  rw [h.tot, dec_ok pol k l hl r n hx h1]
  simp
theorem DecRel.flt1 {w wr w2 : World} {out flt v2 : Value} {k : Nat} {l : List Nat} {tot : List Int × List (Nat × Nat) × Int} {os : List Int} {fs : List (Nat × Nat)} {o : Obj} (h : DecRel w wr out flt 1 k l tot os fs)
    (hl : l ≠ []) {r e : Int} {n : Nat} (hx : nx l = (r, (n : Int), e)) (he : e ≠ 0) (ho : w2.ownsRow w.heap.size 50 2 v2 (fs.length + 1) (flts fs ++ [.int .i64 k, .int .i64 n])) (hg : (wr.alloc o).grownBy w2 flt.ownBlock) :
    Below w.heap.size w w2 ∧ w2.ownsRow w.heap.size 21 1 out tot.1.length (i32s tot.1) ∧ w2.ownsRow w.heap.size 50 2 v2 tot.2.1.length (flts tot.2.1) ∧ tot.2.2 = 17 := by
  have ha := h.f.alloc o
  have hbl := h.bel.size
  have ht := h.tot
  rw [dec_bad1 k l hl r e n hx he] at ht
  subst ht
  refine ⟨h.bel.trans (((Below.refl _ _).alloc hbl _).trans (below_grown ha hg (by simp; omega))), ?_, ?_, rfl⟩
  · have := (h.o.alloc o).kept hg (own_apart (h.o.alloc o) ha (by decide))
    simpa using this
  · simpa [flts_app, flts] using ho
theorem DecRel.bad3 {w wr w2 : World} {out flt v2 : Value} {k : Nat} {l : List Nat} {tot : List Int × List (Nat × Nat) × Int} {os : List Int} {fs : List (Nat × Nat)} {o : Obj} (h : DecRel w wr out flt 3 k l tot os fs)
    (hl : l ≠ []) {r e : Int} {n : Nat} (hx : nx l = (r, (n : Int), e)) (he : e ≠ 0) (h1 : 1 ≤ n) (ho : w2.ownsRow w.heap.size 50 2 v2 (fs.length + 1) (flts fs ++ [.int .i64 k, .int .i64 n])) (hg : (wr.alloc o).grownBy w2 flt.ownBlock) :
    DecRel w w2 out v2 3 (k + n) (l.drop n) tot os (fs ++ [(k, n)]) := by
  have ha := h.f.alloc o
  have hbl := h.bel.size
  refine ⟨h.bel.trans (((Below.refl _ _).alloc hbl _).trans (below_grown ha hg (by simp; omega))), (h.o.alloc o).kept hg (own_apart (h.o.alloc o) ha (by decide)), by simpa [flts_app, flts] using ho, by have := h.lo; omega, by simp; have := h.lf; omega, ?_⟩
  rw [h.tot, dec_bad 3 (by decide) k l hl r e n hx he h1]
  simp
theorem DecRel.bad2 {w wr w2 w3 : World} {out flt v2 v3 : Value} {k : Nat} {l : List Nat} {tot : List Int × List (Nat × Nat) × Int} {os : List Int} {fs : List (Nat × Nat)} {o o' : Obj} (h : DecRel w wr out flt 2 k l tot os fs)
    (hl : l ≠ []) {r e : Int} {n : Nat} (hx : nx l = (r, (n : Int), e)) (he : e ≠ 0) (h1 : 1 ≤ n) (ho : w2.ownsRow w.heap.size 50 2 v2 (fs.length + 1) (flts fs ++ [.int .i64 k, .int .i64 n])) (hg : (wr.alloc o).grownBy w2 flt.ownBlock)
    (ho3 : w3.ownsRow w.heap.size 21 1 v3 (os.length + 1) (i32s os ++ [.int .i32 65533])) (hg3 : (w2.alloc o').grownBy w3 out.ownBlock) :
    DecRel w w3 v3 v2 2 (k + n) (l.drop n) tot (os ++ [65533]) (fs ++ [(k, n)]) := by
  have ha := h.f.alloc o
  have hbl := h.bel.size
  have hb2 := h.bel.trans (((Below.refl _ _).alloc hbl _).trans (below_grown ha hg (by simp; omega)))
  have ho2 := (h.o.alloc o).kept hg (own_apart (h.o.alloc o) ha (by decide))
  have hbl2 := hb2.size
  refine ⟨hb2.trans (((Below.refl _ _).alloc hbl2 _).trans (below_grown (ho2.alloc o') hg3 (by simp; omega))), by simpa [i32s] using ho3, ?_, by simp; have := h.lo; omega, by simp; have := h.lf; omega, ?_⟩
  · have := (ho.alloc o').kept hg3 (own_apart (ho.alloc o') (ho2.alloc o') (by decide))
    simpa [flts_app, flts] using this
  · rw [h.tot, dec_bad 2 (by decide) k l hl r e n hx he h1]
    simp
theorem DecRel.keepO {w wr w2 : World} {out flt : Value} {pol : Int} {k : Nat} {l : List Nat} {tot : List Int × List (Nat × Nat) × Int} {os : List Int} {fs : List (Nat × Nat)} {o : Obj} (h : DecRel w wr out flt pol k l tot os fs) (hg : (wr.alloc o).grownBy w2 flt.ownBlock) :
    w2.ownsRow w.heap.size 21 1 out os.length (i32s os) ∧ w.heap.size ≤ w2.heap.size := by
  refine ⟨(h.o.alloc o).kept hg (own_apart (h.o.alloc o) (h.f.alloc o) (by decide)), ?_⟩
  have h1 := h.bel.size
  have h2 := hg.size
  simp at h2
  omega

def decP (pol : Int) (l : List Nat) : List Int × List (Nat × Nat) × Int := if pol = 1 ∨ pol = 2 ∨ pol = 3 then dec pol 0 l else ([], [], 16)

end Go.Proofs.YthnfopjjghohcaaDoor.U8

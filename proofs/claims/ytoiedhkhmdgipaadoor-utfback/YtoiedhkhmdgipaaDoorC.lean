import Derived.Test.YtoiedhkhmdgipaaDoorB
namespace Go.Proofs.YtoiedhkhmdgipaaDoor
open Go.RowKit

theorem xor_fact (c m : Nat) (hc : c < 256) (h : ∀ b : Fin 256, (c ≤ b.val ∧ b.val < c + m → b.val ^^^ c = b.val - c) ∧ (¬ (c ≤ b.val ∧ b.val < c + m) → m ≤ b.val ^^^ c)) (b : Int) (h0 : 0 ≤ b) (h1 : b < 256) :
    ((c : Int) ≤ b ∧ b < c + m → bits .xor .u8 b c = b - c) ∧ (¬ ((c : Int) ≤ b ∧ b < c + m) → ∃ q : Int, bits .xor .u8 b c = q ∧ (m : Int) ≤ q ∧ q < 256) := by
  obtain ⟨n, rfl⟩ := Int.eq_ofNat_of_zero_le h0
  have hn : n < 256 := by omega
  have := h ⟨n, hn⟩
  rw [u8_xor_nat n c hn hc]
  constructor
  · intro hh
    rw [this.1 (by simp; omega)]
    simp; omega
  · intro hh
    refine ⟨_, rfl, ?_, ?_⟩
    · have := this.2 (by simp; omega)
      simp at this
      omega
    · have : n ^^^ c < 2 ^ 8 := Nat.xor_lt_two_pow (by omega) (by omega)
      omega
theorem x0 (b : Int) (h0 : 0 ≤ b) (h1 : b < 256) : (0 ≤ b ∧ b < 128 → bits .xor .u8 b 0 = b - 0) ∧ (¬ (0 ≤ b ∧ b < 128) → ∃ q : Int, bits .xor .u8 b 0 = q ∧ 128 ≤ q ∧ q < 256) := by
  have h := xor_fact 0 128 (by omega) (by decide +kernel) b h0 h1
  simpa using h
theorem x2 (b : Int) (h0 : 0 ≤ b) (h1 : b < 256) : (192 ≤ b ∧ b < 224 → bits .xor .u8 b 192 = b - 192) ∧ (¬ (192 ≤ b ∧ b < 224) → ∃ q : Int, bits .xor .u8 b 192 = q ∧ 32 ≤ q ∧ q < 256) := by
  have h := xor_fact 192 32 (by omega) (by decide +kernel) b h0 h1
  simpa using h
theorem x3 (b : Int) (h0 : 0 ≤ b) (h1 : b < 256) : (224 ≤ b ∧ b < 240 → bits .xor .u8 b 224 = b - 224) ∧ (¬ (224 ≤ b ∧ b < 240) → ∃ q : Int, bits .xor .u8 b 224 = q ∧ 16 ≤ q ∧ q < 256) := by
  have h := xor_fact 224 16 (by omega) (by decide +kernel) b h0 h1
  simpa using h
theorem x4 (b : Int) (h0 : 0 ≤ b) (h1 : b < 256) : (240 ≤ b ∧ b < 248 → bits .xor .u8 b 240 = b - 240) ∧ (¬ (240 ≤ b ∧ b < 248) → ∃ q : Int, bits .xor .u8 b 240 = q ∧ 8 ≤ q ∧ q < 256) := by
  have h := xor_fact 240 8 (by omega) (by decide +kernel) b h0 h1
  simpa using h

theorem ld1 (r : Int) (h0 : 0 ≤ r) (h1 : r < 128) : ldB 1 r 1 = true := by
  simp [ldB, lenI, scal]; omega
theorem ld2y (r : Int) (h0 : 2 ≤ r) (h1 : r < 32) : ldB 64 r 2 = true := by
  have : lenI (r * 64) = 2 := by
    unfold lenI; rw [if_pos (by simp [scal]; omega), if_neg (by omega), if_pos (by omega)]
  simp [ldB, this]
theorem ld2n (r : Int) (h0 : 0 ≤ r) (h1 : r < 2) : ldB 64 r 2 = false := by
  have : r = 0 ∨ r = 1 := by omega
  rcases this with rfl | rfl <;> decide
theorem ld3 (r : Int) (h0 : 0 ≤ r) (h1 : r < 16) : ldB 4096 r 3 = true := by
  have : r = 0 ∨ r = 1 ∨ r = 2 ∨ r = 3 ∨ r = 4 ∨ r = 5 ∨ r = 6 ∨ r = 7 ∨ r = 8 ∨ r = 9 ∨ r = 10 ∨ r = 11 ∨ r = 12 ∨ r = 13 ∨ r = 14 ∨ r = 15 := by omega
  rcases this with rfl | rfl | rfl | rfl | rfl | rfl | rfl | rfl | rfl | rfl | rfl | rfl | rfl | rfl | rfl | rfl <;> decide
theorem ld4y (r : Int) (h0 : 0 ≤ r) (h1 : r < 5) : ldB 262144 r 4 = true := by
  have : r = 0 ∨ r = 1 ∨ r = 2 ∨ r = 3 ∨ r = 4 := by omega
  rcases this with rfl | rfl | rfl | rfl | rfl <;> decide
theorem ld4n (r : Int) (h0 : 5 ≤ r) (h1 : r < 8) : ldB 262144 r 4 = false := by
  have : r = 5 ∨ r = 6 ∨ r = 7 := by omega
  rcases this with rfl | rfl | rfl <;> decide

/-- How many bytes a character has that begins with the byte b, 0 if there is none; and which bits b holds. -/
def fsz (b : Int) : Int := if b < 128 then 1 else if b < 194 then 0 else if b < 224 then 2 else if b < 240 then 3 else if b < 245 then 4 else 0
def frv (b : Int) : Int := if b < 128 then b else if b < 194 then 0 else if b < 224 then b - 192 else if b < 240 then b - 224 else if b < 245 then b - 240 else 0

theorem ret2 {k l : IntKind} {a b c d : Int} (h : a = b) (h' : c = d) : Ending.returned (.tuple #[.int k a, .int l c]) = .returned (.tuple #[.int k b, .int l d]) := by rw [h, h']

set_option maxHeartbeats 1000000 in
theorem first_any (b : Int) (w : World) (hT : Tab w) (h0 : 0 ≤ b) (h1 : b < 256): Calls Tryd.prog 24 #[.int .u8 b] w fun e w' => e = .returned (.tuple #[.int .i64 (fsz b), .int .i32 (frv b)]) ∧ w = w' := by
  obtain ⟨-, -, -, -, d1, d2, d3, d4, b1, b2, b3, b4⟩ := id hT
  have y1 := x0 b h0 h1
  have y2 := x2 b h0 h1
  have y3 := x3 b h0 h1
  have y4 := x4 b h0 h1
  have Y1 := Lib.hid y1
  have Y2 := Lib.hid y2
  have Y3 := Lib.hid y3
  have Y4 := Lib.hid y4
  clear y1 y2 y3 y4
  go_enter Tryd.func24, Tryd.ntmps24
  go_wp2_with fail
  go_loop [3, 4] (fun r n => ∃ k : Int, n = .int .i64 k ∧ 1 ≤ k ∧ k ≤ 5 ∧ (1 < k → 128 ≤ b) ∧ (2 < k → b < 194 ∨ 224 ≤ b) ∧ (3 < k → b < 224 ∨ 240 ≤ b) ∧ (4 < k → b < 240 ∨ 245 ≤ b)) (fun _ n => (5 - intOf n).toNat)
  case atStart => exact ⟨1, rfl, by omega, by omega, by omega, by omega, by omega, by omega⟩
  case round =>
    obtain ⟨k, rfl, k1, k5, a1, a2, a3, a4⟩ := hrel
    have hk : k = 1 ∨ k = 2 ∨ k = 3 ∨ k = 4 ∨ k = 5 := by omega
    rcases hk with rfl | rfl | rfl | rfl | rfl
    · clear a1 a2 a3 a4 k1 k5
      by_cases hr : b < 128
      · have hx := Y1.out.1 (by omega)
        simp only [Int.sub_zero] at hx
        have hl := Lib.hid (ld1 b h0 hr)
        go_wp2_with fail
        refine (leads11 _ _ hT (by omega) (by omega)).mono ?_
        rintro e w' ⟨rfl, rfl⟩
        rw [hl.out]
        go_wp2
        go_ret2
        exact ⟨ret2 (by simp [fsz, hr]) (by simp [frv, hr]), rfl⟩
      · obtain ⟨q, hx, q1, q2⟩ := Y1.out.2 (by omega)
        go_wp2
        go_round
        case rel => exact ⟨2, rfl, by omega, by omega, by omega, by omega, by omega, by omega⟩
        case measure => simp [intOf]
    · replace a1 := a1 (by omega)
      clear a2 a3 a4 k1 k5
      by_cases hr : 192 ≤ b ∧ b < 224
      · have hx := Y2.out.1 (by omega)
        by_cases hs : b < 194
        · have hl := Lib.hid (ld2n (b - 192) (by omega) (by omega))
          go_wp2_with fail
          refine (leads21 _ _ hT (by omega) (by omega)).mono ?_
          rintro e w' ⟨rfl, rfl⟩
          rw [hl.out]
          go_wp2
          go_round
          case rel => exact ⟨3, rfl, by omega, by omega, by omega, by omega, by omega, by omega⟩
          case measure => simp [intOf]
        · have hl := Lib.hid (ld2y (b - 192) (by omega) (by omega))
          go_wp2_with fail
          refine (leads21 _ _ hT (by omega) (by omega)).mono ?_
          rintro e w' ⟨rfl, rfl⟩
          rw [hl.out]
          go_wp2
          go_ret2
          exact ⟨ret2 (by unfold fsz; rw [if_neg (by omega), if_neg (by omega), if_pos (by omega)]) (by unfold frv; rw [if_neg (by omega), if_neg (by omega), if_pos (by omega)]), rfl⟩
      · obtain ⟨q, hx, q1, q2⟩ := Y2.out.2 (by omega)
        go_wp2
        go_round
        case rel => exact ⟨3, rfl, by omega, by omega, by omega, by omega, by omega, by omega⟩
        case measure => simp [intOf]
    · replace a2 := a2 (by omega)
      replace a1 := a1 (by omega)
      clear a3 a4 k1 k5
      by_cases hr : 224 ≤ b ∧ b < 240
      · have hx := Y3.out.1 (by omega)
        have hl := Lib.hid (ld3 (b - 224) (by omega) (by omega))
        go_wp2_with fail
        refine (leads31 _ _ hT (by omega) (by omega)).mono ?_
        rintro e w' ⟨rfl, rfl⟩
        rw [hl.out]
        go_wp2
        go_ret2
        exact ⟨ret2 (by unfold fsz; rw [if_neg (by omega), if_neg (by omega), if_neg (by omega), if_pos (by omega)]) (by unfold frv; rw [if_neg (by omega), if_neg (by omega), if_neg (by omega), if_pos (by omega)]), rfl⟩
      · obtain ⟨q, hx, q1, q2⟩ := Y3.out.2 (by omega)
        go_wp2
        go_round
        case rel => exact ⟨4, rfl, by omega, by omega, by omega, by omega, by omega, by omega⟩
        case measure => simp [intOf]
    · replace a3 := a3 (by omega)
      replace a2 := a2 (by omega)
      replace a1 := a1 (by omega)
      clear a4 k1 k5
      by_cases hr : 240 ≤ b ∧ b < 248
      · have hx := Y4.out.1 (by omega)
        by_cases hs : b < 245
        · have hl := Lib.hid (ld4y (b - 240) (by omega) (by omega))
          go_wp2_with fail
          refine (leads41 _ _ hT (by omega) (by omega)).mono ?_
          rintro e w' ⟨rfl, rfl⟩
          rw [hl.out]
          go_wp2
          go_ret2
          exact ⟨ret2 (by unfold fsz; rw [if_neg (by omega), if_neg (by omega), if_neg (by omega), if_neg (by omega), if_pos (by omega)]) (by unfold frv; rw [if_neg (by omega), if_neg (by omega), if_neg (by omega), if_neg (by omega), if_pos (by omega)]), rfl⟩
        · have hl := Lib.hid (ld4n (b - 240) (by omega) (by omega))
          go_wp2_with fail
          refine (leads41 _ _ hT (by omega) (by omega)).mono ?_
          rintro e w' ⟨rfl, rfl⟩
          rw [hl.out]
          go_wp2
          go_round
          case rel => exact ⟨5, rfl, by omega, by omega, by omega, by omega, by omega, by omega⟩
          case measure => simp [intOf]
      · obtain ⟨q, hx, q1, q2⟩ := Y4.out.2 (by omega)
        go_wp2
        go_round
        case rel => exact ⟨5, rfl, by omega, by omega, by omega, by omega, by omega, by omega⟩
        case measure => simp [intOf]
    · replace a4 := a4 (by omega)
      replace a3 := a3 (by omega)
      replace a2 := a2 (by omega)
      replace a1 := a1 (by omega)
      clear k1 k5
      go_wp2
      go_ret2
      exact ⟨ret2 (by unfold fsz; rw [if_neg (by omega)]; (repeat' split) <;> omega) (by unfold frv; rw [if_neg (by omega)]; (repeat' split) <;> omega), rfl⟩
end Go.Proofs.YtoiedhkhmdgipaaDoor

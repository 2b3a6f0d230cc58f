import Derived.Test.YtohjkpdelopknaaDoorF
namespace Go.Proofs.YtohjkpdelopknaaDoor
open Go.RowKit
theorem size2 (k : Int) (w : World) (h : k ≤ 2) : Calls Tryd.prog 28 #[.int .i64 k] w fun e w' => e = .returned (.int .i64 2) ∧ w = w' := by
  go_enter Tryd.func28, Tryd.ntmps28
  go_wp2
  go_ret
  exact ⟨rfl, rfl⟩
theorem size4 (k : Int) (w : World) (h : ¬ k ≤ 2) : Calls Tryd.prog 28 #[.int .i64 k] w fun e w' => e = .returned (.int .i64 4) ∧ w = w' := by
  go_enter Tryd.func28, Tryd.ntmps28
  go_wp2
  go_ret
  exact ⟨rfl, rfl⟩
theorem size_any (k : Nat) (w : World) : Calls Tryd.prog 28 #[.int .i64 (k : Int)] w fun e w' => e = .returned (.int .i64 (szK k : Int)) ∧ w = w' := by
  by_cases h : k ≤ 2
  · have hz : szK k = 2 := by simp [szK, h]
    rw [hz]; exact size2 k w (by omega)
  · have hz : szK k = 4 := by unfold szK; rw [if_neg h]
    rw [hz]; exact size4 k w (by omega)
theorem may_yes (k : Int) (w : World) (h1 : 1 ≤ k) (h4 : k ≤ 4) : Calls Tryd.prog 13 #[.int .i64 k] w fun e w' => e = .returned (.bool true) ∧ w = w' := by
  go_enter Tryd.func13, Tryd.ntmps13
  go_wp2
  go_ret
  exact ⟨rfl, rfl⟩
theorem may_no (k : Int) (w : World) (h : k < 1 ∨ 4 < k) : Calls Tryd.prog 13 #[.int .i64 k] w fun e w' => e = .returned (.bool false) ∧ w = w' := by
  rcases h with h | h
  · go_enter Tryd.func13, Tryd.ntmps13
    go_wp2
    go_ret
    exact ⟨rfl, rfl⟩
  · have h1 : 1 ≤ k := by omega
    have h4 : ¬ k ≤ 4 := by omega
    go_enter Tryd.func13, Tryd.ntmps13
    go_wp2
    go_ret
    exact ⟨ret_bool (by simp), rfl⟩
set_option maxRecDepth 100000 in
set_option maxHeartbeats 1000000 in
theorem number1 (s : ByteArray) (w : World) (h0 : 0 < s.size) (h1 : 1 < s.size) (hz : s.size ≤ 100000) :
    Calls Tryd.prog 29 #[.int .i64 1, .string s] w fun e w' => e = .returned (.int .i64 ((s[1].toNat * 256 + s[0].toNat : Nat) : Int)) ∧ w = w' := by
  have b0 : s[0].toNat < 256 := by have := s[0].toNat_lt; omega
  have r0 : (0 : Int) < s.size := by omega
  have b1 : s[1].toNat < 256 := by have := s[1].toNat_lt; omega
  have r1 : (1 : Int) < s.size := by omega
  obtain ⟨a1, ha1⟩ : ∃ a : Nat, a = s[1].toNat := ⟨_, rfl⟩
  obtain ⟨a2, ha2⟩ : ∃ a : Nat, a = s[1].toNat * 256 + s[0].toNat := ⟨_, rfl⟩
  have n1 : a1 < 256 := by omega
  have A1 := Lib.hid (show (a1 : Int) = (s[1].toNat : Int) by omega)
  have n2 : a2 < 65536 := by omega
  have A2 := Lib.hid (show (a2 : Int) = (a1 : Int) * 256 + (s[0].toNat : Int) by omega)
  have AZ := Lib.hid ha2
  clear ha1 ha2
  go_enter Tryd.func29, Tryd.ntmps29
  go_wp2_with fail
  go_loop [5, 6] (fun n i => ∃ j : Nat, i = .int .i64 j ∧ j ≤ 2 ∧ n = .int .i64 ((if j = 0 then 0 else if j = 1 then a1 else a2 : Nat) : Int)) (fun _ i => 2 - (intOf i).toNat)
  case atStart => exact ⟨0, rfl, by omega, rfl⟩
  case round =>
    obtain ⟨j, rfl, hj, rfl⟩ := hrel
    have hj' : j = 0 ∨ j = 1 ∨ j = 2 := by omega
    rcases hj' with rfl | rfl | rfl
    · rw [if_pos rfl, show ((0 : Nat) : Int) = 0 from rfl]
      go_wp2_with (go_at_call 28; refine (size2 1 _ (by omega)).mono ?_; rintro e w' ⟨rfl, rfl⟩)
      go_round
      case rel => exact ⟨1, rfl, by omega, by have := A1.out; first | (rw [show ((if 1 = 0 then 0 else if 1 = 1 then a1 else a2 : Nat)) = a1 from rfl, this]; go_num) | (rw [show ((if 1 = 0 then 0 else if 1 = 1 then a1 else a2 : Nat)) = a1 from rfl, this])⟩
      case measure => simp [intOf]
    · rw [if_neg (by decide), if_pos rfl, show ((1 : Nat) : Int) = 1 from rfl]
      go_wp2_with (go_at_call 28; refine (size2 1 _ (by omega)).mono ?_; rintro e w' ⟨rfl, rfl⟩)
      go_round
      case rel => exact ⟨2, rfl, by omega, by have := A2.out; first | (rw [show ((if 2 = 0 then 0 else if 2 = 1 then a1 else a2 : Nat)) = a2 from rfl, this]; go_num) | (rw [show ((if 2 = 0 then 0 else if 2 = 1 then a1 else a2 : Nat)) = a2 from rfl, this])⟩
      case measure => simp [intOf]
    · rw [if_neg (by decide), if_neg (by decide), show ((2 : Nat) : Int) = 2 from rfl]
      go_wp2_with (go_at_call 28; refine (size2 1 _ (by omega)).mono ?_; rintro e w' ⟨rfl, rfl⟩)
      go_ret
      exact ⟨ret_int (by rw [AZ.out]), rfl⟩
set_option maxRecDepth 100000 in
set_option maxHeartbeats 1000000 in
theorem number2 (s : ByteArray) (w : World) (h0 : 0 < s.size) (h1 : 1 < s.size) (hz : s.size ≤ 100000) :
    Calls Tryd.prog 29 #[.int .i64 2, .string s] w fun e w' => e = .returned (.int .i64 ((s[0].toNat * 256 + s[1].toNat : Nat) : Int)) ∧ w = w' := by
  have b0 : s[0].toNat < 256 := by have := s[0].toNat_lt; omega
  have r0 : (0 : Int) < s.size := by omega
  have b1 : s[1].toNat < 256 := by have := s[1].toNat_lt; omega
  have r1 : (1 : Int) < s.size := by omega
  obtain ⟨a1, ha1⟩ : ∃ a : Nat, a = s[0].toNat := ⟨_, rfl⟩
  obtain ⟨a2, ha2⟩ : ∃ a : Nat, a = s[0].toNat * 256 + s[1].toNat := ⟨_, rfl⟩
  have n1 : a1 < 256 := by omega
  have A1 := Lib.hid (show (a1 : Int) = (s[0].toNat : Int) by omega)
  have n2 : a2 < 65536 := by omega
  have A2 := Lib.hid (show (a2 : Int) = (a1 : Int) * 256 + (s[1].toNat : Int) by omega)
  have AZ := Lib.hid ha2
  clear ha1 ha2
  go_enter Tryd.func29, Tryd.ntmps29
  go_wp2_with fail
  go_loop [5, 6] (fun n i => ∃ j : Nat, i = .int .i64 j ∧ j ≤ 2 ∧ n = .int .i64 ((if j = 0 then 0 else if j = 1 then a1 else a2 : Nat) : Int)) (fun _ i => 2 - (intOf i).toNat)
  case atStart => exact ⟨0, rfl, by omega, rfl⟩
  case round =>
    obtain ⟨j, rfl, hj, rfl⟩ := hrel
    have hj' : j = 0 ∨ j = 1 ∨ j = 2 := by omega
    rcases hj' with rfl | rfl | rfl
    · rw [if_pos rfl, show ((0 : Nat) : Int) = 0 from rfl]
      go_wp2_with (go_at_call 28; refine (size2 2 _ (by omega)).mono ?_; rintro e w' ⟨rfl, rfl⟩)
      go_round
      case rel => exact ⟨1, rfl, by omega, by have := A1.out; first | (rw [show ((if 1 = 0 then 0 else if 1 = 1 then a1 else a2 : Nat)) = a1 from rfl, this]; go_num) | (rw [show ((if 1 = 0 then 0 else if 1 = 1 then a1 else a2 : Nat)) = a1 from rfl, this])⟩
      case measure => simp [intOf]
    · rw [if_neg (by decide), if_pos rfl, show ((1 : Nat) : Int) = 1 from rfl]
      go_wp2_with (go_at_call 28; refine (size2 2 _ (by omega)).mono ?_; rintro e w' ⟨rfl, rfl⟩)
      go_round
      case rel => exact ⟨2, rfl, by omega, by have := A2.out; first | (rw [show ((if 2 = 0 then 0 else if 2 = 1 then a1 else a2 : Nat)) = a2 from rfl, this]; go_num) | (rw [show ((if 2 = 0 then 0 else if 2 = 1 then a1 else a2 : Nat)) = a2 from rfl, this])⟩
      case measure => simp [intOf]
    · rw [if_neg (by decide), if_neg (by decide), show ((2 : Nat) : Int) = 2 from rfl]
      go_wp2_with (go_at_call 28; refine (size2 2 _ (by omega)).mono ?_; rintro e w' ⟨rfl, rfl⟩)
      go_ret
      exact ⟨ret_int (by rw [AZ.out]), rfl⟩
set_option maxRecDepth 100000 in
set_option maxHeartbeats 1000000 in
theorem number3 (s : ByteArray) (w : World) (h0 : 0 < s.size) (h1 : 1 < s.size) (h2 : 2 < s.size) (h3 : 3 < s.size) (hz : s.size ≤ 100000) :
    Calls Tryd.prog 29 #[.int .i64 3, .string s] w fun e w' => e = .returned (.int .i64 ((s[3].toNat * 16777216 + s[2].toNat * 65536 + s[1].toNat * 256 + s[0].toNat : Nat) : Int)) ∧ w = w' := by
  have b0 : s[0].toNat < 256 := by have := s[0].toNat_lt; omega
  have r0 : (0 : Int) < s.size := by omega
  have b1 : s[1].toNat < 256 := by have := s[1].toNat_lt; omega
  have r1 : (1 : Int) < s.size := by omega
  have b2 : s[2].toNat < 256 := by have := s[2].toNat_lt; omega
  have r2 : (2 : Int) < s.size := by omega
  have b3 : s[3].toNat < 256 := by have := s[3].toNat_lt; omega
  have r3 : (3 : Int) < s.size := by omega
  obtain ⟨a1, ha1⟩ : ∃ a : Nat, a = s[3].toNat := ⟨_, rfl⟩
  obtain ⟨a2, ha2⟩ : ∃ a : Nat, a = s[3].toNat * 256 + s[2].toNat := ⟨_, rfl⟩
  obtain ⟨a3, ha3⟩ : ∃ a : Nat, a = s[3].toNat * 65536 + s[2].toNat * 256 + s[1].toNat := ⟨_, rfl⟩
  obtain ⟨a4, ha4⟩ : ∃ a : Nat, a = s[3].toNat * 16777216 + s[2].toNat * 65536 + s[1].toNat * 256 + s[0].toNat := ⟨_, rfl⟩
  have n1 : a1 < 256 := by omega
  have A1 := Lib.hid (show (a1 : Int) = (s[3].toNat : Int) by omega)
  have n2 : a2 < 65536 := by omega
  have A2 := Lib.hid (show (a2 : Int) = (a1 : Int) * 256 + (s[2].toNat : Int) by omega)
  have n3 : a3 < 16777216 := by omega
  have A3 := Lib.hid (show (a3 : Int) = (a2 : Int) * 256 + (s[1].toNat : Int) by omega)
  have n4 : a4 < 4294967296 := by omega
  have A4 := Lib.hid (show (a4 : Int) = (a3 : Int) * 256 + (s[0].toNat : Int) by omega)
  have AZ := Lib.hid ha4
  clear ha1 ha2 ha3 ha4
  go_enter Tryd.func29, Tryd.ntmps29
  go_wp2_with fail
  go_loop [5, 6] (fun n i => ∃ j : Nat, i = .int .i64 j ∧ j ≤ 4 ∧ n = .int .i64 ((if j = 0 then 0 else if j = 1 then a1 else if j = 2 then a2 else if j = 3 then a3 else a4 : Nat) : Int)) (fun _ i => 4 - (intOf i).toNat)
  case atStart => exact ⟨0, rfl, by omega, rfl⟩
  case round =>
    obtain ⟨j, rfl, hj, rfl⟩ := hrel
    have hj' : j = 0 ∨ j = 1 ∨ j = 2 ∨ j = 3 ∨ j = 4 := by omega
    rcases hj' with rfl | rfl | rfl | rfl | rfl
    · rw [if_pos rfl, show ((0 : Nat) : Int) = 0 from rfl]
      go_wp2_with (go_at_call 28; refine (size4 3 _ (by omega)).mono ?_; rintro e w' ⟨rfl, rfl⟩)
      go_round
      case rel => exact ⟨1, rfl, by omega, by have := A1.out; first | (rw [show ((if 1 = 0 then 0 else if 1 = 1 then a1 else if 1 = 2 then a2 else if 1 = 3 then a3 else a4 : Nat)) = a1 from rfl, this]; go_num) | (rw [show ((if 1 = 0 then 0 else if 1 = 1 then a1 else if 1 = 2 then a2 else if 1 = 3 then a3 else a4 : Nat)) = a1 from rfl, this])⟩
      case measure => simp [intOf]
    · rw [if_neg (by decide), if_pos rfl, show ((1 : Nat) : Int) = 1 from rfl]
      go_wp2_with (go_at_call 28; refine (size4 3 _ (by omega)).mono ?_; rintro e w' ⟨rfl, rfl⟩)
      go_round
      case rel => exact ⟨2, rfl, by omega, by have := A2.out; first | (rw [show ((if 2 = 0 then 0 else if 2 = 1 then a1 else if 2 = 2 then a2 else if 2 = 3 then a3 else a4 : Nat)) = a2 from rfl, this]; go_num) | (rw [show ((if 2 = 0 then 0 else if 2 = 1 then a1 else if 2 = 2 then a2 else if 2 = 3 then a3 else a4 : Nat)) = a2 from rfl, this])⟩
      case measure => simp [intOf]
    · rw [if_neg (by decide), if_neg (by decide), if_pos rfl, show ((2 : Nat) : Int) = 2 from rfl]
      go_wp2_with (go_at_call 28; refine (size4 3 _ (by omega)).mono ?_; rintro e w' ⟨rfl, rfl⟩)
      go_round
      case rel => exact ⟨3, rfl, by omega, by have := A3.out; first | (rw [show ((if 3 = 0 then 0 else if 3 = 1 then a1 else if 3 = 2 then a2 else if 3 = 3 then a3 else a4 : Nat)) = a3 from rfl, this]; go_num) | (rw [show ((if 3 = 0 then 0 else if 3 = 1 then a1 else if 3 = 2 then a2 else if 3 = 3 then a3 else a4 : Nat)) = a3 from rfl, this])⟩
      case measure => simp [intOf]
    · rw [if_neg (by decide), if_neg (by decide), if_neg (by decide), if_pos rfl, show ((3 : Nat) : Int) = 3 from rfl]
      go_wp2_with (go_at_call 28; refine (size4 3 _ (by omega)).mono ?_; rintro e w' ⟨rfl, rfl⟩)
      go_round
      case rel => exact ⟨4, rfl, by omega, by have := A4.out; first | (rw [show ((if 4 = 0 then 0 else if 4 = 1 then a1 else if 4 = 2 then a2 else if 4 = 3 then a3 else a4 : Nat)) = a4 from rfl, this]; go_num) | (rw [show ((if 4 = 0 then 0 else if 4 = 1 then a1 else if 4 = 2 then a2 else if 4 = 3 then a3 else a4 : Nat)) = a4 from rfl, this])⟩
      case measure => simp [intOf]
    · rw [if_neg (by decide), if_neg (by decide), if_neg (by decide), if_neg (by decide), show ((4 : Nat) : Int) = 4 from rfl]
      go_wp2_with (go_at_call 28; refine (size4 3 _ (by omega)).mono ?_; rintro e w' ⟨rfl, rfl⟩)
      go_ret
      exact ⟨ret_int (by rw [AZ.out]), rfl⟩
set_option maxRecDepth 100000 in
set_option maxHeartbeats 1000000 in
theorem number4 (s : ByteArray) (w : World) (h0 : 0 < s.size) (h1 : 1 < s.size) (h2 : 2 < s.size) (h3 : 3 < s.size) (hz : s.size ≤ 100000) :
    Calls Tryd.prog 29 #[.int .i64 4, .string s] w fun e w' => e = .returned (.int .i64 ((s[0].toNat * 16777216 + s[1].toNat * 65536 + s[2].toNat * 256 + s[3].toNat : Nat) : Int)) ∧ w = w' := by
  have b0 : s[0].toNat < 256 := by have := s[0].toNat_lt; omega
  have r0 : (0 : Int) < s.size := by omega
  have b1 : s[1].toNat < 256 := by have := s[1].toNat_lt; omega
  have r1 : (1 : Int) < s.size := by omega
  have b2 : s[2].toNat < 256 := by have := s[2].toNat_lt; omega
  have r2 : (2 : Int) < s.size := by omega
  have b3 : s[3].toNat < 256 := by have := s[3].toNat_lt; omega
  have r3 : (3 : Int) < s.size := by omega
  obtain ⟨a1, ha1⟩ : ∃ a : Nat, a = s[0].toNat := ⟨_, rfl⟩
  obtain ⟨a2, ha2⟩ : ∃ a : Nat, a = s[0].toNat * 256 + s[1].toNat := ⟨_, rfl⟩
  obtain ⟨a3, ha3⟩ : ∃ a : Nat, a = s[0].toNat * 65536 + s[1].toNat * 256 + s[2].toNat := ⟨_, rfl⟩
  obtain ⟨a4, ha4⟩ : ∃ a : Nat, a = s[0].toNat * 16777216 + s[1].toNat * 65536 + s[2].toNat * 256 + s[3].toNat := ⟨_, rfl⟩
  have n1 : a1 < 256 := by omega
  have A1 := Lib.hid (show (a1 : Int) = (s[0].toNat : Int) by omega)
  have n2 : a2 < 65536 := by omega
  have A2 := Lib.hid (show (a2 : Int) = (a1 : Int) * 256 + (s[1].toNat : Int) by omega)
  have n3 : a3 < 16777216 := by omega
  have A3 := Lib.hid (show (a3 : Int) = (a2 : Int) * 256 + (s[2].toNat : Int) by omega)
  have n4 : a4 < 4294967296 := by omega
  have A4 := Lib.hid (show (a4 : Int) = (a3 : Int) * 256 + (s[3].toNat : Int) by omega)
  have AZ := Lib.hid ha4
  clear ha1 ha2 ha3 ha4
  go_enter Tryd.func29, Tryd.ntmps29
  go_wp2_with fail
  go_loop [5, 6] (fun n i => ∃ j : Nat, i = .int .i64 j ∧ j ≤ 4 ∧ n = .int .i64 ((if j = 0 then 0 else if j = 1 then a1 else if j = 2 then a2 else if j = 3 then a3 else a4 : Nat) : Int)) (fun _ i => 4 - (intOf i).toNat)
  case atStart => exact ⟨0, rfl, by omega, rfl⟩
  case round =>
    obtain ⟨j, rfl, hj, rfl⟩ := hrel
    have hj' : j = 0 ∨ j = 1 ∨ j = 2 ∨ j = 3 ∨ j = 4 := by omega
    rcases hj' with rfl | rfl | rfl | rfl | rfl
    · rw [if_pos rfl, show ((0 : Nat) : Int) = 0 from rfl]
      go_wp2_with (go_at_call 28; refine (size4 4 _ (by omega)).mono ?_; rintro e w' ⟨rfl, rfl⟩)
      go_round
      case rel => exact ⟨1, rfl, by omega, by have := A1.out; first | (rw [show ((if 1 = 0 then 0 else if 1 = 1 then a1 else if 1 = 2 then a2 else if 1 = 3 then a3 else a4 : Nat)) = a1 from rfl, this]; go_num) | (rw [show ((if 1 = 0 then 0 else if 1 = 1 then a1 else if 1 = 2 then a2 else if 1 = 3 then a3 else a4 : Nat)) = a1 from rfl, this])⟩
      case measure => simp [intOf]
    · rw [if_neg (by decide), if_pos rfl, show ((1 : Nat) : Int) = 1 from rfl]
      go_wp2_with (go_at_call 28; refine (size4 4 _ (by omega)).mono ?_; rintro e w' ⟨rfl, rfl⟩)
      go_round
      case rel => exact ⟨2, rfl, by omega, by have := A2.out; first | (rw [show ((if 2 = 0 then 0 else if 2 = 1 then a1 else if 2 = 2 then a2 else if 2 = 3 then a3 else a4 : Nat)) = a2 from rfl, this]; go_num) | (rw [show ((if 2 = 0 then 0 else if 2 = 1 then a1 else if 2 = 2 then a2 else if 2 = 3 then a3 else a4 : Nat)) = a2 from rfl, this])⟩
      case measure => simp [intOf]
    · rw [if_neg (by decide), if_neg (by decide), if_pos rfl, show ((2 : Nat) : Int) = 2 from rfl]
      go_wp2_with (go_at_call 28; refine (size4 4 _ (by omega)).mono ?_; rintro e w' ⟨rfl, rfl⟩)
      go_round
      case rel => exact ⟨3, rfl, by omega, by have := A3.out; first | (rw [show ((if 3 = 0 then 0 else if 3 = 1 then a1 else if 3 = 2 then a2 else if 3 = 3 then a3 else a4 : Nat)) = a3 from rfl, this]; go_num) | (rw [show ((if 3 = 0 then 0 else if 3 = 1 then a1 else if 3 = 2 then a2 else if 3 = 3 then a3 else a4 : Nat)) = a3 from rfl, this])⟩
      case measure => simp [intOf]
    · rw [if_neg (by decide), if_neg (by decide), if_neg (by decide), if_pos rfl, show ((3 : Nat) : Int) = 3 from rfl]
      go_wp2_with (go_at_call 28; refine (size4 4 _ (by omega)).mono ?_; rintro e w' ⟨rfl, rfl⟩)
      go_round
      case rel => exact ⟨4, rfl, by omega, by have := A4.out; first | (rw [show ((if 4 = 0 then 0 else if 4 = 1 then a1 else if 4 = 2 then a2 else if 4 = 3 then a3 else a4 : Nat)) = a4 from rfl, this]; go_num) | (rw [show ((if 4 = 0 then 0 else if 4 = 1 then a1 else if 4 = 2 then a2 else if 4 = 3 then a3 else a4 : Nat)) = a4 from rfl, this])⟩
      case measure => simp [intOf]
    · rw [if_neg (by decide), if_neg (by decide), if_neg (by decide), if_neg (by decide), show ((4 : Nat) : Int) = 4 from rfl]
      go_wp2_with (go_at_call 28; refine (size4 4 _ (by omega)).mono ?_; rintro e w' ⟨rfl, rfl⟩)
      go_ret
      exact ⟨ret_int (by rw [AZ.out]), rfl⟩
end Go.Proofs.YtohjkpdelopknaaDoor

import Derived.Test.YtajhgbcgbgpcjaaDoorFC
import Derived.Test.YtajhgbcgbgpcjaaDoorFP
namespace Go.Proofs.YtajhgbcgbgpcjaaDoor.Fi
open Go.RowKit

def dz (b : Nat) : Int := if dv b = 16 then -1 else (dv b : Int)
theorem dz_no {b : Nat} (h : ¬ dv b < 16) : dz b = -1 := by have := dv_le b; unfold dz; rw [if_pos (by omega)]
theorem dz_yes {b : Nat} (h : dv b < 16) : dz b = (dv b : Int) := by unfold dz; rw [if_neg (by omega)]
set_option maxHeartbeats 400000 in
theorem rdigit_any (b : Nat) (w : World) (hb : b < 256) : Calls Tryd.prog 67 #[.int .u8 b] w fun e w' => e = .returned (.int .i64 (dz b)) ∧ w = w' := by
  by_cases h1 : 48 ≤ b ∧ b ≤ 57
  · have hv : dv b = b - 48 := by unfold dv; rw [if_pos h1]
    have H := Lib.hid (show dz b = (b : Int) - 48 by rw [dz_yes (by omega), hv]; omega)
    obtain ⟨a1, a2⟩ := h1
    have c1 : (48 : Int) ≤ b := by omega
    have c2 : (b : Int) ≤ 57 := by omega
    clear hv
    go_enter Tryd.func67, Tryd.ntmps67
    go_wp2
    go_ret
    exact ⟨ret_int (by rw [H.out]), rfl⟩
  · by_cases h2 : 97 ≤ b ∧ b ≤ 102
    · have hv : dv b = b - 87 := by unfold dv; rw [if_neg h1, if_pos h2]
      have H := Lib.hid (show dz b = (b : Int) - 87 by rw [dz_yes (by omega), hv]; omega)
      obtain ⟨a1, a2⟩ := h2
      clear h1 hv
      have c1 : (97 : Int) ≤ b := by omega
      have c2 : (b : Int) ≤ 102 := by omega
      go_enter Tryd.func67, Tryd.ntmps67
      go_wp2
      go_ret
      exact ⟨ret_int (by rw [H.out]; omega), rfl⟩
    · by_cases h3 : 65 ≤ b ∧ b ≤ 70
      · have hv : dv b = b - 55 := by unfold dv; rw [if_neg h1, if_neg h2, if_pos h3]
        have H := Lib.hid (show dz b = (b : Int) - 55 by rw [dz_yes (by omega), hv]; omega)
        obtain ⟨a1, a2⟩ := h3
        clear h1 h2 hv
        have c1 : (65 : Int) ≤ b := by omega
        have c2 : (b : Int) ≤ 70 := by omega
        go_enter Tryd.func67, Tryd.ntmps67
        go_wp2
        go_ret
        exact ⟨ret_int (by rw [H.out]; omega), rfl⟩
      · have hv : dv b = 16 := by unfold dv; rw [if_neg h1, if_neg h2, if_neg h3]
        have H := Lib.hid (show dz b = -1 from dz_no (by omega))
        clear hv
        go_enter Tryd.func67, Tryd.ntmps67
        go_wp2
        all_goals first
          | (exfalso; omega)
          | (go_ret; exact ⟨ret_int (by rw [H.out]), rfl⟩)
set_option maxRecDepth 100000 in
set_option maxHeartbeats 2000000 in
theorem rhex_any (s : ByteArray) (w : World) (hs : s.size ≤ 9223372036854775807) :
    Calls Tryd.prog 43 #[.string s] w fun e w' => e = .returned (reV (hexE s.data.toList)) ∧ w = w' := by
  by_cases h0 : s.size = 0 ∨ 6 < s.size
  · have H := Lib.hid (hexE_none (l := s.data.toList) (digs_len (by rw [lst_len]; exact h0)))
    rcases h0 with h0 | h0
    · have g1 : (s.size : Int) < 1 := by omega
      go_enter Tryd.func43, Tryd.ntmps43
      go_wp2_with fail
      go_ret2
      exact ⟨ret_eq (by rw [H.out]; rfl), rfl⟩
    · have g1 : ¬ (s.size : Int) < 1 := by omega
      have g2 : (6 : Int) < s.size := by omega
      go_enter Tryd.func43, Tryd.ntmps43
      go_wp2_with fail
      go_ret2
      exact ⟨ret_eq (by rw [H.out]; rfl), rfl⟩
  · have H := Lib.hid (show digs 16 6 s.data.toList = dgs 16 0 s.data.toList from digs_in (by rw [lst_len]; exact h0))
    have g1 : ¬ (s.size : Int) < 1 := by omega
    have g2 : ¬ (6 : Int) < s.size := by omega
    go_enter Tryd.func43, Tryd.ntmps43
    go_wp2_with fail
    go_loop [4, 5] (fun n i => ∃ k m : Nat, i = .int .i64 k ∧ n = .int .i64 m ∧ k ≤ s.size ∧ m < 16 ^ k ∧ Hid (dgs 16 m (s.data.toList.drop k) = dgs 16 0 s.data.toList)) (fun _ i => s.size - (intOf i).toNat)
    case atStart => exact ⟨0, 0, rfl, rfl, by omega, by simp, rfl⟩
    case round =>
      obtain ⟨k, m, rfl, rfl, hk, hm, HD⟩ := hrel
      have hP : 16 ^ k ≤ 16777216 := Nat.le_trans (Nat.pow_le_pow_right (by omega) (show k ≤ 6 by omega)) (by decide)
      have hm2 : m ≤ 16777215 := by omega
      have HM := Lib.hid hm
      clear hm hP
      by_cases hlt : k < s.size
      · have hcut := Lib.hid (lst_at s k hlt)
        have hcl := UInt8.toNat_lt s[k]
        have hdl := dv_le s[k].toNat
        have hdg := fun W => rdigit_any s[k].toNat W hcl
        by_cases hd : dv s[k].toNat < 16
        · rw [dz_yes hd] at hdg
          have HG := Lib.hid hdg
          have HQ := Lib.hid (show dgs 16 (m * 16 + dv s[k].toNat) (s.data.toList.drop (k + 1)) = dgs 16 0 s.data.toList by rw [← HD.out, hcut.out, dgs, if_pos hd])
          clear hdg hcut
          go_wp2_with (go_at_call 67; refine (HG.out _).mono ?_; rintro e w' ⟨rfl, rfl⟩)
          go_round
          case rel =>
            have e5 : 16 ^ (k + 1) = 16 ^ k * 16 := Nat.pow_succ ..
            have e4 := HM.out
            exact ⟨k + 1, m * 16 + dv s[k].toNat, by go_num, by go_num, by omega, by omega, HQ.out⟩
          case measure => simp [intOf]; omega
        · rw [dz_no hd] at hdg
          have HG := Lib.hid hdg
          have HQ := Lib.hid (hexE_none (l := s.data.toList) (by rw [H.out, ← HD.out, hcut.out, dgs, if_neg hd]))
          clear hdg hcut
          go_wp2_with (go_at_call 67; refine (HG.out _).mono ?_; rintro e w' ⟨rfl, rfl⟩)
          go_ret2
          exact ⟨ret_eq (by rw [HQ.out]; rfl), rfl⟩
      · have hE : digs 16 6 s.data.toList = some m := by rw [H.out, ← HD.out, lst_end s k (by omega), dgs]
        cases hsc : scal (m : Int) with
        | false =>
          have HQ := Lib.hid (hexE_no hE hsc)
          have HS := Lib.hid hsc
          clear hE hsc
          go_wp2_with (go_at_call 15; refine (scalar_any _ _).mono ?_; rw [HS.out]; rintro e w' ⟨rfl, rfl⟩)
          go_ret2
          exact ⟨ret_eq (by rw [HQ.out]; rfl), rfl⟩
        | true =>
          have HQ := Lib.hid (hexE_yes hE hsc)
          have HS := Lib.hid hsc
          clear hE hsc
          go_wp2_with (go_at_call 15; refine (scalar_any _ _).mono ?_; rw [HS.out]; rintro e w' ⟨rfl, rfl⟩)
          go_ret2
          exact ⟨ret_eq (by rw [HQ.out]; rfl), rfl⟩

theorem dv_dec {b : Nat} : dv b < 10 ↔ 48 ≤ b ∧ b ≤ 57 := by
  unfold dv
  split
  · omega
  · split
    · omega
    · split <;> omega
theorem dv_dec' {b : Nat} (h : 48 ≤ b ∧ b ≤ 57) : dv b = b - 48 := by unfold dv; rw [if_pos h]
theorem nmE_none {l : List UInt8} (h : digs 10 5 l = none) : nmE l = (0, 10) := by unfold nmE; rw [h]
theorem nmE_some {l : List UInt8} {n : Nat} (h : digs 10 5 l = some n) : nmE l = ((n : Int), 0) := by unfold nmE; rw [h]
set_option maxRecDepth 100000 in
set_option maxHeartbeats 2000000 in
theorem rnumber_any (s : ByteArray) (w : World) (hs : s.size ≤ 9223372036854775807) :
    Calls Tryd.prog 44 #[.string s] w fun e w' => e = .returned (niV (nmE s.data.toList)) ∧ w = w' := by
  have HLn := Lib.hid (show (s.size = 0 ∨ 5 < s.size) → nmE s.data.toList = (0, 10) from fun h => nmE_none (digs_len (by rw [lst_len]; exact h)))
  have HIn := Lib.hid (show ¬ (s.size = 0 ∨ 5 < s.size) → digs 10 5 s.data.toList = dgs 10 0 s.data.toList from fun h => digs_in (by rw [lst_len]; exact h))
  go_enter Tryd.func44, Tryd.ntmps44
  go_wp2_with fail
  go_loop [4, 5] (fun n i => ∃ k m : Nat, i = .int .i64 k ∧ n = .int .i64 m ∧ k ≤ s.size ∧ k ≤ 6 ∧ m < 10 ^ k ∧ Hid (dgs 10 m (s.data.toList.drop k) = dgs 10 0 s.data.toList)) (fun _ i => s.size - (intOf i).toNat)
  case atStart => exact ⟨0, 0, rfl, rfl, by omega, by omega, by simp, rfl⟩
  case round =>
    obtain ⟨k, m, rfl, rfl, hk, hk6, hm, HD⟩ := hrel
    have hP : 10 ^ k ≤ 1000000 := Nat.le_trans (Nat.pow_le_pow_right (by omega) hk6) (by decide)
    have hm2 : m ≤ 1000000 := by omega
    have HM := Lib.hid hm
    clear hm hP
    by_cases hlt : k < s.size
    · have g1 : (k : Int) < s.size := by omega
      by_cases h6 : k < 6
      · have g2 : (k : Int) < 6 := by omega
        have hcut := Lib.hid (lst_at s k hlt)
        have hcl := UInt8.toNat_lt s[k]
        by_cases hd : 48 ≤ s[k].toNat ∧ s[k].toNat ≤ 57
        · have HQ := Lib.hid (show dgs 10 (m * 10 + (s[k].toNat - 48)) (s.data.toList.drop (k + 1)) = dgs 10 0 s.data.toList by rw [← HD.out, hcut.out, dgs, if_pos (dv_dec.2 hd), dv_dec' hd])
          obtain ⟨d1, d2⟩ := hd
          have c1 : ¬ (s[k].toNat : Int) < 48 := by omega
          have c2 : ¬ (57 : Int) < s[k].toNat := by omega
          clear hcut
          go_wp2_with fail
          go_round
          case rel =>
            have e5 : 10 ^ (k + 1) = 10 ^ k * 10 := Nat.pow_succ ..
            have e4 := HM.out
            exact ⟨k + 1, m * 10 + (s[k].toNat - 48), by go_num, by go_num, by omega, by omega, by omega, HQ.out⟩
          case measure => simp [intOf]; omega
        · have HQ := Lib.hid (show nmE s.data.toList = (0, 10) by
            by_cases hh : s.size = 0 ∨ 5 < s.size
            · exact HLn.out hh
            · exact nmE_none (by rw [HIn.out hh, ← HD.out, hcut.out, dgs, if_neg (fun h => hd (dv_dec.1 h))]))
          clear hcut
          by_cases c1 : s[k].toNat < 48
          · have c2 : (s[k].toNat : Int) < 48 := by omega
            go_wp2_with fail
            go_ret2
            exact ⟨ret_eq (by rw [HQ.out]; rfl), rfl⟩
          · have c2 : ¬ (s[k].toNat : Int) < 48 := by omega
            have c3 : (57 : Int) < s[k].toNat := by omega
            go_wp2_with fail
            go_ret2
            exact ⟨ret_eq (by rw [HQ.out]; rfl), rfl⟩
      · have g2 : ¬ (k : Int) < 6 := by omega
        have g3 : ¬ (s.size : Int) < 1 := by omega
        have g4 : (5 : Int) < s.size := by omega
        have HQ := Lib.hid (HLn.out (by omega))
        go_wp2_with fail
        go_ret2
        exact ⟨ret_eq (by rw [HQ.out]; rfl), rfl⟩
    · have g1 : ¬ (k : Int) < s.size := by omega
      by_cases hh : s.size = 0 ∨ 5 < s.size
      · have HQ := Lib.hid (HLn.out hh)
        by_cases h0 : s.size = 0
        · have g3 : (s.size : Int) < 1 := by omega
          go_wp2_with fail
          go_ret2
          exact ⟨ret_eq (by rw [HQ.out]; rfl), rfl⟩
        · have g3 : ¬ (s.size : Int) < 1 := by omega
          have g4 : (5 : Int) < s.size := by omega
          go_wp2_with fail
          go_ret2
          exact ⟨ret_eq (by rw [HQ.out]; rfl), rfl⟩
      · have HQ := Lib.hid (show nmE s.data.toList = ((m : Int), 0) from nmE_some (by rw [HIn.out hh, ← HD.out, lst_end s k (by omega), dgs]))
        have g3 : ¬ (s.size : Int) < 1 := by omega
        have g4 : ¬ (5 : Int) < s.size := by omega
        go_wp2_with fail
        go_ret2
        exact ⟨ret_eq (by rw [HQ.out]; rfl), rfl⟩


end Go.Proofs.YtajhgbcgbgpcjaaDoor.Fi

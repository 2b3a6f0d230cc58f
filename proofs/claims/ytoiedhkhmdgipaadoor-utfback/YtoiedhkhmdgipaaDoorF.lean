import Derived.Test.YtoiedhkhmdgipaaDoorE
namespace Go.Proofs.YtoiedhkhmdgipaaDoor
open Go.RowKit

def lsL : Nat → Int → Int → List Nat → Option (Int × Int)
  | 0, n, h, _ => some (n, h)
  | f + 1, n, h, [] => lsL f (n * 64) (h * 64 + 63) []
  | f + 1, n, h, b :: t => if 128 ≤ b ∧ b < 192 then lsL f (n * 64 + (b - 128)) (h * 64 + (b - 128)) t else none
theorem lsL_end (n h : Int) (l : List Nat) : lsL 0 n h l = some (n, h) := rfl
theorem lsL_nil (f : Nat) (n h : Int) : lsL (f + 1) n h [] = lsL f (n * 64) (h * 64 + 63) [] := rfl
theorem lsL_ok (f : Nat) (n h : Int) (b : Nat) (t : List Nat) (hc : 128 ≤ b ∧ b < 192) : lsL (f + 1) n h (b :: t) = lsL f (n * 64 + (b - 128)) (h * 64 + (b - 128)) t := by simp [lsL, hc]
theorem lsL_no (f : Nat) (n h : Int) (b : Nat) (t : List Nat) (hc : ¬ (128 ≤ b ∧ b < 192)) : lsL (f + 1) n h (b :: t) = none := by simp [lsL, hc]
/-- The least character from n to h that is not less than a, not greater than z; -1 if there is none. -/
def fin3 (a z n h : Int) : Int :=
  if min h z < (if 55296 ≤ max n a ∧ max n a ≤ 57343 then 57344 else max n a) then -1 else (if 55296 ≤ max n a ∧ max n a ≤ 57343 then 57344 else max n a)
def finO (a z : Int) : Option (Int × Int) → Int
  | none => -1
  | some (n, h) => fin3 a z n h

/-- What least answers, of a text whose first byte's bits are its number less 'lead', and of 'many' bytes. -/
def lst (f : Nat) (lead a z : Int) (s : ByteArray) : Int := finO a z (lsL f ((bs s).headD 0 - lead) ((bs s).headD 0 - lead) ((bs s).drop 1))
theorem lst_eq (f : Nat) (lead a z : Int) (s : ByteArray) (hp : 0 < s.size) : lst f lead a z s = finO a z (lsL f (s[0].toNat - lead) (s[0].toNat - lead) ((bs s).drop 1)) := by
  unfold lst
  rw [bs_head s hp]; rfl

set_option maxRecDepth 100000 in
set_option maxHeartbeats 2000000 in
theorem least2 (s : ByteArray) (w : World) (hs : s.size ≤ 100000) (hp : 0 < s.size) (h0 : 192 ≤ s[0].toNat) (h1 : s[0].toNat < 224) :
    Calls Tryd.prog 27 #[.string s, .int .i64 2] w fun e w' => e = .returned (.int .i32 (lst 1 192 128 2047 s)) ∧ w = w' := by
  have g0 : (192 : Int) ≤ s[0].toNat := by omega
  have g1 : (s[0].toNat : Int) < 224 := by omega
  clear h0 h1
  have HE := Lib.hid (lst_eq 1 192 128 2047 s hp)
  go_enter Tryd.func27, Tryd.ntmps27
  go_wp2_with fail
  go_loop [5, 6, 7, 8, 9] (fun n h i b c => ∃ k f : Nat, ∃ p q : Int, n = .int .i64 p ∧ h = .int .i64 q ∧ i = .int .i64 k ∧ 2 ≤ k + f ∧ k + f ≤ 2 ∧ 1 ≤ k ∧ 0 ≤ p ∧ p ≤ q ∧ (k = 1 → q ≤ 31) ∧ (k = 2 → q ≤ 2047) ∧ (k = 3 → q ≤ 131071) ∧ (k = 4 → q ≤ 8388607) ∧ Hid (lst 1 192 128 2047 s = finO 128 2047 (lsL f p q ((bs s).drop k)))) (fun _ _ i _ _ => (2 - intOf i).toNat)
  case atStart => exact ⟨1, 1, _, _, rfl, rfl, rfl, by omega, by omega, by omega, by omega, by omega, by omega, by omega, by omega, by omega, HE.out⟩
  case round =>
    obtain ⟨k, f, p, q, rfl, rfl, rfl, f1, f2, k1, p1, p2, q1, q2, q3, q4, HN⟩ := hrel
    by_cases hk : k < 2
    · obtain ⟨f, rfl⟩ : ∃ g, f = g + 1 := ⟨f - 1, by omega⟩
      have hq : q ≤ 131071 := by omega
      have Q1 := Lib.hid q1
      have Q2 := Lib.hid q2
      have Q3 := Lib.hid q3
      clear q1 q2 q3 q4
      by_cases hks : k < s.size
      · have hb : (s[k].toNat : Int) < 256 := by have := s[k].toNat_lt; omega
        have hcut := bs_cut s k hks
        by_cases hc : 128 ≤ s[k].toNat ∧ s[k].toNat < 192
        · have HR := Lib.hid (lsL_ok f p q _ ((bs s).drop (k + 1)) hc)
          rw [← hcut] at HR
          have c1 : (128 : Int) ≤ s[k].toNat := by omega
          have c2 : (s[k].toNat : Int) < 192 := by omega
          have HC := Lib.hid hc
          clear hc hcut
          go_wp2
          go_round
          case rel => exact ⟨k + 1, f, _, _, rfl, rfl, by go_num, by omega, by omega, by omega, by omega, by omega, by omega, by have := Q1.out; omega, by have := Q2.out; omega, by have := Q3.out; omega, by rw [HN.out, HR.out]; rfl⟩
          case measure => simp [intOf]; omega
        · have HR := Lib.hid (lsL_no f p q _ ((bs s).drop (k + 1)) hc)
          rw [← hcut] at HR
          have hc2 : (s[k].toNat : Int) < 128 ∨ 192 ≤ (s[k].toNat : Int) := by omega
          clear hc hcut
          rcases hc2 with hc2 | hc2
          · go_wp2
            go_ret
            exact ⟨ret_int (by rw [HN.out, HR.out]; rfl), rfl⟩
          · go_wp2
            go_ret
            exact ⟨ret_int (by rw [HN.out, HR.out]; rfl), rfl⟩
      · have HR := Lib.hid (lsL_nil f p q)
        rw [← bs_end s k (by omega)] at HR
        go_wp2
        go_round
        case rel => exact ⟨k + 1, f, _, _, rfl, rfl, by go_num, by omega, by omega, by omega, by omega, by omega, by omega, by have := Q1.out; omega, by have := Q2.out; omega, by have := Q3.out; omega, by rw [HN.out, HR.out, bs_end s k (by omega), bs_end s (k + 1) (by omega)]; try rfl⟩
        case measure => simp [intOf]; omega
    · obtain rfl : f = 0 := by omega
      have hq : q ≤ 8388607 := by omega
      have hF : lst 1 192 128 2047 s = fin3 128 2047 p q := HN.out
      have HF := Lib.hid hF
      clear q1 q2 q3 q4 hF
      by_cases c1 : 128 ≤ p
      · by_cases c2 : q ≤ 2047
        · go_wp2
          all_goals
            go_ret
            exact ⟨ret_int (by rw [HF.out]; unfold fin3; (repeat' split) <;> omega), rfl⟩
        · go_wp2
          all_goals
            go_ret
            exact ⟨ret_int (by rw [HF.out]; unfold fin3; (repeat' split) <;> omega), rfl⟩
      · by_cases c2 : q ≤ 2047
        · go_wp2
          all_goals
            go_ret
            exact ⟨ret_int (by rw [HF.out]; unfold fin3; (repeat' split) <;> omega), rfl⟩
        · go_wp2
          all_goals
            go_ret
            exact ⟨ret_int (by rw [HF.out]; unfold fin3; (repeat' split) <;> omega), rfl⟩

set_option maxRecDepth 100000 in
set_option maxHeartbeats 2000000 in
theorem least3 (s : ByteArray) (w : World) (hs : s.size ≤ 100000) (hp : 0 < s.size) (h0 : 224 ≤ s[0].toNat) (h1 : s[0].toNat < 240) :
    Calls Tryd.prog 27 #[.string s, .int .i64 3] w fun e w' => e = .returned (.int .i32 (lst 2 224 2048 65535 s)) ∧ w = w' := by
  have g0 : (224 : Int) ≤ s[0].toNat := by omega
  have g1 : (s[0].toNat : Int) < 240 := by omega
  clear h0 h1
  have HE := Lib.hid (lst_eq 2 224 2048 65535 s hp)
  go_enter Tryd.func27, Tryd.ntmps27
  go_wp2_with fail
  go_loop [5, 6, 7, 8, 9] (fun n h i b c => ∃ k f : Nat, ∃ p q : Int, n = .int .i64 p ∧ h = .int .i64 q ∧ i = .int .i64 k ∧ 3 ≤ k + f ∧ k + f ≤ 3 ∧ 1 ≤ k ∧ 0 ≤ p ∧ p ≤ q ∧ (k = 1 → q ≤ 31) ∧ (k = 2 → q ≤ 2047) ∧ (k = 3 → q ≤ 131071) ∧ (k = 4 → q ≤ 8388607) ∧ Hid (lst 2 224 2048 65535 s = finO 2048 65535 (lsL f p q ((bs s).drop k)))) (fun _ _ i _ _ => (3 - intOf i).toNat)
  case atStart => exact ⟨1, 2, _, _, rfl, rfl, rfl, by omega, by omega, by omega, by omega, by omega, by omega, by omega, by omega, by omega, HE.out⟩
  case round =>
    obtain ⟨k, f, p, q, rfl, rfl, rfl, f1, f2, k1, p1, p2, q1, q2, q3, q4, HN⟩ := hrel
    by_cases hk : k < 3
    · obtain ⟨f, rfl⟩ : ∃ g, f = g + 1 := ⟨f - 1, by omega⟩
      have hq : q ≤ 131071 := by omega
      have Q1 := Lib.hid q1
      have Q2 := Lib.hid q2
      have Q3 := Lib.hid q3
      clear q1 q2 q3 q4
      by_cases hks : k < s.size
      · have hb : (s[k].toNat : Int) < 256 := by have := s[k].toNat_lt; omega
        have hcut := bs_cut s k hks
        by_cases hc : 128 ≤ s[k].toNat ∧ s[k].toNat < 192
        · have HR := Lib.hid (lsL_ok f p q _ ((bs s).drop (k + 1)) hc)
          rw [← hcut] at HR
          have c1 : (128 : Int) ≤ s[k].toNat := by omega
          have c2 : (s[k].toNat : Int) < 192 := by omega
          have HC := Lib.hid hc
          clear hc hcut
          go_wp2
          go_round
          case rel => exact ⟨k + 1, f, _, _, rfl, rfl, by go_num, by omega, by omega, by omega, by omega, by omega, by omega, by have := Q1.out; omega, by have := Q2.out; omega, by have := Q3.out; omega, by rw [HN.out, HR.out]; rfl⟩
          case measure => simp [intOf]; omega
        · have HR := Lib.hid (lsL_no f p q _ ((bs s).drop (k + 1)) hc)
          rw [← hcut] at HR
          have hc2 : (s[k].toNat : Int) < 128 ∨ 192 ≤ (s[k].toNat : Int) := by omega
          clear hc hcut
          rcases hc2 with hc2 | hc2
          · go_wp2
            go_ret
            exact ⟨ret_int (by rw [HN.out, HR.out]; rfl), rfl⟩
          · go_wp2
            go_ret
            exact ⟨ret_int (by rw [HN.out, HR.out]; rfl), rfl⟩
      · have HR := Lib.hid (lsL_nil f p q)
        rw [← bs_end s k (by omega)] at HR
        go_wp2
        go_round
        case rel => exact ⟨k + 1, f, _, _, rfl, rfl, by go_num, by omega, by omega, by omega, by omega, by omega, by omega, by have := Q1.out; omega, by have := Q2.out; omega, by have := Q3.out; omega, by rw [HN.out, HR.out, bs_end s k (by omega), bs_end s (k + 1) (by omega)]; try rfl⟩
        case measure => simp [intOf]; omega
    · obtain rfl : f = 0 := by omega
      have hq : q ≤ 8388607 := by omega
      have hF : lst 2 224 2048 65535 s = fin3 2048 65535 p q := HN.out
      have HF := Lib.hid hF
      clear q1 q2 q3 q4 hF
      by_cases c1 : 2048 ≤ p
      · by_cases c2 : q ≤ 65535
        · go_wp2
          all_goals
            go_ret
            exact ⟨ret_int (by rw [HF.out]; unfold fin3; (repeat' split) <;> omega), rfl⟩
        · go_wp2
          all_goals
            go_ret
            exact ⟨ret_int (by rw [HF.out]; unfold fin3; (repeat' split) <;> omega), rfl⟩
      · by_cases c2 : q ≤ 65535
        · go_wp2
          all_goals
            go_ret
            exact ⟨ret_int (by rw [HF.out]; unfold fin3; (repeat' split) <;> omega), rfl⟩
        · go_wp2
          all_goals
            go_ret
            exact ⟨ret_int (by rw [HF.out]; unfold fin3; (repeat' split) <;> omega), rfl⟩

set_option maxRecDepth 100000 in
set_option maxHeartbeats 2000000 in
theorem least4 (s : ByteArray) (w : World) (hs : s.size ≤ 100000) (hp : 0 < s.size) (h0 : 240 ≤ s[0].toNat) (h1 : s[0].toNat < 248) :
    Calls Tryd.prog 27 #[.string s, .int .i64 4] w fun e w' => e = .returned (.int .i32 (lst 3 240 65536 1114111 s)) ∧ w = w' := by
  have g0 : (240 : Int) ≤ s[0].toNat := by omega
  have g1 : (s[0].toNat : Int) < 248 := by omega
  clear h0 h1
  have HE := Lib.hid (lst_eq 3 240 65536 1114111 s hp)
  go_enter Tryd.func27, Tryd.ntmps27
  go_wp2_with fail
  go_loop [5, 6, 7, 8, 9] (fun n h i b c => ∃ k f : Nat, ∃ p q : Int, n = .int .i64 p ∧ h = .int .i64 q ∧ i = .int .i64 k ∧ 4 ≤ k + f ∧ k + f ≤ 4 ∧ 1 ≤ k ∧ 0 ≤ p ∧ p ≤ q ∧ (k = 1 → q ≤ 31) ∧ (k = 2 → q ≤ 2047) ∧ (k = 3 → q ≤ 131071) ∧ (k = 4 → q ≤ 8388607) ∧ Hid (lst 3 240 65536 1114111 s = finO 65536 1114111 (lsL f p q ((bs s).drop k)))) (fun _ _ i _ _ => (4 - intOf i).toNat)
  case atStart => exact ⟨1, 3, _, _, rfl, rfl, rfl, by omega, by omega, by omega, by omega, by omega, by omega, by omega, by omega, by omega, HE.out⟩
  case round =>
    obtain ⟨k, f, p, q, rfl, rfl, rfl, f1, f2, k1, p1, p2, q1, q2, q3, q4, HN⟩ := hrel
    by_cases hk : k < 4
    · obtain ⟨f, rfl⟩ : ∃ g, f = g + 1 := ⟨f - 1, by omega⟩
      have hq : q ≤ 131071 := by omega
      have Q1 := Lib.hid q1
      have Q2 := Lib.hid q2
      have Q3 := Lib.hid q3
      clear q1 q2 q3 q4
      by_cases hks : k < s.size
      · have hb : (s[k].toNat : Int) < 256 := by have := s[k].toNat_lt; omega
        have hcut := bs_cut s k hks
        by_cases hc : 128 ≤ s[k].toNat ∧ s[k].toNat < 192
        · have HR := Lib.hid (lsL_ok f p q _ ((bs s).drop (k + 1)) hc)
          rw [← hcut] at HR
          have c1 : (128 : Int) ≤ s[k].toNat := by omega
          have c2 : (s[k].toNat : Int) < 192 := by omega
          have HC := Lib.hid hc
          clear hc hcut
          go_wp2
          go_round
          case rel => exact ⟨k + 1, f, _, _, rfl, rfl, by go_num, by omega, by omega, by omega, by omega, by omega, by omega, by have := Q1.out; omega, by have := Q2.out; omega, by have := Q3.out; omega, by rw [HN.out, HR.out]; rfl⟩
          case measure => simp [intOf]; omega
        · have HR := Lib.hid (lsL_no f p q _ ((bs s).drop (k + 1)) hc)
          rw [← hcut] at HR
          have hc2 : (s[k].toNat : Int) < 128 ∨ 192 ≤ (s[k].toNat : Int) := by omega
          clear hc hcut
          rcases hc2 with hc2 | hc2
          · go_wp2
            go_ret
            exact ⟨ret_int (by rw [HN.out, HR.out]; rfl), rfl⟩
          · go_wp2
            go_ret
            exact ⟨ret_int (by rw [HN.out, HR.out]; rfl), rfl⟩
      · have HR := Lib.hid (lsL_nil f p q)
        rw [← bs_end s k (by omega)] at HR
        go_wp2
        go_round
        case rel => exact ⟨k + 1, f, _, _, rfl, rfl, by go_num, by omega, by omega, by omega, by omega, by omega, by omega, by have := Q1.out; omega, by have := Q2.out; omega, by have := Q3.out; omega, by rw [HN.out, HR.out, bs_end s k (by omega), bs_end s (k + 1) (by omega)]; try rfl⟩
        case measure => simp [intOf]; omega
    · obtain rfl : f = 0 := by omega
      have hq : q ≤ 8388607 := by omega
      have hF : lst 3 240 65536 1114111 s = fin3 65536 1114111 p q := HN.out
      have HF := Lib.hid hF
      clear q1 q2 q3 q4 hF
      by_cases c1 : 65536 ≤ p
      · by_cases c2 : q ≤ 1114111
        · go_wp2
          all_goals
            go_ret
            exact ⟨ret_int (by rw [HF.out]; unfold fin3; (repeat' split) <;> omega), rfl⟩
        · go_wp2
          all_goals
            go_ret
            exact ⟨ret_int (by rw [HF.out]; unfold fin3; (repeat' split) <;> omega), rfl⟩
      · by_cases c2 : q ≤ 1114111
        · go_wp2
          all_goals
            go_ret
            exact ⟨ret_int (by rw [HF.out]; unfold fin3; (repeat' split) <;> omega), rfl⟩
        · go_wp2
          all_goals
            go_ret
            exact ⟨ret_int (by rw [HF.out]; unfold fin3; (repeat' split) <;> omega), rfl⟩
end Go.Proofs.YtoiedhkhmdgipaaDoor

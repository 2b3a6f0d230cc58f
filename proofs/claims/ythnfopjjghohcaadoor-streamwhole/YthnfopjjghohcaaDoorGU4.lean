import Derived.Test.YthnfopjjghohcaaDoorGU3
import Derived.Test.YthnfopjjghohcaaDoorGU1
namespace Go.Proofs.YthnfopjjghohcaaDoor.U8
open Go.RowKit

theorem run_string_new (l : List Int) (w : World) (n : Nat) (hn : l.length = n) :
    (convert 92 9 (.slice (some ⟨w.heap.size, 0, none⟩) n n)).run Tryd.prog (w.alloc (.cells (l.map (Value.int .u8)).toArray 5)) = .ok (.string (strOfNums l)) (w.alloc (.cells (l.map (Value.int .u8)).toArray 5)) := by
  refine run_convert_bytes_arg _ 92 5 Tryd.underlying92 Tryd.underlying5 w.heap.size 0 n n l hn (fun i hi => ?_) 9 Tryd.underlying9
  obtain ⟨b, off, e, _, hc⟩ := ints_new .u8 l 5 w i (by omega)
  simp at e
  obtain ⟨rfl, rfl⟩ := e
  exact hc

set_option maxRecDepth 100000 in
set_option maxHeartbeats 1000000 in
theorem rbytes_any (r : Int) (w : World) (hs : scal r = true) : Calls Tryd.prog 48 #[.int .i32 r] w fun e w' => e = .returned (.string (strOfNums (byI r))) ∧ Below w.heap.size w w' := by
  obtain ⟨h0, h1⟩ := scal_bd hs
  clear hs
  unfold byI
  by_cases c1 : r ≤ 127
  · rw [if_pos c1]
    have hrun := run_string_new [r] w 1 rfl
    simp only [List.map_cons, List.map_nil] at hrun
    go_enter Tryd.func48, Tryd.ntmps48
    go_wp2
    go_ret
    exact ⟨rfl, (Below.refl _ _).alloc (Nat.le_refl _) _⟩
  rw [if_neg c1]
  by_cases c2 : r ≤ 2047
  · rw [if_pos c2]
    have hrun := run_string_new [192 + r / 64, 128 + r % 64] w 2 rfl
    simp only [List.map_cons, List.map_nil] at hrun
    go_enter Tryd.func48, Tryd.ntmps48
    go_wp2
    go_ret
    exact ⟨rfl, (Below.refl _ _).alloc (Nat.le_refl _) _⟩
  rw [if_neg c2]
  by_cases c3 : r ≤ 65535
  · rw [if_pos c3]
    have hrun := run_string_new [224 + r / 4096, 128 + r / 64 % 64, 128 + r % 64] w 3 rfl
    simp only [List.map_cons, List.map_nil] at hrun
    go_enter Tryd.func48, Tryd.ntmps48
    go_wp2
    go_ret
    exact ⟨rfl, (Below.refl _ _).alloc (Nat.le_refl _) _⟩
  rw [if_neg c3]
  have hrun := run_string_new [240 + r / 262144, 128 + r / 4096 % 64, 128 + r / 64 % 64, 128 + r % 64] w 4 rfl
  simp only [List.map_cons, List.map_nil] at hrun
  go_enter Tryd.func48, Tryd.ntmps48
  go_wp2
  go_ret
  exact ⟨rfl, (Below.refl _ _).alloc (Nat.le_refl _) _⟩
end Go.Proofs.YthnfopjjghohcaaDoor.U8
namespace Go.Proofs.YthnfopjjghohcaaDoor.U8
open Go.RowKit

def lsL : Nat → Int → Int → List Nat → Option (Int × Int)
  | 0, n, h, _ => some (n, h)
  | f + 1, n, h, [] => lsL f (n * 64) (h * 64 + 63) []
  | f + 1, n, h, b :: t => if 128 ≤ b ∧ b < 192 then lsL f (n * 64 + (b - 128)) (h * 64 + (b - 128)) t else none
theorem lsL_end (n h : Int) (l : List Nat) : lsL 0 n h l = some (n, h) := rfl
theorem lsL_nil (f : Nat) (n h : Int) : lsL (f + 1) n h [] = lsL f (n * 64) (h * 64 + 63) [] := rfl
theorem lsL_ok (f : Nat) (n h : Int) (b : Nat) (t : List Nat) (hc : 128 ≤ b ∧ b < 192) : lsL (f + 1) n h (b :: t) = lsL f (n * 64 + (b - 128)) (h * 64 + (b - 128)) t := by simp [lsL, hc]
theorem lsL_no (f : Nat) (n h : Int) (b : Nat) (t : List Nat) (hc : ¬ (128 ≤ b ∧ b < 192)) : lsL (f + 1) n h (b :: t) = none := by simp [lsL, hc]
/-- The least character from n to h that is not less than a, not greater than z; -1 if there is none. -/
def fin3 (a z n h : Int) : Int :=
  if min h z < (if 55296 ≤ max n a ∧ max n a ≤ 57343 then 57344 else max n a) then -1 else (if 55296 ≤ max n a ∧ max n a ≤ 57343 then 57344 else max n a)
def finO (a z : Int) : Option (Int × Int) → Int
  | none => -1
  | some (n, h) => fin3 a z n h

/-- What least answers, of a text whose first byte's bits are its number less 'lead', and of 'many' bytes. -/
def lst (f : Nat) (lead a z : Int) (s : ByteArray) : Int := finO a z (lsL f ((bs s).headD 0 - lead) ((bs s).headD 0 - lead) ((bs s).drop 1))
theorem lst_eq (f : Nat) (lead a z : Int) (s : ByteArray) (hp : 0 < s.size) : lst f lead a z s = finO a z (lsL f (s[0].toNat - lead) (s[0].toNat - lead) ((bs s).drop 1)) := by
  unfold lst
  rw [bs_head s hp]; rfl

set_option maxRecDepth 100000 in
set_option maxHeartbeats 2000000 in
theorem least2 (s : ByteArray) (w : World) (_hs : s.size ≤ 100000) (hp : 0 < s.size) (h0 : 192 ≤ s[0].toNat) (h1 : s[0].toNat < 224) :
    Calls Tryd.prog 51 #[.string s, .int .i64 2] w fun e w' => e = .returned (.int .i32 (lst 1 192 128 2047 s)) ∧ w = w' := by
  have g0 : (192 : Int) ≤ s[0].toNat := by omega
  have g1 : (s[0].toNat : Int) < 224 := by omega
  clear h0 h1
  have HE := Lib.hid (lst_eq 1 192 128 2047 s hp)
  go_enter Tryd.func51, Tryd.ntmps51
  go_wp2_with fail
  go_loop [5, 6, 7, 8, 9] (fun n h i b c => ∃ k f : Nat, ∃ p q : Int, n = .int .i64 p ∧ h = .int .i64 q ∧ i = .int .i64 k ∧ 2 ≤ k + f ∧ k + f ≤ 2 ∧ 1 ≤ k ∧ 0 ≤ p ∧ p ≤ q ∧ (k = 1 → q ≤ 31) ∧ (k = 2 → q ≤ 2047) ∧ (k = 3 → q ≤ 131071) ∧ (k = 4 → q ≤ 8388607) ∧ Hid (lst 1 192 128 2047 s = finO 128 2047 (lsL f p q ((bs s).drop k)))) (fun _ _ i _ _ => (2 - intOf i).toNat)
  case atStart => exact ⟨1, 1, _, _, rfl, rfl, rfl, by omega, by omega, by omega, by omega, by omega, by omega, by omega, by omega, by omega, HE.out⟩
  case round =>
    obtain ⟨k, f, p, q, rfl, rfl, rfl, f1, f2, k1, p1, p2, q1, q2, q3, q4, HN⟩ := hrel
    by_cases hk : k < 2
    · obtain ⟨f, rfl⟩ : ∃ g, f = g + 1 := ⟨f - 1, by omega⟩
      have hq : q ≤ 131071 := by omega
      have Q1 := Lib.hid q1
      have Q2 := Lib.hid q2
      have Q3 := Lib.hid q3
      clear q1 q2 q3 q4
      by_cases hks : k < s.size
      · have hb : (s[k].toNat : Int) < 256 := by have := s[k].toNat_lt; omega
        have hcut := bs_cut s k hks
        by_cases hc : 128 ≤ s[k].toNat ∧ s[k].toNat < 192
        · have HR := Lib.hid (lsL_ok f p q _ ((bs s).drop (k + 1)) hc)
          rw [← hcut] at HR
          have c1 : (128 : Int) ≤ s[k].toNat := by omega
          have c2 : (s[k].toNat : Int) < 192 := by omega
          have HC := Lib.hid hc
          clear hc hcut
          go_wp2
          go_round
          case rel => exact ⟨k + 1, f, _, _, rfl, rfl, by go_num, by omega, by omega, by omega, by omega, by omega, by omega, by have := Q1.out; omega, by have := Q2.out; omega, by have := Q3.out; omega, by rw [HN.out, HR.out]; rfl⟩
          case measure => simp [intOf]; omega
        · have HR := Lib.hid (lsL_no f p q _ ((bs s).drop (k + 1)) hc)
          rw [← hcut] at HR
          have hc2 : (s[k].toNat : Int) < 128 ∨ 192 ≤ (s[k].toNat : Int) := by omega
          clear hc hcut
          rcases hc2 with hc2 | hc2
          · go_wp2
            go_ret
            exact ⟨ret_int (by rw [HN.out, HR.out]; rfl), rfl⟩
          · go_wp2
            go_ret
            exact ⟨ret_int (by rw [HN.out, HR.out]; rfl), rfl⟩
      · have HR := Lib.hid (lsL_nil f p q)
        rw [← bs_end s k (by omega)] at HR
        go_wp2
        go_round
        case rel => exact ⟨k + 1, f, _, _, rfl, rfl, by go_num, by omega, by omega, by omega, by omega, by omega, by omega, by have := Q1.out; omega, by have := Q2.out; omega, by have := Q3.out; omega, by rw [HN.out, HR.out, bs_end s k (by omega), bs_end s (k + 1) (by omega)]; try rfl⟩
        case measure => simp [intOf]; omega
    · obtain rfl : f = 0 := by omega
      have hq : q ≤ 8388607 := by omega
      have hF : lst 1 192 128 2047 s = fin3 128 2047 p q := HN.out
      have HF := Lib.hid hF
      clear q1 q2 q3 q4 hF
      by_cases c1 : 128 ≤ p
      · by_cases c2 : q ≤ 2047
        · go_wp2
          all_goals
            go_ret
            exact ⟨ret_int (by rw [HF.out]; unfold fin3; (repeat' split) <;> omega), rfl⟩
        · go_wp2
          all_goals
            go_ret
            exact ⟨ret_int (by rw [HF.out]; unfold fin3; (repeat' split) <;> omega), rfl⟩
      · by_cases c2 : q ≤ 2047
        · go_wp2
          all_goals
            go_ret
            exact ⟨ret_int (by rw [HF.out]; unfold fin3; (repeat' split) <;> omega), rfl⟩
        · go_wp2
          all_goals
            go_ret
            exact ⟨ret_int (by rw [HF.out]; unfold fin3; (repeat' split) <;> omega), rfl⟩

set_option maxRecDepth 100000 in
set_option maxHeartbeats 2000000 in
theorem least3 (s : ByteArray) (w : World) (_hs : s.size ≤ 100000) (hp : 0 < s.size) (h0 : 224 ≤ s[0].toNat) (h1 : s[0].toNat < 240) :
    Calls Tryd.prog 51 #[.string s, .int .i64 3] w fun e w' => e = .returned (.int .i32 (lst 2 224 2048 65535 s)) ∧ w = w' := by
  have g0 : (224 : Int) ≤ s[0].toNat := by omega
  have g1 : (s[0].toNat : Int) < 240 := by omega
  clear h0 h1
  have HE := Lib.hid (lst_eq 2 224 2048 65535 s hp)
  go_enter Tryd.func51, Tryd.ntmps51
  go_wp2_with fail
  go_loop [5, 6, 7, 8, 9] (fun n h i b c => ∃ k f : Nat, ∃ p q : Int, n = .int .i64 p ∧ h = .int .i64 q ∧ i = .int .i64 k ∧ 3 ≤ k + f ∧ k + f ≤ 3 ∧ 1 ≤ k ∧ 0 ≤ p ∧ p ≤ q ∧ (k = 1 → q ≤ 31) ∧ (k = 2 → q ≤ 2047) ∧ (k = 3 → q ≤ 131071) ∧ (k = 4 → q ≤ 8388607) ∧ Hid (lst 2 224 2048 65535 s = finO 2048 65535 (lsL f p q ((bs s).drop k)))) (fun _ _ i _ _ => (3 - intOf i).toNat)
  case atStart => exact ⟨1, 2, _, _, rfl, rfl, rfl, by omega, by omega, by omega, by omega, by omega, by omega, by omega, by omega, by omega, HE.out⟩
  case round =>
    obtain ⟨k, f, p, q, rfl, rfl, rfl, f1, f2, k1, p1, p2, q1, q2, q3, q4, HN⟩ := hrel
    by_cases hk : k < 3
    · obtain ⟨f, rfl⟩ : ∃ g, f = g + 1 := ⟨f - 1, by omega⟩
      have hq : q ≤ 131071 := by omega
      have Q1 := Lib.hid q1
      have Q2 := Lib.hid q2
      have Q3 := Lib.hid q3
      clear q1 q2 q3 q4
      by_cases hks : k < s.size
      · have hb : (s[k].toNat : Int) < 256 := by have := s[k].toNat_lt; omega
        have hcut := bs_cut s k hks
        by_cases hc : 128 ≤ s[k].toNat ∧ s[k].toNat < 192
        · have HR := Lib.hid (lsL_ok f p q _ ((bs s).drop (k + 1)) hc)
          rw [← hcut] at HR
          have c1 : (128 : Int) ≤ s[k].toNat := by omega
          have c2 : (s[k].toNat : Int) < 192 := by omega
          have HC := Lib.hid hc
          clear hc hcut
          go_wp2
          go_round
          case rel => exact ⟨k + 1, f, _, _, rfl, rfl, by go_num, by omega, by omega, by omega, by omega, by omega, by omega, by have := Q1.out; omega, by have := Q2.out; omega, by have := Q3.out; omega, by rw [HN.out, HR.out]; rfl⟩
          case measure => simp [intOf]; omega
        · have HR := Lib.hid (lsL_no f p q _ ((bs s).drop (k + 1)) hc)
          rw [← hcut] at HR
          have hc2 : (s[k].toNat : Int) < 128 ∨ 192 ≤ (s[k].toNat : Int) := by omega
          clear hc hcut
          rcases hc2 with hc2 | hc2
          · go_wp2
            go_ret
            exact ⟨ret_int (by rw [HN.out, HR.out]; rfl), rfl⟩
          · go_wp2
            go_ret
            exact ⟨ret_int (by rw [HN.out, HR.out]; rfl), rfl⟩
      · have HR := Lib.hid (lsL_nil f p q)
        rw [← bs_end s k (by omega)] at HR
        go_wp2
        go_round
        case rel => exact ⟨k + 1, f, _, _, rfl, rfl, by go_num, by omega, by omega, by omega, by omega, by omega, by omega, by have := Q1.out; omega, by have := Q2.out; omega, by have := Q3.out; omega, by rw [HN.out, HR.out, bs_end s k (by omega), bs_end s (k + 1) (by omega)]; try rfl⟩
        case measure => simp [intOf]; omega
    · obtain rfl : f = 0 := by omega
      have hq : q ≤ 8388607 := by omega
      have hF : lst 2 224 2048 65535 s = fin3 2048 65535 p q := HN.out
      have HF := Lib.hid hF
      clear q1 q2 q3 q4 hF
      by_cases c1 : 2048 ≤ p
      · by_cases c2 : q ≤ 65535
        · go_wp2
          all_goals
            go_ret
            exact ⟨ret_int (by rw [HF.out]; unfold fin3; (repeat' split) <;> omega), rfl⟩
        · go_wp2
          all_goals
            go_ret
            exact ⟨ret_int (by rw [HF.out]; unfold fin3; (repeat' split) <;> omega), rfl⟩
      · by_cases c2 : q ≤ 65535
        · go_wp2
          all_goals
            go_ret
            exact ⟨ret_int (by rw [HF.out]; unfold fin3; (repeat' split) <;> omega), rfl⟩
        · go_wp2
          all_goals
            go_ret
            exact ⟨ret_int (by rw [HF.out]; unfold fin3; (repeat' split) <;> omega), rfl⟩

set_option maxRecDepth 100000 in
set_option maxHeartbeats 2000000 in
theorem least4 (s : ByteArray) (w : World) (_hs : s.size ≤ 100000) (hp : 0 < s.size) (h0 : 240 ≤ s[0].toNat) (h1 : s[0].toNat < 248) :
    Calls Tryd.prog 51 #[.string s, .int .i64 4] w fun e w' => e = .returned (.int .i32 (lst 3 240 65536 1114111 s)) ∧ w = w' := by
  have g0 : (240 : Int) ≤ s[0].toNat := by omega
  have g1 : (s[0].toNat : Int) < 248 := by omega
  clear h0 h1
  have HE := Lib.hid (lst_eq 3 240 65536 1114111 s hp)
  go_enter Tryd.func51, Tryd.ntmps51
  go_wp2_with fail
  go_loop [5, 6, 7, 8, 9] (fun n h i b c => ∃ k f : Nat, ∃ p q : Int, n = .int .i64 p ∧ h = .int .i64 q ∧ i = .int .i64 k ∧ 4 ≤ k + f ∧ k + f ≤ 4 ∧ 1 ≤ k ∧ 0 ≤ p ∧ p ≤ q ∧ (k = 1 → q ≤ 31) ∧ (k = 2 → q ≤ 2047) ∧ (k = 3 → q ≤ 131071) ∧ (k = 4 → q ≤ 8388607) ∧ Hid (lst 3 240 65536 1114111 s = finO 65536 1114111 (lsL f p q ((bs s).drop k)))) (fun _ _ i _ _ => (4 - intOf i).toNat)
  case atStart => exact ⟨1, 3, _, _, rfl, rfl, rfl, by omega, by omega, by omega, by omega, by omega, by omega, by omega, by omega, by omega, HE.out⟩
  case round =>
    obtain ⟨k, f, p, q, rfl, rfl, rfl, f1, f2, k1, p1, p2, q1, q2, q3, q4, HN⟩ := hrel
    by_cases hk : k < 4
    · obtain ⟨f, rfl⟩ : ∃ g, f = g + 1 := ⟨f - 1, by omega⟩
      have hq : q ≤ 131071 := by omega
      have Q1 := Lib.hid q1
      have Q2 := Lib.hid q2
      have Q3 := Lib.hid q3
      clear q1 q2 q3 q4
      by_cases hks : k < s.size
      · have hb : (s[k].toNat : Int) < 256 := by have := s[k].toNat_lt; omega
        have hcut := bs_cut s k hks
        by_cases hc : 128 ≤ s[k].toNat ∧ s[k].toNat < 192
        · have HR := Lib.hid (lsL_ok f p q _ ((bs s).drop (k + 1)) hc)
          rw [← hcut] at HR
          have c1 : (128 : Int) ≤ s[k].toNat := by omega
          have c2 : (s[k].toNat : Int) < 192 := by omega
          have HC := Lib.hid hc
          clear hc hcut
          go_wp2
          go_round
          case rel => exact ⟨k + 1, f, _, _, rfl, rfl, by go_num, by omega, by omega, by omega, by omega, by omega, by omega, by have := Q1.out; omega, by have := Q2.out; omega, by have := Q3.out; omega, by rw [HN.out, HR.out]; rfl⟩
          case measure => simp [intOf]; omega
        · have HR := Lib.hid (lsL_no f p q _ ((bs s).drop (k + 1)) hc)
          rw [← hcut] at HR
          have hc2 : (s[k].toNat : Int) < 128 ∨ 192 ≤ (s[k].toNat : Int) := by omega
          clear hc hcut
          rcases hc2 with hc2 | hc2
          · go_wp2
            go_ret
            exact ⟨ret_int (by rw [HN.out, HR.out]; rfl), rfl⟩
          · go_wp2
            go_ret
            exact ⟨ret_int (by rw [HN.out, HR.out]; rfl), rfl⟩
      · have HR := Lib.hid (lsL_nil f p q)
        rw [← bs_end s k (by omega)] at HR
        go_wp2
        go_round
        case rel => exact ⟨k + 1, f, _, _, rfl, rfl, by go_num, by omega, by omega, by omega, by omega, by omega, by omega, by have := Q1.out; omega, by have := Q2.out; omega, by have := Q3.out; omega, by rw [HN.out, HR.out, bs_end s k (by omega), bs_end s (k + 1) (by omega)]; try rfl⟩
        case measure => simp [intOf]; omega
    · obtain rfl : f = 0 := by omega
      have hq : q ≤ 8388607 := by omega
      have hF : lst 3 240 65536 1114111 s = fin3 65536 1114111 p q := HN.out
      have HF := Lib.hid hF
      clear q1 q2 q3 q4 hF
      by_cases c1 : 65536 ≤ p
      · by_cases c2 : q ≤ 1114111
        · go_wp2
          all_goals
            go_ret
            exact ⟨ret_int (by rw [HF.out]; unfold fin3; (repeat' split) <;> omega), rfl⟩
        · go_wp2
          all_goals
            go_ret
            exact ⟨ret_int (by rw [HF.out]; unfold fin3; (repeat' split) <;> omega), rfl⟩
      · by_cases c2 : q ≤ 1114111
        · go_wp2
          all_goals
            go_ret
            exact ⟨ret_int (by rw [HF.out]; unfold fin3; (repeat' split) <;> omega), rfl⟩
        · go_wp2
          all_goals
            go_ret
            exact ⟨ret_int (by rw [HF.out]; unfold fin3; (repeat' split) <;> omega), rfl⟩
end Go.Proofs.YthnfopjjghohcaaDoor.U8
namespace Go.Proofs.YthnfopjjghohcaaDoor.U8
open Go.RowKit

def lstL (f : Nat) (lead a z : Int) (l : List Nat) : Int := finO a z (lsL f (l.headD 0 - lead) (l.headD 0 - lead) (l.drop 1))
theorem lst_L (f : Nat) (lead a z : Int) (s : ByteArray) : lst f lead a z s = lstL f lead a z (bs s) := rfl
/-- What Starts answers. -/
def stL (l : List Nat) : Int :=
  if l.headD 0 < 128 then (if 1 < l.length then 0 else 1)
  else if l.headD 0 < 192 then 0
  else if l.headD 0 < 224 then (if 2 < l.length then 0 else if lstL 1 192 128 2047 l < 0 then 0 else 2)
  else if l.headD 0 < 240 then (if 3 < l.length then 0 else if lstL 2 224 2048 65535 l < 0 then 0 else 3)
  else if l.headD 0 < 248 then (if 4 < l.length then 0 else if lstL 3 240 65536 1114111 l < 0 then 0 else 4)
  else 0
theorem bs_headD (s : ByteArray) (hp : 0 < s.size) : (bs s).headD 0 = s[0].toNat := by rw [bs_head s hp]; rfl

theorem stL_eq (s : ByteArray) (hp : 0 < s.size) : stL (bs s) =
    (if s[0].toNat < 128 then (if 1 < s.size then 0 else 1)
    else if s[0].toNat < 192 then 0
    else if s[0].toNat < 224 then (if 2 < s.size then 0 else if lst 1 192 128 2047 s < 0 then 0 else 2)
    else if s[0].toNat < 240 then (if 3 < s.size then 0 else if lst 2 224 2048 65535 s < 0 then 0 else 3)
    else if s[0].toNat < 248 then (if 4 < s.size then 0 else if lst 3 240 65536 1114111 s < 0 then 0 else 4)
    else 0) := by
  unfold stL
  rw [bs_headD s hp, bs_len, ← lst_L, ← lst_L, ← lst_L]

set_option maxRecDepth 100000 in
set_option maxHeartbeats 2000000 in
theorem starts_any (s : ByteArray) (w : World) (hs : s.size ≤ 100000) (hp : 0 < s.size) :
    Calls Tryd.prog 50 #[.string s] w fun e w' => e = .returned (.int .i64 (stL (bs s))) ∧ w = w' := by
  have b0 : (s[0].toNat : Int) < 256 := by have := s[0].toNat_lt; omega
  have HE := Lib.hid (stL_eq s hp)
  by_cases c1 : s[0].toNat < 128
  · rw [if_pos c1] at HE
    have d1 : (s[0].toNat : Int) < 128 := by omega
    clear c1
    by_cases l1 : 1 < s.size
    · rw [if_pos l1] at HE
      go_enter Tryd.func50, Tryd.ntmps50
      go_wp2
      go_ret
      exact ⟨ret_int HE.out.symm, rfl⟩
    · rw [if_neg l1] at HE
      go_enter Tryd.func50, Tryd.ntmps50
      go_wp2
      go_ret
      exact ⟨ret_int HE.out.symm, rfl⟩
  rw [if_neg c1] at HE
  by_cases c2 : s[0].toNat < 192
  · rw [if_pos c2] at HE
    have d1 : 128 ≤ (s[0].toNat : Int) := by omega
    have d2 : (s[0].toNat : Int) < 192 := by omega
    clear c1 c2
    go_enter Tryd.func50, Tryd.ntmps50
    go_wp2
    go_ret
    exact ⟨ret_int HE.out.symm, rfl⟩
  rw [if_neg c2] at HE
  by_cases c3 : s[0].toNat < 224
  · rw [if_pos c3] at HE
    have e1 : 192 ≤ s[0].toNat := by omega
    have d1 : 192 ≤ (s[0].toNat : Int) := by omega
    have d2 : (s[0].toNat : Int) < 224 := by omega
    have C := Lib.hid c3
    have E := Lib.hid e1
    clear c1 c2 c3 e1
    by_cases l1 : 2 < s.size
    · rw [if_pos l1] at HE
      go_enter Tryd.func50, Tryd.ntmps50
      go_wp2
      go_ret
      exact ⟨ret_int HE.out.symm, rfl⟩
    rw [if_neg l1] at HE
    by_cases l2 : lst 1 192 128 2047 s < 0
    · rw [if_pos l2] at HE
      go_enter Tryd.func50, Tryd.ntmps50
      go_wp2_with fail
      refine (least2 s _ hs hp E.out C.out).mono ?_
      rintro e w' ⟨rfl, rfl⟩
      go_wp2
      go_ret
      exact ⟨ret_int HE.out.symm, rfl⟩
    · rw [if_neg l2] at HE
      go_enter Tryd.func50, Tryd.ntmps50
      go_wp2_with fail
      refine (least2 s _ hs hp E.out C.out).mono ?_
      rintro e w' ⟨rfl, rfl⟩
      go_wp2
      go_ret
      exact ⟨ret_int HE.out.symm, rfl⟩
  rw [if_neg c3] at HE
  by_cases c4 : s[0].toNat < 240
  · rw [if_pos c4] at HE
    have e1 : 224 ≤ s[0].toNat := by omega
    have d1 : 224 ≤ (s[0].toNat : Int) := by omega
    have d2 : (s[0].toNat : Int) < 240 := by omega
    have C := Lib.hid c4
    have E := Lib.hid e1
    clear c1 c2 c3 c4 e1
    by_cases l1 : 3 < s.size
    · rw [if_pos l1] at HE
      go_enter Tryd.func50, Tryd.ntmps50
      go_wp2
      go_ret
      exact ⟨ret_int HE.out.symm, rfl⟩
    rw [if_neg l1] at HE
    by_cases l2 : lst 2 224 2048 65535 s < 0
    · rw [if_pos l2] at HE
      go_enter Tryd.func50, Tryd.ntmps50
      go_wp2_with fail
      refine (least3 s _ hs hp E.out C.out).mono ?_
      rintro e w' ⟨rfl, rfl⟩
      go_wp2
      go_ret
      exact ⟨ret_int HE.out.symm, rfl⟩
    · rw [if_neg l2] at HE
      go_enter Tryd.func50, Tryd.ntmps50
      go_wp2_with fail
      refine (least3 s _ hs hp E.out C.out).mono ?_
      rintro e w' ⟨rfl, rfl⟩
      go_wp2
      go_ret
      exact ⟨ret_int HE.out.symm, rfl⟩
  rw [if_neg c4] at HE
  by_cases c5 : s[0].toNat < 248
  · rw [if_pos c5] at HE
    have e1 : 240 ≤ s[0].toNat := by omega
    have d1 : 240 ≤ (s[0].toNat : Int) := by omega
    have d2 : (s[0].toNat : Int) < 248 := by omega
    have C := Lib.hid c5
    have E := Lib.hid e1
    clear c1 c2 c3 c4 c5 e1
    by_cases l1 : 4 < s.size
    · rw [if_pos l1] at HE
      go_enter Tryd.func50, Tryd.ntmps50
      go_wp2
      go_ret
      exact ⟨ret_int HE.out.symm, rfl⟩
    rw [if_neg l1] at HE
    by_cases l2 : lst 3 240 65536 1114111 s < 0
    · rw [if_pos l2] at HE
      go_enter Tryd.func50, Tryd.ntmps50
      go_wp2_with fail
      refine (least4 s _ hs hp E.out C.out).mono ?_
      rintro e w' ⟨rfl, rfl⟩
      go_wp2
      go_ret
      exact ⟨ret_int HE.out.symm, rfl⟩
    · rw [if_neg l2] at HE
      go_enter Tryd.func50, Tryd.ntmps50
      go_wp2_with fail
      refine (least4 s _ hs hp E.out C.out).mono ?_
      rintro e w' ⟨rfl, rfl⟩
      go_wp2
      go_ret
      exact ⟨ret_int HE.out.symm, rfl⟩
  rw [if_neg c5] at HE
  have d1 : 248 ≤ (s[0].toNat : Int) := by omega
  clear c1 c2 c3 c4 c5
  go_enter Tryd.func50, Tryd.ntmps50
  go_wp2
  go_ret
  exact ⟨ret_int HE.out.symm, rfl⟩
end Go.Proofs.YthnfopjjghohcaaDoor.U8
namespace Go.Proofs.YthnfopjjghohcaaDoor.U8
open Go.RowKit

theorem ls_2_1 (b0 : Nat) : lstL 1 192 128 2047 [b0] = fin3 128 2047 ((b0 - 192) * 64) ((b0 - 192) * 64 + 63) := by simp [lstL, lsL, finO]
theorem ls_2_2 (b0 b1 : Nat) (h : 128 ≤ b1 ∧ b1 < 192) : lstL 1 192 128 2047 [b0, b1] = fin3 128 2047 ((b0 - 192) * 64 + (b1 - 128)) ((b0 - 192) * 64 + (b1 - 128)) := by simp [lstL, lsL, finO, h]
theorem ls_2_n (b0 b1 : Nat) (h : ¬ (128 ≤ b1 ∧ b1 < 192)) : lstL 1 192 128 2047 [b0, b1] = -1 := by simp [lstL, lsL, finO, h]
theorem ls_3_1 (b0 : Nat) : lstL 2 224 2048 65535 [b0] = fin3 2048 65535 ((b0 - 224) * 64 * 64) (((b0 - 224) * 64 + 63) * 64 + 63) := by simp [lstL, lsL, finO]
theorem ls_3_2 (b0 b1 : Nat) (h : 128 ≤ b1 ∧ b1 < 192) : lstL 2 224 2048 65535 [b0, b1] = fin3 2048 65535 (((b0 - 224) * 64 + (b1 - 128)) * 64) (((b0 - 224) * 64 + (b1 - 128)) * 64 + 63) := by simp [lstL, lsL, finO, h]
theorem ls_3_n (b0 b1 : Nat) (t : List Nat) (h : ¬ (128 ≤ b1 ∧ b1 < 192)) : lstL 2 224 2048 65535 (b0 :: b1 :: t) = -1 := by simp [lstL, lsL, finO, h]
theorem ls_3_3 (b0 b1 b2 : Nat) (h : 128 ≤ b1 ∧ b1 < 192) (h2 : 128 ≤ b2 ∧ b2 < 192) : lstL 2 224 2048 65535 [b0, b1, b2] = fin3 2048 65535 (((b0 - 224) * 64 + (b1 - 128)) * 64 + (b2 - 128)) (((b0 - 224) * 64 + (b1 - 128)) * 64 + (b2 - 128)) := by simp [lstL, lsL, finO, h, h2]
theorem ls_3_3n (b0 b1 b2 : Nat) (h : 128 ≤ b1 ∧ b1 < 192) (h2 : ¬ (128 ≤ b2 ∧ b2 < 192)) : lstL 2 224 2048 65535 [b0, b1, b2] = -1 := by simp [lstL, lsL, finO, h, h2]
theorem ls_4_1 (b0 : Nat) : lstL 3 240 65536 1114111 [b0] = fin3 65536 1114111 ((b0 - 240) * 64 * 64 * 64) ((((b0 - 240) * 64 + 63) * 64 + 63) * 64 + 63) := by simp [lstL, lsL, finO]
theorem ls_4_2 (b0 b1 : Nat) (h : 128 ≤ b1 ∧ b1 < 192) : lstL 3 240 65536 1114111 [b0, b1] = fin3 65536 1114111 (((b0 - 240) * 64 + (b1 - 128)) * 64 * 64) ((((b0 - 240) * 64 + (b1 - 128)) * 64 + 63) * 64 + 63) := by simp [lstL, lsL, finO, h]
theorem ls_4_n (b0 b1 : Nat) (t : List Nat) (h : ¬ (128 ≤ b1 ∧ b1 < 192)) : lstL 3 240 65536 1114111 (b0 :: b1 :: t) = -1 := by simp [lstL, lsL, finO, h]
theorem ls_4_3 (b0 b1 b2 : Nat) (h : 128 ≤ b1 ∧ b1 < 192) (h2 : 128 ≤ b2 ∧ b2 < 192) : lstL 3 240 65536 1114111 [b0, b1, b2] = fin3 65536 1114111 ((((b0 - 240) * 64 + (b1 - 128)) * 64 + (b2 - 128)) * 64) ((((b0 - 240) * 64 + (b1 - 128)) * 64 + (b2 - 128)) * 64 + 63) := by simp [lstL, lsL, finO, h, h2]
theorem ls_4_3n (b0 b1 b2 : Nat) (t : List Nat) (h : 128 ≤ b1 ∧ b1 < 192) (h2 : ¬ (128 ≤ b2 ∧ b2 < 192)) : lstL 3 240 65536 1114111 (b0 :: b1 :: b2 :: t) = -1 := by simp [lstL, lsL, finO, h, h2]
theorem ls_4_4 (b0 b1 b2 b3 : Nat) (h : 128 ≤ b1 ∧ b1 < 192) (h2 : 128 ≤ b2 ∧ b2 < 192) (h3 : 128 ≤ b3 ∧ b3 < 192) : lstL 3 240 65536 1114111 [b0, b1, b2, b3] = fin3 65536 1114111 ((((b0 - 240) * 64 + (b1 - 128)) * 64 + (b2 - 128)) * 64 + (b3 - 128)) ((((b0 - 240) * 64 + (b1 - 128)) * 64 + (b2 - 128)) * 64 + (b3 - 128)) := by simp [lstL, lsL, finO, h, h2, h3]
theorem ls_4_4n (b0 b1 b2 b3 : Nat) (h : 128 ≤ b1 ∧ b1 < 192) (h2 : 128 ≤ b2 ∧ b2 < 192) (h3 : ¬ (128 ≤ b3 ∧ b3 < 192)) : lstL 3 240 65536 1114111 [b0, b1, b2, b3] = -1 := by simp [lstL, lsL, finO, h, h2, h3]

theorem fin_no {a z n h : Int} (hx : ∀ v, n ≤ v → v ≤ h → a ≤ v → v ≤ z → 55296 ≤ v ∧ v ≤ 57343) : fin3 a z n h = -1 := by
  unfold fin3
  rw [if_pos]
  by_cases c : 55296 ≤ max n a ∧ max n a ≤ 57343
  · rw [if_pos c]
    have := hx 57344
    omega
  · rw [if_neg c]
    have := hx (max n a)
    omega
theorem fin_one {a z n : Int} (h1 : a ≤ n) (h2 : n ≤ z) (h3 : n < 55296 ∨ 57343 < n) : fin3 a z n n = n := by
  unfold fin3
  have : max n a = n := by omega
  rw [this, if_neg (by omega : ¬ (55296 ≤ n ∧ n ≤ 57343)), if_neg (by omega)]
theorem fin_yes {a z n h v : Int} (ha : 0 ≤ a) (h1 : n ≤ v) (h2 : v ≤ h) (h3 : a ≤ v) (h4 : v ≤ z) (h5 : v < 55296 ∨ 57343 < v) : 0 ≤ fin3 a z n h := by
  unfold fin3
  (repeat' split) <;> omega

theorem stL_cons (b0 : Nat) (t : List Nat) : stL (b0 :: t) =
    (if b0 < 128 then (if 1 < t.length + 1 then 0 else 1)
    else if b0 < 192 then 0
    else if b0 < 224 then (if 2 < t.length + 1 then 0 else if lstL 1 192 128 2047 (b0 :: t) < 0 then 0 else 2)
    else if b0 < 240 then (if 3 < t.length + 1 then 0 else if lstL 2 224 2048 65535 (b0 :: t) < 0 then 0 else 3)
    else if b0 < 248 then (if 4 < t.length + 1 then 0 else if lstL 3 240 65536 1114111 (b0 :: t) < 0 then 0 else 4)
    else 0) := rfl
theorem st1 (b0 : Nat) : stL [b0] = fsz b0 := by
  rw [stL_cons]
  rw [ls_2_1, ls_3_1, ls_4_1]
  by_cases c1 : b0 < 128
  · rw [if_pos c1, (fsz_1 b0 (by omega)).1, if_neg (by simp)]
  rw [if_neg c1]
  by_cases c2 : b0 < 192
  · rw [if_pos c2, (fsz_0 b0 (by omega)).1]
  rw [if_neg c2]
  by_cases c3 : b0 < 224
  · rw [if_pos c3, if_neg (by simp)]
    by_cases c : b0 < 194
    · rw [fin_no (by intro v; omega), if_pos (by omega), (fsz_0 b0 (by omega)).1]
    · have := fin_yes (a := 128) (z := 2047) (n := ((b0 : Int) - 192) * 64) (h := ((b0 : Int) - 192) * 64 + 63) (v := ((b0 : Int) - 192) * 64) (by omega) (by omega) (by omega) (by omega) (by omega) (by omega)
      rw [if_neg (by omega), (fsz_2 b0 (by omega) (by omega)).1]
  rw [if_neg c3]
  by_cases c4 : b0 < 240
  · rw [if_pos c4, if_neg (by simp)]
    have := fin_yes (a := 2048) (z := 65535) (n := ((b0 : Int) - 224) * 64 * 64) (h := (((b0 : Int) - 224) * 64 + 63) * 64 + 63) (v := if b0 = 224 then 2048 else ((b0 : Int) - 224) * 64 * 64) (by omega) (by split <;> omega) (by split <;> omega) (by split <;> omega) (by split <;> omega) (by split <;> omega)
    rw [if_neg (by omega), (fsz_3 b0 (by omega) (by omega)).1]
  rw [if_neg c4]
  by_cases c5 : b0 < 248
  · rw [if_pos c5, if_neg (by simp)]
    by_cases c : b0 < 245
    · have := fin_yes (a := 65536) (z := 1114111) (n := ((b0 : Int) - 240) * 64 * 64 * 64) (h := ((((b0 : Int) - 240) * 64 + 63) * 64 + 63) * 64 + 63) (v := if b0 = 240 then 65536 else ((b0 : Int) - 240) * 64 * 64 * 64) (by omega) (by split <;> omega) (by split <;> omega) (by split <;> omega) (by split <;> omega) (by split <;> omega)
      rw [if_neg (by omega), (fsz_4 b0 (by omega) (by omega)).1]
    · rw [fin_no (by intro v; omega), if_pos (by omega), (fsz_0 b0 (by omega)).1]
  rw [if_neg c5, (fsz_0 b0 (by omega)).1]

theorem st_1 (b0 b1 : Nat) (t : List Nat) (h : b0 < 128) : stL (b0 :: b1 :: t) = 0 := by
  rw [stL_cons, if_pos h, if_pos (by simp)]
theorem st_2 (b0 : Nat) (t : List Nat) (h : 192 ≤ b0 ∧ b0 < 224) (hl : t.length < 2) : stL (b0 :: t) = if lstL 1 192 128 2047 (b0 :: t) < 0 then 0 else 2 := by
  rw [stL_cons, if_neg (by omega), if_neg (by omega), if_pos h.2, if_neg (by omega)]
theorem st_2l (b0 : Nat) (t : List Nat) (h : 192 ≤ b0 ∧ b0 < 224) (hl : 2 ≤ t.length) : stL (b0 :: t) = 0 := by
  rw [stL_cons, if_neg (by omega), if_neg (by omega), if_pos h.2, if_pos (by omega)]
theorem st_3 (b0 : Nat) (t : List Nat) (h : 224 ≤ b0 ∧ b0 < 240) (hl : t.length < 3) : stL (b0 :: t) = if lstL 2 224 2048 65535 (b0 :: t) < 0 then 0 else 3 := by
  rw [stL_cons, if_neg (by omega), if_neg (by omega), if_neg (by omega), if_pos h.2, if_neg (by omega)]
theorem st_3l (b0 : Nat) (t : List Nat) (h : 224 ≤ b0 ∧ b0 < 240) (hl : 3 ≤ t.length) : stL (b0 :: t) = 0 := by
  rw [stL_cons, if_neg (by omega), if_neg (by omega), if_neg (by omega), if_pos h.2, if_pos (by omega)]
theorem st_4 (b0 : Nat) (t : List Nat) (h : 240 ≤ b0 ∧ b0 < 245) (hl : t.length < 4) : stL (b0 :: t) = if lstL 3 240 65536 1114111 (b0 :: t) < 0 then 0 else 4 := by
  rw [stL_cons, if_neg (by omega), if_neg (by omega), if_neg (by omega), if_neg (by omega), if_pos (by omega), if_neg (by omega)]

/-- How far the bytes are a beginning: n of them. -/
structure rnP (l : List Nat) (n : Nat) : Prop where
  four : n ≤ 4
  len : n ≤ l.length
  yes : ∀ j, 1 ≤ j → j ≤ n → 0 < stL (l.take j)
  no : n < 4 → n < l.length → stL (l.take (n + 1)) ≤ 0
def leastM (many : Int) (l : List Nat) : Int := if many = 2 then lstL 1 192 128 2047 l else if many = 3 then lstL 2 224 2048 65535 l else lstL 3 240 65536 1114111 l
def rnV (l : List Nat) (n : Nat) : Int × Int × Int :=
  if n = 0 then (0, 1, 17) else if (n : Int) < stL (l.take n) then (if n = l.length then (0, n, 18) else (0, n, 17)) else if stL (l.take n) = 1 then (l.headD 0, 1, 0) else (leastM (stL (l.take n)) (l.take n), n, 0)

theorem rn1 {l : List Nat} {n : Nat} (h : rnP l n) (k : Nat) (hk : k < 4) (hl : k < l.length) (hs : 0 < stL (l.take (k + 1))) (hn : k ≤ n) : k + 1 ≤ n := by
  rcases Nat.lt_or_ge k n with h1 | h1
  · exact h1
  · obtain rfl : n = k := by omega
    have := h.no hk hl
    omega
theorem rn0 {l : List Nat} {n : Nat} (h : rnP l n) (k : Nat) (hs : stL (l.take (k + 1)) ≤ 0) : n ≤ k := by
  rcases Nat.lt_or_ge k n with h1 | h1
  · have := h.yes (k + 1) (by omega) h1
    omega
  · exact h1

theorem rn_math (l : List Nat) (n : Nat) (hne : l ≠ []) (h : rnP l n) : rnV l n = ex l := by
  cases l with
  | nil => exact absurd rfl hne
  | cons b0 t =>
  rcases parts b0 with c | ⟨c, c'⟩ | ⟨c, c'⟩ | ⟨c, c'⟩ | c
  · have s1 : stL [b0] = 1 := by rw [st1, (fsz_1 b0 c).1]
    have n1 := rn1 h 0 (by omega) (by simp) (by show 0 < stL [b0]; omega) (by omega)
    have n2 : n ≤ 1 := by
      rcases Nat.lt_or_ge 1 n with h1 | h1
      · have hy := h.yes 2 (by omega) (by omega)
        have hl := h.len
        cases t with
        | nil => simp at hl; omega
        | cons b1 t => simp [st_1 b0 b1 [] (by omega)] at hy
      · exact h1
    obtain rfl : n = 1 := by omega
    simp [rnV, s1, ex, (fsz_1 b0 c).1]
  · have s1 : stL [b0] = 2 := by rw [st1, (fsz_2 b0 c c').1]
    have n1 := rn1 h 0 (by omega) (by simp) (by show 0 < stL [b0]; omega) (by omega)
    obtain ⟨e1, e2⟩ := fsz_2 b0 c c'
    have hl : lo1 b0 = 128 := by unfold lo1; (repeat' split) <;> omega
    have hh : hi1 b0 = 192 := by unfold hi1; (repeat' split) <;> omega
    cases t with
    | nil =>
      have := h.len
      simp at this
      obtain rfl : n = 1 := by omega
      simp [rnV, s1, ex, e1]
    | cons b1 t =>
      by_cases hc : 128 ≤ b1 ∧ b1 < 192
      · have hls : lstL 1 192 128 2047 [b0, b1] = (b0 - 192) * 64 + (b1 - 128) := by rw [ls_2_2 b0 b1 hc, fin_one (by omega) (by omega) (by omega)]
        have s2 : stL [b0, b1] = 2 := by
          rw [st_2 b0 [b1] (by omega) (by simp), hls, if_neg (by omega)]
        have n2 := rn1 h 1 (by omega) (by simp) (by show 0 < stL [b0, b1]; omega) n1
        have n3 : n ≤ 2 := by
          rcases Nat.lt_or_ge 2 n with h1 | h1
          · have hy := h.yes 3 (by omega) (by omega)
            have hl := h.len
            cases t with
            | nil => simp at hl; omega
            | cons b2 t => simp [st_2l b0 [b1, b2] (by omega) (by simp)] at hy
          · exact h1
        obtain rfl : n = 2 := by omega
        simp [rnV, s2, ex, e1, e2, leastM, hls, hl, hh, hc]
      · have s2 : stL [b0, b1] = 0 := by
          rw [st_2 b0 [b1] (by omega) (by simp), ls_2_n b0 b1 hc, if_pos (by omega)]
        have n2 := rn0 h 1 (by show stL [b0, b1] ≤ 0; omega)
        obtain rfl : n = 1 := by omega
        simp [rnV, s1, ex, e1, hl, hh, hc]
  · have s1 : stL [b0] = 3 := by rw [st1, (fsz_3 b0 c c').1]
    have n1 := rn1 h 0 (by omega) (by simp) (by show 0 < stL [b0]; omega) (by omega)
    obtain ⟨e1, e2⟩ := fsz_3 b0 c c'
    cases t with
    | nil =>
      have := h.len
      simp at this
      obtain rfl : n = 1 := by omega
      simp [rnV, s1, ex, e1]
    | cons b1 t =>
      by_cases hc : lo1 b0 ≤ b1 ∧ b1 < hi1 b0
      · have hc1 : 128 ≤ b1 ∧ b1 < 192 := by unfold lo1 hi1 at hc; (repeat' split at hc) <;> omega
        have hd : (if b0 = 224 then 160 else 128) ≤ b1 ∧ b1 < (if b0 = 237 then 160 else 192) := by unfold lo1 hi1 at hc; (repeat' split at hc) <;> (repeat' split) <;> omega
        have hls : 0 ≤ lstL 2 224 2048 65535 [b0, b1] := by
          rw [ls_3_2 b0 b1 hc1]
          exact fin_yes (v := ((b0 - 224) * 64 + (b1 - 128)) * 64) (by omega) (by omega) (by omega) (by split at hd <;> split at hd <;> omega) (by split at hd <;> split at hd <;> omega) (by split at hd <;> split at hd <;> omega)
        have s2 : stL [b0, b1] = 3 := by
          rw [st_3 b0 [b1] (by omega) (by simp), if_neg (by omega)]
        have n2 := rn1 h 1 (by omega) (by simp) (by show 0 < stL [b0, b1]; omega) n1
        cases t with
        | nil =>
          have := h.len
          simp at this
          obtain rfl : n = 2 := by omega
          simp [rnV, s2, ex, e1, hc]
        | cons b2 t =>
          by_cases hc2 : 128 ≤ b2 ∧ b2 < 192
          · have hls3 : lstL 2 224 2048 65535 [b0, b1, b2] = ((b0 - 224) * 64 + (b1 - 128)) * 64 + (b2 - 128) := by
              rw [ls_3_3 b0 b1 b2 hc1 hc2, fin_one (by split at hd <;> split at hd <;> omega) (by split at hd <;> split at hd <;> omega) (by split at hd <;> split at hd <;> omega)]
            have s3 : stL [b0, b1, b2] = 3 := by
              rw [st_3 b0 [b1, b2] (by omega) (by simp), hls3, if_neg (by omega)]
            have n3 := rn1 h 2 (by omega) (by simp) (by show 0 < stL [b0, b1, b2]; omega) n2
            have n4 : n ≤ 3 := by
              rcases Nat.lt_or_ge 3 n with h1 | h1
              · have hy := h.yes 4 (by omega) (by omega)
                have hl := h.len
                cases t with
                | nil => simp at hl; omega
                | cons b3 t => simp [st_3l b0 [b1, b2, b3] (by omega) (by simp)] at hy
              · exact h1
            obtain rfl : n = 3 := by omega
            simp [rnV, s3, ex, e1, e2, leastM, hls3, hc, hc2]
          · have s3 : stL [b0, b1, b2] = 0 := by
              rw [st_3 b0 [b1, b2] (by omega) (by simp), ls_3_3n b0 b1 b2 hc1 hc2, if_pos (by omega)]
            have n3 := rn0 h 2 (by show stL [b0, b1, b2] ≤ 0; omega)
            obtain rfl : n = 2 := by omega
            simp [rnV, s2, ex, e1, hc, hc2]
      · have s2 : stL [b0, b1] = 0 := by
          rw [st_3 b0 [b1] (by omega) (by simp), if_pos]
          by_cases hc1 : 128 ≤ b1 ∧ b1 < 192
          · rw [ls_3_2 b0 b1 hc1, fin_no]
            · omega
            · intro v
              unfold lo1 hi1 at hc; (repeat' split at hc) <;> omega
          · rw [ls_3_n b0 b1 [] hc1]; omega
        have n2 := rn0 h 1 (by show stL [b0, b1] ≤ 0; omega)
        obtain rfl : n = 1 := by omega
        simp [rnV, s1, ex, e1, hc]
  · have s1 : stL [b0] = 4 := by rw [st1, (fsz_4 b0 c c').1]
    have n1 := rn1 h 0 (by omega) (by simp) (by show 0 < stL [b0]; omega) (by omega)
    obtain ⟨e1, e2⟩ := fsz_4 b0 c c'
    cases t with
    | nil =>
      have := h.len
      simp at this
      obtain rfl : n = 1 := by omega
      simp [rnV, s1, ex, e1]
    | cons b1 t =>
      by_cases hc : lo1 b0 ≤ b1 ∧ b1 < hi1 b0
      · have hc1 : 128 ≤ b1 ∧ b1 < 192 := by unfold lo1 hi1 at hc; (repeat' split at hc) <;> omega
        have hd : (if b0 = 240 then 144 else 128) ≤ b1 ∧ b1 < (if b0 = 244 then 144 else 192) := by unfold lo1 hi1 at hc; (repeat' split at hc) <;> (repeat' split) <;> omega
        have hls : 0 ≤ lstL 3 240 65536 1114111 [b0, b1] := by
          rw [ls_4_2 b0 b1 hc1]
          exact fin_yes (v := ((b0 - 240) * 64 + (b1 - 128)) * 64 * 64) (by omega) (by omega) (by omega) (by split at hd <;> split at hd <;> omega) (by split at hd <;> split at hd <;> omega) (by split at hd <;> split at hd <;> omega)
        have s2 : stL [b0, b1] = 4 := by
          rw [st_4 b0 [b1] (by omega) (by simp), if_neg (by omega)]
        have n2 := rn1 h 1 (by omega) (by simp) (by show 0 < stL [b0, b1]; omega) n1
        cases t with
        | nil =>
          have := h.len
          simp at this
          obtain rfl : n = 2 := by omega
          simp [rnV, s2, ex, e1, hc]
        | cons b2 t =>
          by_cases hc2 : 128 ≤ b2 ∧ b2 < 192
          · have hls3 : 0 ≤ lstL 3 240 65536 1114111 [b0, b1, b2] := by
              rw [ls_4_3 b0 b1 b2 hc1 hc2]
              exact fin_yes (v := (((b0 - 240) * 64 + (b1 - 128)) * 64 + (b2 - 128)) * 64) (by omega) (by omega) (by omega) (by split at hd <;> split at hd <;> omega) (by split at hd <;> split at hd <;> omega) (by split at hd <;> split at hd <;> omega)
            have s3 : stL [b0, b1, b2] = 4 := by
              rw [st_4 b0 [b1, b2] (by omega) (by simp), if_neg (by omega)]
            have n3 := rn1 h 2 (by omega) (by simp) (by show 0 < stL [b0, b1, b2]; omega) n2
            cases t with
            | nil =>
              have := h.len
              simp at this
              obtain rfl : n = 3 := by omega
              simp [rnV, s3, ex, e1, hc, hc2]
            | cons b3 t =>
              by_cases hc3 : 128 ≤ b3 ∧ b3 < 192
              · have hls4 : lstL 3 240 65536 1114111 [b0, b1, b2, b3] = (((b0 - 240) * 64 + (b1 - 128)) * 64 + (b2 - 128)) * 64 + (b3 - 128) := by
                  rw [ls_4_4 b0 b1 b2 b3 hc1 hc2 hc3, fin_one (by split at hd <;> split at hd <;> omega) (by split at hd <;> split at hd <;> omega) (by split at hd <;> split at hd <;> omega)]
                have s4 : stL [b0, b1, b2, b3] = 4 := by
                  rw [st_4 b0 [b1, b2, b3] (by omega) (by simp), hls4, if_neg (by omega)]
                have n4 := rn1 h 3 (by omega) (by simp) (by show 0 < stL [b0, b1, b2, b3]; omega) n3
                have := h.four
                obtain rfl : n = 4 := by omega
                simp [rnV, s4, ex, e1, e2, leastM, hls4, hc, hc2, hc3]
              · have s4 : stL [b0, b1, b2, b3] = 0 := by
                  rw [st_4 b0 [b1, b2, b3] (by omega) (by simp), ls_4_4n b0 b1 b2 b3 hc1 hc2 hc3, if_pos (by omega)]
                have n4 := rn0 h 3 (by show stL [b0, b1, b2, b3] ≤ 0; omega)
                obtain rfl : n = 3 := by omega
                simp [rnV, s3, ex, e1, hc, hc2, hc3]
          · have s3 : stL [b0, b1, b2] = 0 := by
              rw [st_4 b0 [b1, b2] (by omega) (by simp), ls_4_3n b0 b1 b2 [] hc1 hc2, if_pos (by omega)]
            have n3 := rn0 h 2 (by show stL [b0, b1, b2] ≤ 0; omega)
            obtain rfl : n = 2 := by omega
            simp [rnV, s2, ex, e1, hc, hc2]
      · have s2 : stL [b0, b1] = 0 := by
          rw [st_4 b0 [b1] (by omega) (by simp), if_pos]
          by_cases hc1 : 128 ≤ b1 ∧ b1 < 192
          · rw [ls_4_2 b0 b1 hc1, fin_no]
            · omega
            · intro v
              unfold lo1 hi1 at hc; (repeat' split at hc) <;> omega
          · rw [ls_4_n b0 b1 [] hc1]; omega
        have n2 := rn0 h 1 (by show stL [b0, b1] ≤ 0; omega)
        obtain rfl : n = 1 := by omega
        simp [rnV, s1, ex, e1, hc]
  · have s1 : stL [b0] = 0 := by rw [st1, (fsz_0 b0 c).1]
    have n1 := rn0 h 0 (by show stL [b0] ≤ 0; omega)
    obtain rfl : n = 0 := by omega
    simp [rnV, ex, (fsz_0 b0 c).1]
end Go.Proofs.YthnfopjjghohcaaDoor.U8
namespace Go.Proofs.YthnfopjjghohcaaDoor.U8
open Go.RowKit

theorem bs_take (s : ByteArray) (k : Nat) : bs (s.extract 0 k) = (bs s).take k := by
  unfold bs
  rw [Lib.extract_data]
  simp [List.map_take]
theorem ext_size (s : ByteArray) (k : Nat) (h : k ≤ s.size) : (s.extract 0 k).size = k := by
  have := bs_len (s.extract 0 k)
  rw [bs_take, List.length_take, bs_len] at this
  omega

/-- What the loop knows behind k - 1 rounds. -/
def rnQ (l : List Nat) (k : Nat) : Prop := ∀ j, 1 ≤ j → j < k → 0 < stL (l.take j)
theorem rnQ_one (l : List Nat) : rnQ l 1 := fun j h1 h2 => by omega
theorem rnQ_next {l : List Nat} {k : Nat} (h : rnQ l k) (hk : 0 < stL (l.take k)) : rnQ l (k + 1) := fun j h1 h2 => by
  rcases Nat.lt_or_ge j k with h3 | h3
  · exact h j h1 h3
  · obtain rfl : j = k := by omega
    exact hk

theorem starts_cut (s : ByteArray) (k : Nat) (w : World) (hs : s.size ≤ 100000) (hp : 0 < k) (hk : k ≤ s.size) :
    Calls Tryd.prog 50 #[.string (s.extract 0 k)] w fun e w' => e = .returned (.int .i64 (stL ((bs s).take k))) ∧ w = w' := by
  have := starts_any (s.extract 0 k) w (by rw [ext_size s k hk]; omega) (by rw [ext_size s k hk]; omega)
  rw [bs_take] at this
  exact this

theorem rnV_0 (l : List Nat) : rnV l 0 = (0, 1, 17) := by simp [rnV]
theorem rnV_more (l : List Nat) (m : Nat) (h : m ≠ 0) (h1 : (m : Int) < stL (l.take m)) (h2 : m = l.length) : rnV l m = (0, (m : Int), 18) := by
  rw [rnV, if_neg h, if_pos h1, if_pos h2]
theorem rnV_bad (l : List Nat) (m : Nat) (h : m ≠ 0) (h1 : (m : Int) < stL (l.take m)) (h2 : ¬ m = l.length) : rnV l m = (0, (m : Int), 17) := by
  rw [rnV, if_neg h, if_pos h1, if_neg h2]
theorem rnV_one (l : List Nat) (m : Nat) (h : m ≠ 0) (h1 : ¬ (m : Int) < stL (l.take m)) (h2 : stL (l.take m) = 1) : rnV l m = (((l.headD 0 : Nat) : Int), 1, 0) := by
  rw [rnV, if_neg h, if_neg h1, if_pos h2]
theorem rnV_l (l : List Nat) (m : Nat) (h : m ≠ 0) (h1 : ¬ (m : Int) < stL (l.take m)) (h2 : ¬ stL (l.take m) = 1) : rnV l m = (leastM (stL (l.take m)) (l.take m), (m : Int), 0) := by
  rw [rnV, if_neg h, if_neg h1, if_neg h2]
theorem stL_form (l : List Nat) : stL l = 0 ∨ stL l = 1 ∨ (stL l = 2 ∧ 192 ≤ l.headD 0 ∧ l.headD 0 < 224) ∨ (stL l = 3 ∧ 224 ≤ l.headD 0 ∧ l.headD 0 < 240) ∨ (stL l = 4 ∧ 240 ≤ l.headD 0 ∧ l.headD 0 < 248) := by
  unfold stL
  generalize l.headD 0 = b
  (repeat' split) <;> omega

theorem least_cut (s : ByteArray) (m : Nat) (w : World) (hs : s.size ≤ 100000) (hp : 0 < m) (hm : m ≤ s.size) (h2 : 2 ≤ stL ((bs s).take m)) :
    Calls Tryd.prog 51 #[.string (s.extract 0 m), .int .i64 (stL ((bs s).take m))] w fun e w' => e = .returned (.int .i32 (leastM (stL ((bs s).take m)) ((bs s).take m))) ∧ w = w' := by
  have hz := ext_size s m hm
  have hh : ((bs s).take m).headD 0 = (s.extract 0 m)[0].toNat := by rw [← bs_take, bs_headD _ (by omega)]
  rcases stL_form ((bs s).take m) with h | h | ⟨h, a, b⟩ | ⟨h, a, b⟩ | ⟨h, a, b⟩
  · omega
  · omega
  · rw [hh] at a b
    have := least2 (s.extract 0 m) w (by omega) (by omega) a b
    rw [lst_L, bs_take] at this
    rw [h]; simpa [leastM] using this
  · rw [hh] at a b
    have := least3 (s.extract 0 m) w (by omega) (by omega) a b
    rw [lst_L, bs_take] at this
    rw [h]; simpa [leastM] using this
  · rw [hh] at a b
    have := least4 (s.extract 0 m) w (by omega) (by omega) a b
    rw [lst_L, bs_take] at this
    rw [h]; simpa [leastM] using this

set_option maxRecDepth 100000 in
set_option maxHeartbeats 2000000 in
theorem rnext_any (s : ByteArray) (w : World) (hs : s.size ≤ 100000) : Calls Tryd.prog 37 #[.string s] w fun e w' => e = .returned (nxV (nx (bs s))) ∧ w = w' := by
  by_cases h1 : s.size = 0
  · have he : s.toList.isEmpty = true := by rw [isE]; simpa using h1
    have HF := Lib.hid (nx_nil s h1)
    clear h1
    go_enter Tryd.func37, Tryd.ntmps37
    go_wp2
    go_ret3
    exact ⟨nxV_eq HF.out, rfl⟩
  have hp : 0 < s.size := by omega
  have he : s.toList.isEmpty = false := by rw [isE]; simpa using h1
  clear h1
  go_enter Tryd.func37, Tryd.ntmps37
  go_wp2_with fail
  go_loop [5, 6] (fun n i => ∃ k : Nat, n = .int .i64 ((k : Int) - 1) ∧ i = .int .i64 k ∧ 1 ≤ k ∧ k ≤ 5 ∧ k ≤ s.size + 1 ∧ Hid (rnQ (bs s) k)) (fun _ i => (5 - intOf i).toNat)
  case atStart => exact ⟨1, rfl, rfl, by omega, by omega, by omega, rnQ_one _⟩
  case round =>
    obtain ⟨k, rfl, rfl, k1, k5, ks, HQ⟩ := hrel
    by_cases c1 : k ≤ s.size ∧ k ≤ 4 ∧ 0 < stL ((bs s).take k)
    · obtain ⟨c1, c2, c3⟩ := c1
      have HN := Lib.hid (rnQ_next HQ.out c3)
      have c1' : (k : Int) ≤ s.size := by omega
      have c2' : (k : Int) ≤ 4 := by omega
      go_wp2_with fail
      refine (starts_cut s k _ hs (by omega) c1).mono ?_
      rintro e w' ⟨rfl, rfl⟩
      go_wp2
      go_round
      case rel => exact ⟨k + 1, by go_num, by go_num, by omega, by omega, by omega, HN.out⟩
      case measure => simp [intOf]; omega
    · obtain ⟨m, rfl⟩ : ∃ m, k = m + 1 := ⟨k - 1, by omega⟩
      have hP : rnP (bs s) m := ⟨by omega, by rw [bs_len]; omega, fun j h1 h2 => HQ.out j h1 (by omega), fun h1 h2 => by
        rw [bs_len] at h2
        rcases Int.lt_or_le 0 (stL ((bs s).take (m + 1))) with h3 | h3
        · exact absurd ⟨by omega, by omega, h3⟩ c1
        · exact h3⟩
      have hM := rn_math (bs s) m (by intro h; have := bs_len s; rw [h] at this; simp at this; omega) hP
      rw [← nx_ex] at hM
      have hmem := bs_headD s hp
      have hlen := bs_len s
      have HP := Lib.hid hP
      clear hP
      have hb : (s[0].toNat : Int) < 256 := by have := s[0].toNat_lt; omega
      have hm4 : m ≤ 4 := by omega
      have hms : m ≤ s.size := by omega
      have hkm : ((m + 1 : Nat) : Int) - 1 = m := by omega
      rw [hkm]
      clear hkm
      have hex : s.size < m + 1 ∨ (m + 1 ≤ s.size ∧ 4 < m + 1) ∨ (m + 1 ≤ s.size ∧ m + 1 ≤ 4 ∧ stL ((bs s).take (m + 1)) ≤ 0) := by
        rcases Nat.lt_or_ge s.size (m + 1) with h | h
        · exact .inl h
        · rcases Nat.lt_or_ge 4 (m + 1) with h' | h'
          · exact .inr (.inl ⟨h, h'⟩)
          · exact .inr (.inr ⟨h, h', by
              rcases Int.lt_or_le 0 (stL ((bs s).take (m + 1))) with h3 | h3
              · exact absurd ⟨h, h', h3⟩ c1
              · exact h3⟩)
      clear c1
      by_cases m0 : m = 0
      · have HV := Lib.hid (hM.symm.trans (by rw [m0, rnV_0]))
        clear hM hmem hlen
        subst m0
        rw [show ((0 : Nat) : Int) = 0 from rfl, show ((0 + 1 : Nat) : Int) = 1 from rfl]
        rcases hex with x1 | ⟨x1, x2⟩ | ⟨x1, x2, x3⟩
        · omega
        · omega
        · have x4 : stL ((bs s).take 1) ≤ 0 := x3
          clear x3
          go_wp2_with fail
          refine (starts_cut s 1 _ hs (by omega) x1).mono ?_
          rintro e w' ⟨rfl, rfl⟩
          go_wp2
          go_ret3
          exact ⟨nxV_eq HV.out, rfl⟩
      · have m1 : 1 ≤ m := by omega
        have hmz : ((m : Int) == 0) = false := by simp; omega
        by_cases l1 : (m : Int) < stL ((bs s).take m)
        · by_cases l2 : m = s.size
          · have HV := Lib.hid (hM.symm.trans (rnV_more _ m m0 l1 (by omega)))
            have hq : ((m : Int) == (s.size : Int)) = true := by simp; omega
            have L2 := Lib.hid l2
            clear hM hmem hlen l2 m0
            rcases hex with x1 | ⟨x1, x2⟩ | ⟨x1, x2, x3⟩
            · go_wp2_with fail
              refine (starts_cut s m _ hs (by omega) hms).mono ?_
              rintro e w' ⟨rfl, rfl⟩
              go_wp2
              go_ret3
              exact ⟨nxV_eq HV.out, rfl⟩
            · go_wp2_with fail
              refine (starts_cut s m _ hs (by omega) hms).mono ?_
              rintro e w' ⟨rfl, rfl⟩
              go_wp2
              go_ret3
              exact ⟨nxV_eq HV.out, rfl⟩
            · go_wp2_with fail
              refine (starts_cut s (m + 1) _ hs (by omega) x1).mono ?_
              rintro e w' ⟨rfl, rfl⟩
              go_wp2_with fail
              refine (starts_cut s m _ hs (by omega) hms).mono ?_
              rintro e w' ⟨rfl, rfl⟩
              go_wp2
              go_ret3
              exact ⟨nxV_eq HV.out, rfl⟩
          · have HV := Lib.hid (hM.symm.trans (rnV_bad _ m m0 l1 (by omega)))
            have hq : ((m : Int) == (s.size : Int)) = false := by simp; omega
            clear hM hmem hlen l2 m0
            rcases hex with x1 | ⟨x1, x2⟩ | ⟨x1, x2, x3⟩
            · go_wp2_with fail
              refine (starts_cut s m _ hs (by omega) hms).mono ?_
              rintro e w' ⟨rfl, rfl⟩
              go_wp2
              go_ret3
              exact ⟨nxV_eq HV.out, rfl⟩
            · go_wp2_with fail
              refine (starts_cut s m _ hs (by omega) hms).mono ?_
              rintro e w' ⟨rfl, rfl⟩
              go_wp2
              go_ret3
              exact ⟨nxV_eq HV.out, rfl⟩
            · go_wp2_with fail
              refine (starts_cut s (m + 1) _ hs (by omega) x1).mono ?_
              rintro e w' ⟨rfl, rfl⟩
              go_wp2_with fail
              refine (starts_cut s m _ hs (by omega) hms).mono ?_
              rintro e w' ⟨rfl, rfl⟩
              go_wp2
              go_ret3
              exact ⟨nxV_eq HV.out, rfl⟩
        · by_cases l2 : stL ((bs s).take m) = 1
          · have HV := Lib.hid (hM.symm.trans (rnV_one _ m m0 l1 l2))
            rw [hmem] at HV
            have hq : (stL ((bs s).take m) == 1) = true := by simp [l2]
            clear hM hmem hlen l2 m0
            rcases hex with x1 | ⟨x1, x2⟩ | ⟨x1, x2, x3⟩
            · go_wp2_with fail
              refine (starts_cut s m _ hs (by omega) hms).mono ?_
              rintro e w' ⟨rfl, rfl⟩
              go_wp2
              go_ret3
              exact ⟨nxV_eq HV.out, rfl⟩
            · go_wp2_with fail
              refine (starts_cut s m _ hs (by omega) hms).mono ?_
              rintro e w' ⟨rfl, rfl⟩
              go_wp2
              go_ret3
              exact ⟨nxV_eq HV.out, rfl⟩
            · go_wp2_with fail
              refine (starts_cut s (m + 1) _ hs (by omega) x1).mono ?_
              rintro e w' ⟨rfl, rfl⟩
              go_wp2_with fail
              refine (starts_cut s m _ hs (by omega) hms).mono ?_
              rintro e w' ⟨rfl, rfl⟩
              go_wp2
              go_ret3
              exact ⟨nxV_eq HV.out, rfl⟩
          · have HV := Lib.hid (hM.symm.trans (rnV_l _ m m0 l1 l2))
            have hq : (stL ((bs s).take m) == 1) = false := by simp [l2]
            have l3 : 2 ≤ stL ((bs s).take m) := by have := HP.out.yes m m1 (Nat.le_refl _); omega
            clear hM hmem hlen l2 m0
            rcases hex with x1 | ⟨x1, x2⟩ | ⟨x1, x2, x3⟩
            · go_wp2_with fail
              refine (starts_cut s m _ hs (by omega) hms).mono ?_
              rintro e w' ⟨rfl, rfl⟩
              go_wp2_with fail
              refine (least_cut s m _ hs (by omega) hms l3).mono ?_
              rintro e w' ⟨rfl, rfl⟩
              go_wp2
              go_ret3
              exact ⟨nxV_eq HV.out, rfl⟩
            · go_wp2_with fail
              refine (starts_cut s m _ hs (by omega) hms).mono ?_
              rintro e w' ⟨rfl, rfl⟩
              go_wp2_with fail
              refine (least_cut s m _ hs (by omega) hms l3).mono ?_
              rintro e w' ⟨rfl, rfl⟩
              go_wp2
              go_ret3
              exact ⟨nxV_eq HV.out, rfl⟩
            · go_wp2_with fail
              refine (starts_cut s (m + 1) _ hs (by omega) x1).mono ?_
              rintro e w' ⟨rfl, rfl⟩
              go_wp2_with fail
              refine (starts_cut s m _ hs (by omega) hms).mono ?_
              rintro e w' ⟨rfl, rfl⟩
              go_wp2_with fail
              refine (least_cut s m _ hs (by omega) hms l3).mono ?_
              rintro e w' ⟨rfl, rfl⟩
              go_wp2
              go_ret3
              exact ⟨nxV_eq HV.out, rfl⟩
end Go.Proofs.YthnfopjjghohcaaDoor.U8
namespace Go.Proofs.YthnfopjjghohcaaDoor.U8
open Go.RowKit

theorem rnext_from (s : ByteArray) (k : Nat) (w : World) (hs : s.size ≤ 100000) (r e : Int) (n : Nat) (hx : nx ((bs s).drop k) = (r, (n : Int), e)) :
    Calls Tryd.prog 37 #[.string (s.extract k s.size)] w fun v w' => v = .returned (.tuple #[.int .i32 r, .int .i64 n, .int .i64 e]) ∧ w = w' := by
  have := rnext_any (s.extract k s.size) w (by rw [ext_from]; omega)
  rw [bs_from, hx] at this
  exact this

end Go.Proofs.YthnfopjjghohcaaDoor.U8

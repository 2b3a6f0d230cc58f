import Derived.Test.YtoiedhkhmdgipaaDoorG
namespace Go.Proofs.YtoiedhkhmdgipaaDoor
open Go.RowKit

theorem ls_2_1 (b0 : Nat) : lstL 1 192 128 2047 [b0] = fin3 128 2047 ((b0 - 192) * 64) ((b0 - 192) * 64 + 63) := by simp [lstL, lsL, finO]
theorem ls_2_2 (b0 b1 : Nat) (h : 128 ≤ b1 ∧ b1 < 192) : lstL 1 192 128 2047 [b0, b1] = fin3 128 2047 ((b0 - 192) * 64 + (b1 - 128)) ((b0 - 192) * 64 + (b1 - 128)) := by simp [lstL, lsL, finO, h]
theorem ls_2_n (b0 b1 : Nat) (h : ¬ (128 ≤ b1 ∧ b1 < 192)) : lstL 1 192 128 2047 [b0, b1] = -1 := by simp [lstL, lsL, finO, h]
theorem ls_3_1 (b0 : Nat) : lstL 2 224 2048 65535 [b0] = fin3 2048 65535 ((b0 - 224) * 64 * 64) (((b0 - 224) * 64 + 63) * 64 + 63) := by simp [lstL, lsL, finO]
theorem ls_3_2 (b0 b1 : Nat) (h : 128 ≤ b1 ∧ b1 < 192) : lstL 2 224 2048 65535 [b0, b1] = fin3 2048 65535 (((b0 - 224) * 64 + (b1 - 128)) * 64) (((b0 - 224) * 64 + (b1 - 128)) * 64 + 63) := by simp [lstL, lsL, finO, h]
theorem ls_3_n (b0 b1 : Nat) (t : List Nat) (h : ¬ (128 ≤ b1 ∧ b1 < 192)) : lstL 2 224 2048 65535 (b0 :: b1 :: t) = -1 := by simp [lstL, lsL, finO, h]
theorem ls_3_3 (b0 b1 b2 : Nat) (h : 128 ≤ b1 ∧ b1 < 192) (h2 : 128 ≤ b2 ∧ b2 < 192) : lstL 2 224 2048 65535 [b0, b1, b2] = fin3 2048 65535 (((b0 - 224) * 64 + (b1 - 128)) * 64 + (b2 - 128)) (((b0 - 224) * 64 + (b1 - 128)) * 64 + (b2 - 128)) := by simp [lstL, lsL, finO, h, h2]
theorem ls_3_3n (b0 b1 b2 : Nat) (h : 128 ≤ b1 ∧ b1 < 192) (h2 : ¬ (128 ≤ b2 ∧ b2 < 192)) : lstL 2 224 2048 65535 [b0, b1, b2] = -1 := by simp [lstL, lsL, finO, h, h2]
theorem ls_4_1 (b0 : Nat) : lstL 3 240 65536 1114111 [b0] = fin3 65536 1114111 ((b0 - 240) * 64 * 64 * 64) ((((b0 - 240) * 64 + 63) * 64 + 63) * 64 + 63) := by simp [lstL, lsL, finO]
theorem ls_4_2 (b0 b1 : Nat) (h : 128 ≤ b1 ∧ b1 < 192) : lstL 3 240 65536 1114111 [b0, b1] = fin3 65536 1114111 (((b0 - 240) * 64 + (b1 - 128)) * 64 * 64) ((((b0 - 240) * 64 + (b1 - 128)) * 64 + 63) * 64 + 63) := by simp [lstL, lsL, finO, h]
theorem ls_4_n (b0 b1 : Nat) (t : List Nat) (h : ¬ (128 ≤ b1 ∧ b1 < 192)) : lstL 3 240 65536 1114111 (b0 :: b1 :: t) = -1 := by simp [lstL, lsL, finO, h]
theorem ls_4_3 (b0 b1 b2 : Nat) (h : 128 ≤ b1 ∧ b1 < 192) (h2 : 128 ≤ b2 ∧ b2 < 192) : lstL 3 240 65536 1114111 [b0, b1, b2] = fin3 65536 1114111 ((((b0 - 240) * 64 + (b1 - 128)) * 64 + (b2 - 128)) * 64) ((((b0 - 240) * 64 + (b1 - 128)) * 64 + (b2 - 128)) * 64 + 63) := by simp [lstL, lsL, finO, h, h2]
theorem ls_4_3n (b0 b1 b2 : Nat) (t : List Nat) (h : 128 ≤ b1 ∧ b1 < 192) (h2 : ¬ (128 ≤ b2 ∧ b2 < 192)) : lstL 3 240 65536 1114111 (b0 :: b1 :: b2 :: t) = -1 := by simp [lstL, lsL, finO, h, h2]
theorem ls_4_4 (b0 b1 b2 b3 : Nat) (h : 128 ≤ b1 ∧ b1 < 192) (h2 : 128 ≤ b2 ∧ b2 < 192) (h3 : 128 ≤ b3 ∧ b3 < 192) : lstL 3 240 65536 1114111 [b0, b1, b2, b3] = fin3 65536 1114111 ((((b0 - 240) * 64 + (b1 - 128)) * 64 + (b2 - 128)) * 64 + (b3 - 128)) ((((b0 - 240) * 64 + (b1 - 128)) * 64 + (b2 - 128)) * 64 + (b3 - 128)) := by simp [lstL, lsL, finO, h, h2, h3]
theorem ls_4_4n (b0 b1 b2 b3 : Nat) (h : 128 ≤ b1 ∧ b1 < 192) (h2 : 128 ≤ b2 ∧ b2 < 192) (h3 : ¬ (128 ≤ b3 ∧ b3 < 192)) : lstL 3 240 65536 1114111 [b0, b1, b2, b3] = -1 := by simp [lstL, lsL, finO, h, h2, h3]

theorem fin_no {a z n h : Int} (hx : ∀ v, n ≤ v → v ≤ h → a ≤ v → v ≤ z → 55296 ≤ v ∧ v ≤ 57343) : fin3 a z n h = -1 := by
  unfold fin3
  rw [if_pos]
  by_cases c : 55296 ≤ max n a ∧ max n a ≤ 57343
  · rw [if_pos c]
    have := hx 57344
    omega
  · rw [if_neg c]
    have := hx (max n a)
    omega
theorem fin_one {a z n : Int} (h1 : a ≤ n) (h2 : n ≤ z) (h3 : n < 55296 ∨ 57343 < n) : fin3 a z n n = n := by
  unfold fin3
  have : max n a = n := by omega
  rw [this, if_neg (by omega : ¬ (55296 ≤ n ∧ n ≤ 57343)), if_neg (by omega)]
theorem fin_yes {a z n h v : Int} (ha : 0 ≤ a) (h1 : n ≤ v) (h2 : v ≤ h) (h3 : a ≤ v) (h4 : v ≤ z) (h5 : v < 55296 ∨ 57343 < v) : 0 ≤ fin3 a z n h := by
  unfold fin3
  (repeat' split) <;> omega

/-! How Starts answers of the first one, two, three and four bytes. -/
theorem stL_cons (b0 : Nat) (t : List Nat) : stL (b0 :: t) =
    (if b0 < 128 then (if 1 < t.length + 1 then 0 else 1)
    else if b0 < 192 then 0
    else if b0 < 224 then (if 2 < t.length + 1 then 0 else if lstL 1 192 128 2047 (b0 :: t) < 0 then 0 else 2)
    else if b0 < 240 then (if 3 < t.length + 1 then 0 else if lstL 2 224 2048 65535 (b0 :: t) < 0 then 0 else 3)
    else if b0 < 248 then (if 4 < t.length + 1 then 0 else if lstL 3 240 65536 1114111 (b0 :: t) < 0 then 0 else 4)
    else 0) := rfl
theorem st1 (b0 : Nat) : stL [b0] = fsz b0 := by
  rw [stL_cons]
  rw [ls_2_1, ls_3_1, ls_4_1]
  by_cases c1 : b0 < 128
  · rw [if_pos c1, (fsz_1 b0 (by omega)).1, if_neg (by simp)]
  rw [if_neg c1]
  by_cases c2 : b0 < 192
  · rw [if_pos c2, (fsz_0 b0 (by omega)).1]
  rw [if_neg c2]
  by_cases c3 : b0 < 224
  · rw [if_pos c3, if_neg (by simp)]
    by_cases c : b0 < 194
    · rw [fin_no (by intro v; omega), if_pos (by omega), (fsz_0 b0 (by omega)).1]
    · have := fin_yes (a := 128) (z := 2047) (n := ((b0 : Int) - 192) * 64) (h := ((b0 : Int) - 192) * 64 + 63) (v := ((b0 : Int) - 192) * 64) (by omega) (by omega) (by omega) (by omega) (by omega) (by omega)
      rw [if_neg (by omega), (fsz_2 b0 (by omega) (by omega)).1]
  rw [if_neg c3]
  by_cases c4 : b0 < 240
  · rw [if_pos c4, if_neg (by simp)]
    have := fin_yes (a := 2048) (z := 65535) (n := ((b0 : Int) - 224) * 64 * 64) (h := (((b0 : Int) - 224) * 64 + 63) * 64 + 63) (v := if b0 = 224 then 2048 else ((b0 : Int) - 224) * 64 * 64) (by omega) (by split <;> omega) (by split <;> omega) (by split <;> omega) (by split <;> omega) (by split <;> omega)
    rw [if_neg (by omega), (fsz_3 b0 (by omega) (by omega)).1]
  rw [if_neg c4]
  by_cases c5 : b0 < 248
  · rw [if_pos c5, if_neg (by simp)]
    by_cases c : b0 < 245
    · have := fin_yes (a := 65536) (z := 1114111) (n := ((b0 : Int) - 240) * 64 * 64 * 64) (h := ((((b0 : Int) - 240) * 64 + 63) * 64 + 63) * 64 + 63) (v := if b0 = 240 then 65536 else ((b0 : Int) - 240) * 64 * 64 * 64) (by omega) (by split <;> omega) (by split <;> omega) (by split <;> omega) (by split <;> omega) (by split <;> omega)
      rw [if_neg (by omega), (fsz_4 b0 (by omega) (by omega)).1]
    · rw [fin_no (by intro v; omega), if_pos (by omega), (fsz_0 b0 (by omega)).1]
  rw [if_neg c5, (fsz_0 b0 (by omega)).1]

theorem st_1 (b0 b1 : Nat) (t : List Nat) (h : b0 < 128) : stL (b0 :: b1 :: t) = 0 := by
  rw [stL_cons, if_pos h, if_pos (by simp)]
theorem st_2 (b0 : Nat) (t : List Nat) (h : 192 ≤ b0 ∧ b0 < 224) (hl : t.length < 2) : stL (b0 :: t) = if lstL 1 192 128 2047 (b0 :: t) < 0 then 0 else 2 := by
  rw [stL_cons, if_neg (by omega), if_neg (by omega), if_pos h.2, if_neg (by omega)]
theorem st_2l (b0 : Nat) (t : List Nat) (h : 192 ≤ b0 ∧ b0 < 224) (hl : 2 ≤ t.length) : stL (b0 :: t) = 0 := by
  rw [stL_cons, if_neg (by omega), if_neg (by omega), if_pos h.2, if_pos (by omega)]
theorem st_3 (b0 : Nat) (t : List Nat) (h : 224 ≤ b0 ∧ b0 < 240) (hl : t.length < 3) : stL (b0 :: t) = if lstL 2 224 2048 65535 (b0 :: t) < 0 then 0 else 3 := by
  rw [stL_cons, if_neg (by omega), if_neg (by omega), if_neg (by omega), if_pos h.2, if_neg (by omega)]
theorem st_3l (b0 : Nat) (t : List Nat) (h : 224 ≤ b0 ∧ b0 < 240) (hl : 3 ≤ t.length) : stL (b0 :: t) = 0 := by
  rw [stL_cons, if_neg (by omega), if_neg (by omega), if_neg (by omega), if_pos h.2, if_pos (by omega)]
theorem st_4 (b0 : Nat) (t : List Nat) (h : 240 ≤ b0 ∧ b0 < 245) (hl : t.length < 4) : stL (b0 :: t) = if lstL 3 240 65536 1114111 (b0 :: t) < 0 then 0 else 4 := by
  rw [stL_cons, if_neg (by omega), if_neg (by omega), if_neg (by omega), if_neg (by omega), if_pos (by omega), if_neg (by omega)]

/-- How far the bytes are a beginning: n of them. -/
structure rnP (l : List Nat) (n : Nat) : Prop where
  four : n ≤ 4
  len : n ≤ l.length
  yes : ∀ j, 1 ≤ j → j ≤ n → 0 < stL (l.take j)
  no : n < 4 → n < l.length → stL (l.take (n + 1)) ≤ 0
def leastM (many : Int) (l : List Nat) : Int := if many = 2 then lstL 1 192 128 2047 l else if many = 3 then lstL 2 224 2048 65535 l else lstL 3 240 65536 1114111 l
def rnV (l : List Nat) (n : Nat) : Int × Int × Int :=
  if n = 0 then (0, 1, 17) else if (n : Int) < stL (l.take n) then (if n = l.length then (0, n, 18) else (0, n, 17)) else if stL (l.take n) = 1 then (l.headD 0, 1, 0) else (leastM (stL (l.take n)) (l.take n), n, 0)

theorem rn1 {l : List Nat} {n : Nat} (h : rnP l n) (k : Nat) (hk : k < 4) (hl : k < l.length) (hs : 0 < stL (l.take (k + 1))) (hn : k ≤ n) : k + 1 ≤ n := by
  rcases Nat.lt_or_ge k n with h1 | h1
  · exact h1
  · obtain rfl : n = k := by omega
    have := h.no hk hl
    omega
theorem rn0 {l : List Nat} {n : Nat} (h : rnP l n) (k : Nat) (hs : stL (l.take (k + 1)) ≤ 0) : n ≤ k := by
  rcases Nat.lt_or_ge k n with h1 | h1
  · have := h.yes (k + 1) (by omega) h1
    omega
  · exact h1

theorem rn_math (l : List Nat) (n : Nat) (hne : l ≠ []) (h : rnP l n) : rnV l n = ex l := by
  cases l with
  | nil => exact absurd rfl hne
  | cons b0 t =>
  rcases parts b0 with c | ⟨c, c'⟩ | ⟨c, c'⟩ | ⟨c, c'⟩ | c
  · have s1 : stL [b0] = 1 := by rw [st1, (fsz_1 b0 c).1]
    have n1 := rn1 h 0 (by omega) (by simp) (by show 0 < stL [b0]; omega) (by omega)
    have n2 : n ≤ 1 := by
      rcases Nat.lt_or_ge 1 n with h1 | h1
      · have hy := h.yes 2 (by omega) (by omega)
        have hl := h.len
        cases t with
        | nil => simp at hl; omega
        | cons b1 t => simp [st_1 b0 b1 [] (by omega)] at hy
      · exact h1
    obtain rfl : n = 1 := by omega
    simp [rnV, s1, ex, (fsz_1 b0 c).1]
  · have s1 : stL [b0] = 2 := by rw [st1, (fsz_2 b0 c c').1]
    have n1 := rn1 h 0 (by omega) (by simp) (by show 0 < stL [b0]; omega) (by omega)
    obtain ⟨e1, e2⟩ := fsz_2 b0 c c'
    have hl : lo1 b0 = 128 := by unfold lo1; (repeat' split) <;> omega
    have hh : hi1 b0 = 192 := by unfold hi1; (repeat' split) <;> omega
    cases t with
    | nil =>
      have := h.len
      simp at this
      obtain rfl : n = 1 := by omega
      simp [rnV, s1, ex, e1]
    | cons b1 t =>
      by_cases hc : 128 ≤ b1 ∧ b1 < 192
      · have hls : lstL 1 192 128 2047 [b0, b1] = (b0 - 192) * 64 + (b1 - 128) := by rw [ls_2_2 b0 b1 hc, fin_one (by omega) (by omega) (by omega)]
        have s2 : stL [b0, b1] = 2 := by
          rw [st_2 b0 [b1] (by omega) (by simp), hls, if_neg (by omega)]
        have n2 := rn1 h 1 (by omega) (by simp) (by show 0 < stL [b0, b1]; omega) n1
        have n3 : n ≤ 2 := by
          rcases Nat.lt_or_ge 2 n with h1 | h1
          · have hy := h.yes 3 (by omega) (by omega)
            have hl := h.len
            cases t with
            | nil => simp at hl; omega
            | cons b2 t => simp [st_2l b0 [b1, b2] (by omega) (by simp)] at hy
          · exact h1
        obtain rfl : n = 2 := by omega
        simp [rnV, s2, ex, e1, e2, leastM, hls, hl, hh, hc]
      · have s2 : stL [b0, b1] = 0 := by
          rw [st_2 b0 [b1] (by omega) (by simp), ls_2_n b0 b1 hc, if_pos (by omega)]
        have n2 := rn0 h 1 (by show stL [b0, b1] ≤ 0; omega)
        obtain rfl : n = 1 := by omega
        simp [rnV, s1, ex, e1, hl, hh, hc]
  · have s1 : stL [b0] = 3 := by rw [st1, (fsz_3 b0 c c').1]
    have n1 := rn1 h 0 (by omega) (by simp) (by show 0 < stL [b0]; omega) (by omega)
    obtain ⟨e1, e2⟩ := fsz_3 b0 c c'
    cases t with
    | nil =>
      have := h.len
      simp at this
      obtain rfl : n = 1 := by omega
      simp [rnV, s1, ex, e1]
    | cons b1 t =>
      by_cases hc : lo1 b0 ≤ b1 ∧ b1 < hi1 b0
      · have hc1 : 128 ≤ b1 ∧ b1 < 192 := by unfold lo1 hi1 at hc; (repeat' split at hc) <;> omega
        have hd : (if b0 = 224 then 160 else 128) ≤ b1 ∧ b1 < (if b0 = 237 then 160 else 192) := by unfold lo1 hi1 at hc; (repeat' split at hc) <;> (repeat' split) <;> omega
        have hls : 0 ≤ lstL 2 224 2048 65535 [b0, b1] := by
          rw [ls_3_2 b0 b1 hc1]
          exact fin_yes (v := ((b0 - 224) * 64 + (b1 - 128)) * 64) (by omega) (by omega) (by omega) (by split at hd <;> split at hd <;> omega) (by split at hd <;> split at hd <;> omega) (by split at hd <;> split at hd <;> omega)
        have s2 : stL [b0, b1] = 3 := by
          rw [st_3 b0 [b1] (by omega) (by simp), if_neg (by omega)]
        have n2 := rn1 h 1 (by omega) (by simp) (by show 0 < stL [b0, b1]; omega) n1
        cases t with
        | nil =>
          have := h.len
          simp at this
          obtain rfl : n = 2 := by omega
          simp [rnV, s2, ex, e1, hc]
        | cons b2 t =>
          by_cases hc2 : 128 ≤ b2 ∧ b2 < 192
          · have hls3 : lstL 2 224 2048 65535 [b0, b1, b2] = ((b0 - 224) * 64 + (b1 - 128)) * 64 + (b2 - 128) := by
              rw [ls_3_3 b0 b1 b2 hc1 hc2, fin_one (by split at hd <;> split at hd <;> omega) (by split at hd <;> split at hd <;> omega) (by split at hd <;> split at hd <;> omega)]
            have s3 : stL [b0, b1, b2] = 3 := by
              rw [st_3 b0 [b1, b2] (by omega) (by simp), hls3, if_neg (by omega)]
            have n3 := rn1 h 2 (by omega) (by simp) (by show 0 < stL [b0, b1, b2]; omega) n2
            have n4 : n ≤ 3 := by
              rcases Nat.lt_or_ge 3 n with h1 | h1
              · have hy := h.yes 4 (by omega) (by omega)
                have hl := h.len
                cases t with
                | nil => simp at hl; omega
                | cons b3 t => simp [st_3l b0 [b1, b2, b3] (by omega) (by simp)] at hy
              · exact h1
            obtain rfl : n = 3 := by omega
            simp [rnV, s3, ex, e1, e2, leastM, hls3, hc, hc2]
          · have s3 : stL [b0, b1, b2] = 0 := by
              rw [st_3 b0 [b1, b2] (by omega) (by simp), ls_3_3n b0 b1 b2 hc1 hc2, if_pos (by omega)]
            have n3 := rn0 h 2 (by show stL [b0, b1, b2] ≤ 0; omega)
            obtain rfl : n = 2 := by omega
            simp [rnV, s2, ex, e1, hc, hc2]
      · have s2 : stL [b0, b1] = 0 := by
          rw [st_3 b0 [b1] (by omega) (by simp), if_pos]
          by_cases hc1 : 128 ≤ b1 ∧ b1 < 192
          · rw [ls_3_2 b0 b1 hc1, fin_no]
            · omega
            · intro v
              unfold lo1 hi1 at hc; (repeat' split at hc) <;> omega
          · rw [ls_3_n b0 b1 [] hc1]; omega
        have n2 := rn0 h 1 (by show stL [b0, b1] ≤ 0; omega)
        obtain rfl : n = 1 := by omega
        simp [rnV, s1, ex, e1, hc]
  · have s1 : stL [b0] = 4 := by rw [st1, (fsz_4 b0 c c').1]
    have n1 := rn1 h 0 (by omega) (by simp) (by show 0 < stL [b0]; omega) (by omega)
    obtain ⟨e1, e2⟩ := fsz_4 b0 c c'
    cases t with
    | nil =>
      have := h.len
      simp at this
      obtain rfl : n = 1 := by omega
      simp [rnV, s1, ex, e1]
    | cons b1 t =>
      by_cases hc : lo1 b0 ≤ b1 ∧ b1 < hi1 b0
      · have hc1 : 128 ≤ b1 ∧ b1 < 192 := by unfold lo1 hi1 at hc; (repeat' split at hc) <;> omega
        have hd : (if b0 = 240 then 144 else 128) ≤ b1 ∧ b1 < (if b0 = 244 then 144 else 192) := by unfold lo1 hi1 at hc; (repeat' split at hc) <;> (repeat' split) <;> omega
        have hls : 0 ≤ lstL 3 240 65536 1114111 [b0, b1] := by
          rw [ls_4_2 b0 b1 hc1]
          exact fin_yes (v := ((b0 - 240) * 64 + (b1 - 128)) * 64 * 64) (by omega) (by omega) (by omega) (by split at hd <;> split at hd <;> omega) (by split at hd <;> split at hd <;> omega) (by split at hd <;> split at hd <;> omega)
        have s2 : stL [b0, b1] = 4 := by
          rw [st_4 b0 [b1] (by omega) (by simp), if_neg (by omega)]
        have n2 := rn1 h 1 (by omega) (by simp) (by show 0 < stL [b0, b1]; omega) n1
        cases t with
        | nil =>
          have := h.len
          simp at this
          obtain rfl : n = 2 := by omega
          simp [rnV, s2, ex, e1, hc]
        | cons b2 t =>
          by_cases hc2 : 128 ≤ b2 ∧ b2 < 192
          · have hls3 : 0 ≤ lstL 3 240 65536 1114111 [b0, b1, b2] := by
              rw [ls_4_3 b0 b1 b2 hc1 hc2]
              exact fin_yes (v := (((b0 - 240) * 64 + (b1 - 128)) * 64 + (b2 - 128)) * 64) (by omega) (by omega) (by omega) (by split at hd <;> split at hd <;> omega) (by split at hd <;> split at hd <;> omega) (by split at hd <;> split at hd <;> omega)
            have s3 : stL [b0, b1, b2] = 4 := by
              rw [st_4 b0 [b1, b2] (by omega) (by simp), if_neg (by omega)]
            have n3 := rn1 h 2 (by omega) (by simp) (by show 0 < stL [b0, b1, b2]; omega) n2
            cases t with
            | nil =>
              have := h.len
              simp at this
              obtain rfl : n = 3 := by omega
              simp [rnV, s3, ex, e1, hc, hc2]
            | cons b3 t =>
              by_cases hc3 : 128 ≤ b3 ∧ b3 < 192
              · have hls4 : lstL 3 240 65536 1114111 [b0, b1, b2, b3] = (((b0 - 240) * 64 + (b1 - 128)) * 64 + (b2 - 128)) * 64 + (b3 - 128) := by
                  rw [ls_4_4 b0 b1 b2 b3 hc1 hc2 hc3, fin_one (by split at hd <;> split at hd <;> omega) (by split at hd <;> split at hd <;> omega) (by split at hd <;> split at hd <;> omega)]
                have s4 : stL [b0, b1, b2, b3] = 4 := by
                  rw [st_4 b0 [b1, b2, b3] (by omega) (by simp), hls4, if_neg (by omega)]
                have n4 := rn1 h 3 (by omega) (by simp) (by show 0 < stL [b0, b1, b2, b3]; omega) n3
                have := h.four
                obtain rfl : n = 4 := by omega
                simp [rnV, s4, ex, e1, e2, leastM, hls4, hc, hc2, hc3]
              · have s4 : stL [b0, b1, b2, b3] = 0 := by
                  rw [st_4 b0 [b1, b2, b3] (by omega) (by simp), ls_4_4n b0 b1 b2 b3 hc1 hc2 hc3, if_pos (by omega)]
                have n4 := rn0 h 3 (by show stL [b0, b1, b2, b3] ≤ 0; omega)
                obtain rfl : n = 3 := by omega
                simp [rnV, s3, ex, e1, hc, hc2, hc3]
          · have s3 : stL [b0, b1, b2] = 0 := by
              rw [st_4 b0 [b1, b2] (by omega) (by simp), ls_4_3n b0 b1 b2 [] hc1 hc2, if_pos (by omega)]
            have n3 := rn0 h 2 (by show stL [b0, b1, b2] ≤ 0; omega)
            obtain rfl : n = 2 := by omega
            simp [rnV, s2, ex, e1, hc, hc2]
      · have s2 : stL [b0, b1] = 0 := by
          rw [st_4 b0 [b1] (by omega) (by simp), if_pos]
          by_cases hc1 : 128 ≤ b1 ∧ b1 < 192
          · rw [ls_4_2 b0 b1 hc1, fin_no]
            · omega
            · intro v
              unfold lo1 hi1 at hc; (repeat' split at hc) <;> omega
          · rw [ls_4_n b0 b1 [] hc1]; omega
        have n2 := rn0 h 1 (by show stL [b0, b1] ≤ 0; omega)
        obtain rfl : n = 1 := by omega
        simp [rnV, s1, ex, e1, hc]
  · have s1 : stL [b0] = 0 := by rw [st1, (fsz_0 b0 c).1]
    have n1 := rn0 h 0 (by show stL [b0] ≤ 0; omega)
    obtain rfl : n = 0 := by omega
    simp [rnV, ex, (fsz_0 b0 c).1]
end Go.Proofs.YtoiedhkhmdgipaaDoor

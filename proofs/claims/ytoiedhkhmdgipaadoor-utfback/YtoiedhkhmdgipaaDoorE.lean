import Derived.Test.YtoiedhkhmdgipaaDoorD
namespace Go.Proofs.YtoiedhkhmdgipaaDoor
open Go.RowKit

theorem lenI1 (v : Int) : lenI v = 1 ↔ 0 ≤ v ∧ v ≤ 127 := by
  cases h : scal v <;> simp only [lenI, h] <;> simp [scal] at h <;> simp <;> (repeat' split) <;> omega
theorem lenI2 (v : Int) : lenI v = 2 ↔ 128 ≤ v ∧ v ≤ 2047 := by
  cases h : scal v <;> simp only [lenI, h] <;> simp [scal] at h <;> simp <;> (repeat' split) <;> omega
theorem lenI3 (v : Int) : lenI v = 3 ↔ 2048 ≤ v ∧ v ≤ 65535 ∧ (v < 55296 ∨ 57343 < v) := by
  cases h : scal v <;> simp only [lenI, h] <;> simp [scal] at h <;> simp <;> (repeat' split) <;> omega
theorem lenI4 (v : Int) : lenI v = 4 ↔ 65536 ≤ v ∧ v ≤ 1114111 := by
  cases h : scal v <;> simp only [lenI, h] <;> simp [scal] at h <;> simp <;> (repeat' split) <;> omega
theorem ldB_iff (p r sz : Int) : ldB p r sz = true ↔ lenI (r * p) = sz ∨ lenI (r * p + (p - 1)) = sz := by simp [ldB]

def lo1 (b0 : Nat) : Nat := if b0 = 224 then 160 else if b0 = 240 then 144 else 128
def hi1 (b0 : Nat) : Nat := if b0 = 237 then 160 else if b0 = 244 then 144 else 192

/-- Which character bytes begin with, written out. -/
def ex : List Nat → Int × Int × Int
  | [] => (0, 0, 18)
  | b0 :: t => if fsz b0 = 0 then (0, 1, 17) else if fsz b0 = 1 then (b0, 1, 0) else
    match t with
    | [] => (0, 1, 18)
    | b1 :: t => if ¬ (lo1 b0 ≤ b1 ∧ b1 < hi1 b0) then (0, 1, 17) else if fsz b0 = 2 then (frv b0 * 64 + (b1 - 128), 2, 0) else
      match t with
      | [] => (0, 2, 18)
      | b2 :: t => if ¬ (128 ≤ b2 ∧ b2 < 192) then (0, 2, 17) else if fsz b0 = 3 then ((frv b0 * 64 + (b1 - 128)) * 64 + (b2 - 128), 3, 0) else
        match t with
        | [] => (0, 3, 18)
        | b3 :: _ => if ¬ (128 ≤ b3 ∧ b3 < 192) then (0, 3, 17) else (((frv b0 * 64 + (b1 - 128)) * 64 + (b2 - 128)) * 64 + (b3 - 128), 4, 0)

theorem fsz_1 (b : Int) (h : b < 128) : fsz b = 1 ∧ frv b = b := by simp [fsz, frv, h]
theorem fsz_2 (b : Int) (h : 194 ≤ b) (h' : b < 224) : fsz b = 2 ∧ frv b = b - 192 := by
  unfold fsz frv; constructor <;> (repeat' split) <;> omega
theorem fsz_3 (b : Int) (h : 224 ≤ b) (h' : b < 240) : fsz b = 3 ∧ frv b = b - 224 := by
  unfold fsz frv; constructor <;> (repeat' split) <;> omega
theorem fsz_4 (b : Int) (h : 240 ≤ b) (h' : b < 245) : fsz b = 4 ∧ frv b = b - 240 := by
  unfold fsz frv; constructor <;> (repeat' split) <;> omega
theorem fsz_0 (b : Int) (h : 128 ≤ b ∧ b < 194 ∨ 245 ≤ b) : fsz b = 0 ∧ frv b = 0 := by
  unfold fsz frv; constructor <;> (repeat' split) <;> omega
theorem parts (b : Int) : (b < 128) ∨ (194 ≤ b ∧ b < 224) ∨ (224 ≤ b ∧ b < 240) ∨ (240 ≤ b ∧ b < 245) ∨ (128 ≤ b ∧ b < 194 ∨ 245 ≤ b) := by omega

theorem mod64 (b : Nat) (h : 128 ≤ b ∧ b < 192) : (b : Int) % 64 = b - 128 := by omega

theorem nx_ex : ∀ l : List Nat, nx l = ex l := by
  intro l
  cases l with
  | nil => rfl
  | cons b0 t =>
  rcases parts b0 with h | ⟨h, h'⟩ | ⟨h, h'⟩ | ⟨h, h'⟩ | h
  · obtain ⟨e1, e2⟩ := fsz_1 b0 h
    simp [nx, ex, e1, e2, nxL]
  · obtain ⟨e1, e2⟩ := fsz_2 b0 h h'
    have hl : lo1 b0 = 128 := by unfold lo1; (repeat' split) <;> omega
    have hh : hi1 b0 = 192 := by unfold hi1; (repeat' split) <;> omega
    simp only [nx, ex, e1, e2, hl, hh]
    cases t with
    | nil => rfl
    | cons b1 t =>
      by_cases hc : 128 ≤ b1 ∧ b1 < 192
      · have hd : ldB (64 ^ 0) ((b0 - 192 : Int) * 64 + (b1 : Int) % 64) 2 = true := by
          rw [ldB_iff, lenI2, lenI2]; simp; omega
        rw [if_neg (by omega), if_neg (by omega), if_neg (by omega)]
        show nxL 2 1 1 _ _ = _
        rw [nxL_ok _ _ _ _ _ _ hc hd, nxL_end, mod64 b1 hc]
        simp [hc]
      · rw [if_neg (by omega), if_neg (by omega)]
        show nxL 2 1 1 _ _ = _
        rw [nxL_not _ _ _ _ _ _ hc]
        simp [hc]
  · obtain ⟨e1, e2⟩ := fsz_3 b0 h h'
    simp only [nx, ex, e1, e2]
    rw [if_neg (by omega), if_neg (by omega), if_neg (by omega)]
    show nxL 3 2 1 _ _ = _
    cases t with
    | nil => rfl
    | cons b1 t =>
      by_cases hc : lo1 b0 ≤ b1 ∧ b1 < hi1 b0
      · have hc' : 128 ≤ b1 ∧ b1 < 192 := by unfold lo1 hi1 at hc; (repeat' split at hc) <;> omega
        have hd : ldB (64 ^ 1) ((b0 - 224 : Int) * 64 + (b1 : Int) % 64) 3 = true := by
          rw [ldB_iff, lenI3, lenI3]; unfold lo1 hi1 at hc; (repeat' split at hc) <;> omega
        rw [nxL_ok _ _ _ _ _ _ hc' hd, mod64 b1 hc']
        dsimp only
        rw [if_neg (not_not_intro hc), if_neg (by decide : ¬ (3 : Int) = 2)]
        cases t with
        | nil => rfl
        | cons b2 t =>
          by_cases hc2 : 128 ≤ b2 ∧ b2 < 192
          · have hd2 : ldB (64 ^ 0) (((b0 - 224 : Int) * 64 + ((b1 : Int) - 128)) * 64 + (b2 : Int) % 64) 3 = true := by
              rw [ldB_iff, lenI3, lenI3]; unfold lo1 hi1 at hc; (repeat' split at hc) <;> omega
            rw [nxL_ok _ _ _ _ _ _ hc2 hd2, nxL_end, mod64 b2 hc2]
            simp [hc2]
          · rw [nxL_not _ _ _ _ _ _ hc2]
            simp [hc2]
      · dsimp only
        rw [if_pos hc]
        by_cases hc' : 128 ≤ b1 ∧ b1 < 192
        · have hd : ldB (64 ^ 1) ((b0 - 224 : Int) * 64 + (b1 : Int) % 64) 3 = false := by
            rw [Bool.eq_false_iff]; intro hx
            rw [ldB_iff, lenI3, lenI3] at hx; unfold lo1 hi1 at hc; (repeat' split at hc) <;> omega
          rw [nxL_bad _ _ _ _ _ _ hc' hd]
        · rw [nxL_not _ _ _ _ _ _ hc']
  · obtain ⟨e1, e2⟩ := fsz_4 b0 h h'
    simp only [nx, ex, e1, e2]
    rw [if_neg (by omega), if_neg (by omega), if_neg (by omega)]
    show nxL 4 3 1 _ _ = _
    cases t with
    | nil => rfl
    | cons b1 t =>
      by_cases hc : lo1 b0 ≤ b1 ∧ b1 < hi1 b0
      · have hc' : 128 ≤ b1 ∧ b1 < 192 := by unfold lo1 hi1 at hc; (repeat' split at hc) <;> omega
        have hd : ldB (64 ^ 2) ((b0 - 240 : Int) * 64 + (b1 : Int) % 64) 4 = true := by
          rw [ldB_iff, lenI4, lenI4]; unfold lo1 hi1 at hc; (repeat' split at hc) <;> omega
        rw [nxL_ok _ _ _ _ _ _ hc' hd, mod64 b1 hc']
        dsimp only
        rw [if_neg (not_not_intro hc), if_neg (by decide : ¬ (4 : Int) = 2)]
        cases t with
        | nil => rfl
        | cons b2 t =>
          by_cases hc2 : 128 ≤ b2 ∧ b2 < 192
          · have hd2 : ldB (64 ^ 1) (((b0 - 240 : Int) * 64 + ((b1 : Int) - 128)) * 64 + (b2 : Int) % 64) 4 = true := by
              rw [ldB_iff, lenI4, lenI4]; unfold lo1 hi1 at hc; (repeat' split at hc) <;> omega
            rw [nxL_ok _ _ _ _ _ _ hc2 hd2, mod64 b2 hc2]
            dsimp only
            rw [if_neg (not_not_intro hc2), if_neg (by decide : ¬ (4 : Int) = 3)]
            cases t with
            | nil => rfl
            | cons b3 t =>
              by_cases hc3 : 128 ≤ b3 ∧ b3 < 192
              · have hd3 : ldB (64 ^ 0) ((((b0 - 240 : Int) * 64 + ((b1 : Int) - 128)) * 64 + ((b2 : Int) - 128)) * 64 + (b3 : Int) % 64) 4 = true := by
                  rw [ldB_iff, lenI4, lenI4]; unfold lo1 hi1 at hc; (repeat' split at hc) <;> omega
                rw [nxL_ok _ _ _ _ _ _ hc3 hd3, nxL_end, mod64 b3 hc3]
                simp [hc3]
              · rw [nxL_not _ _ _ _ _ _ hc3]
                simp [hc3]
          · rw [nxL_not _ _ _ _ _ _ hc2]
            simp [hc2]
      · dsimp only
        rw [if_pos hc]
        by_cases hc' : 128 ≤ b1 ∧ b1 < 192
        · have hd : ldB (64 ^ 2) ((b0 - 240 : Int) * 64 + (b1 : Int) % 64) 4 = false := by
            rw [Bool.eq_false_iff]; intro hx
            rw [ldB_iff, lenI4, lenI4] at hx; unfold lo1 hi1 at hc; (repeat' split at hc) <;> omega
          rw [nxL_bad _ _ _ _ _ _ hc' hd]
        · rw [nxL_not _ _ _ _ _ _ hc']
  · obtain ⟨e1, e2⟩ := fsz_0 b0 h
    simp [nx, ex, e1]
end Go.Proofs.YtoiedhkhmdgipaaDoor

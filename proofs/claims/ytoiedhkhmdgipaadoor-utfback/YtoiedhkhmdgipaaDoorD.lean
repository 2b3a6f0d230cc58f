import Derived.Test.YtoiedhkhmdgipaaDoorC
import Derived.Lib.Strings
namespace Go.Proofs.YtoiedhkhmdgipaaDoor
open Go.RowKit

theorem leads_any (r sz n : Int) (f : Nat) (w : World) (hT : Tab w) (hsz : sz = n + f) (hn : 1 ≤ n) (h4 : sz ≤ 4) (h0 : 0 ≤ r) (h1 : r * 64 ^ f + 64 ^ f ≤ 2097152) :
    Calls Tryd.prog 25 #[.int .i32 r, .int .i64 sz, .int .i64 n] w fun e w' => e = .returned (.bool (ldB (64 ^ f) r sz)) ∧ w = w' := by
  have hf : f = 0 ∨ f = 1 ∨ f = 2 ∨ f = 3 := by omega
  rcases hf with rfl | rfl | rfl | rfl
  · have : n = 1 ∨ n = 2 ∨ n = 3 ∨ n = 4 := by omega
    rcases this with rfl | rfl | rfl | rfl <;> subst hsz
    · exact leads11 r w hT h0 (by omega)
    · exact leads22 r w hT h0 (by omega)
    · exact leads33 r w hT h0 (by omega)
    · exact leads44 r w hT h0 (by omega)
  · have : n = 1 ∨ n = 2 ∨ n = 3 := by omega
    rcases this with rfl | rfl | rfl <;> subst hsz
    · exact leads21 r w hT h0 (by omega)
    · exact leads32 r w hT h0 (by omega)
    · exact leads43 r w hT h0 (by omega)
  · have : n = 1 ∨ n = 2 := by omega
    rcases this with rfl | rfl <;> subst hsz
    · exact leads31 r w hT h0 (by omega)
    · exact leads42 r w hT h0 (by omega)
  · have : n = 1 := by omega
    subst this; subst hsz
    exact leads41 r w hT h0 (by omega)

/-- A string's bytes as numbers. -/
def bs (s : ByteArray) : List Nat := s.data.toList.map UInt8.toNat
theorem bs_len (s : ByteArray) : (bs s).length = s.size := by simp [bs]
theorem bs_at (s : ByteArray) (k : Nat) (h : k < s.size) : (bs s)[k]'(by rw [bs_len]; exact h) = s[k].toNat := by simp [bs]; rfl
theorem bs_cut (s : ByteArray) (k : Nat) (h : k < s.size) : (bs s).drop k = s[k].toNat :: (bs s).drop (k + 1) := by
  rw [List.drop_eq_getElem_cons (by rw [bs_len]; exact h), bs_at s k h]
theorem bs_end (s : ByteArray) (k : Nat) (h : s.size ≤ k) : (bs s).drop k = [] := List.drop_eq_nil_of_le (by rw [bs_len]; exact h)
theorem bs_nil (s : ByteArray) (h : s.size = 0) : bs s = [] := List.eq_nil_of_length_eq_zero (by rw [bs_len]; exact h)
theorem isE (s : ByteArray) : s.toList.isEmpty = decide (s.size = 0) := by
  rw [Lib.size_eq s, Lib.toList_data s]
  cases s.data.toList <;> simp

/-- Behind k of size bytes, whose bits are r: the rest. -/
def nxL (size : Int) : Nat → Int → Int → List Nat → Int × Int × Int
  | 0, _, r, _ => (r, size, 0)
  | _ + 1, k, _, [] => (0, k, 18)
  | f + 1, k, r, b :: t => if 128 ≤ b ∧ b < 192 then (if ldB (64 ^ f) (r * 64 + (b : Int) % 64) size = true then nxL size f (k + 1) (r * 64 + (b : Int) % 64) t else (0, k, 17)) else (0, k, 17)
def nx : List Nat → Int × Int × Int
  | [] => (0, 0, 18)
  | b :: t => if fsz b = 0 then (0, 1, 17) else nxL (fsz b) ((fsz b).toNat - 1) 1 (frv b) t

theorem andNot_fact (b : Int) (h0 : 0 ≤ b) (h1 : b < 256) : (bits .andNot .u8 b 63 != 128) = !(decide (128 ≤ b ∧ b < 192)) := by
  obtain ⟨n, rfl⟩ := Int.eq_ofNat_of_zero_le h0
  have h := u8_andNot_nat n 63 (by omega) (by omega)
  have e : bits .andNot .u8 (n : Int) 63 = ((n &&& (255 - 63) : Nat) : Int) := h
  rw [e]
  have key : ∀ b : Fin 256, (((b.val &&& (255 - 63) : Nat) : Int) != 128) = !(decide (128 ≤ (b.val : Int) ∧ (b.val : Int) < 192)) := by decide +kernel
  exact key ⟨n, by omega⟩

theorem fsz_bd (b : Int) (h0 : 0 ≤ b) (h1 : b < 256) (h : fsz b ≠ 0) : 1 ≤ fsz b ∧ fsz b ≤ 4 ∧ 0 ≤ frv b ∧ frv b * 64 ^ ((fsz b).toNat - 1) + 64 ^ ((fsz b).toNat - 1) ≤ 2097152 := by
  unfold fsz frv at *
  (repeat' split) <;> simp_all <;> omega

theorem ret3 {k l m : IntKind} {a b c d e f : Int} (h : a = b) (h' : c = d) (h'' : e = f) : Ending.returned (.tuple #[.int k a, .int l c, .int m e]) = .returned (.tuple #[.int k b, .int l d, .int m f]) := by rw [h, h', h'']
/-- What Next answers, as a value. -/
def nxV (x : Int × Int × Int) : Value := .tuple #[.int .i32 x.1, .int .i64 x.2.1, .int .i64 x.2.2]
theorem nxV_eq {x : Int × Int × Int} {a b c : Int} (h : x = (a, b, c)) : Ending.returned (.tuple #[.int .i32 a, .int .i64 b, .int .i64 c]) = .returned (nxV x) := by subst h; rfl

theorem nx_nil (s : ByteArray) (h : s.size = 0) : nx (bs s) = (0, 0, 18) := by rw [bs_nil s h]; rfl
theorem bs_head (s : ByteArray) (h : 0 < s.size) : bs s = s[0].toNat :: (bs s).drop 1 := by
  have := bs_cut s 0 h
  simpa using this
theorem nx_bad (s : ByteArray) (h : 0 < s.size) (h0 : fsz s[0].toNat = 0) : nx (bs s) = (0, 1, 17) := by
  rw [bs_head s h]; simp [nx, h0]
theorem nx_go (s : ByteArray) (h : 0 < s.size) (h0 : fsz s[0].toNat ≠ 0) : nx (bs s) = nxL (fsz s[0].toNat) ((fsz s[0].toNat).toNat - 1) 1 (frv s[0].toNat) ((bs s).drop 1) := by
  rw [bs_head s h]; simp [nx, h0]
theorem nxL_end (sz : Int) (k q : Int) (l : List Nat) : nxL sz 0 k q l = (q, sz, 0) := rfl
theorem nxL_more (sz : Int) (f : Nat) (k q : Int) : nxL sz (f + 1) k q [] = (0, k, 18) := rfl
theorem nxL_not (sz : Int) (f : Nat) (k q : Int) (b : Nat) (t : List Nat) (h : ¬ (128 ≤ b ∧ b < 192)) : nxL sz (f + 1) k q (b :: t) = (0, k, 17) := by simp [nxL, h]
theorem nxL_bad (sz : Int) (f : Nat) (k q : Int) (b : Nat) (t : List Nat) (h : 128 ≤ b ∧ b < 192) (h' : ldB (64 ^ f) (q * 64 + (b : Int) % 64) sz = false) : nxL sz (f + 1) k q (b :: t) = (0, k, 17) := by simp [nxL, h, h']
theorem nxL_ok (sz : Int) (f : Nat) (k q : Int) (b : Nat) (t : List Nat) (h : 128 ≤ b ∧ b < 192) (h' : ldB (64 ^ f) (q * 64 + (b : Int) % 64) sz = true) : nxL sz (f + 1) k q (b :: t) = nxL sz f (k + 1) (q * 64 + (b : Int) % 64) t := by simp [nxL, h, h']

def bound21 : Int := 2097152
theorem step_bd (f : Nat) (q b : Int) (h : q * 64 ^ (f + 1) + 64 ^ (f + 1) ≤ bound21) (h0 : 0 ≤ b) (h1 : b < 64) : (q * 64 + b) * 64 ^ f + 64 ^ f ≤ bound21 := by
  have e : (64 : Int) ^ (f + 1) = 64 * 64 ^ f := by rw [Int.pow_succ]; omega
  rw [e] at h
  have hp : (0 : Int) ≤ 64 ^ f := Int.le_of_lt (Int.pow_pos (by omega))
  have h2 : (q * 64 + b + 1) * 64 ^ f ≤ (q * 64 + 64) * 64 ^ f := Int.mul_le_mul_of_nonneg_right (by omega) hp
  have h3 : q * (64 * 64 ^ f) + 64 * 64 ^ f = (q * 64 + 64) * 64 ^ f := by rw [Int.add_mul, Int.mul_assoc]
  have h4 : (q * 64 + b + 1) * 64 ^ f = (q * 64 + b) * 64 ^ f + 64 ^ f := by rw [Int.add_mul (q * 64 + b) 1, Int.one_mul]
  omega
theorem q_bd (f : Nat) (q : Int) (h : q * 64 ^ (f + 1) + 64 ^ (f + 1) ≤ bound21) : q < 32768 := by
  have hp : (0 : Int) < 64 ^ f := Int.pow_pos (by omega)
  have e : (64 : Int) ^ (f + 1) = 64 * 64 ^ f := by rw [Int.pow_succ]; omega
  rw [e] at h
  unfold bound21 at h
  rcases Int.lt_or_le q 32768 with h' | h'
  · exact h'
  · have : 32768 * (64 * 64 ^ f) ≤ q * (64 * (64 : Int) ^ f) := Int.mul_le_mul_of_nonneg_right h' (by omega)
    omega

set_option maxRecDepth 100000 in
set_option maxHeartbeats 1000000 in
theorem next_any (s : ByteArray) (w : World) (hT : Tab w) (hs : s.size ≤ 100000) : Calls Tryd.prog 12 #[.string s] w fun e w' => e = .returned (nxV (nx (bs s))) ∧ w = w' := by
  by_cases h1 : s.size = 0
  · have he : s.toList.isEmpty = true := by rw [isE]; simpa using h1
    have HF := Lib.hid (nx_nil s h1)
    clear h1
    go_enter Tryd.func12, Tryd.ntmps12
    go_wp2
    go_ret3
    exact ⟨nxV_eq HF.out, rfl⟩
  have hp : 0 < s.size := by omega
  have he : s.toList.isEmpty = false := by rw [isE]; simpa using h1
  clear h1
  have b0 : (s[0].toNat : Int) < 256 := by have := s[0].toNat_lt; omega
  by_cases h2 : fsz s[0].toNat = 0
  · have HF := Lib.hid (nx_bad s hp h2)
    have H2 := Lib.hid h2
    clear h2
    go_enter Tryd.func12, Tryd.ntmps12
    go_wp2_with fail
    refine (first_any _ _ hT (by omega) (by omega)).mono ?_
    rintro e w' ⟨rfl, rfl⟩
    rw [H2.out]
    go_wp2
    go_ret3
    exact ⟨nxV_eq HF.out, rfl⟩
  have HF := Lib.hid (nx_go s hp h2)
  obtain ⟨z1, z2, z3, z4⟩ := fsz_bd _ (by omega) b0 h2
  have hne : (fsz s[0].toNat == 0) = false := by simpa using h2
  clear h2
  go_enter Tryd.func12, Tryd.ntmps12
  go_wp2_with fail
  refine (first_any _ _ hT (by omega) (by omega)).mono ?_
  rintro e w' ⟨rfl, rfl⟩
  generalize hsz : fsz s[0].toNat = sz at *
  generalize hr0 : frv s[0].toNat = r0 at *
  clear hsz hr0
  have Z4 := Lib.hid z4
  clear z4
  go_wp2_with fail
  go_loop [2, 3] (fun r n => ∃ k f : Nat, ∃ q : Int, r = .int .i32 q ∧ n = .int .i64 k ∧ sz - f ≤ k ∧ k ≤ sz - f ∧ 1 ≤ k ∧ k ≤ s.size ∧ 0 ≤ q ∧ Hid (q * 64 ^ f + 64 ^ f ≤ bound21) ∧ Hid (nx (bs s) = nxL sz f k q ((bs s).drop k))) (fun _ n => (sz - intOf n).toNat)
  case atStart => exact ⟨1, sz.toNat - 1, r0, rfl, rfl, by omega, by omega, by omega, by omega, z3, Z4.out, HF.out⟩
  case round =>
    obtain ⟨k, f, q, rfl, rfl, f1, f2, k1, k2, q1, HQ, HN⟩ := hrel
    cases f with
    | zero =>
      have hk : ¬ (k : Int) < sz := by omega
      go_wp2
      go_ret3
      exact ⟨nxV_eq (by rw [HN.out, nxL_end]), rfl⟩
    | succ f =>
      have hk : (k : Int) < sz := by omega
      have q3 := q_bd f q HQ.out
      by_cases hk2 : k < s.size
      · have hkn : ((k : Int) == (s.size : Int)) = false := by simp; omega
        have hb : (s[k].toNat : Int) < 256 := by have := s[k].toNat_lt; omega
        have hcut := bs_cut s k hk2
        have hand := andNot_fact (s[k].toNat) (by omega) hb
        by_cases hc : 128 ≤ s[k].toNat ∧ s[k].toNat < 192
        · rw [show decide (128 ≤ (s[k].toNat : Int) ∧ (s[k].toNat : Int) < 192) = true by simp; omega] at hand
          simp only [Bool.not_true] at hand
          have HS := Lib.hid (step_bd f q (s[k].toNat % 64) HQ.out (by omega) (by omega))
          cases hl : ldB (64 ^ f) (q * 64 + (s[k].toNat : Int) % 64) sz
          · have HR := Lib.hid (nxL_bad sz f k q _ ((bs s).drop (k + 1)) hc hl)
            rw [← hcut] at HR
            have HL := Lib.hid hl
            clear hl hcut
            go_wp2_with fail
            refine (leads_any _ _ _ f _ hT (by omega) (by omega) (by omega) (by omega) HS.out).mono ?_
            rintro e w' ⟨rfl, rfl⟩
            rw [HL.out]
            go_wp2
            go_ret3
            exact ⟨nxV_eq (by rw [HN.out, HR.out]), rfl⟩
          · have HR := Lib.hid (nxL_ok sz f k q _ ((bs s).drop (k + 1)) hc hl)
            rw [← hcut] at HR
            have HL := Lib.hid hl
            clear hl hcut
            go_wp2_with fail
            refine (leads_any _ _ _ f _ hT (by omega) (by omega) (by omega) (by omega) HS.out).mono ?_
            rintro e w' ⟨rfl, rfl⟩
            rw [HL.out]
            go_wp2
            go_round
            case rel => exact ⟨k + 1, f, _, rfl, by go_num, by omega, by omega, by omega, by omega, by omega, HS.out, by rw [HN.out, HR.out]; rfl⟩
            case measure => simp [intOf]; omega
        · rw [show decide (128 ≤ (s[k].toNat : Int) ∧ (s[k].toNat : Int) < 192) = false by simp; omega] at hand
          simp only [Bool.not_false] at hand
          have HR := Lib.hid (nxL_not sz f k q _ ((bs s).drop (k + 1)) hc)
          rw [← hcut] at HR
          clear hcut hc
          go_wp2
          go_ret3
          exact ⟨nxV_eq (by rw [HN.out, HR.out]), rfl⟩
      · have hkn : ((k : Int) == (s.size : Int)) = true := by simp; omega
        have HR := Lib.hid (nxL_more sz f k q)
        rw [← bs_end s k (by omega)] at HR
        go_wp2
        go_ret3
        exact ⟨nxV_eq (by rw [HN.out, HR.out]), rfl⟩

end Go.Proofs.YtoiedhkhmdgipaaDoor

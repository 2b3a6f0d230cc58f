import Derived.Test.YtohjkpdelopknaaDoorC
import Derived.Test.YtohjkpdelopknaaDoorD
namespace Go.Proofs.YtohjkpdelopknaaDoor
open Go.RowKit
theorem bel_drewN {B : Nat} {a w : World} (h : Below B a w) (n : Nat) : Below B a (w.drewN n) := ⟨h.os, h.tape, h.output, h.size, h.block⟩
theorem un1 (s : ByteArray) (p : Nat) (h0 : p < s.size) (h1 : p + 1 < s.size) : unN 1 ((bs s).drop p) = s[p].toNat + s[p + 1].toNat * 256 := by
  rw [bs_cut s p h0, bs_cut s (p + 1) h1]
  simp [unN, loK, szK, leN]
  omega
theorem un2 (s : ByteArray) (p : Nat) (h0 : p < s.size) (h1 : p + 1 < s.size) : unN 2 ((bs s).drop p) = s[p].toNat * 256 + s[p + 1].toNat := by
  rw [bs_cut s p h0, bs_cut s (p + 1) h1]
  simp [unN, loK, szK, leN]
  omega
theorem un3 (s : ByteArray) (p : Nat) (h0 : p < s.size) (h1 : p + 1 < s.size) (h2 : p + 2 < s.size) (h3 : p + 3 < s.size) : unN 3 ((bs s).drop p) = s[p].toNat + s[p + 1].toNat * 256 + s[p + 2].toNat * 65536 + s[p + 3].toNat * 16777216 := by
  have e2 : (bs s).drop (p + 1 + 1) = s[p + 2].toNat :: (bs s).drop (p + 3) := bs_cut s (p + 2) h2
  have e3 : (bs s).drop (p + 3) = s[p + 3].toNat :: (bs s).drop (p + 4) := bs_cut s (p + 3) h3
  rw [bs_cut s p h0, bs_cut s (p + 1) h1, e2, e3]
  simp [unN, loK, szK, leN]
  omega
theorem un4 (s : ByteArray) (p : Nat) (h0 : p < s.size) (h1 : p + 1 < s.size) (h2 : p + 2 < s.size) (h3 : p + 3 < s.size) : unN 4 ((bs s).drop p) = s[p].toNat * 16777216 + s[p + 1].toNat * 65536 + s[p + 2].toNat * 256 + s[p + 3].toNat := by
  have e2 : (bs s).drop (p + 1 + 1) = s[p + 2].toNat :: (bs s).drop (p + 3) := bs_cut s (p + 2) h2
  have e3 : (bs s).drop (p + 3) = s[p + 3].toNat :: (bs s).drop (p + 4) := bs_cut s (p + 3) h3
  rw [bs_cut s p h0, bs_cut s (p + 1) h1, e2, e3]
  simp [unN, loK, szK, leN]
  omega
theorem unit_any (k : Nat) (s : ByteArray) (p : Nat) (w : World) (h1 : 1 ≤ k) (h4 : k ≤ 4) (hp : p + szK k ≤ s.size) (hz : s.size ≤ 100000) :
    Calls Tryd.prog 35 #[.agg #[.int .i64 (szK k : Int), .bool (loK k), .bool (prK k), .string s], .int .i64 (p : Int)] w fun e w' => e = .returned (.int .u32 (unN k ((bs s).drop p) : Int)) ∧ Below w.heap.size w w' := by
  rcases kinds h1 h4 with rfl | rfl | rfl | rfl
  · have hp' : p + 2 ≤ s.size := hp
    have := unit1 s p (p + 1) w (by omega) (by omega) rfl hz
    rw [← un1 s p (by omega) (by omega)] at this
    exact this
  · have hp' : p + 2 ≤ s.size := hp
    have := unit2 s p (p + 1) w (by omega) (by omega) rfl hz
    rw [← un2 s p (by omega) (by omega)] at this
    exact this
  · have hp' : p + 4 ≤ s.size := hp
    have := unit3 s p (p + 1) (p + 2) (p + 3) w (by omega) (by omega) (by omega) (by omega) rfl rfl rfl hz
    rw [← un3 s p (by omega) (by omega) (by omega) (by omega)] at this
    exact this
  · have hp' : p + 4 ≤ s.size := hp
    have := unit4 s p (p + 1) (p + 2) (p + 3) w (by omega) (by omega) (by omega) (by omega) rfl rfl rfl hz
    rw [← un4 s p (by omega) (by omega) (by omega) (by omega)] at this
    exact this

/-- What Next answers, as a value. -/
def nxV (x : Int × Int × Int) : Value := .tuple #[.int .i32 x.1, .int .i64 x.2.1, .int .i64 x.2.2]
theorem nxV_eq {x : Int × Int × Int} {a b c : Int} (h : x = (a, b, c)) : Ending.returned (.tuple #[.int .i32 a, .int .i64 b, .int .i64 c]) = .returned (nxV x) := by subst h; rfl
theorem and32 (n : Nat) (h : n < 4294967296) : bits .and .u32 (n : Int) 1023 = ((n % 1024 : Nat) : Int) := by
  have e : bits .and .u32 (n : Int) 1023 = ((n &&& 1023 : Nat) : Int) := u32_and_nat n 1023 h (by omega)
  rw [e]
  congr 1
  exact Nat.and_two_pow_sub_one_eq_mod n 10
theorem i32in (n : Nat) (h : n < 2147483648) : IntKind.i32.wrap (n : Int) = n := by rw [IntKind.wrap_i32]; omega
theorem scal_wrap (n : Nat) (h : n < 4294967296) : scal (IntKind.i32.wrap (n : Int)) = scal (n : Int) := by
  rw [IntKind.wrap_i32, Bool.eq_iff_iff]
  simp [scal]
  omega

set_option maxRecDepth 100000 in
set_option maxHeartbeats 1000000 in
theorem spair_any (k : Nat) (s : ByteArray) (u : Nat) (w : World) (h1 : 1 ≤ k) (h2 : k ≤ 2) (hz : s.size ≤ 100000) (hlen : 2 ≤ s.size) (hu : unN k (bs s) = u) (hh : 55296 ≤ u ∧ u < 56320) :
    Calls Tryd.prog 37 #[.agg #[.int .i64 2, .bool (loK k), .bool true, .string s], .int .u32 (u : Int)] w fun e w' => e = .returned (nxV (nx k (bs s))) ∧ Below w.heap.size w w' := by
  have hzk : szK k = 2 := by simp [szK, h2]
  have hpk : prK k = true := by simp [prK, h2]
  have hb0 : Below w.heap.size w (w.alloc (.cells #[.int .i64 2, .bool (loK k), .bool true, .string s] 60)) := (Below.refl _ _).alloc (Nat.le_refl _) _
  have HB0 := Lib.hid hb0
  clear hb0
  obtain ⟨hh1, hh2⟩ := hh
  have hnx : nx k (bs s) = if s.size < 4 then (0, (s.size : Int), 18) else if 56320 ≤ unN k ((bs s).drop 2) ∧ unN k ((bs s).drop 2) < 57344 then (((65536 + (u - 55296) * 1024 + (unN k ((bs s).drop 2) - 56320) : Nat) : Int), 4, 0) else (0, 2, 17) := by
    unfold nx
    rw [bs_len, if_neg (by omega), hu, if_pos ⟨h2, hh1, hh2⟩]
  have HNX := Lib.hid hnx
  clear hnx hu
  by_cases c1 : s.size < 4
  · rw [if_pos c1] at HNX
    have c1' : (s.size : Int) < 4 := by omega
    clear hzk hpk
    generalize loK k = lo at *
    go_enter Tryd.func37, Tryd.ntmps37
    go_wp2_with fail
    go_quiet (fail)
    go_wp2
    go_ret3
    exact ⟨nxV_eq HNX.out, bel_drewN HB0.out _⟩
  rw [if_neg c1] at HNX
  have c1' : ¬ (s.size : Int) < 4 := by omega
  have HU := Lib.hid (fun W => unit_any k s 2 W h1 (by omega) (by rw [hzk]; omega) hz)
  rw [hzk, hpk] at HU
  have hlt := unN_lt16 k ((bs s).drop 2) (allB_drop (bs_B s) 2) h2
  generalize unN k ((bs s).drop 2) = v at *
  clear hzk hpk
  generalize loK k = lo at *
  have HX0 := Lib.hid (Box.new w 2 lo true s 60)
  by_cases c2 : 56320 ≤ v ∧ v < 57344
  · rw [if_pos c2] at HNX
    obtain ⟨x, hx⟩ : ∃ x, u = 55296 + x := ⟨u - 55296, by omega⟩
    obtain ⟨y, hy⟩ : ∃ y, v = 56320 + y := ⟨v - 56320, by omega⟩
    have hx2 : x < 1024 := by omega
    have hy2 : y < 1024 := by omega
    obtain ⟨t, ht⟩ : ∃ t, t = x * 1024 + y := ⟨_, rfl⟩
    have ht2 : t < 1048576 := by omega
    have r1 : bits .and .u32 (u : Int) 1023 = (x : Int) := by rw [and32 u (by omega)]; omega
    have r2 : bits .and .u32 (v : Int) 1023 = (y : Int) := by rw [and32 v (by omega)]; omega
    have r3 : IntKind.u32.wrap ((x : Int) * 1024) = (x : Int) * 1024 := w32m x 1024 (by omega)
    have r4 : bits .or .u32 ((x : Int) * 1024) (y : Int) = (t : Int) := by
      have := or_hi x y 10 (by omega)
      have e : (x : Int) * 1024 = ((x * 1024 : Nat) : Int) := by simp
      rw [e]
      exact or32 _ _ _ (by omega) (by omega) (by rw [ht]; exact this)
    have r5 : IntKind.i32.wrap (t : Int) = t := i32in t (by omega)
    have r6 : IntKind.i32.wrap (65536 + (t : Int)) = 65536 + t := by rw [IntKind.wrap_i32]; omega
    have HD := Lib.hid (show decide (56320 ≤ v ∧ v < 57344) = true by simpa using c2)
    have HR := Lib.hid (show ((65536 + (u - 55296) * 1024 + (v - 56320) : Nat) : Int) = 65536 + (t : Int) by omega)
    rw [HR.out] at HNX
    clear hx hy ht c2
    go_enter Tryd.func37, Tryd.ntmps37
    go_wp2_with fail
    refine (HU.out _).mono ?_
    rintro e w1 ⟨rfl, hb1⟩
    have B1 := Lib.hid (HB0.out.trans (hb1.mono (by simp)))
    have X1 := Lib.hid (HX0.out.below hb1 (by simp))
    clear hb1
    go_wp2_with fail
    refine (isLow_any v _ (by omega)).mono ?_
    rw [HD.out]
    rintro e w' ⟨rfl, rfl⟩
    obtain ⟨k0, k1, k2, k3⟩ := X1.out
    go_wp2_with fail
    go_quiet (fail)
    clear r1 r2 r3 r4 r5 r6
    go_wp2
    go_ret3
    exact ⟨nxV_eq HNX.out, bel_drewN B1.out _⟩
  · rw [if_neg c2] at HNX
    have HD := Lib.hid (show decide (56320 ≤ v ∧ v < 57344) = false by simpa using c2)
    clear c2
    go_enter Tryd.func37, Tryd.ntmps37
    go_wp2_with fail
    refine (HU.out _).mono ?_
    rintro e w1 ⟨rfl, hb1⟩
    have B1 := Lib.hid (HB0.out.trans (hb1.mono (by simp)))
    have X1 := Lib.hid (HX0.out.below hb1 (by simp))
    clear hb1
    go_wp2_with fail
    refine (isLow_any v _ (by omega)).mono ?_
    rw [HD.out]
    rintro e w' ⟨rfl, rfl⟩
    obtain ⟨k0, k1, k2, k3⟩ := X1.out
    go_wp2_with fail
    go_quiet (fail)
    go_wp2
    go_ret3
    exact ⟨nxV_eq HNX.out, bel_drewN B1.out _⟩
end Go.Proofs.YtohjkpdelopknaaDoor

import Derived.Test.YtohjkpdelopknaaDoorE
namespace Go.Proofs.YtohjkpdelopknaaDoor
open Go.RowKit
theorem nx_short (k : Nat) (s : ByteArray) (h : s.size < szK k) : nx k (bs s) = (0, (s.size : Int), 18) := by
  unfold nx
  rw [bs_len, if_pos h]
theorem nx_one (k : Nat) (s : ByteArray) (u : Nat) (h : szK k ≤ s.size) (hu : unN k (bs s) = u) (hh : ¬ (k ≤ 2 ∧ 55296 ≤ u ∧ u < 56320)) : nx k (bs s) = if scal (u : Int) then ((u : Int), (szK k : Int), 0) else (0, (szK k : Int), 17) := by
  unfold nx
  rw [bs_len, if_neg (by omega), hu, if_neg hh]

set_option maxRecDepth 100000 in
set_option maxHeartbeats 1000000 in
theorem snext2 (k : Nat) (s : ByteArray) (w : World) (h1 : 1 ≤ k) (h2 : k ≤ 2) (hz : s.size ≤ 100000) :
    Calls Tryd.prog 27 #[.agg #[.int .i64 2, .bool (loK k), .bool true, .string s]] w fun e w' => e = .returned (nxV (nx k (bs s))) ∧ Below w.heap.size w w' := by
  have hzk : szK k = 2 := by simp [szK, h2]
  have hpk : prK k = true := by simp [prK, h2]
  have HB0 := Lib.hid (show Below w.heap.size w (w.alloc (.cells #[.int .i64 2, .bool (loK k), .bool true, .string s] 60)) from (Below.refl _ _).alloc (Nat.le_refl _) _)
  have HX0 := Lib.hid (Box.new w 2 (loK k) true s 60)
  by_cases c1 : s.size < 2
  · have HNX := Lib.hid (nx_short k s (by omega))
    have c1' : (s.size : Int) < 2 := by omega
    clear hzk hpk
    generalize loK k = lo at *
    go_enter Tryd.func27, Tryd.ntmps27
    go_wp2_with fail
    go_quiet (fail)
    go_wp2
    go_ret3
    exact ⟨nxV_eq HNX.out, bel_drewN HB0.out _⟩
  have c1' : ¬ (s.size : Int) < 2 := by omega
  have HU := Lib.hid (fun W => unit_any k s 0 W h1 (by omega) (by rw [hzk]; omega) hz)
  rw [hzk, hpk, List.drop_zero] at HU
  have hlt := unN_lt16 k (bs s) (bs_B s) h2
  obtain ⟨u, hu⟩ : ∃ u, unN k (bs s) = u := ⟨_, rfl⟩
  rw [hu] at HU hlt
  by_cases c2 : 55296 ≤ u ∧ u < 56320
  · have HP := Lib.hid (fun W => spair_any k s u W h1 h2 hz (by omega) hu c2)
    have HH := Lib.hid (show hiB true u = true by simp [hiB]; omega)
    clear hzk hpk hu c2
    generalize nx k (bs s) = N at *
    generalize loK k = lo at *
    go_enter Tryd.func27, Tryd.ntmps27
    go_wp2_with fail
    refine (HU.out _).mono ?_
    rintro e w1 ⟨rfl, hb1⟩
    have B1 := Lib.hid (HB0.out.trans (hb1.mono (by simp)))
    have X1 := Lib.hid (HX0.out.below hb1 (by simp))
    have z1 : w.heap.size < w1.heap.size := by have := hb1.size; simp at this; omega
    clear hb1
    obtain ⟨k0, k1, k2, k3⟩ := X1.out
    go_wp2_with fail
    refine (isHigh_any 2 lo true u _ (by omega)).mono ?_
    rw [HH.out]
    rintro e w2 ⟨rfl, hb2⟩
    have B2 := Lib.hid (B1.out.trans (hb2.mono (by omega)))
    have X2 := Lib.hid (X1.out.below hb2 (by omega))
    clear hb2 k0 k1 k2 k3
    have z2 := B2.out.size
    obtain ⟨k0, k1, k2, k3⟩ := X2.out
    go_wp2_with fail
    refine (HP.out _).mono ?_
    rintro e w3 ⟨rfl, hb3⟩
    have B3 := Lib.hid (B2.out.trans (hb3.mono z2))
    clear hb3
    unfold nxV
    go_wp2_with fail
    go_ret3
    exact ⟨rfl, B3.out⟩
  · have HH := Lib.hid (show hiB true u = false by simp [hiB]; omega)
    have hnx := nx_one k s u (by omega) hu (by omega)
    rw [hzk] at hnx
    have r1 : IntKind.i32.wrap (u : Int) = u := i32in u (by omega)
    have R1 := Lib.hid r1
    clear hzk hpk hu c2
    generalize nx k (bs s) = N at *
    generalize loK k = lo at *
    cases hs : scal (u : Int)
    · rw [if_neg (by rw [hs]; decide)] at hnx
      have HNX := Lib.hid hnx
      have HS := Lib.hid hs
      clear hnx hs
      go_enter Tryd.func27, Tryd.ntmps27
      go_wp2_with fail
      refine (HU.out _).mono ?_
      rintro e w1 ⟨rfl, hb1⟩
      have B1 := Lib.hid (HB0.out.trans (hb1.mono (by simp)))
      have X1 := Lib.hid (HX0.out.below hb1 (by simp))
      have z1 : w.heap.size < w1.heap.size := by have := hb1.size; simp at this; omega
      clear hb1
      obtain ⟨k0, k1, k2, k3⟩ := X1.out
      go_wp2_with fail
      refine (isHigh_any 2 lo true u _ (by omega)).mono ?_
      rw [HH.out]
      rintro e w2 ⟨rfl, hb2⟩
      have B2 := Lib.hid (B1.out.trans (hb2.mono (by omega)))
      have X2 := Lib.hid (X1.out.below hb2 (by omega))
      clear hb2 k0 k1 k2 k3
      obtain ⟨k0, k1, k2, k3⟩ := X2.out
      go_wp2_with fail
      refine (scalar_any _ _).mono ?_
      rw [HS.out]
      rintro e w' ⟨rfl, rfl⟩
      go_wp2_with fail
      go_quiet (fail)
      go_wp2
      go_ret3
      exact ⟨nxV_eq HNX.out, bel_drewN B2.out _⟩
    · rw [if_pos hs] at hnx
      have HNX := Lib.hid hnx
      have HS := Lib.hid hs
      clear hnx hs
      go_enter Tryd.func27, Tryd.ntmps27
      go_wp2_with fail
      refine (HU.out _).mono ?_
      rintro e w1 ⟨rfl, hb1⟩
      have B1 := Lib.hid (HB0.out.trans (hb1.mono (by simp)))
      have X1 := Lib.hid (HX0.out.below hb1 (by simp))
      have z1 : w.heap.size < w1.heap.size := by have := hb1.size; simp at this; omega
      clear hb1
      obtain ⟨k0, k1, k2, k3⟩ := X1.out
      go_wp2_with fail
      refine (isHigh_any 2 lo true u _ (by omega)).mono ?_
      rw [HH.out]
      rintro e w2 ⟨rfl, hb2⟩
      have B2 := Lib.hid (B1.out.trans (hb2.mono (by omega)))
      have X2 := Lib.hid (X1.out.below hb2 (by omega))
      clear hb2 k0 k1 k2 k3
      obtain ⟨k0, k1, k2, k3⟩ := X2.out
      go_wp2_with fail
      refine (scalar_any _ _).mono ?_
      rw [HS.out]
      rintro e w' ⟨rfl, rfl⟩
      go_wp2_with fail
      go_quiet (fail)
      go_wp2
      go_ret3
      exact ⟨nxV_eq HNX.out, bel_drewN B2.out _⟩

set_option maxRecDepth 100000 in
set_option maxHeartbeats 1000000 in
theorem snext4 (k : Nat) (s : ByteArray) (w : World) (h2 : 3 ≤ k) (h4 : k ≤ 4) (hz : s.size ≤ 100000) :
    Calls Tryd.prog 27 #[.agg #[.int .i64 4, .bool (loK k), .bool false, .string s]] w fun e w' => e = .returned (nxV (nx k (bs s))) ∧ Below w.heap.size w w' := by
  have hzk : szK k = 4 := by unfold szK; rw [if_neg (by omega)]
  have hpk : prK k = false := by simp [prK]; omega
  have HB0 := Lib.hid (show Below w.heap.size w (w.alloc (.cells #[.int .i64 4, .bool (loK k), .bool false, .string s] 60)) from (Below.refl _ _).alloc (Nat.le_refl _) _)
  have HX0 := Lib.hid (Box.new w 4 (loK k) false s 60)
  by_cases c1 : s.size < 4
  · have HNX := Lib.hid (nx_short k s (by omega))
    have c1' : (s.size : Int) < 4 := by omega
    clear hzk hpk
    generalize loK k = lo at *
    go_enter Tryd.func27, Tryd.ntmps27
    go_wp2_with fail
    go_quiet (fail)
    go_wp2
    go_ret3
    exact ⟨nxV_eq HNX.out, bel_drewN HB0.out _⟩
  have c1' : ¬ (s.size : Int) < 4 := by omega
  have HU := Lib.hid (fun W => unit_any k s 0 W (by omega) (by omega) (by rw [hzk]; omega) hz)
  rw [hzk, hpk, List.drop_zero] at HU
  have hlt := unN_lt32 k (bs s) (bs_B s)
  obtain ⟨u, hu⟩ : ∃ u, unN k (bs s) = u := ⟨_, rfl⟩
  rw [hu] at HU hlt
  have HH := Lib.hid (show hiB false u = false by simp [hiB])
  have hnx := nx_one k s u (by omega) hu (by omega)
  rw [hzk] at hnx
  have hsw := scal_wrap u hlt
  obtain ⟨r, hr⟩ : ∃ r, IntKind.i32.wrap (u : Int) = r := ⟨_, rfl⟩
  rw [hr] at hsw
  have hrr : scal (u : Int) = true → r = u := by
    intro h
    obtain ⟨g0, g1⟩ := scal_bd h
    rw [← hr, IntKind.wrap_i32]
    omega
  clear hzk hpk hu
  generalize nx k (bs s) = N at *
  generalize loK k = lo at *
  cases hs : scal (u : Int)
  · rw [if_neg (by rw [hs]; decide)] at hnx
    rw [hs] at hsw
    have HNX := Lib.hid hnx
    have HS := Lib.hid hsw
    have HL := Lib.hid hlt
    clear hnx hs hsw hrr hlt
    go_enter Tryd.func27, Tryd.ntmps27
    go_wp2_with fail
    refine (HU.out _).mono ?_
    rintro e w1 ⟨rfl, hb1⟩
    have B1 := Lib.hid (HB0.out.trans (hb1.mono (by simp)))
    have X1 := Lib.hid (HX0.out.below hb1 (by simp))
    have z1 : w.heap.size < w1.heap.size := by have := hb1.size; simp at this; omega
    clear hb1
    obtain ⟨k0, k1, k2, k3⟩ := X1.out
    go_wp2_with fail
    refine (isHigh_any 4 lo false u _ HL.out).mono ?_
    rw [HH.out]
    rintro e w2 ⟨rfl, hb2⟩
    have B2 := Lib.hid (B1.out.trans (hb2.mono (by omega)))
    have X2 := Lib.hid (X1.out.below hb2 (by omega))
    clear hb2 k0 k1 k2 k3
    obtain ⟨k0, k1, k2, k3⟩ := X2.out
    go_wp2_with fail
    refine (scalar_any _ _).mono ?_
    rw [HS.out]
    rintro e w' ⟨rfl, rfl⟩
    go_wp2_with fail
    go_quiet (fail)
    go_wp2
    go_ret3
    exact ⟨nxV_eq HNX.out, bel_drewN B2.out _⟩
  · rw [if_pos hs] at hnx
    rw [hs] at hsw
    have hru := hrr hs
    subst hru
    have HNX := Lib.hid hnx
    have HS := Lib.hid hsw
    have HL := Lib.hid hlt
    clear hnx hs hsw hrr hlt
    go_enter Tryd.func27, Tryd.ntmps27
    go_wp2_with fail
    refine (HU.out _).mono ?_
    rintro e w1 ⟨rfl, hb1⟩
    have B1 := Lib.hid (HB0.out.trans (hb1.mono (by simp)))
    have X1 := Lib.hid (HX0.out.below hb1 (by simp))
    have z1 : w.heap.size < w1.heap.size := by have := hb1.size; simp at this; omega
    clear hb1
    obtain ⟨k0, k1, k2, k3⟩ := X1.out
    go_wp2_with fail
    refine (isHigh_any 4 lo false u _ HL.out).mono ?_
    rw [HH.out]
    rintro e w2 ⟨rfl, hb2⟩
    have B2 := Lib.hid (B1.out.trans (hb2.mono (by omega)))
    have X2 := Lib.hid (X1.out.below hb2 (by omega))
    clear hb2 k0 k1 k2 k3
    obtain ⟨k0, k1, k2, k3⟩ := X2.out
    go_wp2_with fail
    refine (scalar_any _ _).mono ?_
    rw [HS.out]
    rintro e w' ⟨rfl, rfl⟩
    go_wp2_with fail
    go_quiet (fail)
    go_wp2
    go_ret3
    exact ⟨nxV_eq HNX.out, bel_drewN B2.out _⟩
theorem snext_any (k : Nat) (s : ByteArray) (w : World) (h1 : 1 ≤ k) (h4 : k ≤ 4) (hz : s.size ≤ 100000) :
    Calls Tryd.prog 27 #[.agg #[.int .i64 (szK k : Int), .bool (loK k), .bool (prK k), .string s]] w fun e w' => e = .returned (nxV (nx k (bs s))) ∧ Below w.heap.size w w' := by
  by_cases h2 : k ≤ 2
  · have hzk : szK k = 2 := by simp [szK, h2]
    have hpk : prK k = true := by simp [prK, h2]
    rw [hzk, hpk]
    exact snext2 k s w h1 h2 hz
  · have hzk : szK k = 4 := by unfold szK; rw [if_neg (by omega)]
    have hpk : prK k = false := by simp [prK]; omega
    rw [hzk, hpk]
    exact snext4 k s w (by omega) h4 hz

set_option maxRecDepth 100000 in
set_option maxHeartbeats 1000000 in
theorem next_any (k : Nat) (s : ByteArray) (w : World) (hT : Tab w) (h1 : 1 ≤ k) (h4 : k ≤ 4) (hz : s.size ≤ 100000) :
    Calls Tryd.prog 12 #[.int .i64 (k : Int), .string s] w fun e w' => e = .returned (nxV (nx k (bs s))) ∧ Below w.heap.size w w' := by
  have HL := Lib.hid (layout_any k w hT h1 h4)
  have HN := Lib.hid (fun W => snext_any k s W h1 h4 hz)
  generalize nx k (bs s) = N at *
  generalize szK k = z at *
  generalize loK k = lo at *
  generalize prK k = pr at *
  clear hT
  go_enter Tryd.func12, Tryd.ntmps12
  go_wp2_with fail
  refine HL.out.mono ?_
  rintro e w1 ⟨rfl, hb1⟩
  have B1 := Lib.hid hb1
  have z1 := hb1.size
  clear hb1
  go_wp2_with fail
  refine (HN.out _).mono ?_
  rintro e w2 ⟨rfl, hb2⟩
  have B2 := Lib.hid ((B1.out.alloc z1 (.cells #[.int .i64 (z : Int), .bool lo, .bool pr] 56)).trans (hb2.mono (by simp; omega)))
  clear hb2
  unfold nxV
  go_wp2_with fail
  go_ret3
  exact ⟨rfl, B2.out⟩
set_option maxRecDepth 100000 in
set_option maxHeartbeats 1000000 in
theorem next_no (k : Int) (s : ByteArray) (w : World) (h : k < 1 ∨ 4 < k) :
    Calls Tryd.prog 12 #[.int .i64 k, .string s] w fun e w' => e = .returned (.tuple #[.int .i32 0, .int .i64 0, .int .i64 16]) ∧ Below w.heap.size w w' := by
  go_enter Tryd.func12, Tryd.ntmps12
  go_wp2_with fail
  refine (layout_no k w h).mono ?_
  rintro e w1 ⟨rfl, hb1⟩
  have B1 := Lib.hid hb1
  have z1 := hb1.size
  clear hb1
  go_wp2_with fail
  go_ret3
  exact ⟨rfl, B1.out.alloc z1 _⟩
end Go.Proofs.YtohjkpdelopknaaDoor

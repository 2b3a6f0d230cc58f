import Derived.Test.YtohjkpdelopknaaDoorF
namespace Go.Proofs.YtohjkpdelopknaaDoor
open Go.RowKit
/-- How many bytes are ahead of a beginning at the end that is not whole. -/
def cutK (k : Nat) (l : List Nat) : Nat :=
  if 0 < l.length - l.length % szK k ∧ k ≤ 2 ∧ 55296 ≤ unN k (l.drop (l.length - l.length % szK k - szK k)) ∧ unN k (l.drop (l.length - l.length % szK k - szK k)) < 56320 then l.length - l.length % szK k - szK k
  else l.length - l.length % szK k

set_option maxRecDepth 100000 in
set_option maxHeartbeats 1000000 in
theorem scut2 (k : Nat) (s : ByteArray) (w : World) (h1 : 1 ≤ k) (h2 : k ≤ 2) (hz : s.size ≤ 100000) :
    Calls Tryd.prog 34 #[.agg #[.int .i64 2, .bool (loK k), .bool true, .string s]] w fun e w' => e = .returned (.int .i64 (cutK k (bs s) : Int)) ∧ Below w.heap.size w w' := by
  have hzk : szK k = 2 := by simp [szK, h2]
  have hpk : prK k = true := by simp [prK, h2]
  have HB0 := Lib.hid (show Below w.heap.size w (w.alloc (.cells #[.int .i64 2, .bool (loK k), .bool true, .string s] 60)) from (Below.refl _ _).alloc (Nat.le_refl _) _)
  have HX0 := Lib.hid (Box.new w 2 (loK k) true s 60)
  obtain ⟨W, hW⟩ : ∃ W : Nat, W = s.size - s.size % 2 := ⟨_, rfl⟩
  have hcut : cutK k (bs s) = if 0 < W ∧ 55296 ≤ unN k ((bs s).drop (W - 2)) ∧ unN k ((bs s).drop (W - 2)) < 56320 then W - 2 else W := by
    unfold cutK
    rw [hzk, bs_len, ← hW]
    by_cases c : 0 < W ∧ 55296 ≤ unN k ((bs s).drop (W - 2)) ∧ unN k ((bs s).drop (W - 2)) < 56320
    · rw [if_pos c, if_pos ⟨c.1, h2, c.2⟩]
    · rw [if_neg c, if_neg (fun h => c ⟨h.1, h.2.2⟩)]
  have w1 : (s.size : Int) - (s.size : Int) % 2 = (W : Int) := by omega
  have w2 : W ≤ s.size := by omega
  by_cases c0 : W = 0
  · rw [if_neg (by omega)] at hcut
    have HC := Lib.hid hcut
    have HW := Lib.hid c0
    have w3 : ¬ (0 : Int) < (W : Int) := by omega
    have w4 : decide (0 < W) = false := by simp; omega
    clear hcut hW hzk hpk c0
    generalize loK k = lo at *
    go_enter Tryd.func34, Tryd.ntmps34
    go_wp2_with fail
    go_quiet (fail)
    go_wp2_with fail
    go_quiet (fail)
    go_wp2
    go_ret
    exact ⟨ret_int (by rw [HC.out]), bel_drewN (bel_drewN HB0.out _) _⟩
  · have HU := Lib.hid (fun V => unit_any k s (W - 2) V (by omega) (by omega) (by rw [hzk]; omega) hz)
    rw [hzk, hpk] at HU
    have hlt := unN_lt32 k ((bs s).drop (W - 2)) (allB_drop (bs_B s) _)
    have c1 : 0 < W := by omega
    have w3 : (0 : Int) < (W : Int) := by omega
    have w4 : decide (0 < W) = true := by simp; omega
    obtain ⟨q, hq⟩ : ∃ q : Nat, q = W - 2 := ⟨_, rfl⟩
    rw [← hq] at HU hlt hcut
    have w5 : IntKind.i64.wrap ((W : Int) - 2) = (q : Int) := by rw [hq]; rw [show ((W - 2 : Nat) : Int) = (W : Int) - 2 by omega]; exact IntWalk.i64_in _ (by omega)
    have w6 : (W : Int) - 2 = (q : Int) := by omega
    have w7 : IntKind.i64.wrap (q : Int) = (q : Int) := IntWalk.i64_in _ (by omega)
    have w8 : (0 : Int) ≤ (q : Int) := by omega
    rw [show ((2 : Nat) : Int) = 2 from rfl] at HU
    generalize unN k ((bs s).drop q) = u at *
    clear hW hzk hpk c0 hq
    generalize cutK k (bs s) = C at *
    generalize loK k = lo at *
    have HL := Lib.hid hlt
    have HZ : Hid (w.heap.size < (w.alloc (.cells #[.int .i64 2, .bool lo, .bool true, .string s] 60)).heap.size) := by show _ < _; simp
    clear hlt
    by_cases c2 : 55296 ≤ u ∧ u < 56320
    · rw [if_pos ⟨c1, c2⟩] at hcut
      have HC := Lib.hid hcut
      have HH := Lib.hid (show hiB true u = true by simp [hiB]; omega)
      clear hcut c2
      go_enter Tryd.func34, Tryd.ntmps34
      go_wp2_with fail
      go_quiet (fail)
      have BV := Lib.hid (bel_drewN HB0.out nq)
      have XV := Lib.hid (HX0.out.below (bel_drewN (Below.refl (w.alloc (.cells #[.int .i64 2, .bool lo, .bool true, .string s] 60)).heap.size (w.alloc (.cells #[.int .i64 2, .bool lo, .bool true, .string s] 60))) nq) HZ.out)
      have hzv : w.heap.size < ((w.alloc (.cells #[.int .i64 2, .bool lo, .bool true, .string s] 60)).drewN nq).heap.size := HZ.out
      generalize (w.alloc (.cells #[.int .i64 2, .bool lo, .bool true, .string s] 60)).drewN nq = V at *
      obtain ⟨k0, k1, k2, k3⟩ := XV.out
      go_wp2_with fail
      go_region_held3 (fun w' => w'.cell? ⟨w.heap.size, 0, none⟩ = some (.int .i64 2) ∧ w'.cell? ⟨w.heap.size, 1, none⟩ = some (.bool lo) ∧ w'.cell? ⟨w.heap.size, 2, none⟩ = some (.bool true) ∧ w'.cell? ⟨w.heap.size, 3, none⟩ = some (.string s))
        (first
          | exact ⟨X9.out.c0, X9.out.c1, X9.out.c2, X9.out.c3⟩
          | exact ⟨X8.out.c0, X8.out.c1, X8.out.c2, X8.out.c3⟩
          | go_keep)
        (first
          | ((go_at_call 35; refine (HU.out _).mono ?_; rintro e w8 ⟨rfl, hb8⟩; have z8 : w.heap.size < w8.heap.size := (by have := hb8.size; simp at this; omega); have X8 := Lib.hid ((XV.out.below (Below.refl V.heap.size V).drew hzv).below hb8 (by simpa using hzv)); have B8 := Lib.hid (BV.out.drew.trans (hb8.mono (by simp; omega))); clear hb8))
          | ((go_at_call 36; refine (isHigh_any 2 lo true u _ HL.out).mono ?_; rw [HH.out]; rintro e w9 ⟨rfl, hb9⟩; have X9 := Lib.hid (X8.out.below hb9 (by omega)); have B9 := Lib.hid (B8.out.trans (hb9.mono (by omega))); clear hb9)))
      obtain ⟨g0, g1, g2, g3⟩ := X9.out
      go_wp2
      go_ret
      exact ⟨ret_int (by rw [HC.out]), B9.out⟩
    · rw [if_neg (fun h => c2 h.2)] at hcut
      have HC := Lib.hid hcut
      have HH := Lib.hid (show hiB true u = false by simp [hiB]; omega)
      clear hcut c2
      go_enter Tryd.func34, Tryd.ntmps34
      go_wp2_with fail
      go_quiet (fail)
      have BV := Lib.hid (bel_drewN HB0.out nq)
      have XV := Lib.hid (HX0.out.below (bel_drewN (Below.refl (w.alloc (.cells #[.int .i64 2, .bool lo, .bool true, .string s] 60)).heap.size (w.alloc (.cells #[.int .i64 2, .bool lo, .bool true, .string s] 60))) nq) HZ.out)
      have hzv : w.heap.size < ((w.alloc (.cells #[.int .i64 2, .bool lo, .bool true, .string s] 60)).drewN nq).heap.size := HZ.out
      generalize (w.alloc (.cells #[.int .i64 2, .bool lo, .bool true, .string s] 60)).drewN nq = V at *
      obtain ⟨k0, k1, k2, k3⟩ := XV.out
      go_wp2_with fail
      go_region_held3 (fun w' => w'.cell? ⟨w.heap.size, 0, none⟩ = some (.int .i64 2) ∧ w'.cell? ⟨w.heap.size, 1, none⟩ = some (.bool lo) ∧ w'.cell? ⟨w.heap.size, 2, none⟩ = some (.bool true) ∧ w'.cell? ⟨w.heap.size, 3, none⟩ = some (.string s))
        (first
          | exact ⟨X9.out.c0, X9.out.c1, X9.out.c2, X9.out.c3⟩
          | exact ⟨X8.out.c0, X8.out.c1, X8.out.c2, X8.out.c3⟩
          | go_keep)
        (first
          | ((go_at_call 35; refine (HU.out _).mono ?_; rintro e w8 ⟨rfl, hb8⟩; have z8 : w.heap.size < w8.heap.size := (by have := hb8.size; simp at this; omega); have X8 := Lib.hid ((XV.out.below (Below.refl V.heap.size V).drew hzv).below hb8 (by simpa using hzv)); have B8 := Lib.hid (BV.out.drew.trans (hb8.mono (by simp; omega))); clear hb8))
          | ((go_at_call 36; refine (isHigh_any 2 lo true u _ HL.out).mono ?_; rw [HH.out]; rintro e w9 ⟨rfl, hb9⟩; have X9 := Lib.hid (X8.out.below hb9 (by omega)); have B9 := Lib.hid (B8.out.trans (hb9.mono (by omega))); clear hb9)))
      obtain ⟨g0, g1, g2, g3⟩ := X9.out
      go_wp2
      go_ret
      exact ⟨ret_int (by rw [HC.out]), B9.out⟩
set_option maxRecDepth 100000 in
set_option maxHeartbeats 1000000 in
theorem scut4 (k : Nat) (s : ByteArray) (w : World) (h2 : 3 ≤ k) (h4 : k ≤ 4) (hz : s.size ≤ 100000) :
    Calls Tryd.prog 34 #[.agg #[.int .i64 4, .bool (loK k), .bool false, .string s]] w fun e w' => e = .returned (.int .i64 (cutK k (bs s) : Int)) ∧ Below w.heap.size w w' := by
  have hzk : szK k = 4 := by unfold szK; rw [if_neg (by omega)]
  have hpk : prK k = false := by simp [prK]; omega
  have HB0 := Lib.hid (show Below w.heap.size w (w.alloc (.cells #[.int .i64 4, .bool (loK k), .bool false, .string s] 60)) from (Below.refl _ _).alloc (Nat.le_refl _) _)
  have HX0 := Lib.hid (Box.new w 4 (loK k) false s 60)
  obtain ⟨W, hW⟩ : ∃ W : Nat, W = s.size - s.size % 4 := ⟨_, rfl⟩
  have hcut : cutK k (bs s) = W := by
    unfold cutK
    rw [hzk, bs_len, ← hW, if_neg (by omega)]
  have w1 : (s.size : Int) - (s.size : Int) % 4 = (W : Int) := by omega
  have w2 : W ≤ s.size := by omega
  by_cases c0 : W = 0
  · skip
    have HC := Lib.hid hcut
    have HW := Lib.hid c0
    have w3 : ¬ (0 : Int) < (W : Int) := by omega
    have w4 : decide (0 < W) = false := by simp; omega
    clear hcut hW hzk hpk c0
    generalize loK k = lo at *
    go_enter Tryd.func34, Tryd.ntmps34
    go_wp2_with fail
    go_quiet (fail)
    go_wp2_with fail
    go_quiet (fail)
    go_wp2
    go_ret
    exact ⟨ret_int (by rw [HC.out]), bel_drewN (bel_drewN HB0.out _) _⟩
  · have HU := Lib.hid (fun V => unit_any k s (W - 4) V (by omega) (by omega) (by rw [hzk]; omega) hz)
    rw [hzk, hpk] at HU
    have hlt := unN_lt32 k ((bs s).drop (W - 4)) (allB_drop (bs_B s) _)
    have c1 : 0 < W := by omega
    have w3 : (0 : Int) < (W : Int) := by omega
    have w4 : decide (0 < W) = true := by simp; omega
    obtain ⟨q, hq⟩ : ∃ q : Nat, q = W - 4 := ⟨_, rfl⟩
    rw [← hq] at HU hlt 
    have w5 : IntKind.i64.wrap ((W : Int) - 4) = (q : Int) := by rw [hq]; rw [show ((W - 4 : Nat) : Int) = (W : Int) - 4 by omega]; exact IntWalk.i64_in _ (by omega)
    have w6 : (W : Int) - 4 = (q : Int) := by omega
    have w7 : IntKind.i64.wrap (q : Int) = (q : Int) := IntWalk.i64_in _ (by omega)
    have w8 : (0 : Int) ≤ (q : Int) := by omega
    rw [show ((4 : Nat) : Int) = 4 from rfl] at HU
    generalize unN k ((bs s).drop q) = u at *
    clear hW hzk hpk c0 hq
    generalize cutK k (bs s) = C at *
    generalize loK k = lo at *
    have HL := Lib.hid hlt
    have HZ : Hid (w.heap.size < (w.alloc (.cells #[.int .i64 4, .bool lo, .bool false, .string s] 60)).heap.size) := by show _ < _; simp
    clear hlt
    have HC := Lib.hid hcut
    have HH := Lib.hid (show hiB false u = false by simp [hiB])
    clear hcut
    go_enter Tryd.func34, Tryd.ntmps34
    go_wp2_with fail
    go_quiet (fail)
    have BV := Lib.hid (bel_drewN HB0.out nq)
    have XV := Lib.hid (HX0.out.below (bel_drewN (Below.refl (w.alloc (.cells #[.int .i64 4, .bool lo, .bool false, .string s] 60)).heap.size (w.alloc (.cells #[.int .i64 4, .bool lo, .bool false, .string s] 60))) nq) HZ.out)
    have hzv : w.heap.size < ((w.alloc (.cells #[.int .i64 4, .bool lo, .bool false, .string s] 60)).drewN nq).heap.size := HZ.out
    generalize (w.alloc (.cells #[.int .i64 4, .bool lo, .bool false, .string s] 60)).drewN nq = V at *
    obtain ⟨k0, k1, k2, k3⟩ := XV.out
    go_wp2_with fail
    go_region_held3 (fun w' => w'.cell? ⟨w.heap.size, 0, none⟩ = some (.int .i64 4) ∧ w'.cell? ⟨w.heap.size, 1, none⟩ = some (.bool lo) ∧ w'.cell? ⟨w.heap.size, 2, none⟩ = some (.bool false) ∧ w'.cell? ⟨w.heap.size, 3, none⟩ = some (.string s))
      (first
        | exact ⟨X9.out.c0, X9.out.c1, X9.out.c2, X9.out.c3⟩
        | exact ⟨X8.out.c0, X8.out.c1, X8.out.c2, X8.out.c3⟩
        | go_keep)
      (first
        | ((go_at_call 35; refine (HU.out _).mono ?_; rintro e w8 ⟨rfl, hb8⟩; have z8 : w.heap.size < w8.heap.size := (by have := hb8.size; simp at this; omega); have X8 := Lib.hid ((XV.out.below (Below.refl V.heap.size V).drew hzv).below hb8 (by simpa using hzv)); have B8 := Lib.hid (BV.out.drew.trans (hb8.mono (by simp; omega))); clear hb8))
        | ((go_at_call 36; refine (isHigh_any 4 lo false u _ HL.out).mono ?_; rw [HH.out]; rintro e w9 ⟨rfl, hb9⟩; have X9 := Lib.hid (X8.out.below hb9 (by omega)); have B9 := Lib.hid (B8.out.trans (hb9.mono (by omega))); clear hb9)))
    obtain ⟨g0, g1, g2, g3⟩ := X9.out
    go_wp2
    go_ret
    exact ⟨ret_int (by rw [HC.out]), B9.out⟩
theorem scut_any (k : Nat) (s : ByteArray) (w : World) (h1 : 1 ≤ k) (h4 : k ≤ 4) (hz : s.size ≤ 100000) :
    Calls Tryd.prog 34 #[.agg #[.int .i64 (szK k : Int), .bool (loK k), .bool (prK k), .string s]] w fun e w' => e = .returned (.int .i64 (cutK k (bs s) : Int)) ∧ Below w.heap.size w w' := by
  by_cases h2 : k ≤ 2
  · have hzk : szK k = 2 := by simp [szK, h2]
    have hpk : prK k = true := by simp [prK, h2]
    rw [hzk, hpk]
    exact scut2 k s w h1 h2 hz
  · have hzk : szK k = 4 := by unfold szK; rw [if_neg (by omega)]
    have hpk : prK k = false := by simp [prK]; omega
    rw [hzk, hpk]
    exact scut4 k s w (by omega) h4 hz
set_option maxRecDepth 100000 in
set_option maxHeartbeats 1000000 in
theorem cut_any (k : Nat) (s : ByteArray) (w : World) (hT : Tab w) (h1 : 1 ≤ k) (h4 : k ≤ 4) (hz : s.size ≤ 100000) :
    Calls Tryd.prog 24 #[.int .i64 (k : Int), .string s] w fun e w' => e = .returned (.tuple #[.int .i64 (cutK k (bs s) : Int), .int .i64 0]) ∧ Below w.heap.size w w' := by
  have HL := Lib.hid (layout_any k w hT h1 h4)
  have HN := Lib.hid (fun W => scut_any k s W h1 h4 hz)
  generalize cutK k (bs s) = N at *
  generalize szK k = z at *
  generalize loK k = lo at *
  generalize prK k = pr at *
  clear hT
  go_enter Tryd.func24, Tryd.ntmps24
  go_wp2_with fail
  refine HL.out.mono ?_
  rintro e w1 ⟨rfl, hb1⟩
  have B1 := Lib.hid hb1
  have z1 := hb1.size
  clear hb1
  go_wp2_with fail
  refine (HN.out _).mono ?_
  rintro e w2 ⟨rfl, hb2⟩
  have B2 := Lib.hid ((B1.out.alloc z1 (.cells #[.int .i64 (z : Int), .bool lo, .bool pr] 56)).trans (hb2.mono (by simp; omega)))
  clear hb2
  go_wp2_with fail
  go_ret2
  exact ⟨rfl, B2.out⟩
set_option maxRecDepth 100000 in
set_option maxHeartbeats 1000000 in
theorem cut_no (k : Int) (s : ByteArray) (w : World) (h : k < 1 ∨ 4 < k) :
    Calls Tryd.prog 24 #[.int .i64 k, .string s] w fun e w' => e = .returned (.tuple #[.int .i64 0, .int .i64 16]) ∧ Below w.heap.size w w' := by
  go_enter Tryd.func24, Tryd.ntmps24
  go_wp2_with fail
  refine (layout_no k w h).mono ?_
  rintro e w1 ⟨rfl, hb1⟩
  have B1 := Lib.hid hb1
  have z1 := hb1.size
  clear hb1
  go_wp2_with fail
  go_ret2
  exact ⟨rfl, B1.out.alloc z1 _⟩
end Go.Proofs.YtohjkpdelopknaaDoor

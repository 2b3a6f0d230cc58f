import Derived.Test.YthnfopjjghohcaaDoorGC1
namespace Go.Proofs.YthnfopjjghohcaaDoor.Wd
open Go.RowKit

/-- The table 'layouts' as it lies in memory: the cells of block 0 from the first kind on. -/
structure Tab (w : World) : Prop where
  z1 : w.cell? ⟨1, 3, none⟩ = some (.int .i64 2)
  l1 : w.cell? ⟨1, 4, none⟩ = some (.bool true)
  p1 : w.cell? ⟨1, 5, none⟩ = some (.bool true)
  z2 : w.cell? ⟨1, 6, none⟩ = some (.int .i64 2)
  l2 : w.cell? ⟨1, 7, none⟩ = some (.bool false)
  p2 : w.cell? ⟨1, 8, none⟩ = some (.bool true)
  z3 : w.cell? ⟨1, 9, none⟩ = some (.int .i64 4)
  l3 : w.cell? ⟨1, 10, none⟩ = some (.bool true)
  p3 : w.cell? ⟨1, 11, none⟩ = some (.bool false)
  z4 : w.cell? ⟨1, 12, none⟩ = some (.int .i64 4)
  l4 : w.cell? ⟨1, 13, none⟩ = some (.bool false)
  p4 : w.cell? ⟨1, 14, none⟩ = some (.bool false)
theorem Tab.pos {w : World} (h : Tab w) : 1 + 1 ≤ w.heap.size := World.block_lt_of_cell? w _ h.z1
theorem Tab.below {B : Nat} {w w' : World} (h : Tab w) (hb : Below B w w') (hp : 1 + 1 ≤ B) : Tab w' := by
  have c : ∀ o, w'.cell? ⟨1, o, none⟩ = w.cell? ⟨1, o, none⟩ := fun o => hb.cell (p := ⟨1, o, none⟩) (by show 1 < B; omega)
  exact ⟨(c _).trans h.z1, (c _).trans h.l1, (c _).trans h.p1, (c _).trans h.z2, (c _).trans h.l2, (c _).trans h.p2, (c _).trans h.z3, (c _).trans h.l3, (c _).trans h.p3, (c _).trans h.z4, (c _).trans h.l4, (c _).trans h.p4⟩

/-- What is told of a kind: the unit's size, whether the lowest byte is the first, whether there are pairs. -/
def szK (k : Nat) : Nat := if k ≤ 2 then 2 else 4
def loK (k : Nat) : Bool := k % 2 == 1
def prK (k : Nat) : Bool := decide (k ≤ 2)
def LV (k : Nat) : Value := .agg #[.int .i64 (szK k : Int), .bool (loK k), .bool (prK k)]

set_option maxHeartbeats 400000 in
theorem layout_no (k : Int) (w : World) (h : k < 1 ∨ 4 < k) : Calls Tryd.prog 68 #[.int .i64 k] w fun e w' => e = .returned (.tuple #[.agg #[.int .i64 0, .bool false, .bool false], .bool false]) ∧ Below w.heap.size w w' := by
  rcases h with h | h
  · go_enter Tryd.func68, Tryd.ntmps68
    go_wp2
    exact bodyPost_ret (v := .tuple #[.agg #[.int .i64 0, .bool false, .bool false], .bool false]) (by simp [results, Tryd.results68, go_sem]) rfl ⟨rfl, (Below.refl _ _).alloc (Nat.le_refl _) _⟩
  · have h' : ¬ k < 1 := by omega
    go_enter Tryd.func68, Tryd.ntmps68
    go_wp2
    exact bodyPost_ret (v := .tuple #[.agg #[.int .i64 0, .bool false, .bool false], .bool false]) (by simp [results, Tryd.results68, go_sem]) rfl ⟨rfl, (Below.refl _ _).alloc (Nat.le_refl _) _⟩
set_option maxHeartbeats 400000 in
theorem layout1 (w : World) (hT : Tab w) : Calls Tryd.prog 68 #[.int .i64 1] w fun e w' => e = .returned (.tuple #[.agg #[.int .i64 2, .bool true, .bool true], .bool true]) ∧ Below w.heap.size w w' := by
  have hp0 : 1 < w.heap.size := hT.pos
  obtain ⟨z1, l1, p1, -, -, -, -, -, -, -, -, -⟩ := hT
  go_enter Tryd.func68, Tryd.ntmps68
  go_wp2
  exact bodyPost_ret (v := .tuple #[.agg #[.int .i64 2, .bool true, .bool true], .bool true]) (by simp [results, Tryd.results68, go_sem]) rfl ⟨rfl, (Below.refl _ _).alloc (Nat.le_refl _) _⟩
set_option maxHeartbeats 400000 in
theorem layout2 (w : World) (hT : Tab w) : Calls Tryd.prog 68 #[.int .i64 2] w fun e w' => e = .returned (.tuple #[.agg #[.int .i64 2, .bool false, .bool true], .bool true]) ∧ Below w.heap.size w w' := by
  have hp0 : 1 < w.heap.size := hT.pos
  obtain ⟨-, -, -, z2, l2, p2, -, -, -, -, -, -⟩ := hT
  go_enter Tryd.func68, Tryd.ntmps68
  go_wp2
  exact bodyPost_ret (v := .tuple #[.agg #[.int .i64 2, .bool false, .bool true], .bool true]) (by simp [results, Tryd.results68, go_sem]) rfl ⟨rfl, (Below.refl _ _).alloc (Nat.le_refl _) _⟩
set_option maxHeartbeats 400000 in
theorem layout3 (w : World) (hT : Tab w) : Calls Tryd.prog 68 #[.int .i64 3] w fun e w' => e = .returned (.tuple #[.agg #[.int .i64 4, .bool true, .bool false], .bool true]) ∧ Below w.heap.size w w' := by
  have hp0 : 1 < w.heap.size := hT.pos
  obtain ⟨-, -, -, -, -, -, z3, l3, p3, -, -, -⟩ := hT
  go_enter Tryd.func68, Tryd.ntmps68
  go_wp2
  exact bodyPost_ret (v := .tuple #[.agg #[.int .i64 4, .bool true, .bool false], .bool true]) (by simp [results, Tryd.results68, go_sem]) rfl ⟨rfl, (Below.refl _ _).alloc (Nat.le_refl _) _⟩
set_option maxHeartbeats 400000 in
theorem layout4 (w : World) (hT : Tab w) : Calls Tryd.prog 68 #[.int .i64 4] w fun e w' => e = .returned (.tuple #[.agg #[.int .i64 4, .bool false, .bool false], .bool true]) ∧ Below w.heap.size w w' := by
  have hp0 : 1 < w.heap.size := hT.pos
  obtain ⟨-, -, -, -, -, -, -, -, -, z4, l4, p4⟩ := hT
  go_enter Tryd.func68, Tryd.ntmps68
  go_wp2
  exact bodyPost_ret (v := .tuple #[.agg #[.int .i64 4, .bool false, .bool false], .bool true]) (by simp [results, Tryd.results68, go_sem]) rfl ⟨rfl, (Below.refl _ _).alloc (Nat.le_refl _) _⟩
/-- A kind, by cases. -/
theorem kinds {k : Nat} (h1 : 1 ≤ k) (h4 : k ≤ 4) : k = 1 ∨ k = 2 ∨ k = 3 ∨ k = 4 := by omega
theorem layout_any (k : Nat) (w : World) (hT : Tab w) (h1 : 1 ≤ k) (h4 : k ≤ 4) : Calls Tryd.prog 68 #[.int .i64 (k : Int)] w fun e w' => e = .returned (.tuple #[.agg #[.int .i64 (szK k : Int), .bool (loK k), .bool (prK k)], .bool true]) ∧ Below w.heap.size w w' := by
  rcases kinds h1 h4 with rfl | rfl | rfl | rfl
  · exact layout1 w hT
  · exact layout2 w hT
  · exact layout3 w hT
  · exact layout4 w hT
theorem szK_bd (k : Nat) : 2 ≤ szK k ∧ szK k ≤ 4 ∧ (szK k = 2 ∨ szK k = 4) := by unfold szK; split <;> omega
end Go.Proofs.YthnfopjjghohcaaDoor.Wd
namespace Go.Proofs.YthnfopjjghohcaaDoor.Wd
open Go.RowKit

set_option maxHeartbeats 400000 in
theorem shift_lo (z : Int) (pr : Bool) (i q : Int) (w : World) (h0 : 0 ≤ i) (h3 : i ≤ 3) (hq : 8 * i = q) :
    Calls Tryd.prog 83 #[.agg #[.int .i64 z, .bool true, .bool pr], .int .i64 i] w fun e w' => e = .returned (.int .i64 q) ∧ Below w.heap.size w w' := by
  have HQ := Lib.hid hq
  clear hq
  go_enter Tryd.func83, Tryd.ntmps83
  go_wp2
  go_ret
  exact ⟨ret_int HQ.out, (Below.refl _ _).alloc (Nat.le_refl _) _⟩
set_option maxHeartbeats 400000 in
theorem shift_hi (z : Int) (pr : Bool) (i q : Int) (w : World) (hz : z ≤ 4) (h0 : 0 ≤ i) (h3 : i ≤ z - 1) (hq : 8 * (z - 1 - i) = q) :
    Calls Tryd.prog 83 #[.agg #[.int .i64 z, .bool false, .bool pr], .int .i64 i] w fun e w' => e = .returned (.int .i64 q) ∧ Below w.heap.size w w' := by
  have HQ := Lib.hid hq
  clear hq
  go_enter Tryd.func83, Tryd.ntmps83
  go_wp2
  go_ret
  exact ⟨ret_int HQ.out, (Below.refl _ _).alloc (Nat.le_refl _) _⟩

theorem andNot_nat (n : Nat) (h : n < 4294967296) : bits .andNot .u32 (n : Int) 1023 = ((n / 1024 * 1024 : Nat) : Int) := by
  have e := u32_andNot_nat n 1023 h (by omega)
  have e' : bits .andNot .u32 (n : Int) 1023 = ((n &&& (4294967295 - 1023) : Nat) : Int) := e
  rw [e']
  congr 1
  have h1 : n &&& (4294967295 - 1023) = (n >>> 10) <<< 10 := by
    apply Nat.eq_of_testBit_eq
    intro i
    have hc : (4294967295 - 1023 : Nat) = (2 ^ 22 - 1) <<< 10 := by decide
    rw [Nat.testBit_and, hc, Nat.testBit_shiftLeft, Nat.testBit_shiftLeft, Nat.testBit_two_pow_sub_one, Nat.testBit_shiftRight]
    by_cases hi : 10 ≤ i
    · simp only [hi, decide_true, Bool.true_and]
      rw [show 10 + (i - 10) = i by omega]
      by_cases hj : i - 10 < 22
      · simp [hj]
      · have : n.testBit i = false := Nat.testBit_lt_two_pow (Nat.lt_of_lt_of_le h (by
          rw [show (4294967296 : Nat) = 2 ^ 32 by decide]
          exact Nat.pow_le_pow_right (by omega) (by omega)))
        simp [this]
    · simp [hi]
  rw [h1, Nat.shiftLeft_eq, Nat.shiftRight_eq_div_pow]
theorem high_fact (n : Nat) (h : n < 4294967296) : (bits .andNot .u32 (n : Int) 1023 == 55296) = decide (55296 ≤ n ∧ n < 56320) := by
  rw [andNot_nat n h, Bool.eq_iff_iff]
  simp
  omega
theorem low_fact (n : Nat) (h : n < 4294967296) : (bits .andNot .u32 (n : Int) 1023 == 56320) = decide (56320 ≤ n ∧ n < 57344) := by
  rw [andNot_nat n h, Bool.eq_iff_iff]
  simp
  omega
/-- Whether a unit is a high one, of a kind with pairs. -/
def hiB (pr : Bool) (n : Nat) : Bool := pr && decide (55296 ≤ n ∧ n < 56320)
set_option maxHeartbeats 400000 in
theorem isHigh_any (z : Int) (lo pr : Bool) (n : Nat) (w : World) (h : n < 4294967296) :
    Calls Tryd.prog 77 #[.agg #[.int .i64 z, .bool lo, .bool pr], .int .u32 (n : Int)] w fun e w' => e = .returned (.bool (hiB pr n)) ∧ Below w.heap.size w w' := by
  have hf := high_fact n h
  cases pr
  · clear hf
    go_enter Tryd.func77, Tryd.ntmps77
    go_wp2
    go_ret
    exact ⟨rfl, (Below.refl _ _).alloc (Nat.le_refl _) _⟩
  · have HF := Lib.hid (show decide (55296 ≤ n ∧ n < 56320) = hiB true n by simp [hiB])
    generalize decide (55296 ≤ n ∧ n < 56320) = b at hf HF
    go_enter Tryd.func77, Tryd.ntmps77
    go_wp2
    go_ret
    exact ⟨ret_bool HF.out, (Below.refl _ _).alloc (Nat.le_refl _) _⟩
set_option maxHeartbeats 400000 in
theorem isLow_any (n : Nat) (w : World) (h : n < 4294967296) :
    Calls Tryd.prog 84 #[.int .u32 (n : Int)] w fun e w' => e = .returned (.bool (decide (56320 ≤ n ∧ n < 57344))) ∧ w = w' := by
  have hf := low_fact n h
  generalize decide (56320 ≤ n ∧ n < 57344) = b at hf ⊢
  go_enter Tryd.func84, Tryd.ntmps84
  go_wp2
  go_ret
  exact ⟨rfl, rfl⟩
end Go.Proofs.YthnfopjjghohcaaDoor.Wd
namespace Go.Proofs.YthnfopjjghohcaaDoor.Wd
open Go.RowKit

/-- A boxed source: its four cells. -/
structure Box (w : World) (B : Nat) (z : Int) (lo pr : Bool) (s : ByteArray) : Prop where
  c0 : w.cell? ⟨B, 0, none⟩ = some (.int .i64 z)
  c1 : w.cell? ⟨B, 1, none⟩ = some (.bool lo)
  c2 : w.cell? ⟨B, 2, none⟩ = some (.bool pr)
  c3 : w.cell? ⟨B, 3, none⟩ = some (.string s)
theorem Box.below {w w' : World} {B C : Nat} {z : Int} {lo pr : Bool} {s : ByteArray} (h : Box w B z lo pr s) (hb : Below C w w') (hc : B < C) : Box w' B z lo pr s :=
  ⟨(hb.cell (p := ⟨B, 0, none⟩) hc).trans h.c0, (hb.cell (p := ⟨B, 1, none⟩) hc).trans h.c1, (hb.cell (p := ⟨B, 2, none⟩) hc).trans h.c2, (hb.cell (p := ⟨B, 3, none⟩) hc).trans h.c3⟩
theorem Box.new (w : World) (z : Int) (lo pr : Bool) (s : ByteArray) (t : TypeId) : Box (w.alloc (.cells #[.int .i64 z, .bool lo, .bool pr, .string s] t)) w.heap.size z lo pr s :=
  ⟨by rw [World.cell?_alloc_new]; rfl, by rw [World.cell?_alloc_new]; rfl, by rw [World.cell?_alloc_new]; rfl, by rw [World.cell?_alloc_new]; rfl⟩
theorem w32 (b : Nat) (h : b < 4294967296) : IntKind.u32.wrap (b : Int) = b := by rw [IntKind.wrap_u32']; omega
theorem w32m (b m : Nat) (h : b * m < 4294967296) : IntKind.u32.wrap ((b : Int) * (m : Int)) = (b : Int) * (m : Int) := by
  have e : (b : Int) * (m : Int) = ((b * m : Nat) : Int) := by simp
  rw [e]; exact w32 _ h
theorem or32 (a b c : Nat) (ha : a < 4294967296) (hb : b < 4294967296) (h : a ||| b = c) : bits .or .u32 (a : Int) (b : Int) = (c : Int) := by rw [u32_or_nat a b ha hb, h]
theorem or32m (a b m c : Nat) (ha : a < 4294967296) (hb : b * m < 4294967296) (h : a ||| b * m = c) : bits .or .u32 (a : Int) ((b : Int) * (m : Int)) = (c : Int) := by
  have e : (b : Int) * (m : Int) = ((b * m : Nat) : Int) := by simp
  rw [e]; exact or32 a _ c ha hb h
theorem or_lo (a b i : Nat) (h : a < 2 ^ i) : a ||| b * 2 ^ i = a + b * 2 ^ i := by
  rw [Nat.or_comm, Nat.mul_comm b, ← Nat.two_pow_add_eq_or_of_lt h]; omega
theorem or_hi (a b i : Nat) (h : b < 2 ^ i) : a * 2 ^ i ||| b = a * 2 ^ i + b := by
  rw [Nat.mul_comm a, ← Nat.two_pow_add_eq_or_of_lt h]
set_option maxRecDepth 100000 in
set_option maxHeartbeats 1000000 in
theorem unit1 (s : ByteArray) (p0 p1 : Nat) (w : World) (h0 : p0 < s.size) (h1 : p1 < s.size) (e1 : p1 = p0 + 1) (hz : s.size ≤ 100000) :
    Calls Tryd.prog 76 #[.agg #[.int .i64 2, .bool true, .bool true, .string s], .int .i64 (p0 : Int)] w fun e w' => e = .returned (.int .u32 ((s[p0].toNat + s[p1].toNat * 256 : Nat) : Int)) ∧ Below w.heap.size w w' := by
  have hb0 : Below w.heap.size w (w.alloc (.cells #[.int .i64 2, .bool true, .bool true, .string s] 111)) := (Below.refl _ _).alloc (Nat.le_refl _) _
  have HB0 := Lib.hid hb0
  have HX0 := Lib.hid (Box.new w 2 true true s 111)
  clear hb0
  have q0 : (0 : Int) ≤ (p0 : Int) := by omega
  have r0 : (p0 : Int) < s.size := by omega
  have b0 : s[p0].toNat < 256 := by have := s[p0].toNat_lt; omega
  have r1 : (p1 : Int) < s.size := by omega
  have b1 : s[p1].toNat < 256 := by have := s[p1].toNat_lt; omega
  have E1 := Lib.hid e1
  obtain ⟨a1, ha1⟩ : ∃ a : Nat, a = s[p0].toNat := ⟨_, rfl⟩
  have A1 := Lib.hid ha1
  clear ha1
  obtain ⟨a2, ha2⟩ : ∃ a : Nat, a = s[p0].toNat + s[p1].toNat * 256 := ⟨_, rfl⟩
  have A2 := Lib.hid ha2
  clear ha2
  clear e1
  go_enter Tryd.func76, Tryd.ntmps76
  go_wp2_with fail
  go_loopw [5, 10] (fun u i wr => ∃ j : Nat, i = .int .i64 j ∧ j ≤ 2 ∧ u = .int .u32 ((if j = 0 then 0 else if j = 1 then a1 else a2 : Nat) : Int) ∧ Hid (Below w.heap.size w wr ∧ w.heap.size + 1 ≤ wr.heap.size ∧ Box wr w.heap.size 2 true true s)) (fun _ i _ => 2 - (intOf i).toNat)
  case atStart => exact ⟨0, rfl, by omega, rfl, HB0.out, by simp, HX0.out⟩
  case round =>
    obtain ⟨j, rfl, hj, rfl, HB⟩ := hrel
    have hj' : j = 0 ∨ j = 1 ∨ j = 2 := by omega
    have hsz := HB.out.2.1
    obtain ⟨k0, k1, k2, k3⟩ := HB.out.2.2
    rcases hj' with rfl | rfl | rfl
    · rw [if_pos rfl, show ((0 : Nat) : Int) = 0 from rfl]
      have w1 : IntKind.i64.wrap (p0 : Int) = (p0 : Int) := IntWalk.i64_in _ (by omega)
      have e1 : IntKind.u32.wrap (s[p0].toNat : Int) = (s[p0].toNat : Int) := w32 _ (by omega)
      have e3 : bits .or .u32 0 (s[p0].toNat : Int) = (a1 : Int) := by rw [A1.out]; exact or32 0 _ _ (by omega) (by omega) (by simp)
      go_wp2_with fail
      go_region_held3 (fun w' => w'.cell? ⟨w.heap.size, 0, none⟩ = some (.int .i64 2) ∧ w'.cell? ⟨w.heap.size, 1, none⟩ = some (.bool true) ∧ w'.cell? ⟨w.heap.size, 2, none⟩ = some (.bool true) ∧ w'.cell? ⟨w.heap.size, 3, none⟩ = some (.string s))
        (first
          | go_keep
          | (refine ⟨?_, ?_, ?_, ?_⟩
             · (rw [hb7.cell (p := ⟨w.heap.size, 0, none⟩) (by simp; omega)]; simpa using k0)
             · (rw [hb7.cell (p := ⟨w.heap.size, 1, none⟩) (by simp; omega)]; simpa using k1)
             · (rw [hb7.cell (p := ⟨w.heap.size, 2, none⟩) (by simp; omega)]; simpa using k2)
             · (rw [hb7.cell (p := ⟨w.heap.size, 3, none⟩) (by simp; omega)]; simpa using k3)))
        ((go_at_call 83; refine (shift_lo 2 true 0 0 _ (by omega) (by omega) rfl).mono ?_; rintro e w7 ⟨rfl, hb7⟩))
      all_goals
        have HN : Hid (Below w.heap.size w w7 ∧ w.heap.size + 1 ≤ w7.heap.size ∧ Box w7 w.heap.size 2 true true s) := ⟨HB.out.1.drew.trans (hb7.mono (by simp; omega)), by have := hb7.size; simp at this; omega, ((HB.out.2.2).below (Below.refl wr.heap.size wr).drew (by omega)).below hb7 (by simp; omega)⟩
        clear w1 e1 e3 hb7
        go_wp2_with fail
        go_roundw
        case rel => exact ⟨1, rfl, by omega, rfl, HN.out⟩
        case measure => simp [intOf]
    · rw [if_neg (by decide), if_pos rfl, show ((1 : Nat) : Int) = 1 from rfl]
      have w1 : IntKind.i64.wrap ((p0 : Int) + 1) = (p1 : Int) := by rw [E1.out]; exact IntWalk.i64_in _ (by omega)
      have e1 : IntKind.u32.wrap (s[p1].toNat : Int) = (s[p1].toNat : Int) := w32 _ (by omega)
      have e2 : IntKind.u32.wrap ((s[p1].toNat : Int) * 256) = (s[p1].toNat : Int) * 256 := w32m _ 256 (by omega)
      have e3 : bits .or .u32 (a1 : Int) ((s[p1].toNat : Int) * 256) = (a2 : Int) := by rw [A1.out, A2.out]; exact or32m _ _ 256 _ (by omega) (by omega) (by have := or_lo (s[p0].toNat) s[p1].toNat 8 (by omega); simpa using this)
      go_wp2_with fail
      go_region_held3 (fun w' => w'.cell? ⟨w.heap.size, 0, none⟩ = some (.int .i64 2) ∧ w'.cell? ⟨w.heap.size, 1, none⟩ = some (.bool true) ∧ w'.cell? ⟨w.heap.size, 2, none⟩ = some (.bool true) ∧ w'.cell? ⟨w.heap.size, 3, none⟩ = some (.string s))
        (first
          | go_keep
          | (refine ⟨?_, ?_, ?_, ?_⟩
             · (rw [hb7.cell (p := ⟨w.heap.size, 0, none⟩) (by simp; omega)]; simpa using k0)
             · (rw [hb7.cell (p := ⟨w.heap.size, 1, none⟩) (by simp; omega)]; simpa using k1)
             · (rw [hb7.cell (p := ⟨w.heap.size, 2, none⟩) (by simp; omega)]; simpa using k2)
             · (rw [hb7.cell (p := ⟨w.heap.size, 3, none⟩) (by simp; omega)]; simpa using k3)))
        ((go_at_call 83; refine (shift_lo 2 true 1 8 _ (by omega) (by omega) rfl).mono ?_; rintro e w7 ⟨rfl, hb7⟩))
      all_goals
        have HN : Hid (Below w.heap.size w w7 ∧ w.heap.size + 1 ≤ w7.heap.size ∧ Box w7 w.heap.size 2 true true s) := ⟨HB.out.1.drew.trans (hb7.mono (by simp; omega)), by have := hb7.size; simp at this; omega, ((HB.out.2.2).below (Below.refl wr.heap.size wr).drew (by omega)).below hb7 (by simp; omega)⟩
        clear w1 e1 e2 e3 hb7
        go_wp2_with fail
        go_roundw
        case rel => exact ⟨2, rfl, by omega, rfl, HN.out⟩
        case measure => simp [intOf]
    · rw [if_neg (by decide), if_neg (by decide), show ((2 : Nat) : Int) = 2 from rfl]
      go_wp2
      go_ret
      exact ⟨ret_int (by rw [A2.out]), HB.out.1⟩
set_option maxRecDepth 100000 in
set_option maxHeartbeats 1000000 in
theorem unit2 (s : ByteArray) (p0 p1 : Nat) (w : World) (h0 : p0 < s.size) (h1 : p1 < s.size) (e1 : p1 = p0 + 1) (hz : s.size ≤ 100000) :
    Calls Tryd.prog 76 #[.agg #[.int .i64 2, .bool false, .bool true, .string s], .int .i64 (p0 : Int)] w fun e w' => e = .returned (.int .u32 ((s[p0].toNat * 256 + s[p1].toNat : Nat) : Int)) ∧ Below w.heap.size w w' := by
  have hb0 : Below w.heap.size w (w.alloc (.cells #[.int .i64 2, .bool false, .bool true, .string s] 111)) := (Below.refl _ _).alloc (Nat.le_refl _) _
  have HB0 := Lib.hid hb0
  have HX0 := Lib.hid (Box.new w 2 false true s 111)
  clear hb0
  have q0 : (0 : Int) ≤ (p0 : Int) := by omega
  have r0 : (p0 : Int) < s.size := by omega
  have b0 : s[p0].toNat < 256 := by have := s[p0].toNat_lt; omega
  have r1 : (p1 : Int) < s.size := by omega
  have b1 : s[p1].toNat < 256 := by have := s[p1].toNat_lt; omega
  have E1 := Lib.hid e1
  obtain ⟨a1, ha1⟩ : ∃ a : Nat, a = s[p0].toNat * 256 := ⟨_, rfl⟩
  have A1 := Lib.hid ha1
  clear ha1
  obtain ⟨a2, ha2⟩ : ∃ a : Nat, a = s[p0].toNat * 256 + s[p1].toNat := ⟨_, rfl⟩
  have A2 := Lib.hid ha2
  clear ha2
  clear e1
  go_enter Tryd.func76, Tryd.ntmps76
  go_wp2_with fail
  go_loopw [5, 10] (fun u i wr => ∃ j : Nat, i = .int .i64 j ∧ j ≤ 2 ∧ u = .int .u32 ((if j = 0 then 0 else if j = 1 then a1 else a2 : Nat) : Int) ∧ Hid (Below w.heap.size w wr ∧ w.heap.size + 1 ≤ wr.heap.size ∧ Box wr w.heap.size 2 false true s)) (fun _ i _ => 2 - (intOf i).toNat)
  case atStart => exact ⟨0, rfl, by omega, rfl, HB0.out, by simp, HX0.out⟩
  case round =>
    obtain ⟨j, rfl, hj, rfl, HB⟩ := hrel
    have hj' : j = 0 ∨ j = 1 ∨ j = 2 := by omega
    have hsz := HB.out.2.1
    obtain ⟨k0, k1, k2, k3⟩ := HB.out.2.2
    rcases hj' with rfl | rfl | rfl
    · rw [if_pos rfl, show ((0 : Nat) : Int) = 0 from rfl]
      have w1 : IntKind.i64.wrap (p0 : Int) = (p0 : Int) := IntWalk.i64_in _ (by omega)
      have e1 : IntKind.u32.wrap (s[p0].toNat : Int) = (s[p0].toNat : Int) := w32 _ (by omega)
      have e2 : IntKind.u32.wrap ((s[p0].toNat : Int) * 256) = (s[p0].toNat : Int) * 256 := w32m _ 256 (by omega)
      have e3 : bits .or .u32 0 ((s[p0].toNat : Int) * 256) = (a1 : Int) := by rw [A1.out]; exact or32m 0 _ 256 _ (by omega) (by omega) (by simp)
      go_wp2_with fail
      go_region_held3 (fun w' => w'.cell? ⟨w.heap.size, 0, none⟩ = some (.int .i64 2) ∧ w'.cell? ⟨w.heap.size, 1, none⟩ = some (.bool false) ∧ w'.cell? ⟨w.heap.size, 2, none⟩ = some (.bool true) ∧ w'.cell? ⟨w.heap.size, 3, none⟩ = some (.string s))
        (first
          | go_keep
          | (refine ⟨?_, ?_, ?_, ?_⟩
             · (rw [hb7.cell (p := ⟨w.heap.size, 0, none⟩) (by simp; omega)]; simpa using k0)
             · (rw [hb7.cell (p := ⟨w.heap.size, 1, none⟩) (by simp; omega)]; simpa using k1)
             · (rw [hb7.cell (p := ⟨w.heap.size, 2, none⟩) (by simp; omega)]; simpa using k2)
             · (rw [hb7.cell (p := ⟨w.heap.size, 3, none⟩) (by simp; omega)]; simpa using k3)))
        ((go_at_call 83; refine (shift_hi 2 true 0 8 _ (by omega) (by omega) (by omega) rfl).mono ?_; rintro e w7 ⟨rfl, hb7⟩))
      all_goals
        have HN : Hid (Below w.heap.size w w7 ∧ w.heap.size + 1 ≤ w7.heap.size ∧ Box w7 w.heap.size 2 false true s) := ⟨HB.out.1.drew.trans (hb7.mono (by simp; omega)), by have := hb7.size; simp at this; omega, ((HB.out.2.2).below (Below.refl wr.heap.size wr).drew (by omega)).below hb7 (by simp; omega)⟩
        clear w1 e1 e2 e3 hb7
        go_wp2_with fail
        go_roundw
        case rel => exact ⟨1, rfl, by omega, rfl, HN.out⟩
        case measure => simp [intOf]
    · rw [if_neg (by decide), if_pos rfl, show ((1 : Nat) : Int) = 1 from rfl]
      have w1 : IntKind.i64.wrap ((p0 : Int) + 1) = (p1 : Int) := by rw [E1.out]; exact IntWalk.i64_in _ (by omega)
      have e1 : IntKind.u32.wrap (s[p1].toNat : Int) = (s[p1].toNat : Int) := w32 _ (by omega)
      have e3 : bits .or .u32 (a1 : Int) (s[p1].toNat : Int) = (a2 : Int) := by rw [A1.out, A2.out]; exact or32 _ _ _ (by omega) (by omega) (by have := or_hi (s[p0].toNat) (s[p1].toNat) 8 (by omega); rw [show (s[p0].toNat) * 2 ^ 8 = s[p0].toNat * 256 by omega] at this; exact this)
      go_wp2_with fail
      go_region_held3 (fun w' => w'.cell? ⟨w.heap.size, 0, none⟩ = some (.int .i64 2) ∧ w'.cell? ⟨w.heap.size, 1, none⟩ = some (.bool false) ∧ w'.cell? ⟨w.heap.size, 2, none⟩ = some (.bool true) ∧ w'.cell? ⟨w.heap.size, 3, none⟩ = some (.string s))
        (first
          | go_keep
          | (refine ⟨?_, ?_, ?_, ?_⟩
             · (rw [hb7.cell (p := ⟨w.heap.size, 0, none⟩) (by simp; omega)]; simpa using k0)
             · (rw [hb7.cell (p := ⟨w.heap.size, 1, none⟩) (by simp; omega)]; simpa using k1)
             · (rw [hb7.cell (p := ⟨w.heap.size, 2, none⟩) (by simp; omega)]; simpa using k2)
             · (rw [hb7.cell (p := ⟨w.heap.size, 3, none⟩) (by simp; omega)]; simpa using k3)))
        ((go_at_call 83; refine (shift_hi 2 true 1 0 _ (by omega) (by omega) (by omega) rfl).mono ?_; rintro e w7 ⟨rfl, hb7⟩))
      all_goals
        have HN : Hid (Below w.heap.size w w7 ∧ w.heap.size + 1 ≤ w7.heap.size ∧ Box w7 w.heap.size 2 false true s) := ⟨HB.out.1.drew.trans (hb7.mono (by simp; omega)), by have := hb7.size; simp at this; omega, ((HB.out.2.2).below (Below.refl wr.heap.size wr).drew (by omega)).below hb7 (by simp; omega)⟩
        clear w1 e1 e3 hb7
        go_wp2_with fail
        go_roundw
        case rel => exact ⟨2, rfl, by omega, rfl, HN.out⟩
        case measure => simp [intOf]
    · rw [if_neg (by decide), if_neg (by decide), show ((2 : Nat) : Int) = 2 from rfl]
      go_wp2
      go_ret
      exact ⟨ret_int (by rw [A2.out]), HB.out.1⟩
set_option maxRecDepth 100000 in
set_option maxHeartbeats 1000000 in
theorem unit3 (s : ByteArray) (p0 p1 p2 p3 : Nat) (w : World) (h0 : p0 < s.size) (h1 : p1 < s.size) (h2 : p2 < s.size) (h3 : p3 < s.size) (e1 : p1 = p0 + 1) (e2 : p2 = p0 + 2) (e3 : p3 = p0 + 3) (hz : s.size ≤ 100000) :
    Calls Tryd.prog 76 #[.agg #[.int .i64 4, .bool true, .bool false, .string s], .int .i64 (p0 : Int)] w fun e w' => e = .returned (.int .u32 ((s[p0].toNat + s[p1].toNat * 256 + s[p2].toNat * 65536 + s[p3].toNat * 16777216 : Nat) : Int)) ∧ Below w.heap.size w w' := by
  have hb0 : Below w.heap.size w (w.alloc (.cells #[.int .i64 4, .bool true, .bool false, .string s] 111)) := (Below.refl _ _).alloc (Nat.le_refl _) _
  have HB0 := Lib.hid hb0
  have HX0 := Lib.hid (Box.new w 4 true false s 111)
  clear hb0
  have q0 : (0 : Int) ≤ (p0 : Int) := by omega
  have r0 : (p0 : Int) < s.size := by omega
  have b0 : s[p0].toNat < 256 := by have := s[p0].toNat_lt; omega
  have r1 : (p1 : Int) < s.size := by omega
  have b1 : s[p1].toNat < 256 := by have := s[p1].toNat_lt; omega
  have r2 : (p2 : Int) < s.size := by omega
  have b2 : s[p2].toNat < 256 := by have := s[p2].toNat_lt; omega
  have r3 : (p3 : Int) < s.size := by omega
  have b3 : s[p3].toNat < 256 := by have := s[p3].toNat_lt; omega
  have E1 := Lib.hid e1
  have E2 := Lib.hid e2
  have E3 := Lib.hid e3
  obtain ⟨a1, ha1⟩ : ∃ a : Nat, a = s[p0].toNat := ⟨_, rfl⟩
  have A1 := Lib.hid ha1
  clear ha1
  obtain ⟨a2, ha2⟩ : ∃ a : Nat, a = s[p0].toNat + s[p1].toNat * 256 := ⟨_, rfl⟩
  have A2 := Lib.hid ha2
  clear ha2
  obtain ⟨a3, ha3⟩ : ∃ a : Nat, a = s[p0].toNat + s[p1].toNat * 256 + s[p2].toNat * 65536 := ⟨_, rfl⟩
  have A3 := Lib.hid ha3
  clear ha3
  obtain ⟨a4, ha4⟩ : ∃ a : Nat, a = s[p0].toNat + s[p1].toNat * 256 + s[p2].toNat * 65536 + s[p3].toNat * 16777216 := ⟨_, rfl⟩
  have A4 := Lib.hid ha4
  clear ha4
  clear e1 e2 e3
  go_enter Tryd.func76, Tryd.ntmps76
  go_wp2_with fail
  go_loopw [5, 10] (fun u i wr => ∃ j : Nat, i = .int .i64 j ∧ j ≤ 4 ∧ u = .int .u32 ((if j = 0 then 0 else if j = 1 then a1 else if j = 2 then a2 else if j = 3 then a3 else a4 : Nat) : Int) ∧ Hid (Below w.heap.size w wr ∧ w.heap.size + 1 ≤ wr.heap.size ∧ Box wr w.heap.size 4 true false s)) (fun _ i _ => 4 - (intOf i).toNat)
  case atStart => exact ⟨0, rfl, by omega, rfl, HB0.out, by simp, HX0.out⟩
  case round =>
    obtain ⟨j, rfl, hj, rfl, HB⟩ := hrel
    have hj' : j = 0 ∨ j = 1 ∨ j = 2 ∨ j = 3 ∨ j = 4 := by omega
    have hsz := HB.out.2.1
    obtain ⟨k0, k1, k2, k3⟩ := HB.out.2.2
    rcases hj' with rfl | rfl | rfl | rfl | rfl
    · rw [if_pos rfl, show ((0 : Nat) : Int) = 0 from rfl]
      have w1 : IntKind.i64.wrap (p0 : Int) = (p0 : Int) := IntWalk.i64_in _ (by omega)
      have e1 : IntKind.u32.wrap (s[p0].toNat : Int) = (s[p0].toNat : Int) := w32 _ (by omega)
      have e3 : bits .or .u32 0 (s[p0].toNat : Int) = (a1 : Int) := by rw [A1.out]; exact or32 0 _ _ (by omega) (by omega) (by simp)
      go_wp2_with fail
      go_region_held3 (fun w' => w'.cell? ⟨w.heap.size, 0, none⟩ = some (.int .i64 4) ∧ w'.cell? ⟨w.heap.size, 1, none⟩ = some (.bool true) ∧ w'.cell? ⟨w.heap.size, 2, none⟩ = some (.bool false) ∧ w'.cell? ⟨w.heap.size, 3, none⟩ = some (.string s))
        (first
          | go_keep
          | (refine ⟨?_, ?_, ?_, ?_⟩
             · (rw [hb7.cell (p := ⟨w.heap.size, 0, none⟩) (by simp; omega)]; simpa using k0)
             · (rw [hb7.cell (p := ⟨w.heap.size, 1, none⟩) (by simp; omega)]; simpa using k1)
             · (rw [hb7.cell (p := ⟨w.heap.size, 2, none⟩) (by simp; omega)]; simpa using k2)
             · (rw [hb7.cell (p := ⟨w.heap.size, 3, none⟩) (by simp; omega)]; simpa using k3)))
        ((go_at_call 83; refine (shift_lo 4 false 0 0 _ (by omega) (by omega) rfl).mono ?_; rintro e w7 ⟨rfl, hb7⟩))
      all_goals
        have HN : Hid (Below w.heap.size w w7 ∧ w.heap.size + 1 ≤ w7.heap.size ∧ Box w7 w.heap.size 4 true false s) := ⟨HB.out.1.drew.trans (hb7.mono (by simp; omega)), by have := hb7.size; simp at this; omega, ((HB.out.2.2).below (Below.refl wr.heap.size wr).drew (by omega)).below hb7 (by simp; omega)⟩
        clear w1 e1 e3 hb7
        go_wp2_with fail
        go_roundw
        case rel => exact ⟨1, rfl, by omega, rfl, HN.out⟩
        case measure => simp [intOf]
    · rw [if_neg (by decide), if_pos rfl, show ((1 : Nat) : Int) = 1 from rfl]
      have w1 : IntKind.i64.wrap ((p0 : Int) + 1) = (p1 : Int) := by rw [E1.out]; exact IntWalk.i64_in _ (by omega)
      have e1 : IntKind.u32.wrap (s[p1].toNat : Int) = (s[p1].toNat : Int) := w32 _ (by omega)
      have e2 : IntKind.u32.wrap ((s[p1].toNat : Int) * 256) = (s[p1].toNat : Int) * 256 := w32m _ 256 (by omega)
      have e3 : bits .or .u32 (a1 : Int) ((s[p1].toNat : Int) * 256) = (a2 : Int) := by rw [A1.out, A2.out]; exact or32m _ _ 256 _ (by omega) (by omega) (by have := or_lo (s[p0].toNat) s[p1].toNat 8 (by omega); simpa using this)
      go_wp2_with fail
      go_region_held3 (fun w' => w'.cell? ⟨w.heap.size, 0, none⟩ = some (.int .i64 4) ∧ w'.cell? ⟨w.heap.size, 1, none⟩ = some (.bool true) ∧ w'.cell? ⟨w.heap.size, 2, none⟩ = some (.bool false) ∧ w'.cell? ⟨w.heap.size, 3, none⟩ = some (.string s))
        (first
          | go_keep
          | (refine ⟨?_, ?_, ?_, ?_⟩
             · (rw [hb7.cell (p := ⟨w.heap.size, 0, none⟩) (by simp; omega)]; simpa using k0)
             · (rw [hb7.cell (p := ⟨w.heap.size, 1, none⟩) (by simp; omega)]; simpa using k1)
             · (rw [hb7.cell (p := ⟨w.heap.size, 2, none⟩) (by simp; omega)]; simpa using k2)
             · (rw [hb7.cell (p := ⟨w.heap.size, 3, none⟩) (by simp; omega)]; simpa using k3)))
        ((go_at_call 83; refine (shift_lo 4 false 1 8 _ (by omega) (by omega) rfl).mono ?_; rintro e w7 ⟨rfl, hb7⟩))
      all_goals
        have HN : Hid (Below w.heap.size w w7 ∧ w.heap.size + 1 ≤ w7.heap.size ∧ Box w7 w.heap.size 4 true false s) := ⟨HB.out.1.drew.trans (hb7.mono (by simp; omega)), by have := hb7.size; simp at this; omega, ((HB.out.2.2).below (Below.refl wr.heap.size wr).drew (by omega)).below hb7 (by simp; omega)⟩
        clear w1 e1 e2 e3 hb7
        go_wp2_with fail
        go_roundw
        case rel => exact ⟨2, rfl, by omega, rfl, HN.out⟩
        case measure => simp [intOf]
    · rw [if_neg (by decide), if_neg (by decide), if_pos rfl, show ((2 : Nat) : Int) = 2 from rfl]
      have w1 : IntKind.i64.wrap ((p0 : Int) + 2) = (p2 : Int) := by rw [E2.out]; exact IntWalk.i64_in _ (by omega)
      have e1 : IntKind.u32.wrap (s[p2].toNat : Int) = (s[p2].toNat : Int) := w32 _ (by omega)
      have e2 : IntKind.u32.wrap ((s[p2].toNat : Int) * 65536) = (s[p2].toNat : Int) * 65536 := w32m _ 65536 (by omega)
      have e3 : bits .or .u32 (a2 : Int) ((s[p2].toNat : Int) * 65536) = (a3 : Int) := by rw [A2.out, A3.out]; exact or32m _ _ 65536 _ (by omega) (by omega) (by have := or_lo (s[p0].toNat + s[p1].toNat * 256) s[p2].toNat 16 (by omega); simpa using this)
      go_wp2_with fail
      go_region_held3 (fun w' => w'.cell? ⟨w.heap.size, 0, none⟩ = some (.int .i64 4) ∧ w'.cell? ⟨w.heap.size, 1, none⟩ = some (.bool true) ∧ w'.cell? ⟨w.heap.size, 2, none⟩ = some (.bool false) ∧ w'.cell? ⟨w.heap.size, 3, none⟩ = some (.string s))
        (first
          | go_keep
          | (refine ⟨?_, ?_, ?_, ?_⟩
             · (rw [hb7.cell (p := ⟨w.heap.size, 0, none⟩) (by simp; omega)]; simpa using k0)
             · (rw [hb7.cell (p := ⟨w.heap.size, 1, none⟩) (by simp; omega)]; simpa using k1)
             · (rw [hb7.cell (p := ⟨w.heap.size, 2, none⟩) (by simp; omega)]; simpa using k2)
             · (rw [hb7.cell (p := ⟨w.heap.size, 3, none⟩) (by simp; omega)]; simpa using k3)))
        ((go_at_call 83; refine (shift_lo 4 false 2 16 _ (by omega) (by omega) rfl).mono ?_; rintro e w7 ⟨rfl, hb7⟩))
      all_goals
        have HN : Hid (Below w.heap.size w w7 ∧ w.heap.size + 1 ≤ w7.heap.size ∧ Box w7 w.heap.size 4 true false s) := ⟨HB.out.1.drew.trans (hb7.mono (by simp; omega)), by have := hb7.size; simp at this; omega, ((HB.out.2.2).below (Below.refl wr.heap.size wr).drew (by omega)).below hb7 (by simp; omega)⟩
        clear w1 e1 e2 e3 hb7
        go_wp2_with fail
        go_roundw
        case rel => exact ⟨3, rfl, by omega, rfl, HN.out⟩
        case measure => simp [intOf]
    · rw [if_neg (by decide), if_neg (by decide), if_neg (by decide), if_pos rfl, show ((3 : Nat) : Int) = 3 from rfl]
      have w1 : IntKind.i64.wrap ((p0 : Int) + 3) = (p3 : Int) := by rw [E3.out]; exact IntWalk.i64_in _ (by omega)
      have e1 : IntKind.u32.wrap (s[p3].toNat : Int) = (s[p3].toNat : Int) := w32 _ (by omega)
      have e2 : IntKind.u32.wrap ((s[p3].toNat : Int) * 16777216) = (s[p3].toNat : Int) * 16777216 := w32m _ 16777216 (by omega)
      have e3 : bits .or .u32 (a3 : Int) ((s[p3].toNat : Int) * 16777216) = (a4 : Int) := by rw [A3.out, A4.out]; exact or32m _ _ 16777216 _ (by omega) (by omega) (by have := or_lo (s[p0].toNat + s[p1].toNat * 256 + s[p2].toNat * 65536) s[p3].toNat 24 (by omega); simpa using this)
      go_wp2_with fail
      go_region_held3 (fun w' => w'.cell? ⟨w.heap.size, 0, none⟩ = some (.int .i64 4) ∧ w'.cell? ⟨w.heap.size, 1, none⟩ = some (.bool true) ∧ w'.cell? ⟨w.heap.size, 2, none⟩ = some (.bool false) ∧ w'.cell? ⟨w.heap.size, 3, none⟩ = some (.string s))
        (first
          | go_keep
          | (refine ⟨?_, ?_, ?_, ?_⟩
             · (rw [hb7.cell (p := ⟨w.heap.size, 0, none⟩) (by simp; omega)]; simpa using k0)
             · (rw [hb7.cell (p := ⟨w.heap.size, 1, none⟩) (by simp; omega)]; simpa using k1)
             · (rw [hb7.cell (p := ⟨w.heap.size, 2, none⟩) (by simp; omega)]; simpa using k2)
             · (rw [hb7.cell (p := ⟨w.heap.size, 3, none⟩) (by simp; omega)]; simpa using k3)))
        ((go_at_call 83; refine (shift_lo 4 false 3 24 _ (by omega) (by omega) rfl).mono ?_; rintro e w7 ⟨rfl, hb7⟩))
      all_goals
        have HN : Hid (Below w.heap.size w w7 ∧ w.heap.size + 1 ≤ w7.heap.size ∧ Box w7 w.heap.size 4 true false s) := ⟨HB.out.1.drew.trans (hb7.mono (by simp; omega)), by have := hb7.size; simp at this; omega, ((HB.out.2.2).below (Below.refl wr.heap.size wr).drew (by omega)).below hb7 (by simp; omega)⟩
        clear w1 e1 e2 e3 hb7
        go_wp2_with fail
        go_roundw
        case rel => exact ⟨4, rfl, by omega, rfl, HN.out⟩
        case measure => simp [intOf]
    · rw [if_neg (by decide), if_neg (by decide), if_neg (by decide), if_neg (by decide), show ((4 : Nat) : Int) = 4 from rfl]
      go_wp2
      go_ret
      exact ⟨ret_int (by rw [A4.out]), HB.out.1⟩
set_option maxRecDepth 100000 in
set_option maxHeartbeats 1000000 in
theorem unit4 (s : ByteArray) (p0 p1 p2 p3 : Nat) (w : World) (h0 : p0 < s.size) (h1 : p1 < s.size) (h2 : p2 < s.size) (h3 : p3 < s.size) (e1 : p1 = p0 + 1) (e2 : p2 = p0 + 2) (e3 : p3 = p0 + 3) (hz : s.size ≤ 100000) :
    Calls Tryd.prog 76 #[.agg #[.int .i64 4, .bool false, .bool false, .string s], .int .i64 (p0 : Int)] w fun e w' => e = .returned (.int .u32 ((s[p0].toNat * 16777216 + s[p1].toNat * 65536 + s[p2].toNat * 256 + s[p3].toNat : Nat) : Int)) ∧ Below w.heap.size w w' := by
  have hb0 : Below w.heap.size w (w.alloc (.cells #[.int .i64 4, .bool false, .bool false, .string s] 111)) := (Below.refl _ _).alloc (Nat.le_refl _) _
  have HB0 := Lib.hid hb0
  have HX0 := Lib.hid (Box.new w 4 false false s 111)
  clear hb0
  have q0 : (0 : Int) ≤ (p0 : Int) := by omega
  have r0 : (p0 : Int) < s.size := by omega
  have b0 : s[p0].toNat < 256 := by have := s[p0].toNat_lt; omega
  have r1 : (p1 : Int) < s.size := by omega
  have b1 : s[p1].toNat < 256 := by have := s[p1].toNat_lt; omega
  have r2 : (p2 : Int) < s.size := by omega
  have b2 : s[p2].toNat < 256 := by have := s[p2].toNat_lt; omega
  have r3 : (p3 : Int) < s.size := by omega
  have b3 : s[p3].toNat < 256 := by have := s[p3].toNat_lt; omega
  have E1 := Lib.hid e1
  have E2 := Lib.hid e2
  have E3 := Lib.hid e3
  obtain ⟨a1, ha1⟩ : ∃ a : Nat, a = s[p0].toNat * 16777216 := ⟨_, rfl⟩
  have A1 := Lib.hid ha1
  clear ha1
  obtain ⟨a2, ha2⟩ : ∃ a : Nat, a = s[p0].toNat * 16777216 + s[p1].toNat * 65536 := ⟨_, rfl⟩
  have A2 := Lib.hid ha2
  clear ha2
  obtain ⟨a3, ha3⟩ : ∃ a : Nat, a = s[p0].toNat * 16777216 + s[p1].toNat * 65536 + s[p2].toNat * 256 := ⟨_, rfl⟩
  have A3 := Lib.hid ha3
  clear ha3
  obtain ⟨a4, ha4⟩ : ∃ a : Nat, a = s[p0].toNat * 16777216 + s[p1].toNat * 65536 + s[p2].toNat * 256 + s[p3].toNat := ⟨_, rfl⟩
  have A4 := Lib.hid ha4
  clear ha4
  clear e1 e2 e3
  go_enter Tryd.func76, Tryd.ntmps76
  go_wp2_with fail
  go_loopw [5, 10] (fun u i wr => ∃ j : Nat, i = .int .i64 j ∧ j ≤ 4 ∧ u = .int .u32 ((if j = 0 then 0 else if j = 1 then a1 else if j = 2 then a2 else if j = 3 then a3 else a4 : Nat) : Int) ∧ Hid (Below w.heap.size w wr ∧ w.heap.size + 1 ≤ wr.heap.size ∧ Box wr w.heap.size 4 false false s)) (fun _ i _ => 4 - (intOf i).toNat)
  case atStart => exact ⟨0, rfl, by omega, rfl, HB0.out, by simp, HX0.out⟩
  case round =>
    obtain ⟨j, rfl, hj, rfl, HB⟩ := hrel
    have hj' : j = 0 ∨ j = 1 ∨ j = 2 ∨ j = 3 ∨ j = 4 := by omega
    have hsz := HB.out.2.1
    obtain ⟨k0, k1, k2, k3⟩ := HB.out.2.2
    rcases hj' with rfl | rfl | rfl | rfl | rfl
    · rw [if_pos rfl, show ((0 : Nat) : Int) = 0 from rfl]
      have w1 : IntKind.i64.wrap (p0 : Int) = (p0 : Int) := IntWalk.i64_in _ (by omega)
      have e1 : IntKind.u32.wrap (s[p0].toNat : Int) = (s[p0].toNat : Int) := w32 _ (by omega)
      have e2 : IntKind.u32.wrap ((s[p0].toNat : Int) * 16777216) = (s[p0].toNat : Int) * 16777216 := w32m _ 16777216 (by omega)
      have e3 : bits .or .u32 0 ((s[p0].toNat : Int) * 16777216) = (a1 : Int) := by rw [A1.out]; exact or32m 0 _ 16777216 _ (by omega) (by omega) (by simp)
      go_wp2_with fail
      go_region_held3 (fun w' => w'.cell? ⟨w.heap.size, 0, none⟩ = some (.int .i64 4) ∧ w'.cell? ⟨w.heap.size, 1, none⟩ = some (.bool false) ∧ w'.cell? ⟨w.heap.size, 2, none⟩ = some (.bool false) ∧ w'.cell? ⟨w.heap.size, 3, none⟩ = some (.string s))
        (first
          | go_keep
          | (refine ⟨?_, ?_, ?_, ?_⟩
             · (rw [hb7.cell (p := ⟨w.heap.size, 0, none⟩) (by simp; omega)]; simpa using k0)
             · (rw [hb7.cell (p := ⟨w.heap.size, 1, none⟩) (by simp; omega)]; simpa using k1)
             · (rw [hb7.cell (p := ⟨w.heap.size, 2, none⟩) (by simp; omega)]; simpa using k2)
             · (rw [hb7.cell (p := ⟨w.heap.size, 3, none⟩) (by simp; omega)]; simpa using k3)))
        ((go_at_call 83; refine (shift_hi 4 false 0 24 _ (by omega) (by omega) (by omega) rfl).mono ?_; rintro e w7 ⟨rfl, hb7⟩))
      all_goals
        have HN : Hid (Below w.heap.size w w7 ∧ w.heap.size + 1 ≤ w7.heap.size ∧ Box w7 w.heap.size 4 false false s) := ⟨HB.out.1.drew.trans (hb7.mono (by simp; omega)), by have := hb7.size; simp at this; omega, ((HB.out.2.2).below (Below.refl wr.heap.size wr).drew (by omega)).below hb7 (by simp; omega)⟩
        clear w1 e1 e2 e3 hb7
        go_wp2_with fail
        go_roundw
        case rel => exact ⟨1, rfl, by omega, rfl, HN.out⟩
        case measure => simp [intOf]
    · rw [if_neg (by decide), if_pos rfl, show ((1 : Nat) : Int) = 1 from rfl]
      have w1 : IntKind.i64.wrap ((p0 : Int) + 1) = (p1 : Int) := by rw [E1.out]; exact IntWalk.i64_in _ (by omega)
      have e1 : IntKind.u32.wrap (s[p1].toNat : Int) = (s[p1].toNat : Int) := w32 _ (by omega)
      have e2 : IntKind.u32.wrap ((s[p1].toNat : Int) * 65536) = (s[p1].toNat : Int) * 65536 := w32m _ 65536 (by omega)
      have e3 : bits .or .u32 (a1 : Int) ((s[p1].toNat : Int) * 65536) = (a2 : Int) := by rw [A1.out, A2.out]; exact or32m _ _ 65536 _ (by omega) (by omega) (by have := or_hi (s[p0].toNat) (s[p1].toNat * 65536) 24 (by omega); rw [show (s[p0].toNat) * 2 ^ 24 = s[p0].toNat * 16777216 by omega] at this; exact this)
      go_wp2_with fail
      go_region_held3 (fun w' => w'.cell? ⟨w.heap.size, 0, none⟩ = some (.int .i64 4) ∧ w'.cell? ⟨w.heap.size, 1, none⟩ = some (.bool false) ∧ w'.cell? ⟨w.heap.size, 2, none⟩ = some (.bool false) ∧ w'.cell? ⟨w.heap.size, 3, none⟩ = some (.string s))
        (first
          | go_keep
          | (refine ⟨?_, ?_, ?_, ?_⟩
             · (rw [hb7.cell (p := ⟨w.heap.size, 0, none⟩) (by simp; omega)]; simpa using k0)
             · (rw [hb7.cell (p := ⟨w.heap.size, 1, none⟩) (by simp; omega)]; simpa using k1)
             · (rw [hb7.cell (p := ⟨w.heap.size, 2, none⟩) (by simp; omega)]; simpa using k2)
             · (rw [hb7.cell (p := ⟨w.heap.size, 3, none⟩) (by simp; omega)]; simpa using k3)))
        ((go_at_call 83; refine (shift_hi 4 false 1 16 _ (by omega) (by omega) (by omega) rfl).mono ?_; rintro e w7 ⟨rfl, hb7⟩))
      all_goals
        have HN : Hid (Below w.heap.size w w7 ∧ w.heap.size + 1 ≤ w7.heap.size ∧ Box w7 w.heap.size 4 false false s) := ⟨HB.out.1.drew.trans (hb7.mono (by simp; omega)), by have := hb7.size; simp at this; omega, ((HB.out.2.2).below (Below.refl wr.heap.size wr).drew (by omega)).below hb7 (by simp; omega)⟩
        clear w1 e1 e2 e3 hb7
        go_wp2_with fail
        go_roundw
        case rel => exact ⟨2, rfl, by omega, rfl, HN.out⟩
        case measure => simp [intOf]
    · rw [if_neg (by decide), if_neg (by decide), if_pos rfl, show ((2 : Nat) : Int) = 2 from rfl]
      have w1 : IntKind.i64.wrap ((p0 : Int) + 2) = (p2 : Int) := by rw [E2.out]; exact IntWalk.i64_in _ (by omega)
      have e1 : IntKind.u32.wrap (s[p2].toNat : Int) = (s[p2].toNat : Int) := w32 _ (by omega)
      have e2 : IntKind.u32.wrap ((s[p2].toNat : Int) * 256) = (s[p2].toNat : Int) * 256 := w32m _ 256 (by omega)
      have e3 : bits .or .u32 (a2 : Int) ((s[p2].toNat : Int) * 256) = (a3 : Int) := by rw [A2.out, A3.out]; exact or32m _ _ 256 _ (by omega) (by omega) (by have := or_hi (s[p0].toNat * 256 + s[p1].toNat) (s[p2].toNat * 256) 16 (by omega); rw [show (s[p0].toNat * 256 + s[p1].toNat) * 2 ^ 16 = s[p0].toNat * 16777216 + s[p1].toNat * 65536 by omega] at this; exact this)
      go_wp2_with fail
      go_region_held3 (fun w' => w'.cell? ⟨w.heap.size, 0, none⟩ = some (.int .i64 4) ∧ w'.cell? ⟨w.heap.size, 1, none⟩ = some (.bool false) ∧ w'.cell? ⟨w.heap.size, 2, none⟩ = some (.bool false) ∧ w'.cell? ⟨w.heap.size, 3, none⟩ = some (.string s))
        (first
          | go_keep
          | (refine ⟨?_, ?_, ?_, ?_⟩
             · (rw [hb7.cell (p := ⟨w.heap.size, 0, none⟩) (by simp; omega)]; simpa using k0)
             · (rw [hb7.cell (p := ⟨w.heap.size, 1, none⟩) (by simp; omega)]; simpa using k1)
             · (rw [hb7.cell (p := ⟨w.heap.size, 2, none⟩) (by simp; omega)]; simpa using k2)
             · (rw [hb7.cell (p := ⟨w.heap.size, 3, none⟩) (by simp; omega)]; simpa using k3)))
        ((go_at_call 83; refine (shift_hi 4 false 2 8 _ (by omega) (by omega) (by omega) rfl).mono ?_; rintro e w7 ⟨rfl, hb7⟩))
      all_goals
        have HN : Hid (Below w.heap.size w w7 ∧ w.heap.size + 1 ≤ w7.heap.size ∧ Box w7 w.heap.size 4 false false s) := ⟨HB.out.1.drew.trans (hb7.mono (by simp; omega)), by have := hb7.size; simp at this; omega, ((HB.out.2.2).below (Below.refl wr.heap.size wr).drew (by omega)).below hb7 (by simp; omega)⟩
        clear w1 e1 e2 e3 hb7
        go_wp2_with fail
        go_roundw
        case rel => exact ⟨3, rfl, by omega, rfl, HN.out⟩
        case measure => simp [intOf]
    · rw [if_neg (by decide), if_neg (by decide), if_neg (by decide), if_pos rfl, show ((3 : Nat) : Int) = 3 from rfl]
      have w1 : IntKind.i64.wrap ((p0 : Int) + 3) = (p3 : Int) := by rw [E3.out]; exact IntWalk.i64_in _ (by omega)
      have e1 : IntKind.u32.wrap (s[p3].toNat : Int) = (s[p3].toNat : Int) := w32 _ (by omega)
      have e3 : bits .or .u32 (a3 : Int) (s[p3].toNat : Int) = (a4 : Int) := by rw [A3.out, A4.out]; exact or32 _ _ _ (by omega) (by omega) (by have := or_hi (s[p0].toNat * 65536 + s[p1].toNat * 256 + s[p2].toNat) (s[p3].toNat) 8 (by omega); rw [show (s[p0].toNat * 65536 + s[p1].toNat * 256 + s[p2].toNat) * 2 ^ 8 = s[p0].toNat * 16777216 + s[p1].toNat * 65536 + s[p2].toNat * 256 by omega] at this; exact this)
      go_wp2_with fail
      go_region_held3 (fun w' => w'.cell? ⟨w.heap.size, 0, none⟩ = some (.int .i64 4) ∧ w'.cell? ⟨w.heap.size, 1, none⟩ = some (.bool false) ∧ w'.cell? ⟨w.heap.size, 2, none⟩ = some (.bool false) ∧ w'.cell? ⟨w.heap.size, 3, none⟩ = some (.string s))
        (first
          | go_keep
          | (refine ⟨?_, ?_, ?_, ?_⟩
             · (rw [hb7.cell (p := ⟨w.heap.size, 0, none⟩) (by simp; omega)]; simpa using k0)
             · (rw [hb7.cell (p := ⟨w.heap.size, 1, none⟩) (by simp; omega)]; simpa using k1)
             · (rw [hb7.cell (p := ⟨w.heap.size, 2, none⟩) (by simp; omega)]; simpa using k2)
             · (rw [hb7.cell (p := ⟨w.heap.size, 3, none⟩) (by simp; omega)]; simpa using k3)))
        ((go_at_call 83; refine (shift_hi 4 false 3 0 _ (by omega) (by omega) (by omega) rfl).mono ?_; rintro e w7 ⟨rfl, hb7⟩))
      all_goals
        have HN : Hid (Below w.heap.size w w7 ∧ w.heap.size + 1 ≤ w7.heap.size ∧ Box w7 w.heap.size 4 false false s) := ⟨HB.out.1.drew.trans (hb7.mono (by simp; omega)), by have := hb7.size; simp at this; omega, ((HB.out.2.2).below (Below.refl wr.heap.size wr).drew (by omega)).below hb7 (by simp; omega)⟩
        clear w1 e1 e3 hb7
        go_wp2_with fail
        go_roundw
        case rel => exact ⟨4, rfl, by omega, rfl, HN.out⟩
        case measure => simp [intOf]
    · rw [if_neg (by decide), if_neg (by decide), if_neg (by decide), if_neg (by decide), show ((4 : Nat) : Int) = 4 from rfl]
      go_wp2
      go_ret
      exact ⟨ret_int (by rw [A4.out]), HB.out.1⟩
end Go.Proofs.YthnfopjjghohcaaDoor.Wd
namespace Go.Proofs.YthnfopjjghohcaaDoor.Wd
open Go.RowKit

/-- The number of bytes, the lowest one first. -/
def leN : List Nat → Nat
  | [] => 0
  | b :: t => b + 256 * leN t
/-- The unit with which bytes begin. -/
def unN (k : Nat) (l : List Nat) : Nat := if loK k then leN (l.take (szK k)) else leN (l.take (szK k)).reverse
theorem leN_lt : ∀ (l : List Nat), allB l → leN l < 256 ^ l.length
  | [], _ => by simp [leN]
  | b :: t, h => by
    have h1 := leN_lt t (fun v hv => h v (by simp [hv]))
    have h2 := h b (by simp)
    simp only [leN, List.length_cons, Nat.pow_succ]
    omega
theorem unN_lt (k : Nat) (l : List Nat) (h : allB l) : unN k l < 256 ^ szK k := by
  have hl : (l.take (szK k)).length ≤ szK k := List.length_take_le _ _
  have hp : 256 ^ (l.take (szK k)).length ≤ 256 ^ szK k := Nat.pow_le_pow_right (by omega) hl
  unfold unN
  split
  · exact Nat.lt_of_lt_of_le (leN_lt _ (allB_take h _)) hp
  · have := leN_lt (l.take (szK k)).reverse (fun v hv => allB_take h _ v (by simpa using hv))
    rw [List.length_reverse] at this
    exact Nat.lt_of_lt_of_le this hp
theorem unN_lt32 (k : Nat) (l : List Nat) (h : allB l) : unN k l < 4294967296 := by
  have h1 := unN_lt k l h
  have h2 : 256 ^ szK k ≤ 256 ^ 4 := Nat.pow_le_pow_right (by omega) (szK_bd k).2.1
  have h3 : (256 : Nat) ^ 4 = 4294967296 := by decide
  omega
theorem unN_lt16 (k : Nat) (l : List Nat) (h : allB l) (hk : k ≤ 2) : unN k l < 65536 := by
  have h1 := unN_lt k l h
  have h2 : szK k = 2 := by simp [szK, hk]
  rw [h2] at h1
  have h3 : (256 : Nat) ^ 2 = 65536 := by decide
  omega
/-- What bytes begin with: the character, how many bytes, the error. -/
def nx (k : Nat) (l : List Nat) : Int × Int × Int :=
  if l.length < szK k then (0, (l.length : Int), 18)
  else if k ≤ 2 ∧ 55296 ≤ unN k l ∧ unN k l < 56320 then
    (if l.length < 4 then (0, (l.length : Int), 18)
     else if 56320 ≤ unN k (l.drop 2) ∧ unN k (l.drop 2) < 57344 then ((65536 + (unN k l - 55296) * 1024 + (unN k (l.drop 2) - 56320) : Nat), 4, 0)
     else (0, 2, 17))
  else if scal (unN k l : Int) then ((unN k l : Int), (szK k : Int), 0) else (0, (szK k : Int), 17)

theorem nx_step (k : Nat) (l : List Nat) (h : l ≠ []) : ∃ r e : Int, ∃ n : Nat, nx k l = (r, (n : Int), e) ∧ 1 ≤ n ∧ n ≤ l.length ∧ n ≤ 4 ∧ (e = 0 ∨ e = 17 ∨ e = 18) ∧ (e = 18 → n = l.length ∧ n ≤ 3) := by
  have hp : 0 < l.length := List.length_pos_iff.2 h
  obtain ⟨z1, z2, z3⟩ := szK_bd k
  unfold nx
  by_cases c1 : l.length < szK k
  · rw [if_pos c1]; exact ⟨0, 18, l.length, rfl, by omega, by omega, by omega, by omega, fun _ => ⟨rfl, by omega⟩⟩
  rw [if_neg c1]
  by_cases c2 : k ≤ 2 ∧ 55296 ≤ unN k l ∧ unN k l < 56320
  · rw [if_pos c2]
    have hz : szK k = 2 := by simp [szK, c2.1]
    by_cases c3 : l.length < 4
    · rw [if_pos c3]; exact ⟨0, 18, l.length, rfl, by omega, by omega, by omega, by omega, fun _ => ⟨rfl, by omega⟩⟩
    rw [if_neg c3]
    by_cases c4 : 56320 ≤ unN k (l.drop 2) ∧ unN k (l.drop 2) < 57344
    · rw [if_pos c4]; exact ⟨_, 0, 4, rfl, by omega, by omega, by omega, by omega, fun h => by omega⟩
    rw [if_neg c4]; exact ⟨_, 17, 2, rfl, by omega, by omega, by omega, by omega, fun h => by omega⟩
  rw [if_neg c2]
  by_cases c3 : scal (unN k l : Int) = true
  · rw [if_pos c3]; exact ⟨_, 0, szK k, rfl, by omega, by omega, by omega, by omega, fun h => by omega⟩
  · rw [if_neg c3]; exact ⟨_, 17, szK k, rfl, by omega, by omega, by omega, by omega, fun h => by omega⟩

/-- What bytes decode to: the characters, the malformed units, and the error. Behind 'f' steps at the most. -/
def decF (k : Nat) (pol : Int) : Nat → Nat → List Nat → List Int × List (Nat × Nat) × Int
  | 0, _, _ => ([], [], 0)
  | f + 1, p, l =>
    if l = [] then ([], [], 0)
    else if (nx k l).2.2 = 0 then
      ((nx k l).1 :: (decF k pol f (p + (nx k l).2.1.toNat) (l.drop (nx k l).2.1.toNat)).1, (decF k pol f (p + (nx k l).2.1.toNat) (l.drop (nx k l).2.1.toNat)).2)
    else if pol = 1 then ([], [(p, (nx k l).2.1.toNat)], 17)
    else ((if pol = 2 then [65533] else []) ++ (decF k pol f (p + (nx k l).2.1.toNat) (l.drop (nx k l).2.1.toNat)).1, (p, (nx k l).2.1.toNat) :: (decF k pol f (p + (nx k l).2.1.toNat) (l.drop (nx k l).2.1.toNat)).2.1, (decF k pol f (p + (nx k l).2.1.toNat) (l.drop (nx k l).2.1.toNat)).2.2)
def dec (k : Nat) (pol : Int) (p : Nat) (l : List Nat) : List Int × List (Nat × Nat) × Int := decF k pol l.length p l

theorem decF_same (k : Nat) (pol : Int) : ∀ (m f : Nat) (p : Nat) (l : List Nat), l.length ≤ m → l.length ≤ f → decF k pol f p l = decF k pol l.length p l := by
  intro m
  induction m with
  | zero =>
    intro f p l hm hf
    have : l = [] := List.eq_nil_of_length_eq_zero (by omega)
    subst this
    cases f <;> simp [decF]
  | succ m ih =>
    intro f p l hm hf
    by_cases hl : l = []
    · subst hl
      cases f <;> simp [decF]
    obtain ⟨r, e, n, hx, h1, h2, h3, h4, h5⟩ := nx_step k l hl
    have hp : 0 < l.length := List.length_pos_iff.2 hl
    obtain ⟨f, rfl⟩ : ∃ g, f = g + 1 := ⟨f - 1, by omega⟩
    obtain ⟨g, hg⟩ : ∃ g, l.length = g + 1 := ⟨l.length - 1, by omega⟩
    have hd : (l.drop n).length ≤ m := by rw [List.length_drop]; omega
    have e1 := ih f (p + n) (l.drop n) hd (by rw [List.length_drop]; omega)
    have e2 := ih g (p + n) (l.drop n) hd (by rw [List.length_drop]; omega)
    rw [hg]
    simp only [decF, hl, hx, Int.toNat_natCast, e1, e2]

theorem dec_nil (k : Nat) (pol : Int) (p : Nat) : dec k pol p [] = ([], [], 0) := rfl
theorem dec_ok (k : Nat) (pol : Int) (p : Nat) (l : List Nat) (hl : l ≠ []) (r : Int) (n : Nat) (hx : nx k l = (r, (n : Int), 0)) (h1 : 1 ≤ n) : dec k pol p l = (r :: (dec k pol (p + n) (l.drop n)).1, (dec k pol (p + n) (l.drop n)).2) := by
  have hp : 0 < l.length := List.length_pos_iff.2 hl
  obtain ⟨g, hg⟩ : ∃ g, l.length = g + 1 := ⟨l.length - 1, by omega⟩
  have e2 := decF_same k pol (l.drop n).length g (p + n) (l.drop n) (Nat.le_refl _) (by rw [List.length_drop]; omega)
  unfold dec
  rw [hg]
  simp only [decF, hl, hx, Int.toNat_natCast, e2]
  simp
theorem dec_bad1 (k : Nat) (p : Nat) (l : List Nat) (hl : l ≠ []) (r e : Int) (n : Nat) (hx : nx k l = (r, (n : Int), e)) (he : e ≠ 0) : dec k 1 p l = ([], [(p, n)], 17) := by
  have hp : 0 < l.length := List.length_pos_iff.2 hl
  obtain ⟨g, hg⟩ : ∃ g, l.length = g + 1 := ⟨l.length - 1, by omega⟩
  unfold dec
  rw [hg]
  simp [decF, hl, hx, he]
theorem dec_bad (k : Nat) (pol : Int) (hpol : pol ≠ 1) (p : Nat) (l : List Nat) (hl : l ≠ []) (r e : Int) (n : Nat) (hx : nx k l = (r, (n : Int), e)) (he : e ≠ 0) (h1 : 1 ≤ n) :
    dec k pol p l = ((if pol = 2 then [65533] else []) ++ (dec k pol (p + n) (l.drop n)).1, (p, n) :: (dec k pol (p + n) (l.drop n)).2.1, (dec k pol (p + n) (l.drop n)).2.2) := by
  have hp : 0 < l.length := List.length_pos_iff.2 hl
  obtain ⟨g, hg⟩ : ∃ g, l.length = g + 1 := ⟨l.length - 1, by omega⟩
  have e2 := decF_same k pol (l.drop n).length g (p + n) (l.drop n) (Nat.le_refl _) (by rw [List.length_drop]; omega)
  unfold dec
  rw [hg]
  simp only [decF, hl, hx, Int.toNat_natCast, e2]
  simp [he, hpol]
theorem dec_err (k : Nat) (pol : Int) (hp : pol ≠ 1) : ∀ (m p : Nat) (l : List Nat), l.length ≤ m → (dec k pol p l).2.2 = 0 := by
  intro m
  induction m with
  | zero =>
    intro p l hl
    have : l = [] := List.eq_nil_of_length_eq_zero (by omega)
    subst this
    simp [dec_nil]
  | succ m ih =>
    intro p l hl
    by_cases hne : l = []
    · subst hne
      simp [dec_nil]
    obtain ⟨r, e, n, hx, h1, h2, h3, h4, h5⟩ := nx_step k l hne
    have hI := ih (p + n) (l.drop n) (by rw [List.length_drop]; omega)
    by_cases he : e = 0
    · subst he
      rw [dec_ok k pol p l hne r n hx h1]
      exact hI
    · rw [dec_bad k pol hp p l hne r e n hx he h1]
      exact hI
theorem dec_two_three (k : Nat) : ∀ (m p : Nat) (l : List Nat), l.length ≤ m → (dec k 2 p l).2.1 = (dec k 3 p l).2.1 ∧ (dec k 2 p l).1.length = (dec k 3 p l).1.length + (dec k 2 p l).2.1.length := by
  intro m
  induction m with
  | zero =>
    intro p l hl
    have : l = [] := List.eq_nil_of_length_eq_zero (by omega)
    subst this
    simp [dec_nil]
  | succ m ih =>
    intro p l hl
    by_cases hne : l = []
    · subst hne
      simp [dec_nil]
    obtain ⟨r, e, n, hx, h1, h2, h3, h4, h5⟩ := nx_step k l hne
    have hI := ih (p + n) (l.drop n) (by rw [List.length_drop]; omega)
    by_cases he : e = 0
    · subst he
      rw [dec_ok k 2 p l hne r n hx h1, dec_ok k 3 p l hne r n hx h1]
      simp only [List.length_cons]
      exact ⟨hI.1, by omega⟩
    · rw [dec_bad k 2 (by decide) p l hne r e n hx he h1, dec_bad k 3 (by decide) p l hne r e n hx he h1]
      simp
      exact ⟨hI.1, by omega⟩
theorem dec_from (k : Nat) (pol : Int) : ∀ (m p : Nat) (l : List Nat), l.length ≤ m → ∀ x ∈ (dec k pol p l).2.1, p ≤ x.1 ∧ x.1 + x.2 ≤ p + l.length := by
  intro m
  induction m with
  | zero =>
    intro p l hl
    have : l = [] := List.eq_nil_of_length_eq_zero (by omega)
    subst this
    simp [dec_nil]
  | succ m ih =>
    intro p l hl x hx'
    by_cases hne : l = []
    · subst hne
      simp [dec_nil] at hx'
    obtain ⟨r, e, n, hx, h1, h2, h3, h4, h5⟩ := nx_step k l hne
    have hI := ih (p + n) (l.drop n) (by rw [List.length_drop]; omega) x
    rw [List.length_drop] at hI
    by_cases he : e = 0
    · subst he
      rw [dec_ok k pol p l hne r n hx h1] at hx'
      have := hI hx'
      omega
    · by_cases hp : pol = 1
      · subst hp
        rw [dec_bad1 k p l hne r e n hx he] at hx'
        simp at hx'
        subst hx'
        simp
        omega
      · rw [dec_bad k pol hp p l hne r e n hx he h1] at hx'
        simp only [List.mem_cons] at hx'
        rcases hx' with rfl | hx'
        · simp; omega
        · have := hI hx'
          omega
theorem dec_shift (k : Nat) (pol : Int) : ∀ (m p j : Nat) (l : List Nat), l.length ≤ m → dec k pol (j + p) l = ((dec k pol p l).1, (dec k pol p l).2.1.map (fun x => (j + x.1, x.2)), (dec k pol p l).2.2) := by
  intro m
  induction m with
  | zero =>
    intro p j l hl
    have : l = [] := List.eq_nil_of_length_eq_zero (by omega)
    subst this
    simp [dec_nil]
  | succ m ih =>
    intro p j l hl
    by_cases hne : l = []
    · subst hne
      simp [dec_nil]
    obtain ⟨r, e, n, hx, h1, h2, h3, h4, h5⟩ := nx_step k l hne
    have hI := ih (p + n) j (l.drop n) (by rw [List.length_drop]; omega)
    rw [← Nat.add_assoc] at hI
    by_cases he : e = 0
    · subst he
      rw [dec_ok k pol (j + p) l hne r n hx h1, dec_ok k pol p l hne r n hx h1, hI]
    · by_cases hp : pol = 1
      · subst hp
        rw [dec_bad1 k (j + p) l hne r e n hx he, dec_bad1 k p l hne r e n hx he]
        simp
      · rw [dec_bad k pol hp (j + p) l hne r e n hx he h1, dec_bad k pol hp p l hne r e n hx he h1, hI]
        simp
theorem dec_lens (k : Nat) (pol : Int) : ∀ (m p : Nat) (l : List Nat), l.length ≤ m → (dec k pol p l).1.length ≤ l.length ∧ (dec k pol p l).2.1.length ≤ l.length := by
  intro m
  induction m with
  | zero =>
    intro p l hl
    have : l = [] := List.eq_nil_of_length_eq_zero (by omega)
    subst this
    simp [dec_nil]
  | succ m ih =>
    intro p l hl
    by_cases hne : l = []
    · subst hne
      simp [dec_nil]
    obtain ⟨r, e, n, hx, h1, h2, h3, h4, h5⟩ := nx_step k l hne
    have hI := ih (p + n) (l.drop n) (by rw [List.length_drop]; omega)
    rw [List.length_drop] at hI
    by_cases he : e = 0
    · subst he
      rw [dec_ok k pol p l hne r n hx h1]
      simp only [List.length_cons]
      omega
    · by_cases hp : pol = 1
      · subst hp
        rw [dec_bad1 k p l hne r e n hx he]
        simp
        omega
      · rw [dec_bad k pol hp p l hne r e n hx he h1]
        have : (if pol = 2 then [(65533 : Int)] else []).length ≤ 1 := by split <;> simp
        simp only [List.length_append, List.length_cons]
        omega
end Go.Proofs.YthnfopjjghohcaaDoor.Wd
namespace Go.Proofs.YthnfopjjghohcaaDoor.Wd
open Go.RowKit

theorem un1 (s : ByteArray) (p : Nat) (h0 : p < s.size) (h1 : p + 1 < s.size) : unN 1 ((bs s).drop p) = s[p].toNat + s[p + 1].toNat * 256 := by
  rw [bs_cut s p h0, bs_cut s (p + 1) h1]
  simp [unN, loK, szK, leN]
  omega
theorem un2 (s : ByteArray) (p : Nat) (h0 : p < s.size) (h1 : p + 1 < s.size) : unN 2 ((bs s).drop p) = s[p].toNat * 256 + s[p + 1].toNat := by
  rw [bs_cut s p h0, bs_cut s (p + 1) h1]
  simp [unN, loK, szK, leN]
  omega
theorem un3 (s : ByteArray) (p : Nat) (h0 : p < s.size) (h1 : p + 1 < s.size) (h2 : p + 2 < s.size) (h3 : p + 3 < s.size) : unN 3 ((bs s).drop p) = s[p].toNat + s[p + 1].toNat * 256 + s[p + 2].toNat * 65536 + s[p + 3].toNat * 16777216 := by
  have e2 : (bs s).drop (p + 1 + 1) = s[p + 2].toNat :: (bs s).drop (p + 3) := bs_cut s (p + 2) h2
  have e3 : (bs s).drop (p + 3) = s[p + 3].toNat :: (bs s).drop (p + 4) := bs_cut s (p + 3) h3
  rw [bs_cut s p h0, bs_cut s (p + 1) h1, e2, e3]
  simp [unN, loK, szK, leN]
  omega
theorem un4 (s : ByteArray) (p : Nat) (h0 : p < s.size) (h1 : p + 1 < s.size) (h2 : p + 2 < s.size) (h3 : p + 3 < s.size) : unN 4 ((bs s).drop p) = s[p].toNat * 16777216 + s[p + 1].toNat * 65536 + s[p + 2].toNat * 256 + s[p + 3].toNat := by
  have e2 : (bs s).drop (p + 1 + 1) = s[p + 2].toNat :: (bs s).drop (p + 3) := bs_cut s (p + 2) h2
  have e3 : (bs s).drop (p + 3) = s[p + 3].toNat :: (bs s).drop (p + 4) := bs_cut s (p + 3) h3
  rw [bs_cut s p h0, bs_cut s (p + 1) h1, e2, e3]
  simp [unN, loK, szK, leN]
  omega
theorem unit_any (k : Nat) (s : ByteArray) (p : Nat) (w : World) (h1 : 1 ≤ k) (h4 : k ≤ 4) (hp : p + szK k ≤ s.size) (hz : s.size ≤ 100000) :
    Calls Tryd.prog 76 #[.agg #[.int .i64 (szK k : Int), .bool (loK k), .bool (prK k), .string s], .int .i64 (p : Int)] w fun e w' => e = .returned (.int .u32 (unN k ((bs s).drop p) : Int)) ∧ Below w.heap.size w w' := by
  rcases kinds h1 h4 with rfl | rfl | rfl | rfl
  · have hp' : p + 2 ≤ s.size := hp
    have := unit1 s p (p + 1) w (by omega) (by omega) rfl hz
    rw [← un1 s p (by omega) (by omega)] at this
    exact this
  · have hp' : p + 2 ≤ s.size := hp
    have := unit2 s p (p + 1) w (by omega) (by omega) rfl hz
    rw [← un2 s p (by omega) (by omega)] at this
    exact this
  · have hp' : p + 4 ≤ s.size := hp
    have := unit3 s p (p + 1) (p + 2) (p + 3) w (by omega) (by omega) (by omega) (by omega) rfl rfl rfl hz
    rw [← un3 s p (by omega) (by omega) (by omega) (by omega)] at this
    exact this
  · have hp' : p + 4 ≤ s.size := hp
    have := unit4 s p (p + 1) (p + 2) (p + 3) w (by omega) (by omega) (by omega) (by omega) rfl rfl rfl hz
    rw [← un4 s p (by omega) (by omega) (by omega) (by omega)] at this
    exact this

theorem and32 (n : Nat) (h : n < 4294967296) : bits .and .u32 (n : Int) 1023 = ((n % 1024 : Nat) : Int) := by
  have e : bits .and .u32 (n : Int) 1023 = ((n &&& 1023 : Nat) : Int) := u32_and_nat n 1023 h (by omega)
  rw [e]
  congr 1
  exact Nat.and_two_pow_sub_one_eq_mod n 10
theorem i32in (n : Nat) (h : n < 2147483648) : IntKind.i32.wrap (n : Int) = n := by rw [IntKind.wrap_i32]; omega
theorem scal_wrap (n : Nat) (h : n < 4294967296) : scal (IntKind.i32.wrap (n : Int)) = scal (n : Int) := by
  rw [IntKind.wrap_i32, Bool.eq_iff_iff]
  simp [scal]
  omega

set_option maxRecDepth 100000 in
set_option maxHeartbeats 1000000 in
theorem spair_any (k : Nat) (s : ByteArray) (u : Nat) (w : World) (h1 : 1 ≤ k) (h2 : k ≤ 2) (hz : s.size ≤ 100000) (hlen : 2 ≤ s.size) (hu : unN k (bs s) = u) (hh : 55296 ≤ u ∧ u < 56320) :
    Calls Tryd.prog 78 #[.agg #[.int .i64 2, .bool (loK k), .bool true, .string s], .int .u32 (u : Int)] w fun e w' => e = .returned (nxV (nx k (bs s))) ∧ Below w.heap.size w w' := by
  have hzk : szK k = 2 := by simp [szK, h2]
  have hpk : prK k = true := by simp [prK, h2]
  have hb0 : Below w.heap.size w (w.alloc (.cells #[.int .i64 2, .bool (loK k), .bool true, .string s] 111)) := (Below.refl _ _).alloc (Nat.le_refl _) _
  have HB0 := Lib.hid hb0
  clear hb0
  obtain ⟨hh1, hh2⟩ := hh
  have hnx : nx k (bs s) = if s.size < 4 then (0, (s.size : Int), 18) else if 56320 ≤ unN k ((bs s).drop 2) ∧ unN k ((bs s).drop 2) < 57344 then (((65536 + (u - 55296) * 1024 + (unN k ((bs s).drop 2) - 56320) : Nat) : Int), 4, 0) else (0, 2, 17) := by
    unfold nx
    rw [bs_len, if_neg (by omega), hu, if_pos ⟨h2, hh1, hh2⟩]
  have HNX := Lib.hid hnx
  clear hnx hu
  by_cases c1 : s.size < 4
  · rw [if_pos c1] at HNX
    have c1' : (s.size : Int) < 4 := by omega
    clear hzk hpk
    generalize loK k = lo at *
    go_enter Tryd.func78, Tryd.ntmps78
    go_wp2_with fail
    go_quiet (fail)
    go_wp2
    go_ret3
    exact ⟨nxV_eq HNX.out, bel_drewN HB0.out _⟩
  rw [if_neg c1] at HNX
  have c1' : ¬ (s.size : Int) < 4 := by omega
  have HU := Lib.hid (fun W => unit_any k s 2 W h1 (by omega) (by rw [hzk]; omega) hz)
  rw [hzk, hpk] at HU
  have hlt := unN_lt16 k ((bs s).drop 2) (allB_drop (bs_B s) 2) h2
  generalize unN k ((bs s).drop 2) = v at *
  clear hzk hpk
  generalize loK k = lo at *
  have HX0 := Lib.hid (Box.new w 2 lo true s 111)
  by_cases c2 : 56320 ≤ v ∧ v < 57344
  · rw [if_pos c2] at HNX
    obtain ⟨x, hx⟩ : ∃ x, u = 55296 + x := ⟨u - 55296, by omega⟩
    obtain ⟨y, hy⟩ : ∃ y, v = 56320 + y := ⟨v - 56320, by omega⟩
    have hx2 : x < 1024 := by omega
    have hy2 : y < 1024 := by omega
    obtain ⟨t, ht⟩ : ∃ t, t = x * 1024 + y := ⟨_, rfl⟩
    have ht2 : t < 1048576 := by omega
    have r1 : bits .and .u32 (u : Int) 1023 = (x : Int) := by rw [and32 u (by omega)]; omega
    have r2 : bits .and .u32 (v : Int) 1023 = (y : Int) := by rw [and32 v (by omega)]; omega
    have r3 : IntKind.u32.wrap ((x : Int) * 1024) = (x : Int) * 1024 := w32m x 1024 (by omega)
    have r4 : bits .or .u32 ((x : Int) * 1024) (y : Int) = (t : Int) := by
      have := or_hi x y 10 (by omega)
      have e : (x : Int) * 1024 = ((x * 1024 : Nat) : Int) := by simp
      rw [e]
      exact or32 _ _ _ (by omega) (by omega) (by rw [ht]; exact this)
    have r5 : IntKind.i32.wrap (t : Int) = t := i32in t (by omega)
    have r6 : IntKind.i32.wrap (65536 + (t : Int)) = 65536 + t := by rw [IntKind.wrap_i32]; omega
    have HD := Lib.hid (show decide (56320 ≤ v ∧ v < 57344) = true by simpa using c2)
    have HR := Lib.hid (show ((65536 + (u - 55296) * 1024 + (v - 56320) : Nat) : Int) = 65536 + (t : Int) by omega)
    rw [HR.out] at HNX
    clear hx hy ht c2
    go_enter Tryd.func78, Tryd.ntmps78
    go_wp2_with fail
    refine (HU.out _).mono ?_
    rintro e w1 ⟨rfl, hb1⟩
    have B1 := Lib.hid (HB0.out.trans (hb1.mono (by simp)))
    have X1 := Lib.hid (HX0.out.below hb1 (by simp))
    clear hb1
    go_wp2_with fail
    refine (isLow_any v _ (by omega)).mono ?_
    rw [HD.out]
    rintro e w' ⟨rfl, rfl⟩
    obtain ⟨k0, k1, k2, k3⟩ := X1.out
    go_wp2_with fail
    go_quiet (fail)
    clear r1 r2 r3 r4 r5 r6
    go_wp2
    go_ret3
    exact ⟨nxV_eq HNX.out, bel_drewN B1.out _⟩
  · rw [if_neg c2] at HNX
    have HD := Lib.hid (show decide (56320 ≤ v ∧ v < 57344) = false by simpa using c2)
    clear c2
    go_enter Tryd.func78, Tryd.ntmps78
    go_wp2_with fail
    refine (HU.out _).mono ?_
    rintro e w1 ⟨rfl, hb1⟩
    have B1 := Lib.hid (HB0.out.trans (hb1.mono (by simp)))
    have X1 := Lib.hid (HX0.out.below hb1 (by simp))
    clear hb1
    go_wp2_with fail
    refine (isLow_any v _ (by omega)).mono ?_
    rw [HD.out]
    rintro e w' ⟨rfl, rfl⟩
    obtain ⟨k0, k1, k2, k3⟩ := X1.out
    go_wp2_with fail
    go_quiet (fail)
    go_wp2
    go_ret3
    exact ⟨nxV_eq HNX.out, bel_drewN B1.out _⟩
end Go.Proofs.YthnfopjjghohcaaDoor.Wd
namespace Go.Proofs.YthnfopjjghohcaaDoor.Wd
open Go.RowKit

theorem nx_short (k : Nat) (s : ByteArray) (h : s.size < szK k) : nx k (bs s) = (0, (s.size : Int), 18) := by
  unfold nx
  rw [bs_len, if_pos h]
theorem nx_one (k : Nat) (s : ByteArray) (u : Nat) (h : szK k ≤ s.size) (hu : unN k (bs s) = u) (hh : ¬ (k ≤ 2 ∧ 55296 ≤ u ∧ u < 56320)) : nx k (bs s) = if scal (u : Int) then ((u : Int), (szK k : Int), 0) else (0, (szK k : Int), 17) := by
  unfold nx
  rw [bs_len, if_neg (by omega), hu, if_neg hh]

set_option maxRecDepth 100000 in
set_option maxHeartbeats 1000000 in
theorem snext2 (k : Nat) (s : ByteArray) (w : World) (h1 : 1 ≤ k) (h2 : k ≤ 2) (hz : s.size ≤ 100000) :
    Calls Tryd.prog 69 #[.agg #[.int .i64 2, .bool (loK k), .bool true, .string s]] w fun e w' => e = .returned (nxV (nx k (bs s))) ∧ Below w.heap.size w w' := by
  have hzk : szK k = 2 := by simp [szK, h2]
  have hpk : prK k = true := by simp [prK, h2]
  have HB0 := Lib.hid (show Below w.heap.size w (w.alloc (.cells #[.int .i64 2, .bool (loK k), .bool true, .string s] 111)) from (Below.refl _ _).alloc (Nat.le_refl _) _)
  have HX0 := Lib.hid (Box.new w 2 (loK k) true s 111)
  by_cases c1 : s.size < 2
  · have HNX := Lib.hid (nx_short k s (by omega))
    have c1' : (s.size : Int) < 2 := by omega
    clear hzk hpk
    generalize loK k = lo at *
    go_enter Tryd.func69, Tryd.ntmps69
    go_wp2_with fail
    go_quiet (fail)
    go_wp2
    go_ret3
    exact ⟨nxV_eq HNX.out, bel_drewN HB0.out _⟩
  have c1' : ¬ (s.size : Int) < 2 := by omega
  have HU := Lib.hid (fun W => unit_any k s 0 W h1 (by omega) (by rw [hzk]; omega) hz)
  rw [hzk, hpk, List.drop_zero] at HU
  have hlt := unN_lt16 k (bs s) (bs_B s) h2
  obtain ⟨u, hu⟩ : ∃ u, unN k (bs s) = u := ⟨_, rfl⟩
  rw [hu] at HU hlt
  by_cases c2 : 55296 ≤ u ∧ u < 56320
  · have HP := Lib.hid (fun W => spair_any k s u W h1 h2 hz (by omega) hu c2)
    have HH := Lib.hid (show hiB true u = true by simp [hiB]; omega)
    clear hzk hpk hu c2
    generalize nx k (bs s) = N at *
    generalize loK k = lo at *
    go_enter Tryd.func69, Tryd.ntmps69
    go_wp2_with fail
    refine (HU.out _).mono ?_
    rintro e w1 ⟨rfl, hb1⟩
    have B1 := Lib.hid (HB0.out.trans (hb1.mono (by simp)))
    have X1 := Lib.hid (HX0.out.below hb1 (by simp))
    have z1 : w.heap.size < w1.heap.size := by have := hb1.size; simp at this; omega
    clear hb1
    obtain ⟨k0, k1, k2, k3⟩ := X1.out
    go_wp2_with fail
    refine (isHigh_any 2 lo true u _ (by omega)).mono ?_
    rw [HH.out]
    rintro e w2 ⟨rfl, hb2⟩
    have B2 := Lib.hid (B1.out.trans (hb2.mono (by omega)))
    have X2 := Lib.hid (X1.out.below hb2 (by omega))
    clear hb2 k0 k1 k2 k3
    have z2 := B2.out.size
    obtain ⟨k0, k1, k2, k3⟩ := X2.out
    go_wp2_with fail
    refine (HP.out _).mono ?_
    rintro e w3 ⟨rfl, hb3⟩
    have B3 := Lib.hid (B2.out.trans (hb3.mono z2))
    clear hb3
    unfold nxV
    go_wp2_with fail
    go_ret3
    exact ⟨rfl, B3.out⟩
  · have HH := Lib.hid (show hiB true u = false by simp [hiB]; omega)
    have hnx := nx_one k s u (by omega) hu (by omega)
    rw [hzk] at hnx
    have r1 : IntKind.i32.wrap (u : Int) = u := i32in u (by omega)
    have R1 := Lib.hid r1
    clear hzk hpk hu c2
    generalize nx k (bs s) = N at *
    generalize loK k = lo at *
    cases hs : scal (u : Int)
    · rw [if_neg (by rw [hs]; decide)] at hnx
      have HNX := Lib.hid hnx
      have HS := Lib.hid hs
      clear hnx hs
      go_enter Tryd.func69, Tryd.ntmps69
      go_wp2_with fail
      refine (HU.out _).mono ?_
      rintro e w1 ⟨rfl, hb1⟩
      have B1 := Lib.hid (HB0.out.trans (hb1.mono (by simp)))
      have X1 := Lib.hid (HX0.out.below hb1 (by simp))
      have z1 : w.heap.size < w1.heap.size := by have := hb1.size; simp at this; omega
      clear hb1
      obtain ⟨k0, k1, k2, k3⟩ := X1.out
      go_wp2_with fail
      refine (isHigh_any 2 lo true u _ (by omega)).mono ?_
      rw [HH.out]
      rintro e w2 ⟨rfl, hb2⟩
      have B2 := Lib.hid (B1.out.trans (hb2.mono (by omega)))
      have X2 := Lib.hid (X1.out.below hb2 (by omega))
      clear hb2 k0 k1 k2 k3
      obtain ⟨k0, k1, k2, k3⟩ := X2.out
      go_wp2_with fail
      refine (scalar_any _ _).mono ?_
      rw [HS.out]
      rintro e w' ⟨rfl, rfl⟩
      go_wp2_with fail
      go_quiet (fail)
      go_wp2
      go_ret3
      exact ⟨nxV_eq HNX.out, bel_drewN B2.out _⟩
    · rw [if_pos hs] at hnx
      have HNX := Lib.hid hnx
      have HS := Lib.hid hs
      clear hnx hs
      go_enter Tryd.func69, Tryd.ntmps69
      go_wp2_with fail
      refine (HU.out _).mono ?_
      rintro e w1 ⟨rfl, hb1⟩
      have B1 := Lib.hid (HB0.out.trans (hb1.mono (by simp)))
      have X1 := Lib.hid (HX0.out.below hb1 (by simp))
      have z1 : w.heap.size < w1.heap.size := by have := hb1.size; simp at this; omega
      clear hb1
      obtain ⟨k0, k1, k2, k3⟩ := X1.out
      go_wp2_with fail
      refine (isHigh_any 2 lo true u _ (by omega)).mono ?_
      rw [HH.out]
      rintro e w2 ⟨rfl, hb2⟩
      have B2 := Lib.hid (B1.out.trans (hb2.mono (by omega)))
      have X2 := Lib.hid (X1.out.below hb2 (by omega))
      clear hb2 k0 k1 k2 k3
      obtain ⟨k0, k1, k2, k3⟩ := X2.out
      go_wp2_with fail
      refine (scalar_any _ _).mono ?_
      rw [HS.out]
      rintro e w' ⟨rfl, rfl⟩
      go_wp2_with fail
      go_quiet (fail)
      go_wp2
      go_ret3
      exact ⟨nxV_eq HNX.out, bel_drewN B2.out _⟩

set_option maxRecDepth 100000 in
set_option maxHeartbeats 1000000 in
theorem snext4 (k : Nat) (s : ByteArray) (w : World) (h2 : 3 ≤ k) (h4 : k ≤ 4) (hz : s.size ≤ 100000) :
    Calls Tryd.prog 69 #[.agg #[.int .i64 4, .bool (loK k), .bool false, .string s]] w fun e w' => e = .returned (nxV (nx k (bs s))) ∧ Below w.heap.size w w' := by
  have hzk : szK k = 4 := by unfold szK; rw [if_neg (by omega)]
  have hpk : prK k = false := by simp [prK]; omega
  have HB0 := Lib.hid (show Below w.heap.size w (w.alloc (.cells #[.int .i64 4, .bool (loK k), .bool false, .string s] 111)) from (Below.refl _ _).alloc (Nat.le_refl _) _)
  have HX0 := Lib.hid (Box.new w 4 (loK k) false s 111)
  by_cases c1 : s.size < 4
  · have HNX := Lib.hid (nx_short k s (by omega))
    have c1' : (s.size : Int) < 4 := by omega
    clear hzk hpk
    generalize loK k = lo at *
    go_enter Tryd.func69, Tryd.ntmps69
    go_wp2_with fail
    go_quiet (fail)
    go_wp2
    go_ret3
    exact ⟨nxV_eq HNX.out, bel_drewN HB0.out _⟩
  have c1' : ¬ (s.size : Int) < 4 := by omega
  have HU := Lib.hid (fun W => unit_any k s 0 W (by omega) (by omega) (by rw [hzk]; omega) hz)
  rw [hzk, hpk, List.drop_zero] at HU
  have hlt := unN_lt32 k (bs s) (bs_B s)
  obtain ⟨u, hu⟩ : ∃ u, unN k (bs s) = u := ⟨_, rfl⟩
  rw [hu] at HU hlt
  have HH := Lib.hid (show hiB false u = false by simp [hiB])
  have hnx := nx_one k s u (by omega) hu (by omega)
  rw [hzk] at hnx
  have hsw := scal_wrap u hlt
  obtain ⟨r, hr⟩ : ∃ r, IntKind.i32.wrap (u : Int) = r := ⟨_, rfl⟩
  rw [hr] at hsw
  have hrr : scal (u : Int) = true → r = u := by
    intro h
    obtain ⟨g0, g1⟩ := scal_bd h
    rw [← hr, IntKind.wrap_i32]
    omega
  clear hzk hpk hu
  generalize nx k (bs s) = N at *
  generalize loK k = lo at *
  cases hs : scal (u : Int)
  · rw [if_neg (by rw [hs]; decide)] at hnx
    rw [hs] at hsw
    have HNX := Lib.hid hnx
    have HS := Lib.hid hsw
    have HL := Lib.hid hlt
    clear hnx hs hsw hrr hlt
    go_enter Tryd.func69, Tryd.ntmps69
    go_wp2_with fail
    refine (HU.out _).mono ?_
    rintro e w1 ⟨rfl, hb1⟩
    have B1 := Lib.hid (HB0.out.trans (hb1.mono (by simp)))
    have X1 := Lib.hid (HX0.out.below hb1 (by simp))
    have z1 : w.heap.size < w1.heap.size := by have := hb1.size; simp at this; omega
    clear hb1
    obtain ⟨k0, k1, k2, k3⟩ := X1.out
    go_wp2_with fail
    refine (isHigh_any 4 lo false u _ HL.out).mono ?_
    rw [HH.out]
    rintro e w2 ⟨rfl, hb2⟩
    have B2 := Lib.hid (B1.out.trans (hb2.mono (by omega)))
    have X2 := Lib.hid (X1.out.below hb2 (by omega))
    clear hb2 k0 k1 k2 k3
    obtain ⟨k0, k1, k2, k3⟩ := X2.out
    go_wp2_with fail
    refine (scalar_any _ _).mono ?_
    rw [HS.out]
    rintro e w' ⟨rfl, rfl⟩
    go_wp2_with fail
    go_quiet (fail)
    go_wp2
    go_ret3
    exact ⟨nxV_eq HNX.out, bel_drewN B2.out _⟩
  · rw [if_pos hs] at hnx
    rw [hs] at hsw
    have hru := hrr hs
    subst hru
    have HNX := Lib.hid hnx
    have HS := Lib.hid hsw
    have HL := Lib.hid hlt
    clear hnx hs hsw hrr hlt
    go_enter Tryd.func69, Tryd.ntmps69
    go_wp2_with fail
    refine (HU.out _).mono ?_
    rintro e w1 ⟨rfl, hb1⟩
    have B1 := Lib.hid (HB0.out.trans (hb1.mono (by simp)))
    have X1 := Lib.hid (HX0.out.below hb1 (by simp))
    have z1 : w.heap.size < w1.heap.size := by have := hb1.size; simp at this; omega
    clear hb1
    obtain ⟨k0, k1, k2, k3⟩ := X1.out
    go_wp2_with fail
    refine (isHigh_any 4 lo false u _ HL.out).mono ?_
    rw [HH.out]
    rintro e w2 ⟨rfl, hb2⟩
    have B2 := Lib.hid (B1.out.trans (hb2.mono (by omega)))
    have X2 := Lib.hid (X1.out.below hb2 (by omega))
    clear hb2 k0 k1 k2 k3
    obtain ⟨k0, k1, k2, k3⟩ := X2.out
    go_wp2_with fail
    refine (scalar_any _ _).mono ?_
    rw [HS.out]
    rintro e w' ⟨rfl, rfl⟩
    go_wp2_with fail
    go_quiet (fail)
    go_wp2
    go_ret3
    exact ⟨nxV_eq HNX.out, bel_drewN B2.out _⟩
theorem snext_any (k : Nat) (s : ByteArray) (w : World) (h1 : 1 ≤ k) (h4 : k ≤ 4) (hz : s.size ≤ 100000) :
    Calls Tryd.prog 69 #[.agg #[.int .i64 (szK k : Int), .bool (loK k), .bool (prK k), .string s]] w fun e w' => e = .returned (nxV (nx k (bs s))) ∧ Below w.heap.size w w' := by
  by_cases h2 : k ≤ 2
  · have hzk : szK k = 2 := by simp [szK, h2]
    have hpk : prK k = true := by simp [prK, h2]
    rw [hzk, hpk]
    exact snext2 k s w h1 h2 hz
  · have hzk : szK k = 4 := by unfold szK; rw [if_neg (by omega)]
    have hpk : prK k = false := by simp [prK]; omega
    rw [hzk, hpk]
    exact snext4 k s w (by omega) h4 hz

end Go.Proofs.YthnfopjjghohcaaDoor.Wd
namespace Go.Proofs.YthnfopjjghohcaaDoor.Wd
open Go.RowKit

theorem size2 (k : Int) (w : World) (h : k ≤ 2) : Calls Tryd.prog 52 #[.int .i64 k] w fun e w' => e = .returned (.int .i64 2) ∧ w = w' := by
  go_enter Tryd.func52, Tryd.ntmps52
  go_wp2
  go_ret
  exact ⟨rfl, rfl⟩
theorem size4 (k : Int) (w : World) (h : ¬ k ≤ 2) : Calls Tryd.prog 52 #[.int .i64 k] w fun e w' => e = .returned (.int .i64 4) ∧ w = w' := by
  go_enter Tryd.func52, Tryd.ntmps52
  go_wp2
  go_ret
  exact ⟨rfl, rfl⟩
theorem size_any (k : Nat) (w : World) : Calls Tryd.prog 52 #[.int .i64 (k : Int)] w fun e w' => e = .returned (.int .i64 (szK k : Int)) ∧ w = w' := by
  by_cases h : k ≤ 2
  · have hz : szK k = 2 := by simp [szK, h]
    rw [hz]; exact size2 k w (by omega)
  · have hz : szK k = 4 := by unfold szK; rw [if_neg h]
    rw [hz]; exact size4 k w (by omega)
set_option maxRecDepth 100000 in
set_option maxHeartbeats 1000000 in
theorem number1 (s : ByteArray) (w : World) (h0 : 0 < s.size) (h1 : 1 < s.size) (hz : s.size ≤ 100000) :
    Calls Tryd.prog 53 #[.int .i64 1, .string s] w fun e w' => e = .returned (.int .i64 ((s[1].toNat * 256 + s[0].toNat : Nat) : Int)) ∧ w = w' := by
  have b0 : s[0].toNat < 256 := by have := s[0].toNat_lt; omega
  have r0 : (0 : Int) < s.size := by omega
  have b1 : s[1].toNat < 256 := by have := s[1].toNat_lt; omega
  have r1 : (1 : Int) < s.size := by omega
  obtain ⟨a1, ha1⟩ : ∃ a : Nat, a = s[1].toNat := ⟨_, rfl⟩
  obtain ⟨a2, ha2⟩ : ∃ a : Nat, a = s[1].toNat * 256 + s[0].toNat := ⟨_, rfl⟩
  have n1 : a1 < 256 := by omega
  have A1 := Lib.hid (show (a1 : Int) = (s[1].toNat : Int) by omega)
  have n2 : a2 < 65536 := by omega
  have A2 := Lib.hid (show (a2 : Int) = (a1 : Int) * 256 + (s[0].toNat : Int) by omega)
  have AZ := Lib.hid ha2
  clear ha1 ha2
  go_enter Tryd.func53, Tryd.ntmps53
  go_wp2_with fail
  go_loop [5, 6] (fun n i => ∃ j : Nat, i = .int .i64 j ∧ j ≤ 2 ∧ n = .int .i64 ((if j = 0 then 0 else if j = 1 then a1 else a2 : Nat) : Int)) (fun _ i => 2 - (intOf i).toNat)
  case atStart => exact ⟨0, rfl, by omega, rfl⟩
  case round =>
    obtain ⟨j, rfl, hj, rfl⟩ := hrel
    have hj' : j = 0 ∨ j = 1 ∨ j = 2 := by omega
    rcases hj' with rfl | rfl | rfl
    · rw [if_pos rfl, show ((0 : Nat) : Int) = 0 from rfl]
      go_wp2_with (go_at_call 52; refine (size2 1 _ (by omega)).mono ?_; rintro e w' ⟨rfl, rfl⟩)
      go_round
      case rel => exact ⟨1, rfl, by omega, by have := A1.out; first | (rw [show ((if 1 = 0 then 0 else if 1 = 1 then a1 else a2 : Nat)) = a1 from rfl, this]; go_num) | (rw [show ((if 1 = 0 then 0 else if 1 = 1 then a1 else a2 : Nat)) = a1 from rfl, this])⟩
      case measure => simp [intOf]
    · rw [if_neg (by decide), if_pos rfl, show ((1 : Nat) : Int) = 1 from rfl]
      go_wp2_with (go_at_call 52; refine (size2 1 _ (by omega)).mono ?_; rintro e w' ⟨rfl, rfl⟩)
      go_round
      case rel => exact ⟨2, rfl, by omega, by have := A2.out; first | (rw [show ((if 2 = 0 then 0 else if 2 = 1 then a1 else a2 : Nat)) = a2 from rfl, this]; go_num) | (rw [show ((if 2 = 0 then 0 else if 2 = 1 then a1 else a2 : Nat)) = a2 from rfl, this])⟩
      case measure => simp [intOf]
    · rw [if_neg (by decide), if_neg (by decide), show ((2 : Nat) : Int) = 2 from rfl]
      go_wp2_with (go_at_call 52; refine (size2 1 _ (by omega)).mono ?_; rintro e w' ⟨rfl, rfl⟩)
      go_ret
      exact ⟨ret_int (by rw [AZ.out]), rfl⟩
set_option maxRecDepth 100000 in
set_option maxHeartbeats 1000000 in
theorem number2 (s : ByteArray) (w : World) (h0 : 0 < s.size) (h1 : 1 < s.size) (hz : s.size ≤ 100000) :
    Calls Tryd.prog 53 #[.int .i64 2, .string s] w fun e w' => e = .returned (.int .i64 ((s[0].toNat * 256 + s[1].toNat : Nat) : Int)) ∧ w = w' := by
  have b0 : s[0].toNat < 256 := by have := s[0].toNat_lt; omega
  have r0 : (0 : Int) < s.size := by omega
  have b1 : s[1].toNat < 256 := by have := s[1].toNat_lt; omega
  have r1 : (1 : Int) < s.size := by omega
  obtain ⟨a1, ha1⟩ : ∃ a : Nat, a = s[0].toNat := ⟨_, rfl⟩
  obtain ⟨a2, ha2⟩ : ∃ a : Nat, a = s[0].toNat * 256 + s[1].toNat := ⟨_, rfl⟩
  have n1 : a1 < 256 := by omega
  have A1 := Lib.hid (show (a1 : Int) = (s[0].toNat : Int) by omega)
  have n2 : a2 < 65536 := by omega
  have A2 := Lib.hid (show (a2 : Int) = (a1 : Int) * 256 + (s[1].toNat : Int) by omega)
  have AZ := Lib.hid ha2
  clear ha1 ha2
  go_enter Tryd.func53, Tryd.ntmps53
  go_wp2_with fail
  go_loop [5, 6] (fun n i => ∃ j : Nat, i = .int .i64 j ∧ j ≤ 2 ∧ n = .int .i64 ((if j = 0 then 0 else if j = 1 then a1 else a2 : Nat) : Int)) (fun _ i => 2 - (intOf i).toNat)
  case atStart => exact ⟨0, rfl, by omega, rfl⟩
  case round =>
    obtain ⟨j, rfl, hj, rfl⟩ := hrel
    have hj' : j = 0 ∨ j = 1 ∨ j = 2 := by omega
    rcases hj' with rfl | rfl | rfl
    · rw [if_pos rfl, show ((0 : Nat) : Int) = 0 from rfl]
      go_wp2_with (go_at_call 52; refine (size2 2 _ (by omega)).mono ?_; rintro e w' ⟨rfl, rfl⟩)
      go_round
      case rel => exact ⟨1, rfl, by omega, by have := A1.out; first | (rw [show ((if 1 = 0 then 0 else if 1 = 1 then a1 else a2 : Nat)) = a1 from rfl, this]; go_num) | (rw [show ((if 1 = 0 then 0 else if 1 = 1 then a1 else a2 : Nat)) = a1 from rfl, this])⟩
      case measure => simp [intOf]
    · rw [if_neg (by decide), if_pos rfl, show ((1 : Nat) : Int) = 1 from rfl]
      go_wp2_with (go_at_call 52; refine (size2 2 _ (by omega)).mono ?_; rintro e w' ⟨rfl, rfl⟩)
      go_round
      case rel => exact ⟨2, rfl, by omega, by have := A2.out; first | (rw [show ((if 2 = 0 then 0 else if 2 = 1 then a1 else a2 : Nat)) = a2 from rfl, this]; go_num) | (rw [show ((if 2 = 0 then 0 else if 2 = 1 then a1 else a2 : Nat)) = a2 from rfl, this])⟩
      case measure => simp [intOf]
    · rw [if_neg (by decide), if_neg (by decide), show ((2 : Nat) : Int) = 2 from rfl]
      go_wp2_with (go_at_call 52; refine (size2 2 _ (by omega)).mono ?_; rintro e w' ⟨rfl, rfl⟩)
      go_ret
      exact ⟨ret_int (by rw [AZ.out]), rfl⟩
set_option maxRecDepth 100000 in
set_option maxHeartbeats 1000000 in
theorem number3 (s : ByteArray) (w : World) (h0 : 0 < s.size) (h1 : 1 < s.size) (h2 : 2 < s.size) (h3 : 3 < s.size) (hz : s.size ≤ 100000) :
    Calls Tryd.prog 53 #[.int .i64 3, .string s] w fun e w' => e = .returned (.int .i64 ((s[3].toNat * 16777216 + s[2].toNat * 65536 + s[1].toNat * 256 + s[0].toNat : Nat) : Int)) ∧ w = w' := by
  have b0 : s[0].toNat < 256 := by have := s[0].toNat_lt; omega
  have r0 : (0 : Int) < s.size := by omega
  have b1 : s[1].toNat < 256 := by have := s[1].toNat_lt; omega
  have r1 : (1 : Int) < s.size := by omega
  have b2 : s[2].toNat < 256 := by have := s[2].toNat_lt; omega
  have r2 : (2 : Int) < s.size := by omega
  have b3 : s[3].toNat < 256 := by have := s[3].toNat_lt; omega
  have r3 : (3 : Int) < s.size := by omega
  obtain ⟨a1, ha1⟩ : ∃ a : Nat, a = s[3].toNat := ⟨_, rfl⟩
  obtain ⟨a2, ha2⟩ : ∃ a : Nat, a = s[3].toNat * 256 + s[2].toNat := ⟨_, rfl⟩
  obtain ⟨a3, ha3⟩ : ∃ a : Nat, a = s[3].toNat * 65536 + s[2].toNat * 256 + s[1].toNat := ⟨_, rfl⟩
  obtain ⟨a4, ha4⟩ : ∃ a : Nat, a = s[3].toNat * 16777216 + s[2].toNat * 65536 + s[1].toNat * 256 + s[0].toNat := ⟨_, rfl⟩
  have n1 : a1 < 256 := by omega
  have A1 := Lib.hid (show (a1 : Int) = (s[3].toNat : Int) by omega)
  have n2 : a2 < 65536 := by omega
  have A2 := Lib.hid (show (a2 : Int) = (a1 : Int) * 256 + (s[2].toNat : Int) by omega)
  have n3 : a3 < 16777216 := by omega
  have A3 := Lib.hid (show (a3 : Int) = (a2 : Int) * 256 + (s[1].toNat : Int) by omega)
  have n4 : a4 < 4294967296 := by omega
  have A4 := Lib.hid (show (a4 : Int) = (a3 : Int) * 256 + (s[0].toNat : Int) by omega)
  have AZ := Lib.hid ha4
  clear ha1 ha2 ha3 ha4
  go_enter Tryd.func53, Tryd.ntmps53
  go_wp2_with fail
  go_loop [5, 6] (fun n i => ∃ j : Nat, i = .int .i64 j ∧ j ≤ 4 ∧ n = .int .i64 ((if j = 0 then 0 else if j = 1 then a1 else if j = 2 then a2 else if j = 3 then a3 else a4 : Nat) : Int)) (fun _ i => 4 - (intOf i).toNat)
  case atStart => exact ⟨0, rfl, by omega, rfl⟩
  case round =>
    obtain ⟨j, rfl, hj, rfl⟩ := hrel
    have hj' : j = 0 ∨ j = 1 ∨ j = 2 ∨ j = 3 ∨ j = 4 := by omega
    rcases hj' with rfl | rfl | rfl | rfl | rfl
    · rw [if_pos rfl, show ((0 : Nat) : Int) = 0 from rfl]
      go_wp2_with (go_at_call 52; refine (size4 3 _ (by omega)).mono ?_; rintro e w' ⟨rfl, rfl⟩)
      go_round
      case rel => exact ⟨1, rfl, by omega, by have := A1.out; first | (rw [show ((if 1 = 0 then 0 else if 1 = 1 then a1 else if 1 = 2 then a2 else if 1 = 3 then a3 else a4 : Nat)) = a1 from rfl, this]; go_num) | (rw [show ((if 1 = 0 then 0 else if 1 = 1 then a1 else if 1 = 2 then a2 else if 1 = 3 then a3 else a4 : Nat)) = a1 from rfl, this])⟩
      case measure => simp [intOf]
    · rw [if_neg (by decide), if_pos rfl, show ((1 : Nat) : Int) = 1 from rfl]
      go_wp2_with (go_at_call 52; refine (size4 3 _ (by omega)).mono ?_; rintro e w' ⟨rfl, rfl⟩)
      go_round
      case rel => exact ⟨2, rfl, by omega, by have := A2.out; first | (rw [show ((if 2 = 0 then 0 else if 2 = 1 then a1 else if 2 = 2 then a2 else if 2 = 3 then a3 else a4 : Nat)) = a2 from rfl, this]; go_num) | (rw [show ((if 2 = 0 then 0 else if 2 = 1 then a1 else if 2 = 2 then a2 else if 2 = 3 then a3 else a4 : Nat)) = a2 from rfl, this])⟩
      case measure => simp [intOf]
    · rw [if_neg (by decide), if_neg (by decide), if_pos rfl, show ((2 : Nat) : Int) = 2 from rfl]
      go_wp2_with (go_at_call 52; refine (size4 3 _ (by omega)).mono ?_; rintro e w' ⟨rfl, rfl⟩)
      go_round
      case rel => exact ⟨3, rfl, by omega, by have := A3.out; first | (rw [show ((if 3 = 0 then 0 else if 3 = 1 then a1 else if 3 = 2 then a2 else if 3 = 3 then a3 else a4 : Nat)) = a3 from rfl, this]; go_num) | (rw [show ((if 3 = 0 then 0 else if 3 = 1 then a1 else if 3 = 2 then a2 else if 3 = 3 then a3 else a4 : Nat)) = a3 from rfl, this])⟩
      case measure => simp [intOf]
    · rw [if_neg (by decide), if_neg (by decide), if_neg (by decide), if_pos rfl, show ((3 : Nat) : Int) = 3 from rfl]
      go_wp2_with (go_at_call 52; refine (size4 3 _ (by omega)).mono ?_; rintro e w' ⟨rfl, rfl⟩)
      go_round
      case rel => exact ⟨4, rfl, by omega, by have := A4.out; first | (rw [show ((if 4 = 0 then 0 else if 4 = 1 then a1 else if 4 = 2 then a2 else if 4 = 3 then a3 else a4 : Nat)) = a4 from rfl, this]; go_num) | (rw [show ((if 4 = 0 then 0 else if 4 = 1 then a1 else if 4 = 2 then a2 else if 4 = 3 then a3 else a4 : Nat)) = a4 from rfl, this])⟩
      case measure => simp [intOf]
    · rw [if_neg (by decide), if_neg (by decide), if_neg (by decide), if_neg (by decide), show ((4 : Nat) : Int) = 4 from rfl]
      go_wp2_with (go_at_call 52; refine (size4 3 _ (by omega)).mono ?_; rintro e w' ⟨rfl, rfl⟩)
      go_ret
      exact ⟨ret_int (by rw [AZ.out]), rfl⟩
set_option maxRecDepth 100000 in
set_option maxHeartbeats 1000000 in
theorem number4 (s : ByteArray) (w : World) (h0 : 0 < s.size) (h1 : 1 < s.size) (h2 : 2 < s.size) (h3 : 3 < s.size) (hz : s.size ≤ 100000) :
    Calls Tryd.prog 53 #[.int .i64 4, .string s] w fun e w' => e = .returned (.int .i64 ((s[0].toNat * 16777216 + s[1].toNat * 65536 + s[2].toNat * 256 + s[3].toNat : Nat) : Int)) ∧ w = w' := by
  have b0 : s[0].toNat < 256 := by have := s[0].toNat_lt; omega
  have r0 : (0 : Int) < s.size := by omega
  have b1 : s[1].toNat < 256 := by have := s[1].toNat_lt; omega
  have r1 : (1 : Int) < s.size := by omega
  have b2 : s[2].toNat < 256 := by have := s[2].toNat_lt; omega
  have r2 : (2 : Int) < s.size := by omega
  have b3 : s[3].toNat < 256 := by have := s[3].toNat_lt; omega
  have r3 : (3 : Int) < s.size := by omega
  obtain ⟨a1, ha1⟩ : ∃ a : Nat, a = s[0].toNat := ⟨_, rfl⟩
  obtain ⟨a2, ha2⟩ : ∃ a : Nat, a = s[0].toNat * 256 + s[1].toNat := ⟨_, rfl⟩
  obtain ⟨a3, ha3⟩ : ∃ a : Nat, a = s[0].toNat * 65536 + s[1].toNat * 256 + s[2].toNat := ⟨_, rfl⟩
  obtain ⟨a4, ha4⟩ : ∃ a : Nat, a = s[0].toNat * 16777216 + s[1].toNat * 65536 + s[2].toNat * 256 + s[3].toNat := ⟨_, rfl⟩
  have n1 : a1 < 256 := by omega
  have A1 := Lib.hid (show (a1 : Int) = (s[0].toNat : Int) by omega)
  have n2 : a2 < 65536 := by omega
  have A2 := Lib.hid (show (a2 : Int) = (a1 : Int) * 256 + (s[1].toNat : Int) by omega)
  have n3 : a3 < 16777216 := by omega
  have A3 := Lib.hid (show (a3 : Int) = (a2 : Int) * 256 + (s[2].toNat : Int) by omega)
  have n4 : a4 < 4294967296 := by omega
  have A4 := Lib.hid (show (a4 : Int) = (a3 : Int) * 256 + (s[3].toNat : Int) by omega)
  have AZ := Lib.hid ha4
  clear ha1 ha2 ha3 ha4
  go_enter Tryd.func53, Tryd.ntmps53
  go_wp2_with fail
  go_loop [5, 6] (fun n i => ∃ j : Nat, i = .int .i64 j ∧ j ≤ 4 ∧ n = .int .i64 ((if j = 0 then 0 else if j = 1 then a1 else if j = 2 then a2 else if j = 3 then a3 else a4 : Nat) : Int)) (fun _ i => 4 - (intOf i).toNat)
  case atStart => exact ⟨0, rfl, by omega, rfl⟩
  case round =>
    obtain ⟨j, rfl, hj, rfl⟩ := hrel
    have hj' : j = 0 ∨ j = 1 ∨ j = 2 ∨ j = 3 ∨ j = 4 := by omega
    rcases hj' with rfl | rfl | rfl | rfl | rfl
    · rw [if_pos rfl, show ((0 : Nat) : Int) = 0 from rfl]
      go_wp2_with (go_at_call 52; refine (size4 4 _ (by omega)).mono ?_; rintro e w' ⟨rfl, rfl⟩)
      go_round
      case rel => exact ⟨1, rfl, by omega, by have := A1.out; first | (rw [show ((if 1 = 0 then 0 else if 1 = 1 then a1 else if 1 = 2 then a2 else if 1 = 3 then a3 else a4 : Nat)) = a1 from rfl, this]; go_num) | (rw [show ((if 1 = 0 then 0 else if 1 = 1 then a1 else if 1 = 2 then a2 else if 1 = 3 then a3 else a4 : Nat)) = a1 from rfl, this])⟩
      case measure => simp [intOf]
    · rw [if_neg (by decide), if_pos rfl, show ((1 : Nat) : Int) = 1 from rfl]
      go_wp2_with (go_at_call 52; refine (size4 4 _ (by omega)).mono ?_; rintro e w' ⟨rfl, rfl⟩)
      go_round
      case rel => exact ⟨2, rfl, by omega, by have := A2.out; first | (rw [show ((if 2 = 0 then 0 else if 2 = 1 then a1 else if 2 = 2 then a2 else if 2 = 3 then a3 else a4 : Nat)) = a2 from rfl, this]; go_num) | (rw [show ((if 2 = 0 then 0 else if 2 = 1 then a1 else if 2 = 2 then a2 else if 2 = 3 then a3 else a4 : Nat)) = a2 from rfl, this])⟩
      case measure => simp [intOf]
    · rw [if_neg (by decide), if_neg (by decide), if_pos rfl, show ((2 : Nat) : Int) = 2 from rfl]
      go_wp2_with (go_at_call 52; refine (size4 4 _ (by omega)).mono ?_; rintro e w' ⟨rfl, rfl⟩)
      go_round
      case rel => exact ⟨3, rfl, by omega, by have := A3.out; first | (rw [show ((if 3 = 0 then 0 else if 3 = 1 then a1 else if 3 = 2 then a2 else if 3 = 3 then a3 else a4 : Nat)) = a3 from rfl, this]; go_num) | (rw [show ((if 3 = 0 then 0 else if 3 = 1 then a1 else if 3 = 2 then a2 else if 3 = 3 then a3 else a4 : Nat)) = a3 from rfl, this])⟩
      case measure => simp [intOf]
    · rw [if_neg (by decide), if_neg (by decide), if_neg (by decide), if_pos rfl, show ((3 : Nat) : Int) = 3 from rfl]
      go_wp2_with (go_at_call 52; refine (size4 4 _ (by omega)).mono ?_; rintro e w' ⟨rfl, rfl⟩)
      go_round
      case rel => exact ⟨4, rfl, by omega, by have := A4.out; first | (rw [show ((if 4 = 0 then 0 else if 4 = 1 then a1 else if 4 = 2 then a2 else if 4 = 3 then a3 else a4 : Nat)) = a4 from rfl, this]; go_num) | (rw [show ((if 4 = 0 then 0 else if 4 = 1 then a1 else if 4 = 2 then a2 else if 4 = 3 then a3 else a4 : Nat)) = a4 from rfl, this])⟩
      case measure => simp [intOf]
    · rw [if_neg (by decide), if_neg (by decide), if_neg (by decide), if_neg (by decide), show ((4 : Nat) : Int) = 4 from rfl]
      go_wp2_with (go_at_call 52; refine (size4 4 _ (by omega)).mono ?_; rintro e w' ⟨rfl, rfl⟩)
      go_ret
      exact ⟨ret_int (by rw [AZ.out]), rfl⟩
end Go.Proofs.YthnfopjjghohcaaDoor.Wd
namespace Go.Proofs.YthnfopjjghohcaaDoor.Wd
open Go.RowKit

theorem number_any (k : Nat) (s : ByteArray) (w : World) (h1 : 1 ≤ k) (h4 : k ≤ 4) (hl : szK k ≤ s.size) (hz : s.size ≤ 100000) :
    Calls Tryd.prog 53 #[.int .i64 (k : Int), .string s] w fun e w' => e = .returned (.int .i64 (unN k (bs s) : Int)) ∧ w = w' := by
  rcases kinds h1 h4 with rfl | rfl | rfl | rfl
  · have hl' : 2 ≤ s.size := hl
    have := number1 s w (by omega) (by omega) hz
    have e := un1 s 0 (by omega) (by omega)
    rw [List.drop_zero] at e
    rw [e, show s[0].toNat + s[0 + 1].toNat * 256 = s[1].toNat * 256 + s[0].toNat from Nat.add_comm _ _]
    exact this
  · have hl' : 2 ≤ s.size := hl
    have := number2 s w (by omega) (by omega) hz
    have e := un2 s 0 (by omega) (by omega)
    rw [List.drop_zero] at e
    rw [e]
    exact this
  · have hl' : 4 ≤ s.size := hl
    have := number3 s w (by omega) (by omega) (by omega) (by omega) hz
    have e := un3 s 0 (by omega) (by omega) (by omega) (by omega)
    rw [List.drop_zero] at e
    rw [e, show s[0].toNat + s[0 + 1].toNat * 256 + s[0 + 2].toNat * 65536 + s[0 + 3].toNat * 16777216 = s[3].toNat * 16777216 + s[2].toNat * 65536 + s[1].toNat * 256 + s[0].toNat by simp only [Nat.zero_add]; omega]
    exact this
  · have hl' : 4 ≤ s.size := hl
    have := number4 s w (by omega) (by omega) (by omega) (by omega) hz
    have e := un4 s 0 (by omega) (by omega) (by omega) (by omega)
    rw [List.drop_zero] at e
    rw [e]
    exact this
theorem unN_take (k z : Nat) (l : List Nat) (h : szK k ≤ z) : unN k (l.take z) = unN k l := by
  unfold unN
  rw [List.take_take, Nat.min_eq_left h]
theorem number_24 (k : Nat) (s : ByteArray) (w : World) (h1 : 1 ≤ k) (h2 : k ≤ 2) (hl : 4 ≤ s.size) (hz : s.size ≤ 100000) :
    Calls Tryd.prog 53 #[.int .i64 (k : Int), .string (s.extract 2 4)] w fun e w' => e = .returned (.int .i64 (unN k ((bs s).drop 2) : Int)) ∧ w = w' := by
  have hk : szK k = 2 := by simp [szK, h2]
  have hsz : (s.extract 2 4).size = 2 := by
    have := bs_len (s.extract 2 4)
    rw [bs_ext, List.length_take, List.length_drop, bs_len] at this
    omega
  have := number_any k (s.extract 2 4) w h1 (by omega) (by omega) (by omega)
  rw [bs_ext, unN_take k _ _ (by omega)] at this
  exact this

theorem nx_ref4 (k : Nat) (s : ByteArray) (u : Nat) (h3 : 3 ≤ k) (h : 4 ≤ s.size) (hu : unN k (bs s) = u) : nx k (bs s) = if 1114111 < u ∨ (55296 ≤ u ∧ u ≤ 57343) then (0, 4, 17) else ((u : Int), 4, 0) := by
  have hk : szK k = 4 := by unfold szK; rw [if_neg (by omega)]
  rw [nx_one k s u (by omega) hu (by omega), hk]
  by_cases c : 1114111 < u ∨ (55296 ≤ u ∧ u ≤ 57343)
  · rw [if_pos c, if_neg]
    · rfl
    · simp [scal]; omega
  · rw [if_neg c, if_pos]
    · rfl
    · simp [scal]; omega
theorem nx_ref2 (k : Nat) (s : ByteArray) (u : Nat) (h2 : k ≤ 2) (h : 2 ≤ s.size) (hu : unN k (bs s) = u) (hlt : u < 65536) :
    nx k (bs s) = if u < 55296 ∨ 57343 < u then ((u : Int), 2, 0) else if 56319 < u then (0, 2, 17) else if s.size < 4 then (0, (s.size : Int), 18)
      else if unN k ((bs s).drop 2) < 56320 ∨ 57343 < unN k ((bs s).drop 2) then (0, 2, 17) else ((65536 + (u - 55296) * 1024 + (unN k ((bs s).drop 2) - 56320) : Nat), 4, 0) := by
  have hk : szK k = 2 := by simp [szK, h2]
  by_cases c1 : u < 55296 ∨ 57343 < u
  · rw [if_pos c1, nx_one k s u (by omega) hu (by omega), hk, if_pos (by simp [scal]; omega)]
    rfl
  rw [if_neg c1]
  by_cases c2 : 56319 < u
  · rw [if_pos c2, nx_one k s u (by omega) hu (by omega), hk, if_neg (by simp [scal]; omega)]
    rfl
  rw [if_neg c2]
  unfold nx
  rw [bs_len, if_neg (by omega), hu, if_pos ⟨h2, by omega, by omega⟩]
  by_cases c3 : s.size < 4
  · rw [if_pos c3, if_pos c3]
  rw [if_neg c3, if_neg c3]
  by_cases c4 : unN k ((bs s).drop 2) < 56320 ∨ 57343 < unN k ((bs s).drop 2)
  · rw [if_pos c4, if_neg (by omega)]
  · rw [if_neg c4, if_pos (by omega)]

set_option maxRecDepth 100000 in
set_option maxHeartbeats 1000000 in
theorem rnext4 (k : Nat) (s : ByteArray) (w : World) (h3 : 3 ≤ k) (h4 : k ≤ 4) (hz : s.size ≤ 100000) :
    Calls Tryd.prog 38 #[.int .i64 (k : Int), .string s] w fun e w' => e = .returned (nxV (nx k (bs s))) ∧ w = w' := by
  have hk : szK k = 4 := by unfold szK; rw [if_neg (by omega)]
  by_cases c0 : s.size < 4
  · have HN := Lib.hid (nx_short k s (by omega))
    have c0' : (s.size : Int) < 4 := by omega
    clear hk
    go_enter Tryd.func38, Tryd.ntmps38
    go_wp2_with fail
    refine (size4 k _ (by omega)).mono ?_
    rintro e w' ⟨rfl, rfl⟩
    go_wp2
    go_ret3
    exact ⟨nxV_eq HN.out, rfl⟩
  obtain ⟨u, hu⟩ : ∃ u, unN k (bs s) = u := ⟨_, rfl⟩
  have hn := nx_ref4 k s u h3 (by omega) hu
  have hlt := unN_lt32 k (bs s) (bs_B s)
  have HNum := Lib.hid (number_any k s w (by omega) h4 (by omega) hz)
  rw [hu] at hlt HNum
  have c0' : ¬ (s.size : Int) < 4 := by omega
  clear hk hu
  generalize nx k (bs s) = N at *
  by_cases c1 : 1114111 < u
  · rw [if_pos (.inl c1)] at hn
    have HN := Lib.hid hn
    clear hn
    go_enter Tryd.func38, Tryd.ntmps38
    go_wp2_with fail
    refine (size4 k _ (by omega)).mono ?_
    rintro e w' ⟨rfl, rfl⟩
    go_wp2_with fail
    refine HNum.out.mono ?_
    rintro e w' ⟨rfl, rfl⟩
    go_wp2
    go_ret3
    exact ⟨nxV_eq HN.out, rfl⟩
  by_cases c2 : 55296 ≤ u
  · by_cases c3 : u ≤ 57343
    · rw [if_pos (.inr ⟨c2, c3⟩)] at hn
      have HN := Lib.hid hn
      clear hn
      go_enter Tryd.func38, Tryd.ntmps38
      go_wp2_with fail
      refine (size4 k _ (by omega)).mono ?_
      rintro e w' ⟨rfl, rfl⟩
      go_wp2_with fail
      refine HNum.out.mono ?_
      rintro e w' ⟨rfl, rfl⟩
      go_wp2
      go_ret3
      exact ⟨nxV_eq HN.out, rfl⟩
    · rw [if_neg (by omega)] at hn
      have HN := Lib.hid hn
      clear hn
      go_enter Tryd.func38, Tryd.ntmps38
      go_wp2_with fail
      refine (size4 k _ (by omega)).mono ?_
      rintro e w' ⟨rfl, rfl⟩
      go_wp2_with fail
      refine HNum.out.mono ?_
      rintro e w' ⟨rfl, rfl⟩
      go_wp2
      go_ret3
      exact ⟨nxV_eq HN.out, rfl⟩
  · rw [if_neg (by omega)] at hn
    have HN := Lib.hid hn
    clear hn
    go_enter Tryd.func38, Tryd.ntmps38
    go_wp2_with fail
    refine (size4 k _ (by omega)).mono ?_
    rintro e w' ⟨rfl, rfl⟩
    go_wp2_with fail
    refine HNum.out.mono ?_
    rintro e w' ⟨rfl, rfl⟩
    go_wp2
    go_ret3
    exact ⟨nxV_eq HN.out, rfl⟩
set_option maxRecDepth 100000 in
set_option maxHeartbeats 1000000 in
theorem rnext2 (k : Nat) (s : ByteArray) (w : World) (h1 : 1 ≤ k) (h2 : k ≤ 2) (hz : s.size ≤ 100000) :
    Calls Tryd.prog 38 #[.int .i64 (k : Int), .string s] w fun e w' => e = .returned (nxV (nx k (bs s))) ∧ w = w' := by
  have hk : szK k = 2 := by simp [szK, h2]
  by_cases c0 : s.size < 2
  · have HN := Lib.hid (nx_short k s (by omega))
    have c0' : (s.size : Int) < 2 := by omega
    clear hk
    go_enter Tryd.func38, Tryd.ntmps38
    go_wp2_with fail
    refine (size2 k _ (by omega)).mono ?_
    rintro e w' ⟨rfl, rfl⟩
    go_wp2
    go_ret3
    exact ⟨nxV_eq HN.out, rfl⟩
  obtain ⟨u, hu⟩ : ∃ u, unN k (bs s) = u := ⟨_, rfl⟩
  have hlt := unN_lt16 k (bs s) (bs_B s) h2
  rw [hu] at hlt
  have hn := nx_ref2 k s u h2 (by omega) hu hlt
  have HNum := Lib.hid (number_any k s w (by omega) (by omega) (by omega) hz)
  rw [hu] at HNum
  have c0' : ¬ (s.size : Int) < 2 := by omega
  clear hk hu
  generalize nx k (bs s) = N at *
  by_cases c1 : u < 55296
  · rw [if_pos (.inl c1)] at hn
    have HN := Lib.hid hn
    clear hn
    go_enter Tryd.func38, Tryd.ntmps38
    go_wp2_with fail
    refine (size2 k _ (by omega)).mono ?_
    rintro e w' ⟨rfl, rfl⟩
    go_wp2_with fail
    refine HNum.out.mono ?_
    rintro e w' ⟨rfl, rfl⟩
    go_wp2
    go_ret3
    exact ⟨nxV_eq HN.out, rfl⟩
  by_cases c2 : 57343 < u
  · rw [if_pos (.inr c2)] at hn
    have HN := Lib.hid hn
    clear hn
    go_enter Tryd.func38, Tryd.ntmps38
    go_wp2_with fail
    refine (size2 k _ (by omega)).mono ?_
    rintro e w' ⟨rfl, rfl⟩
    go_wp2_with fail
    refine HNum.out.mono ?_
    rintro e w' ⟨rfl, rfl⟩
    go_wp2
    go_ret3
    exact ⟨nxV_eq HN.out, rfl⟩
  rw [if_neg (by omega)] at hn
  by_cases c3 : 56319 < u
  · rw [if_pos c3] at hn
    have HN := Lib.hid hn
    clear hn
    go_enter Tryd.func38, Tryd.ntmps38
    go_wp2_with fail
    refine (size2 k _ (by omega)).mono ?_
    rintro e w' ⟨rfl, rfl⟩
    go_wp2_with fail
    refine HNum.out.mono ?_
    rintro e w' ⟨rfl, rfl⟩
    go_wp2
    go_ret3
    exact ⟨nxV_eq HN.out, rfl⟩
  rw [if_neg c3] at hn
  by_cases c4 : s.size < 4
  · rw [if_pos c4] at hn
    have HN := Lib.hid hn
    have c4' : (s.size : Int) < 4 := by omega
    clear hn
    go_enter Tryd.func38, Tryd.ntmps38
    go_wp2_with fail
    refine (size2 k _ (by omega)).mono ?_
    rintro e w' ⟨rfl, rfl⟩
    go_wp2_with fail
    refine HNum.out.mono ?_
    rintro e w' ⟨rfl, rfl⟩
    go_wp2
    go_ret3
    exact ⟨nxV_eq HN.out, rfl⟩
  rw [if_neg c4] at hn
  have c4' : ¬ (s.size : Int) < 4 := by omega
  have HN2 := Lib.hid (number_24 k s w h1 h2 (by omega) hz)
  have hlt2 := unN_lt16 k ((bs s).drop 2) (allB_drop (bs_B s) 2) h2
  generalize unN k ((bs s).drop 2) = v at *
  by_cases c5 : v < 56320
  · rw [if_pos (.inl c5)] at hn
    have HN := Lib.hid hn
    clear hn
    go_enter Tryd.func38, Tryd.ntmps38
    go_wp2_with fail
    refine (size2 k _ (by omega)).mono ?_
    rintro e w' ⟨rfl, rfl⟩
    go_wp2_with fail
    refine HNum.out.mono ?_
    rintro e w' ⟨rfl, rfl⟩
    go_wp2_with fail
    refine HN2.out.mono ?_
    rintro e w' ⟨rfl, rfl⟩
    go_wp2
    go_ret3
    exact ⟨nxV_eq HN.out, rfl⟩
  by_cases c6 : 57343 < v
  · rw [if_pos (.inr c6)] at hn
    have HN := Lib.hid hn
    clear hn
    go_enter Tryd.func38, Tryd.ntmps38
    go_wp2_with fail
    refine (size2 k _ (by omega)).mono ?_
    rintro e w' ⟨rfl, rfl⟩
    go_wp2_with fail
    refine HNum.out.mono ?_
    rintro e w' ⟨rfl, rfl⟩
    go_wp2_with fail
    refine HN2.out.mono ?_
    rintro e w' ⟨rfl, rfl⟩
    go_wp2
    go_ret3
    exact ⟨nxV_eq HN.out, rfl⟩
  rw [if_neg (by omega)] at hn
  have e1 : ((65536 + (u - 55296) * 1024 + (v - 56320) : Nat) : Int) = 65536 + ((u : Int) - 55296) * 1024 + v - 56320 := by omega
  rw [e1] at hn
  have HN := Lib.hid hn
  clear hn e1
  go_enter Tryd.func38, Tryd.ntmps38
  go_wp2_with fail
  refine (size2 k _ (by omega)).mono ?_
  rintro e w' ⟨rfl, rfl⟩
  go_wp2_with fail
  refine HNum.out.mono ?_
  rintro e w' ⟨rfl, rfl⟩
  go_wp2_with fail
  refine HN2.out.mono ?_
  rintro e w' ⟨rfl, rfl⟩
  go_wp2
  go_ret3
  exact ⟨nxV_eq HN.out, rfl⟩
theorem rnext_any (k : Nat) (s : ByteArray) (w : World) (h1 : 1 ≤ k) (h4 : k ≤ 4) (hz : s.size ≤ 100000) :
    Calls Tryd.prog 38 #[.int .i64 (k : Int), .string s] w fun e w' => e = .returned (nxV (nx k (bs s))) ∧ w = w' := by
  by_cases h2 : k ≤ 2
  · exact rnext2 k s w h1 h2 hz
  · exact rnext4 k s w (by omega) h4 hz
end Go.Proofs.YthnfopjjghohcaaDoor.Wd
namespace Go.Proofs.YthnfopjjghohcaaDoor.Wd
open Go.RowKit

/-- What the loop of a decoder knows at place k. -/
structure DecRel (w wr : World) (out flt : Value) (kd : Nat) (pol : Int) (k : Nat) (l : List Nat) (tot : List Int × List (Nat × Nat) × Int) (os : List Int) (fs : List (Nat × Nat)) : Prop where
  bel : Below w.heap.size w wr
  o : wr.ownsRow w.heap.size 21 1 out os.length (i32s os)
  f : wr.ownsRow w.heap.size 50 2 flt fs.length (flts fs)
  lo : os.length ≤ k
  lf : fs.length ≤ k
  tot : tot = (os ++ (dec kd pol k l).1, fs ++ (dec kd pol k l).2.1, (dec kd pol k l).2.2)

theorem DecRel.start (w : World) (kd : Nat) (pol : Int) (l : List Nat) {wr : World} (hb : Below w.heap.size w wr) : DecRel w wr (.slice none 0 0) (.slice none 0 0) kd pol 0 l (dec kd pol 0 l) [] [] :=
  ⟨hb, World.ownsRow_nil _ _ _ _, World.ownsRow_nil _ _ _ _, by simp, by simp, by simp⟩
theorem DecRel.ok {w wr w2 : World} {out flt v2 : Value} {kd : Nat} {pol : Int} {k : Nat} {l : List Nat} {tot : List Int × List (Nat × Nat) × Int} {os : List Int} {fs : List (Nat × Nat)} {o : Obj} (h : DecRel w wr out flt kd pol k l tot os fs)
    (hl : l ≠ []) {r : Int} {n : Nat} (hx : nx kd l = (r, (n : Int), 0)) (h1 : 1 ≤ n) (ho : w2.ownsRow w.heap.size 21 1 v2 (os.length + 1) (i32s os ++ [.int .i32 r])) (hg : (wr.alloc o).grownBy w2 out.ownBlock) :
    DecRel w w2 v2 flt kd pol (k + n) (l.drop n) tot (os ++ [r]) fs := by
  have ha := h.o.alloc o
  have hbl := h.bel.size
  refine ⟨h.bel.trans (((Below.refl _ _).alloc hbl _).trans (below_grown ha hg (by simp; omega))), by simpa [i32s] using ho, (h.f.alloc o).kept hg (own_apart (h.f.alloc o) ha (by decide)), by simp; have := h.lo; omega, by have := h.lf; omega, ?_⟩
  rw [h.tot, dec_ok kd pol k l hl r n hx h1]
  simp
theorem DecRel.flt1 {w wr w2 : World} {out flt v2 : Value} {kd : Nat} {k : Nat} {l : List Nat} {tot : List Int × List (Nat × Nat) × Int} {os : List Int} {fs : List (Nat × Nat)} {o : Obj} (h : DecRel w wr out flt kd 1 k l tot os fs)
    (hl : l ≠ []) {r e : Int} {n : Nat} (hx : nx kd l = (r, (n : Int), e)) (he : e ≠ 0) (ho : w2.ownsRow w.heap.size 50 2 v2 (fs.length + 1) (flts fs ++ [.int .i64 k, .int .i64 n])) (hg : (wr.alloc o).grownBy w2 flt.ownBlock) :
    Below w.heap.size w w2 ∧ w2.ownsRow w.heap.size 21 1 out tot.1.length (i32s tot.1) ∧ w2.ownsRow w.heap.size 50 2 v2 tot.2.1.length (flts tot.2.1) ∧ tot.2.2 = 17 := by
  have ha := h.f.alloc o
  have hbl := h.bel.size
  have ht := h.tot
  rw [dec_bad1 kd k l hl r e n hx he] at ht
  subst ht
  refine ⟨h.bel.trans (((Below.refl _ _).alloc hbl _).trans (below_grown ha hg (by simp; omega))), ?_, ?_, rfl⟩
  · have := (h.o.alloc o).kept hg (own_apart (h.o.alloc o) ha (by decide))
    simpa using this
  · simpa [flts_app, flts] using ho
theorem DecRel.bad3 {w wr w2 : World} {out flt v2 : Value} {kd : Nat} {k : Nat} {l : List Nat} {tot : List Int × List (Nat × Nat) × Int} {os : List Int} {fs : List (Nat × Nat)} {o : Obj} (h : DecRel w wr out flt kd 3 k l tot os fs)
    (hl : l ≠ []) {r e : Int} {n : Nat} (hx : nx kd l = (r, (n : Int), e)) (he : e ≠ 0) (h1 : 1 ≤ n) (ho : w2.ownsRow w.heap.size 50 2 v2 (fs.length + 1) (flts fs ++ [.int .i64 k, .int .i64 n])) (hg : (wr.alloc o).grownBy w2 flt.ownBlock) :
    DecRel w w2 out v2 kd 3 (k + n) (l.drop n) tot os (fs ++ [(k, n)]) := by
  have ha := h.f.alloc o
  have hbl := h.bel.size
  refine ⟨h.bel.trans (((Below.refl _ _).alloc hbl _).trans (below_grown ha hg (by simp; omega))), (h.o.alloc o).kept hg (own_apart (h.o.alloc o) ha (by decide)), by simpa [flts_app, flts] using ho, by have := h.lo; omega, by simp; have := h.lf; omega, ?_⟩
  rw [h.tot, dec_bad kd 3 (by decide) k l hl r e n hx he h1]
  simp
theorem DecRel.bad2 {w wr w2 w3 : World} {out flt v2 v3 : Value} {kd : Nat} {k : Nat} {l : List Nat} {tot : List Int × List (Nat × Nat) × Int} {os : List Int} {fs : List (Nat × Nat)} {o o' : Obj} (h : DecRel w wr out flt kd 2 k l tot os fs)
    (hl : l ≠ []) {r e : Int} {n : Nat} (hx : nx kd l = (r, (n : Int), e)) (he : e ≠ 0) (h1 : 1 ≤ n) (ho : w2.ownsRow w.heap.size 50 2 v2 (fs.length + 1) (flts fs ++ [.int .i64 k, .int .i64 n])) (hg : (wr.alloc o).grownBy w2 flt.ownBlock)
    (ho3 : w3.ownsRow w.heap.size 21 1 v3 (os.length + 1) (i32s os ++ [.int .i32 65533])) (hg3 : (w2.alloc o').grownBy w3 out.ownBlock) :
    DecRel w w3 v3 v2 kd 2 (k + n) (l.drop n) tot (os ++ [65533]) (fs ++ [(k, n)]) := by
  have ha := h.f.alloc o
  have hbl := h.bel.size
  have hb2 := h.bel.trans (((Below.refl _ _).alloc hbl _).trans (below_grown ha hg (by simp; omega)))
  have ho2 := (h.o.alloc o).kept hg (own_apart (h.o.alloc o) ha (by decide))
  have hbl2 := hb2.size
  refine ⟨hb2.trans (((Below.refl _ _).alloc hbl2 _).trans (below_grown (ho2.alloc o') hg3 (by simp; omega))), by simpa [i32s] using ho3, ?_, by simp; have := h.lo; omega, by simp; have := h.lf; omega, ?_⟩
  · have := (ho.alloc o').kept hg3 (own_apart (ho.alloc o') (ho2.alloc o') (by decide))
    simpa [flts_app, flts] using this
  · rw [h.tot, dec_bad kd 2 (by decide) k l hl r e n hx he h1]
    simp
theorem DecRel.keepO {w wr w2 : World} {out flt : Value} {kd : Nat} {pol : Int} {k : Nat} {l : List Nat} {tot : List Int × List (Nat × Nat) × Int} {os : List Int} {fs : List (Nat × Nat)} {o : Obj} (h : DecRel w wr out flt kd pol k l tot os fs) (hg : (wr.alloc o).grownBy w2 flt.ownBlock) :
    w2.ownsRow w.heap.size 21 1 out os.length (i32s os) ∧ w.heap.size ≤ w2.heap.size := by
  refine ⟨(h.o.alloc o).kept hg (own_apart (h.o.alloc o) (h.f.alloc o) (by decide)), ?_⟩
  have h1 := h.bel.size
  have h2 := hg.size
  simp at h2
  omega

def decP (kd : Int) (pol : Int) (l : List Nat) : List Int × List (Nat × Nat) × Int := if (1 ≤ kd ∧ kd ≤ 4) ∧ (pol = 1 ∨ pol = 2 ∨ pol = 3) then dec kd.toNat pol 0 l else ([], [], 16)
theorem snext_from (kd : Nat) (s : ByteArray) (k : Nat) (w : World) (h1 : 1 ≤ kd) (h4 : kd ≤ 4) (hs : s.size ≤ 100000) (r e : Int) (n : Nat) (hx : nx kd ((bs s).drop k) = (r, (n : Int), e)) :
    Calls Tryd.prog 69 #[.agg #[.int .i64 (szK kd : Int), .bool (loK kd), .bool (prK kd), .string (s.extract k s.size)]] w fun v w' => v = .returned (.tuple #[.int .i32 r, .int .i64 n, .int .i64 e]) ∧ Below w.heap.size w w' := by
  have := snext_any kd (s.extract k s.size) w h1 h4 (by rw [ext_from]; omega)
  rw [bs_from, hx] at this
  exact this
/-- What the decoder knows behind the call of 'next'. -/
theorem DecRel.step {w wr w2 : World} {out flt : Value} {kd : Nat} {pol : Int} {k : Nat} {l : List Nat} {tot : List Int × List (Nat × Nat) × Int} {os : List Int} {fs : List (Nat × Nat)} (h : DecRel w wr out flt kd pol k l tot os fs) (hb : Below wr.drew.heap.size wr.drew w2) :
    DecRel w w2 out flt kd pol k l tot os fs := by
  have hbs := h.bel.size
  exact ⟨h.bel.drew.trans (hb.mono (by simpa using hbs)), own_below h.o.drew hb, own_below h.f.drew hb, h.lo, h.lf, h.tot⟩
end Go.Proofs.YthnfopjjghohcaaDoor.Wd

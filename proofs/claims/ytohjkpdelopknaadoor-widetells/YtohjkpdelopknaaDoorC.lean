import Derived.Test.YtohjkpdelopknaaDoorB
namespace Go.Proofs.YtohjkpdelopknaaDoor
open Go.RowKit
/-- A boxed source: its four cells. -/
structure Box (w : World) (B : Nat) (z : Int) (lo pr : Bool) (s : ByteArray) : Prop where
  c0 : w.cell? ⟨B, 0, none⟩ = some (.int .i64 z)
  c1 : w.cell? ⟨B, 1, none⟩ = some (.bool lo)
  c2 : w.cell? ⟨B, 2, none⟩ = some (.bool pr)
  c3 : w.cell? ⟨B, 3, none⟩ = some (.string s)
theorem Box.below {w w' : World} {B C : Nat} {z : Int} {lo pr : Bool} {s : ByteArray} (h : Box w B z lo pr s) (hb : Below C w w') (hc : B < C) : Box w' B z lo pr s :=
  ⟨(hb.cell (p := ⟨B, 0, none⟩) hc).trans h.c0, (hb.cell (p := ⟨B, 1, none⟩) hc).trans h.c1, (hb.cell (p := ⟨B, 2, none⟩) hc).trans h.c2, (hb.cell (p := ⟨B, 3, none⟩) hc).trans h.c3⟩
theorem Box.new (w : World) (z : Int) (lo pr : Bool) (s : ByteArray) (t : TypeId) : Box (w.alloc (.cells #[.int .i64 z, .bool lo, .bool pr, .string s] t)) w.heap.size z lo pr s :=
  ⟨by rw [World.cell?_alloc_new]; rfl, by rw [World.cell?_alloc_new]; rfl, by rw [World.cell?_alloc_new]; rfl, by rw [World.cell?_alloc_new]; rfl⟩
theorem w32 (b : Nat) (h : b < 4294967296) : IntKind.u32.wrap (b : Int) = b := by rw [IntKind.wrap_u32']; omega
theorem w32m (b m : Nat) (h : b * m < 4294967296) : IntKind.u32.wrap ((b : Int) * (m : Int)) = (b : Int) * (m : Int) := by
  have e : (b : Int) * (m : Int) = ((b * m : Nat) : Int) := by simp
  rw [e]; exact w32 _ h
theorem or32 (a b c : Nat) (ha : a < 4294967296) (hb : b < 4294967296) (h : a ||| b = c) : bits .or .u32 (a : Int) (b : Int) = (c : Int) := by rw [u32_or_nat a b ha hb, h]
theorem or32m (a b m c : Nat) (ha : a < 4294967296) (hb : b * m < 4294967296) (h : a ||| b * m = c) : bits .or .u32 (a : Int) ((b : Int) * (m : Int)) = (c : Int) := by
  have e : (b : Int) * (m : Int) = ((b * m : Nat) : Int) := by simp
  rw [e]; exact or32 a _ c ha hb h
theorem or_lo (a b i : Nat) (h : a < 2 ^ i) : a ||| b * 2 ^ i = a + b * 2 ^ i := by
  rw [Nat.or_comm, Nat.mul_comm b, ← Nat.two_pow_add_eq_or_of_lt h]; omega
theorem or_hi (a b i : Nat) (h : b < 2 ^ i) : a * 2 ^ i ||| b = a * 2 ^ i + b := by
  rw [Nat.mul_comm a, ← Nat.two_pow_add_eq_or_of_lt h]
set_option maxRecDepth 100000 in
set_option maxHeartbeats 1000000 in
theorem unit1 (s : ByteArray) (p0 p1 : Nat) (w : World) (h0 : p0 < s.size) (h1 : p1 < s.size) (e1 : p1 = p0 + 1) (hz : s.size ≤ 100000) :
    Calls Tryd.prog 35 #[.agg #[.int .i64 2, .bool true, .bool true, .string s], .int .i64 (p0 : Int)] w fun e w' => e = .returned (.int .u32 ((s[p0].toNat + s[p1].toNat * 256 : Nat) : Int)) ∧ Below w.heap.size w w' := by
  have hb0 : Below w.heap.size w (w.alloc (.cells #[.int .i64 2, .bool true, .bool true, .string s] 60)) := (Below.refl _ _).alloc (Nat.le_refl _) _
  have HB0 := Lib.hid hb0
  have HX0 := Lib.hid (Box.new w 2 true true s 60)
  clear hb0
  have q0 : (0 : Int) ≤ (p0 : Int) := by omega
  have r0 : (p0 : Int) < s.size := by omega
  have b0 : s[p0].toNat < 256 := by have := s[p0].toNat_lt; omega
  have r1 : (p1 : Int) < s.size := by omega
  have b1 : s[p1].toNat < 256 := by have := s[p1].toNat_lt; omega
  have E1 := Lib.hid e1
  obtain ⟨a1, ha1⟩ : ∃ a : Nat, a = s[p0].toNat := ⟨_, rfl⟩
  have A1 := Lib.hid ha1
  clear ha1
  obtain ⟨a2, ha2⟩ : ∃ a : Nat, a = s[p0].toNat + s[p1].toNat * 256 := ⟨_, rfl⟩
  have A2 := Lib.hid ha2
  clear ha2
  clear e1
  go_enter Tryd.func35, Tryd.ntmps35
  go_wp2_with fail
  go_loopw [5, 10] (fun u i wr => ∃ j : Nat, i = .int .i64 j ∧ j ≤ 2 ∧ u = .int .u32 ((if j = 0 then 0 else if j = 1 then a1 else a2 : Nat) : Int) ∧ Hid (Below w.heap.size w wr ∧ w.heap.size + 1 ≤ wr.heap.size ∧ Box wr w.heap.size 2 true true s)) (fun _ i _ => 2 - (intOf i).toNat)
  case atStart => exact ⟨0, rfl, by omega, rfl, HB0.out, by simp, HX0.out⟩
  case round =>
    obtain ⟨j, rfl, hj, rfl, HB⟩ := hrel
    have hj' : j = 0 ∨ j = 1 ∨ j = 2 := by omega
    have hsz := HB.out.2.1
    obtain ⟨k0, k1, k2, k3⟩ := HB.out.2.2
    rcases hj' with rfl | rfl | rfl
    · rw [if_pos rfl, show ((0 : Nat) : Int) = 0 from rfl]
      have w1 : IntKind.i64.wrap (p0 : Int) = (p0 : Int) := IntWalk.i64_in _ (by omega)
      have e1 : IntKind.u32.wrap (s[p0].toNat : Int) = (s[p0].toNat : Int) := w32 _ (by omega)
      have e3 : bits .or .u32 0 (s[p0].toNat : Int) = (a1 : Int) := by rw [A1.out]; exact or32 0 _ _ (by omega) (by omega) (by simp)
      go_wp2_with fail
      go_region_held3 (fun w' => w'.cell? ⟨w.heap.size, 0, none⟩ = some (.int .i64 2) ∧ w'.cell? ⟨w.heap.size, 1, none⟩ = some (.bool true) ∧ w'.cell? ⟨w.heap.size, 2, none⟩ = some (.bool true) ∧ w'.cell? ⟨w.heap.size, 3, none⟩ = some (.string s))
        (first
          | go_keep
          | (refine ⟨?_, ?_, ?_, ?_⟩
             · (rw [hb7.cell (p := ⟨w.heap.size, 0, none⟩) (by simp; omega)]; simpa using k0)
             · (rw [hb7.cell (p := ⟨w.heap.size, 1, none⟩) (by simp; omega)]; simpa using k1)
             · (rw [hb7.cell (p := ⟨w.heap.size, 2, none⟩) (by simp; omega)]; simpa using k2)
             · (rw [hb7.cell (p := ⟨w.heap.size, 3, none⟩) (by simp; omega)]; simpa using k3)))
        ((go_at_call 43; refine (shift_lo 2 true 0 0 _ (by omega) (by omega) rfl).mono ?_; rintro e w7 ⟨rfl, hb7⟩))
      all_goals
        have HN : Hid (Below w.heap.size w w7 ∧ w.heap.size + 1 ≤ w7.heap.size ∧ Box w7 w.heap.size 2 true true s) := ⟨HB.out.1.drew.trans (hb7.mono (by simp; omega)), by have := hb7.size; simp at this; omega, ((HB.out.2.2).below (Below.refl wr.heap.size wr).drew (by omega)).below hb7 (by simp; omega)⟩
        clear w1 e1 e3 hb7
        go_wp2_with fail
        go_roundw
        case rel => exact ⟨1, rfl, by omega, rfl, HN.out⟩
        case measure => simp [intOf]
    · rw [if_neg (by decide), if_pos rfl, show ((1 : Nat) : Int) = 1 from rfl]
      have w1 : IntKind.i64.wrap ((p0 : Int) + 1) = (p1 : Int) := by rw [E1.out]; exact IntWalk.i64_in _ (by omega)
      have e1 : IntKind.u32.wrap (s[p1].toNat : Int) = (s[p1].toNat : Int) := w32 _ (by omega)
      have e2 : IntKind.u32.wrap ((s[p1].toNat : Int) * 256) = (s[p1].toNat : Int) * 256 := w32m _ 256 (by omega)
      have e3 : bits .or .u32 (a1 : Int) ((s[p1].toNat : Int) * 256) = (a2 : Int) := by rw [A1.out, A2.out]; exact or32m _ _ 256 _ (by omega) (by omega) (by have := or_lo (s[p0].toNat) s[p1].toNat 8 (by omega); simpa using this)
      go_wp2_with fail
      go_region_held3 (fun w' => w'.cell? ⟨w.heap.size, 0, none⟩ = some (.int .i64 2) ∧ w'.cell? ⟨w.heap.size, 1, none⟩ = some (.bool true) ∧ w'.cell? ⟨w.heap.size, 2, none⟩ = some (.bool true) ∧ w'.cell? ⟨w.heap.size, 3, none⟩ = some (.string s))
        (first
          | go_keep
          | (refine ⟨?_, ?_, ?_, ?_⟩
             · (rw [hb7.cell (p := ⟨w.heap.size, 0, none⟩) (by simp; omega)]; simpa using k0)
             · (rw [hb7.cell (p := ⟨w.heap.size, 1, none⟩) (by simp; omega)]; simpa using k1)
             · (rw [hb7.cell (p := ⟨w.heap.size, 2, none⟩) (by simp; omega)]; simpa using k2)
             · (rw [hb7.cell (p := ⟨w.heap.size, 3, none⟩) (by simp; omega)]; simpa using k3)))
        ((go_at_call 43; refine (shift_lo 2 true 1 8 _ (by omega) (by omega) rfl).mono ?_; rintro e w7 ⟨rfl, hb7⟩))
      all_goals
        have HN : Hid (Below w.heap.size w w7 ∧ w.heap.size + 1 ≤ w7.heap.size ∧ Box w7 w.heap.size 2 true true s) := ⟨HB.out.1.drew.trans (hb7.mono (by simp; omega)), by have := hb7.size; simp at this; omega, ((HB.out.2.2).below (Below.refl wr.heap.size wr).drew (by omega)).below hb7 (by simp; omega)⟩
        clear w1 e1 e2 e3 hb7
        go_wp2_with fail
        go_roundw
        case rel => exact ⟨2, rfl, by omega, rfl, HN.out⟩
        case measure => simp [intOf]
    · rw [if_neg (by decide), if_neg (by decide), show ((2 : Nat) : Int) = 2 from rfl]
      go_wp2
      go_ret
      exact ⟨ret_int (by rw [A2.out]), HB.out.1⟩
set_option maxRecDepth 100000 in
set_option maxHeartbeats 1000000 in
theorem unit2 (s : ByteArray) (p0 p1 : Nat) (w : World) (h0 : p0 < s.size) (h1 : p1 < s.size) (e1 : p1 = p0 + 1) (hz : s.size ≤ 100000) :
    Calls Tryd.prog 35 #[.agg #[.int .i64 2, .bool false, .bool true, .string s], .int .i64 (p0 : Int)] w fun e w' => e = .returned (.int .u32 ((s[p0].toNat * 256 + s[p1].toNat : Nat) : Int)) ∧ Below w.heap.size w w' := by
  have hb0 : Below w.heap.size w (w.alloc (.cells #[.int .i64 2, .bool false, .bool true, .string s] 60)) := (Below.refl _ _).alloc (Nat.le_refl _) _
  have HB0 := Lib.hid hb0
  have HX0 := Lib.hid (Box.new w 2 false true s 60)
  clear hb0
  have q0 : (0 : Int) ≤ (p0 : Int) := by omega
  have r0 : (p0 : Int) < s.size := by omega
  have b0 : s[p0].toNat < 256 := by have := s[p0].toNat_lt; omega
  have r1 : (p1 : Int) < s.size := by omega
  have b1 : s[p1].toNat < 256 := by have := s[p1].toNat_lt; omega
  have E1 := Lib.hid e1
  obtain ⟨a1, ha1⟩ : ∃ a : Nat, a = s[p0].toNat * 256 := ⟨_, rfl⟩
  have A1 := Lib.hid ha1
  clear ha1
  obtain ⟨a2, ha2⟩ : ∃ a : Nat, a = s[p0].toNat * 256 + s[p1].toNat := ⟨_, rfl⟩
  have A2 := Lib.hid ha2
  clear ha2
  clear e1
  go_enter Tryd.func35, Tryd.ntmps35
  go_wp2_with fail
  go_loopw [5, 10] (fun u i wr => ∃ j : Nat, i = .int .i64 j ∧ j ≤ 2 ∧ u = .int .u32 ((if j = 0 then 0 else if j = 1 then a1 else a2 : Nat) : Int) ∧ Hid (Below w.heap.size w wr ∧ w.heap.size + 1 ≤ wr.heap.size ∧ Box wr w.heap.size 2 false true s)) (fun _ i _ => 2 - (intOf i).toNat)
  case atStart => exact ⟨0, rfl, by omega, rfl, HB0.out, by simp, HX0.out⟩
  case round =>
    obtain ⟨j, rfl, hj, rfl, HB⟩ := hrel
    have hj' : j = 0 ∨ j = 1 ∨ j = 2 := by omega
    have hsz := HB.out.2.1
    obtain ⟨k0, k1, k2, k3⟩ := HB.out.2.2
    rcases hj' with rfl | rfl | rfl
    · rw [if_pos rfl, show ((0 : Nat) : Int) = 0 from rfl]
      have w1 : IntKind.i64.wrap (p0 : Int) = (p0 : Int) := IntWalk.i64_in _ (by omega)
      have e1 : IntKind.u32.wrap (s[p0].toNat : Int) = (s[p0].toNat : Int) := w32 _ (by omega)
      have e2 : IntKind.u32.wrap ((s[p0].toNat : Int) * 256) = (s[p0].toNat : Int) * 256 := w32m _ 256 (by omega)
      have e3 : bits .or .u32 0 ((s[p0].toNat : Int) * 256) = (a1 : Int) := by rw [A1.out]; exact or32m 0 _ 256 _ (by omega) (by omega) (by simp)
      go_wp2_with fail
      go_region_held3 (fun w' => w'.cell? ⟨w.heap.size, 0, none⟩ = some (.int .i64 2) ∧ w'.cell? ⟨w.heap.size, 1, none⟩ = some (.bool false) ∧ w'.cell? ⟨w.heap.size, 2, none⟩ = some (.bool true) ∧ w'.cell? ⟨w.heap.size, 3, none⟩ = some (.string s))
        (first
          | go_keep
          | (refine ⟨?_, ?_, ?_, ?_⟩
             · (rw [hb7.cell (p := ⟨w.heap.size, 0, none⟩) (by simp; omega)]; simpa using k0)
             · (rw [hb7.cell (p := ⟨w.heap.size, 1, none⟩) (by simp; omega)]; simpa using k1)
             · (rw [hb7.cell (p := ⟨w.heap.size, 2, none⟩) (by simp; omega)]; simpa using k2)
             · (rw [hb7.cell (p := ⟨w.heap.size, 3, none⟩) (by simp; omega)]; simpa using k3)))
        ((go_at_call 43; refine (shift_hi 2 true 0 8 _ (by omega) (by omega) (by omega) rfl).mono ?_; rintro e w7 ⟨rfl, hb7⟩))
      all_goals
        have HN : Hid (Below w.heap.size w w7 ∧ w.heap.size + 1 ≤ w7.heap.size ∧ Box w7 w.heap.size 2 false true s) := ⟨HB.out.1.drew.trans (hb7.mono (by simp; omega)), by have := hb7.size; simp at this; omega, ((HB.out.2.2).below (Below.refl wr.heap.size wr).drew (by omega)).below hb7 (by simp; omega)⟩
        clear w1 e1 e2 e3 hb7
        go_wp2_with fail
        go_roundw
        case rel => exact ⟨1, rfl, by omega, rfl, HN.out⟩
        case measure => simp [intOf]
    · rw [if_neg (by decide), if_pos rfl, show ((1 : Nat) : Int) = 1 from rfl]
      have w1 : IntKind.i64.wrap ((p0 : Int) + 1) = (p1 : Int) := by rw [E1.out]; exact IntWalk.i64_in _ (by omega)
      have e1 : IntKind.u32.wrap (s[p1].toNat : Int) = (s[p1].toNat : Int) := w32 _ (by omega)
      have e3 : bits .or .u32 (a1 : Int) (s[p1].toNat : Int) = (a2 : Int) := by rw [A1.out, A2.out]; exact or32 _ _ _ (by omega) (by omega) (by have := or_hi (s[p0].toNat) (s[p1].toNat) 8 (by omega); rw [show (s[p0].toNat) * 2 ^ 8 = s[p0].toNat * 256 by omega] at this; exact this)
      go_wp2_with fail
      go_region_held3 (fun w' => w'.cell? ⟨w.heap.size, 0, none⟩ = some (.int .i64 2) ∧ w'.cell? ⟨w.heap.size, 1, none⟩ = some (.bool false) ∧ w'.cell? ⟨w.heap.size, 2, none⟩ = some (.bool true) ∧ w'.cell? ⟨w.heap.size, 3, none⟩ = some (.string s))
        (first
          | go_keep
          | (refine ⟨?_, ?_, ?_, ?_⟩
             · (rw [hb7.cell (p := ⟨w.heap.size, 0, none⟩) (by simp; omega)]; simpa using k0)
             · (rw [hb7.cell (p := ⟨w.heap.size, 1, none⟩) (by simp; omega)]; simpa using k1)
             · (rw [hb7.cell (p := ⟨w.heap.size, 2, none⟩) (by simp; omega)]; simpa using k2)
             · (rw [hb7.cell (p := ⟨w.heap.size, 3, none⟩) (by simp; omega)]; simpa using k3)))
        ((go_at_call 43; refine (shift_hi 2 true 1 0 _ (by omega) (by omega) (by omega) rfl).mono ?_; rintro e w7 ⟨rfl, hb7⟩))
      all_goals
        have HN : Hid (Below w.heap.size w w7 ∧ w.heap.size + 1 ≤ w7.heap.size ∧ Box w7 w.heap.size 2 false true s) := ⟨HB.out.1.drew.trans (hb7.mono (by simp; omega)), by have := hb7.size; simp at this; omega, ((HB.out.2.2).below (Below.refl wr.heap.size wr).drew (by omega)).below hb7 (by simp; omega)⟩
        clear w1 e1 e3 hb7
        go_wp2_with fail
        go_roundw
        case rel => exact ⟨2, rfl, by omega, rfl, HN.out⟩
        case measure => simp [intOf]
    · rw [if_neg (by decide), if_neg (by decide), show ((2 : Nat) : Int) = 2 from rfl]
      go_wp2
      go_ret
      exact ⟨ret_int (by rw [A2.out]), HB.out.1⟩
set_option maxRecDepth 100000 in
set_option maxHeartbeats 1000000 in
theorem unit3 (s : ByteArray) (p0 p1 p2 p3 : Nat) (w : World) (h0 : p0 < s.size) (h1 : p1 < s.size) (h2 : p2 < s.size) (h3 : p3 < s.size) (e1 : p1 = p0 + 1) (e2 : p2 = p0 + 2) (e3 : p3 = p0 + 3) (hz : s.size ≤ 100000) :
    Calls Tryd.prog 35 #[.agg #[.int .i64 4, .bool true, .bool false, .string s], .int .i64 (p0 : Int)] w fun e w' => e = .returned (.int .u32 ((s[p0].toNat + s[p1].toNat * 256 + s[p2].toNat * 65536 + s[p3].toNat * 16777216 : Nat) : Int)) ∧ Below w.heap.size w w' := by
  have hb0 : Below w.heap.size w (w.alloc (.cells #[.int .i64 4, .bool true, .bool false, .string s] 60)) := (Below.refl _ _).alloc (Nat.le_refl _) _
  have HB0 := Lib.hid hb0
  have HX0 := Lib.hid (Box.new w 4 true false s 60)
  clear hb0
  have q0 : (0 : Int) ≤ (p0 : Int) := by omega
  have r0 : (p0 : Int) < s.size := by omega
  have b0 : s[p0].toNat < 256 := by have := s[p0].toNat_lt; omega
  have r1 : (p1 : Int) < s.size := by omega
  have b1 : s[p1].toNat < 256 := by have := s[p1].toNat_lt; omega
  have r2 : (p2 : Int) < s.size := by omega
  have b2 : s[p2].toNat < 256 := by have := s[p2].toNat_lt; omega
  have r3 : (p3 : Int) < s.size := by omega
  have b3 : s[p3].toNat < 256 := by have := s[p3].toNat_lt; omega
  have E1 := Lib.hid e1
  have E2 := Lib.hid e2
  have E3 := Lib.hid e3
  obtain ⟨a1, ha1⟩ : ∃ a : Nat, a = s[p0].toNat := ⟨_, rfl⟩
  have A1 := Lib.hid ha1
  clear ha1
  obtain ⟨a2, ha2⟩ : ∃ a : Nat, a = s[p0].toNat + s[p1].toNat * 256 := ⟨_, rfl⟩
  have A2 := Lib.hid ha2
  clear ha2
  obtain ⟨a3, ha3⟩ : ∃ a : Nat, a = s[p0].toNat + s[p1].toNat * 256 + s[p2].toNat * 65536 := ⟨_, rfl⟩
  have A3 := Lib.hid ha3
  clear ha3
  obtain ⟨a4, ha4⟩ : ∃ a : Nat, a = s[p0].toNat + s[p1].toNat * 256 + s[p2].toNat * 65536 + s[p3].toNat * 16777216 := ⟨_, rfl⟩
  have A4 := Lib.hid ha4
  clear ha4
  clear e1 e2 e3
  go_enter Tryd.func35, Tryd.ntmps35
  go_wp2_with fail
  go_loopw [5, 10] (fun u i wr => ∃ j : Nat, i = .int .i64 j ∧ j ≤ 4 ∧ u = .int .u32 ((if j = 0 then 0 else if j = 1 then a1 else if j = 2 then a2 else if j = 3 then a3 else a4 : Nat) : Int) ∧ Hid (Below w.heap.size w wr ∧ w.heap.size + 1 ≤ wr.heap.size ∧ Box wr w.heap.size 4 true false s)) (fun _ i _ => 4 - (intOf i).toNat)
  case atStart => exact ⟨0, rfl, by omega, rfl, HB0.out, by simp, HX0.out⟩
  case round =>
    obtain ⟨j, rfl, hj, rfl, HB⟩ := hrel
    have hj' : j = 0 ∨ j = 1 ∨ j = 2 ∨ j = 3 ∨ j = 4 := by omega
    have hsz := HB.out.2.1
    obtain ⟨k0, k1, k2, k3⟩ := HB.out.2.2
    rcases hj' with rfl | rfl | rfl | rfl | rfl
    · rw [if_pos rfl, show ((0 : Nat) : Int) = 0 from rfl]
      have w1 : IntKind.i64.wrap (p0 : Int) = (p0 : Int) := IntWalk.i64_in _ (by omega)
      have e1 : IntKind.u32.wrap (s[p0].toNat : Int) = (s[p0].toNat : Int) := w32 _ (by omega)
      have e3 : bits .or .u32 0 (s[p0].toNat : Int) = (a1 : Int) := by rw [A1.out]; exact or32 0 _ _ (by omega) (by omega) (by simp)
      go_wp2_with fail
      go_region_held3 (fun w' => w'.cell? ⟨w.heap.size, 0, none⟩ = some (.int .i64 4) ∧ w'.cell? ⟨w.heap.size, 1, none⟩ = some (.bool true) ∧ w'.cell? ⟨w.heap.size, 2, none⟩ = some (.bool false) ∧ w'.cell? ⟨w.heap.size, 3, none⟩ = some (.string s))
        (first
          | go_keep
          | (refine ⟨?_, ?_, ?_, ?_⟩
             · (rw [hb7.cell (p := ⟨w.heap.size, 0, none⟩) (by simp; omega)]; simpa using k0)
             · (rw [hb7.cell (p := ⟨w.heap.size, 1, none⟩) (by simp; omega)]; simpa using k1)
             · (rw [hb7.cell (p := ⟨w.heap.size, 2, none⟩) (by simp; omega)]; simpa using k2)
             · (rw [hb7.cell (p := ⟨w.heap.size, 3, none⟩) (by simp; omega)]; simpa using k3)))
        ((go_at_call 43; refine (shift_lo 4 false 0 0 _ (by omega) (by omega) rfl).mono ?_; rintro e w7 ⟨rfl, hb7⟩))
      all_goals
        have HN : Hid (Below w.heap.size w w7 ∧ w.heap.size + 1 ≤ w7.heap.size ∧ Box w7 w.heap.size 4 true false s) := ⟨HB.out.1.drew.trans (hb7.mono (by simp; omega)), by have := hb7.size; simp at this; omega, ((HB.out.2.2).below (Below.refl wr.heap.size wr).drew (by omega)).below hb7 (by simp; omega)⟩
        clear w1 e1 e3 hb7
        go_wp2_with fail
        go_roundw
        case rel => exact ⟨1, rfl, by omega, rfl, HN.out⟩
        case measure => simp [intOf]
    · rw [if_neg (by decide), if_pos rfl, show ((1 : Nat) : Int) = 1 from rfl]
      have w1 : IntKind.i64.wrap ((p0 : Int) + 1) = (p1 : Int) := by rw [E1.out]; exact IntWalk.i64_in _ (by omega)
      have e1 : IntKind.u32.wrap (s[p1].toNat : Int) = (s[p1].toNat : Int) := w32 _ (by omega)
      have e2 : IntKind.u32.wrap ((s[p1].toNat : Int) * 256) = (s[p1].toNat : Int) * 256 := w32m _ 256 (by omega)
      have e3 : bits .or .u32 (a1 : Int) ((s[p1].toNat : Int) * 256) = (a2 : Int) := by rw [A1.out, A2.out]; exact or32m _ _ 256 _ (by omega) (by omega) (by have := or_lo (s[p0].toNat) s[p1].toNat 8 (by omega); simpa using this)
      go_wp2_with fail
      go_region_held3 (fun w' => w'.cell? ⟨w.heap.size, 0, none⟩ = some (.int .i64 4) ∧ w'.cell? ⟨w.heap.size, 1, none⟩ = some (.bool true) ∧ w'.cell? ⟨w.heap.size, 2, none⟩ = some (.bool false) ∧ w'.cell? ⟨w.heap.size, 3, none⟩ = some (.string s))
        (first
          | go_keep
          | (refine ⟨?_, ?_, ?_, ?_⟩
             · (rw [hb7.cell (p := ⟨w.heap.size, 0, none⟩) (by simp; omega)]; simpa using k0)
             · (rw [hb7.cell (p := ⟨w.heap.size, 1, none⟩) (by simp; omega)]; simpa using k1)
             · (rw [hb7.cell (p := ⟨w.heap.size, 2, none⟩) (by simp; omega)]; simpa using k2)
             · (rw [hb7.cell (p := ⟨w.heap.size, 3, none⟩) (by simp; omega)]; simpa using k3)))
        ((go_at_call 43; refine (shift_lo 4 false 1 8 _ (by omega) (by omega) rfl).mono ?_; rintro e w7 ⟨rfl, hb7⟩))
      all_goals
        have HN : Hid (Below w.heap.size w w7 ∧ w.heap.size + 1 ≤ w7.heap.size ∧ Box w7 w.heap.size 4 true false s) := ⟨HB.out.1.drew.trans (hb7.mono (by simp; omega)), by have := hb7.size; simp at this; omega, ((HB.out.2.2).below (Below.refl wr.heap.size wr).drew (by omega)).below hb7 (by simp; omega)⟩
        clear w1 e1 e2 e3 hb7
        go_wp2_with fail
        go_roundw
        case rel => exact ⟨2, rfl, by omega, rfl, HN.out⟩
        case measure => simp [intOf]
    · rw [if_neg (by decide), if_neg (by decide), if_pos rfl, show ((2 : Nat) : Int) = 2 from rfl]
      have w1 : IntKind.i64.wrap ((p0 : Int) + 2) = (p2 : Int) := by rw [E2.out]; exact IntWalk.i64_in _ (by omega)
      have e1 : IntKind.u32.wrap (s[p2].toNat : Int) = (s[p2].toNat : Int) := w32 _ (by omega)
      have e2 : IntKind.u32.wrap ((s[p2].toNat : Int) * 65536) = (s[p2].toNat : Int) * 65536 := w32m _ 65536 (by omega)
      have e3 : bits .or .u32 (a2 : Int) ((s[p2].toNat : Int) * 65536) = (a3 : Int) := by rw [A2.out, A3.out]; exact or32m _ _ 65536 _ (by omega) (by omega) (by have := or_lo (s[p0].toNat + s[p1].toNat * 256) s[p2].toNat 16 (by omega); simpa using this)
      go_wp2_with fail
      go_region_held3 (fun w' => w'.cell? ⟨w.heap.size, 0, none⟩ = some (.int .i64 4) ∧ w'.cell? ⟨w.heap.size, 1, none⟩ = some (.bool true) ∧ w'.cell? ⟨w.heap.size, 2, none⟩ = some (.bool false) ∧ w'.cell? ⟨w.heap.size, 3, none⟩ = some (.string s))
        (first
          | go_keep
          | (refine ⟨?_, ?_, ?_, ?_⟩
             · (rw [hb7.cell (p := ⟨w.heap.size, 0, none⟩) (by simp; omega)]; simpa using k0)
             · (rw [hb7.cell (p := ⟨w.heap.size, 1, none⟩) (by simp; omega)]; simpa using k1)
             · (rw [hb7.cell (p := ⟨w.heap.size, 2, none⟩) (by simp; omega)]; simpa using k2)
             · (rw [hb7.cell (p := ⟨w.heap.size, 3, none⟩) (by simp; omega)]; simpa using k3)))
        ((go_at_call 43; refine (shift_lo 4 false 2 16 _ (by omega) (by omega) rfl).mono ?_; rintro e w7 ⟨rfl, hb7⟩))
      all_goals
        have HN : Hid (Below w.heap.size w w7 ∧ w.heap.size + 1 ≤ w7.heap.size ∧ Box w7 w.heap.size 4 true false s) := ⟨HB.out.1.drew.trans (hb7.mono (by simp; omega)), by have := hb7.size; simp at this; omega, ((HB.out.2.2).below (Below.refl wr.heap.size wr).drew (by omega)).below hb7 (by simp; omega)⟩
        clear w1 e1 e2 e3 hb7
        go_wp2_with fail
        go_roundw
        case rel => exact ⟨3, rfl, by omega, rfl, HN.out⟩
        case measure => simp [intOf]
    · rw [if_neg (by decide), if_neg (by decide), if_neg (by decide), if_pos rfl, show ((3 : Nat) : Int) = 3 from rfl]
      have w1 : IntKind.i64.wrap ((p0 : Int) + 3) = (p3 : Int) := by rw [E3.out]; exact IntWalk.i64_in _ (by omega)
      have e1 : IntKind.u32.wrap (s[p3].toNat : Int) = (s[p3].toNat : Int) := w32 _ (by omega)
      have e2 : IntKind.u32.wrap ((s[p3].toNat : Int) * 16777216) = (s[p3].toNat : Int) * 16777216 := w32m _ 16777216 (by omega)
      have e3 : bits .or .u32 (a3 : Int) ((s[p3].toNat : Int) * 16777216) = (a4 : Int) := by rw [A3.out, A4.out]; exact or32m _ _ 16777216 _ (by omega) (by omega) (by have := or_lo (s[p0].toNat + s[p1].toNat * 256 + s[p2].toNat * 65536) s[p3].toNat 24 (by omega); simpa using this)
      go_wp2_with fail
      go_region_held3 (fun w' => w'.cell? ⟨w.heap.size, 0, none⟩ = some (.int .i64 4) ∧ w'.cell? ⟨w.heap.size, 1, none⟩ = some (.bool true) ∧ w'.cell? ⟨w.heap.size, 2, none⟩ = some (.bool false) ∧ w'.cell? ⟨w.heap.size, 3, none⟩ = some (.string s))
        (first
          | go_keep
          | (refine ⟨?_, ?_, ?_, ?_⟩
             · (rw [hb7.cell (p := ⟨w.heap.size, 0, none⟩) (by simp; omega)]; simpa using k0)
             · (rw [hb7.cell (p := ⟨w.heap.size, 1, none⟩) (by simp; omega)]; simpa using k1)
             · (rw [hb7.cell (p := ⟨w.heap.size, 2, none⟩) (by simp; omega)]; simpa using k2)
             · (rw [hb7.cell (p := ⟨w.heap.size, 3, none⟩) (by simp; omega)]; simpa using k3)))
        ((go_at_call 43; refine (shift_lo 4 false 3 24 _ (by omega) (by omega) rfl).mono ?_; rintro e w7 ⟨rfl, hb7⟩))
      all_goals
        have HN : Hid (Below w.heap.size w w7 ∧ w.heap.size + 1 ≤ w7.heap.size ∧ Box w7 w.heap.size 4 true false s) := ⟨HB.out.1.drew.trans (hb7.mono (by simp; omega)), by have := hb7.size; simp at this; omega, ((HB.out.2.2).below (Below.refl wr.heap.size wr).drew (by omega)).below hb7 (by simp; omega)⟩
        clear w1 e1 e2 e3 hb7
        go_wp2_with fail
        go_roundw
        case rel => exact ⟨4, rfl, by omega, rfl, HN.out⟩
        case measure => simp [intOf]
    · rw [if_neg (by decide), if_neg (by decide), if_neg (by decide), if_neg (by decide), show ((4 : Nat) : Int) = 4 from rfl]
      go_wp2
      go_ret
      exact ⟨ret_int (by rw [A4.out]), HB.out.1⟩
set_option maxRecDepth 100000 in
set_option maxHeartbeats 1000000 in
theorem unit4 (s : ByteArray) (p0 p1 p2 p3 : Nat) (w : World) (h0 : p0 < s.size) (h1 : p1 < s.size) (h2 : p2 < s.size) (h3 : p3 < s.size) (e1 : p1 = p0 + 1) (e2 : p2 = p0 + 2) (e3 : p3 = p0 + 3) (hz : s.size ≤ 100000) :
    Calls Tryd.prog 35 #[.agg #[.int .i64 4, .bool false, .bool false, .string s], .int .i64 (p0 : Int)] w fun e w' => e = .returned (.int .u32 ((s[p0].toNat * 16777216 + s[p1].toNat * 65536 + s[p2].toNat * 256 + s[p3].toNat : Nat) : Int)) ∧ Below w.heap.size w w' := by
  have hb0 : Below w.heap.size w (w.alloc (.cells #[.int .i64 4, .bool false, .bool false, .string s] 60)) := (Below.refl _ _).alloc (Nat.le_refl _) _
  have HB0 := Lib.hid hb0
  have HX0 := Lib.hid (Box.new w 4 false false s 60)
  clear hb0
  have q0 : (0 : Int) ≤ (p0 : Int) := by omega
  have r0 : (p0 : Int) < s.size := by omega
  have b0 : s[p0].toNat < 256 := by have := s[p0].toNat_lt; omega
  have r1 : (p1 : Int) < s.size := by omega
  have b1 : s[p1].toNat < 256 := by have := s[p1].toNat_lt; omega
  have r2 : (p2 : Int) < s.size := by omega
  have b2 : s[p2].toNat < 256 := by have := s[p2].toNat_lt; omega
  have r3 : (p3 : Int) < s.size := by omega
  have b3 : s[p3].toNat < 256 := by have := s[p3].toNat_lt; omega
  have E1 := Lib.hid e1
  have E2 := Lib.hid e2
  have E3 := Lib.hid e3
  obtain ⟨a1, ha1⟩ : ∃ a : Nat, a = s[p0].toNat * 16777216 := ⟨_, rfl⟩
  have A1 := Lib.hid ha1
  clear ha1
  obtain ⟨a2, ha2⟩ : ∃ a : Nat, a = s[p0].toNat * 16777216 + s[p1].toNat * 65536 := ⟨_, rfl⟩
  have A2 := Lib.hid ha2
  clear ha2
  obtain ⟨a3, ha3⟩ : ∃ a : Nat, a = s[p0].toNat * 16777216 + s[p1].toNat * 65536 + s[p2].toNat * 256 := ⟨_, rfl⟩
  have A3 := Lib.hid ha3
  clear ha3
  obtain ⟨a4, ha4⟩ : ∃ a : Nat, a = s[p0].toNat * 16777216 + s[p1].toNat * 65536 + s[p2].toNat * 256 + s[p3].toNat := ⟨_, rfl⟩
  have A4 := Lib.hid ha4
  clear ha4
  clear e1 e2 e3
  go_enter Tryd.func35, Tryd.ntmps35
  go_wp2_with fail
  go_loopw [5, 10] (fun u i wr => ∃ j : Nat, i = .int .i64 j ∧ j ≤ 4 ∧ u = .int .u32 ((if j = 0 then 0 else if j = 1 then a1 else if j = 2 then a2 else if j = 3 then a3 else a4 : Nat) : Int) ∧ Hid (Below w.heap.size w wr ∧ w.heap.size + 1 ≤ wr.heap.size ∧ Box wr w.heap.size 4 false false s)) (fun _ i _ => 4 - (intOf i).toNat)
  case atStart => exact ⟨0, rfl, by omega, rfl, HB0.out, by simp, HX0.out⟩
  case round =>
    obtain ⟨j, rfl, hj, rfl, HB⟩ := hrel
    have hj' : j = 0 ∨ j = 1 ∨ j = 2 ∨ j = 3 ∨ j = 4 := by omega
    have hsz := HB.out.2.1
    obtain ⟨k0, k1, k2, k3⟩ := HB.out.2.2
    rcases hj' with rfl | rfl | rfl | rfl | rfl
    · rw [if_pos rfl, show ((0 : Nat) : Int) = 0 from rfl]
      have w1 : IntKind.i64.wrap (p0 : Int) = (p0 : Int) := IntWalk.i64_in _ (by omega)
      have e1 : IntKind.u32.wrap (s[p0].toNat : Int) = (s[p0].toNat : Int) := w32 _ (by omega)
      have e2 : IntKind.u32.wrap ((s[p0].toNat : Int) * 16777216) = (s[p0].toNat : Int) * 16777216 := w32m _ 16777216 (by omega)
      have e3 : bits .or .u32 0 ((s[p0].toNat : Int) * 16777216) = (a1 : Int) := by rw [A1.out]; exact or32m 0 _ 16777216 _ (by omega) (by omega) (by simp)
      go_wp2_with fail
      go_region_held3 (fun w' => w'.cell? ⟨w.heap.size, 0, none⟩ = some (.int .i64 4) ∧ w'.cell? ⟨w.heap.size, 1, none⟩ = some (.bool false) ∧ w'.cell? ⟨w.heap.size, 2, none⟩ = some (.bool false) ∧ w'.cell? ⟨w.heap.size, 3, none⟩ = some (.string s))
        (first
          | go_keep
          | (refine ⟨?_, ?_, ?_, ?_⟩
             · (rw [hb7.cell (p := ⟨w.heap.size, 0, none⟩) (by simp; omega)]; simpa using k0)
             · (rw [hb7.cell (p := ⟨w.heap.size, 1, none⟩) (by simp; omega)]; simpa using k1)
             · (rw [hb7.cell (p := ⟨w.heap.size, 2, none⟩) (by simp; omega)]; simpa using k2)
             · (rw [hb7.cell (p := ⟨w.heap.size, 3, none⟩) (by simp; omega)]; simpa using k3)))
        ((go_at_call 43; refine (shift_hi 4 false 0 24 _ (by omega) (by omega) (by omega) rfl).mono ?_; rintro e w7 ⟨rfl, hb7⟩))
      all_goals
        have HN : Hid (Below w.heap.size w w7 ∧ w.heap.size + 1 ≤ w7.heap.size ∧ Box w7 w.heap.size 4 false false s) := ⟨HB.out.1.drew.trans (hb7.mono (by simp; omega)), by have := hb7.size; simp at this; omega, ((HB.out.2.2).below (Below.refl wr.heap.size wr).drew (by omega)).below hb7 (by simp; omega)⟩
        clear w1 e1 e2 e3 hb7
        go_wp2_with fail
        go_roundw
        case rel => exact ⟨1, rfl, by omega, rfl, HN.out⟩
        case measure => simp [intOf]
    · rw [if_neg (by decide), if_pos rfl, show ((1 : Nat) : Int) = 1 from rfl]
      have w1 : IntKind.i64.wrap ((p0 : Int) + 1) = (p1 : Int) := by rw [E1.out]; exact IntWalk.i64_in _ (by omega)
      have e1 : IntKind.u32.wrap (s[p1].toNat : Int) = (s[p1].toNat : Int) := w32 _ (by omega)
      have e2 : IntKind.u32.wrap ((s[p1].toNat : Int) * 65536) = (s[p1].toNat : Int) * 65536 := w32m _ 65536 (by omega)
      have e3 : bits .or .u32 (a1 : Int) ((s[p1].toNat : Int) * 65536) = (a2 : Int) := by rw [A1.out, A2.out]; exact or32m _ _ 65536 _ (by omega) (by omega) (by have := or_hi (s[p0].toNat) (s[p1].toNat * 65536) 24 (by omega); rw [show (s[p0].toNat) * 2 ^ 24 = s[p0].toNat * 16777216 by omega] at this; exact this)
      go_wp2_with fail
      go_region_held3 (fun w' => w'.cell? ⟨w.heap.size, 0, none⟩ = some (.int .i64 4) ∧ w'.cell? ⟨w.heap.size, 1, none⟩ = some (.bool false) ∧ w'.cell? ⟨w.heap.size, 2, none⟩ = some (.bool false) ∧ w'.cell? ⟨w.heap.size, 3, none⟩ = some (.string s))
        (first
          | go_keep
          | (refine ⟨?_, ?_, ?_, ?_⟩
             · (rw [hb7.cell (p := ⟨w.heap.size, 0, none⟩) (by simp; omega)]; simpa using k0)
             · (rw [hb7.cell (p := ⟨w.heap.size, 1, none⟩) (by simp; omega)]; simpa using k1)
             · (rw [hb7.cell (p := ⟨w.heap.size, 2, none⟩) (by simp; omega)]; simpa using k2)
             · (rw [hb7.cell (p := ⟨w.heap.size, 3, none⟩) (by simp; omega)]; simpa using k3)))
        ((go_at_call 43; refine (shift_hi 4 false 1 16 _ (by omega) (by omega) (by omega) rfl).mono ?_; rintro e w7 ⟨rfl, hb7⟩))
      all_goals
        have HN : Hid (Below w.heap.size w w7 ∧ w.heap.size + 1 ≤ w7.heap.size ∧ Box w7 w.heap.size 4 false false s) := ⟨HB.out.1.drew.trans (hb7.mono (by simp; omega)), by have := hb7.size; simp at this; omega, ((HB.out.2.2).below (Below.refl wr.heap.size wr).drew (by omega)).below hb7 (by simp; omega)⟩
        clear w1 e1 e2 e3 hb7
        go_wp2_with fail
        go_roundw
        case rel => exact ⟨2, rfl, by omega, rfl, HN.out⟩
        case measure => simp [intOf]
    · rw [if_neg (by decide), if_neg (by decide), if_pos rfl, show ((2 : Nat) : Int) = 2 from rfl]
      have w1 : IntKind.i64.wrap ((p0 : Int) + 2) = (p2 : Int) := by rw [E2.out]; exact IntWalk.i64_in _ (by omega)
      have e1 : IntKind.u32.wrap (s[p2].toNat : Int) = (s[p2].toNat : Int) := w32 _ (by omega)
      have e2 : IntKind.u32.wrap ((s[p2].toNat : Int) * 256) = (s[p2].toNat : Int) * 256 := w32m _ 256 (by omega)
      have e3 : bits .or .u32 (a2 : Int) ((s[p2].toNat : Int) * 256) = (a3 : Int) := by rw [A2.out, A3.out]; exact or32m _ _ 256 _ (by omega) (by omega) (by have := or_hi (s[p0].toNat * 256 + s[p1].toNat) (s[p2].toNat * 256) 16 (by omega); rw [show (s[p0].toNat * 256 + s[p1].toNat) * 2 ^ 16 = s[p0].toNat * 16777216 + s[p1].toNat * 65536 by omega] at this; exact this)
      go_wp2_with fail
      go_region_held3 (fun w' => w'.cell? ⟨w.heap.size, 0, none⟩ = some (.int .i64 4) ∧ w'.cell? ⟨w.heap.size, 1, none⟩ = some (.bool false) ∧ w'.cell? ⟨w.heap.size, 2, none⟩ = some (.bool false) ∧ w'.cell? ⟨w.heap.size, 3, none⟩ = some (.string s))
        (first
          | go_keep
          | (refine ⟨?_, ?_, ?_, ?_⟩
             · (rw [hb7.cell (p := ⟨w.heap.size, 0, none⟩) (by simp; omega)]; simpa using k0)
             · (rw [hb7.cell (p := ⟨w.heap.size, 1, none⟩) (by simp; omega)]; simpa using k1)
             · (rw [hb7.cell (p := ⟨w.heap.size, 2, none⟩) (by simp; omega)]; simpa using k2)
             · (rw [hb7.cell (p := ⟨w.heap.size, 3, none⟩) (by simp; omega)]; simpa using k3)))
        ((go_at_call 43; refine (shift_hi 4 false 2 8 _ (by omega) (by omega) (by omega) rfl).mono ?_; rintro e w7 ⟨rfl, hb7⟩))
      all_goals
        have HN : Hid (Below w.heap.size w w7 ∧ w.heap.size + 1 ≤ w7.heap.size ∧ Box w7 w.heap.size 4 false false s) := ⟨HB.out.1.drew.trans (hb7.mono (by simp; omega)), by have := hb7.size; simp at this; omega, ((HB.out.2.2).below (Below.refl wr.heap.size wr).drew (by omega)).below hb7 (by simp; omega)⟩
        clear w1 e1 e2 e3 hb7
        go_wp2_with fail
        go_roundw
        case rel => exact ⟨3, rfl, by omega, rfl, HN.out⟩
        case measure => simp [intOf]
    · rw [if_neg (by decide), if_neg (by decide), if_neg (by decide), if_pos rfl, show ((3 : Nat) : Int) = 3 from rfl]
      have w1 : IntKind.i64.wrap ((p0 : Int) + 3) = (p3 : Int) := by rw [E3.out]; exact IntWalk.i64_in _ (by omega)
      have e1 : IntKind.u32.wrap (s[p3].toNat : Int) = (s[p3].toNat : Int) := w32 _ (by omega)
      have e3 : bits .or .u32 (a3 : Int) (s[p3].toNat : Int) = (a4 : Int) := by rw [A3.out, A4.out]; exact or32 _ _ _ (by omega) (by omega) (by have := or_hi (s[p0].toNat * 65536 + s[p1].toNat * 256 + s[p2].toNat) (s[p3].toNat) 8 (by omega); rw [show (s[p0].toNat * 65536 + s[p1].toNat * 256 + s[p2].toNat) * 2 ^ 8 = s[p0].toNat * 16777216 + s[p1].toNat * 65536 + s[p2].toNat * 256 by omega] at this; exact this)
      go_wp2_with fail
      go_region_held3 (fun w' => w'.cell? ⟨w.heap.size, 0, none⟩ = some (.int .i64 4) ∧ w'.cell? ⟨w.heap.size, 1, none⟩ = some (.bool false) ∧ w'.cell? ⟨w.heap.size, 2, none⟩ = some (.bool false) ∧ w'.cell? ⟨w.heap.size, 3, none⟩ = some (.string s))
        (first
          | go_keep
          | (refine ⟨?_, ?_, ?_, ?_⟩
             · (rw [hb7.cell (p := ⟨w.heap.size, 0, none⟩) (by simp; omega)]; simpa using k0)
             · (rw [hb7.cell (p := ⟨w.heap.size, 1, none⟩) (by simp; omega)]; simpa using k1)
             · (rw [hb7.cell (p := ⟨w.heap.size, 2, none⟩) (by simp; omega)]; simpa using k2)
             · (rw [hb7.cell (p := ⟨w.heap.size, 3, none⟩) (by simp; omega)]; simpa using k3)))
        ((go_at_call 43; refine (shift_hi 4 false 3 0 _ (by omega) (by omega) (by omega) rfl).mono ?_; rintro e w7 ⟨rfl, hb7⟩))
      all_goals
        have HN : Hid (Below w.heap.size w w7 ∧ w.heap.size + 1 ≤ w7.heap.size ∧ Box w7 w.heap.size 4 false false s) := ⟨HB.out.1.drew.trans (hb7.mono (by simp; omega)), by have := hb7.size; simp at this; omega, ((HB.out.2.2).below (Below.refl wr.heap.size wr).drew (by omega)).below hb7 (by simp; omega)⟩
        clear w1 e1 e3 hb7
        go_wp2_with fail
        go_roundw
        case rel => exact ⟨4, rfl, by omega, rfl, HN.out⟩
        case measure => simp [intOf]
    · rw [if_neg (by decide), if_neg (by decide), if_neg (by decide), if_neg (by decide), show ((4 : Nat) : Int) = 4 from rfl]
      go_wp2
      go_ret
      exact ⟨ret_int (by rw [A4.out]), HB.out.1⟩
end Go.Proofs.YtohjkpdelopknaaDoor

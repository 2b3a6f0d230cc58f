import Derived.Test.YthnfopjjghohcaaDoorGW1
namespace Go.Proofs.YthnfopjjghohcaaDoor.Wd
open Go.RowKit

/-- A number as bytes, the lowest one first. -/
def leB : Nat → Nat → List Nat
  | 0, _ => []
  | m + 1, n => n % 256 :: leB m (n / 256)
theorem leB_len : ∀ (m n : Nat), (leB m n).length = m
  | 0, _ => rfl
  | m + 1, n => by simp [leB, leB_len m]
/-- A unit's bytes. -/
def unB (k n : Nat) : List Nat := if loK k then leB (szK k) n else (leB (szK k) n).reverse
theorem unB_len (k n : Nat) : (unB k n).length = szK k := by unfold unB; split <;> simp [leB_len]
/-- A character's bytes. -/
def chB (k r : Nat) : List Nat := if 3 ≤ k ∨ r < 65536 then unB k r else unB k (55296 + (r - 65536) / 1024) ++ unB k (56320 + (r - 65536) % 1024)
theorem chB_len (k r : Nat) (h4 : k ≤ 4) : 2 ≤ (chB k r).length ∧ (chB k r).length ≤ 4 := by
  unfold chB
  by_cases h : 3 ≤ k ∨ r < 65536
  · rw [if_pos h, unB_len]; have := szK_bd k; omega
  · rw [if_neg h, List.length_append, unB_len, unB_len]
    have : szK k = 2 := by unfold szK; rw [if_pos (by omega)]
    omega
def chL (k : Nat) (l : List Int) : List Nat := l.flatMap fun r => chB k r.toNat
theorem chL_le (k : Nat) (h4 : k ≤ 4) (l : List Int) : (chL k l).length ≤ 4 * l.length := by
  induction l with
  | nil => simp [chL]
  | cons a t ih =>
    have := (chB_len k a.toNat h4).2
    simp only [chL, List.flatMap_cons, List.length_append, List.length_cons] at ih ⊢
    omega
theorem chL_ge (k : Nat) (h4 : k ≤ 4) (l : List Int) : l.length ≤ (chL k l).length := by
  induction l with
  | nil => simp [chL]
  | cons a t ih =>
    have := (chB_len k a.toNat h4).1
    simp only [chL, List.flatMap_cons, List.length_append, List.length_cons] at ih ⊢
    omega
theorem chL_more (k : Nat) (l : List Int) (i : Nat) (h : i < l.length) : chL k (l.take (i + 1)) = chL k (l.take i) ++ chB k (l.getD i 0).toNat := by
  rw [take_more l i h]; simp [chL]
theorem chL_cons (k : Nat) (r : Int) (l : List Int) : chL k (r :: l) = chB k r.toNat ++ chL k l := by simp [chL]
/-- A kind's mark. -/
def mkB (k : Nat) : List Nat := unB k 65279
end Go.Proofs.YthnfopjjghohcaaDoor.Wd
namespace Go.Proofs.YthnfopjjghohcaaDoor.Wd
open Go.RowKit

/-- A target that lies in block T. -/
structure Tgt (w : World) (T : Nat) (z : Int) (lo pr : Bool) (v : Value) : Prop where
  blk : w.heap[T]? = some (.cells #[.int .i64 z, .bool lo, .bool pr, v] 128 (0, 0))
theorem Tgt.c0 {w : World} {T : Nat} {z : Int} {lo pr : Bool} {v : Value} (h : Tgt w T z lo pr v) : w.cell? ⟨T, 0, none⟩ = some (.int .i64 z) := by simp [World.cell?, h.blk]
theorem Tgt.c1 {w : World} {T : Nat} {z : Int} {lo pr : Bool} {v : Value} (h : Tgt w T z lo pr v) : w.cell? ⟨T, 1, none⟩ = some (.bool lo) := by simp [World.cell?, h.blk]
theorem Tgt.c2 {w : World} {T : Nat} {z : Int} {lo pr : Bool} {v : Value} (h : Tgt w T z lo pr v) : w.cell? ⟨T, 2, none⟩ = some (.bool pr) := by simp [World.cell?, h.blk]
theorem Tgt.c3 {w : World} {T : Nat} {z : Int} {lo pr : Bool} {v : Value} (h : Tgt w T z lo pr v) : w.cell? ⟨T, 3, none⟩ = some v := by simp [World.cell?, h.blk]
theorem Tgt.fr {w : World} {T : Nat} {z : Int} {lo pr : Bool} {v : Value} (h : Tgt w T z lo pr v) (o : Nat) : w.frozen? ⟨T, o, none⟩ = false := by simp [World.frozen?, h.blk]
theorem Tgt.lt {w : World} {T : Nat} {z : Int} {lo pr : Bool} {v : Value} (h : Tgt w T z lo pr v) : T < w.heap.size := (Array.getElem?_eq_some_iff.1 h.blk).1
theorem Tgt.ne {w : World} {T : Nat} {z : Int} {lo pr : Bool} {v : Value} (h : Tgt w T z lo pr v) {b n : Nat} {v' : Value} {xs : List Value} (ho : w.ownsRow b 5 1 v' n xs) : v'.ownBlock ≠ some T := by
  intro he
  rcases ho.2 with ⟨rfl, _⟩ | ⟨g, cap, cur, rfl, _, hg, _⟩
  · cases he
  · have : g = T := by injection he
    subst this
    rw [h.blk] at hg
    simp at hg
theorem Tgt.below {w w' : World} {T : Nat} {z : Int} {lo pr : Bool} {v : Value} (h : Tgt w T z lo pr v) {B : Nat} (hb : Below B w w') (hB : T < B) : Tgt w' T z lo pr v := ⟨(hb.block T hB).trans h.blk⟩
theorem Tgt.grown {w w' : World} {T : Nat} {z : Int} {lo pr : Bool} {v : Value} (h : Tgt w T z lo pr v) {r : Option Nat} (hg : w.grownBy w' r) (hr : r ≠ some T) : Tgt w' T z lo pr v := ⟨(hg.block T h.lt (fun e => hr e.symm)).trans h.blk⟩
theorem Tgt.some {w : World} {T : Nat} {z : Int} {lo pr : Bool} {v : Value} (h : Tgt w T z lo pr v) : w.cell? ⟨T, 0, none⟩ = some (.int .i64 z) ∧ w.cell? ⟨T, 1, none⟩ = some (.bool lo) ∧ w.cell? ⟨T, 2, none⟩ = some (.bool pr) ∧ w.frozen? ⟨T, 3, none⟩ = false := ⟨h.c0, h.c1, h.c2, h.fr 3⟩
theorem Tgt.set {w : World} {T : Nat} {z : Int} {lo pr : Bool} {v : Value} (h : Tgt w T z lo pr v) (x : Value) : Tgt (w.setCell ⟨T, 3, none⟩ x) T z lo pr x := ⟨by simp [World.setCell, Array.getElem?_modify, h.blk]⟩
end Go.Proofs.YthnfopjjghohcaaDoor.Wd
namespace Go.Proofs.YthnfopjjghohcaaDoor.Wd
open Go.RowKit
attribute [local go_sem ↓] Go.wp_at_zero Go.wp_at_succ

set_option maxRecDepth 100000 in
set_option maxHeartbeats 4000000 in
theorem putUnit1 (base T : Nat) (v : Value) (m : Nat) (xs : List Value) (u : Nat) (w : World) (hT : Tgt w T 2 true true v) (hb : base ≤ T) (hown : w.ownsRow base 5 1 v m xs) (hm : m ≤ 1000000) (_hu : u < 65536) :
    Calls Tryd.prog 85 #[.pointer (some ⟨T, 0, none⟩), .int .i32 (u : Int)] w fun e w' => ∃ v', e = .returned (.tuple #[]) ∧ w'.ownsRow base 5 1 v' (m + 2) (xs ++ [.int .u8 (u % 256 : Nat), .int .u8 (u / 256 % 256 : Nat)]) ∧ Tgt w' T 2 true true v' ∧ Below base w w' := by
  obtain ⟨i0, hi0, hz0, hz1, hz2⟩ := info_parts u8_info
  have I0 := Lib.hid hi0
  have I1 := Lib.hid hz0
  have I2 := Lib.hid hz1
  have I3 := Lib.hid hz2
  clear hi0 hz0 hz1 hz2
  have k0 := hT.c0
  have HT := Lib.hid hT
  have HO := Lib.hid hown
  clear hT hown
  obtain ⟨y0, hy0⟩ : ∃ y : Nat, y = u % 256 := ⟨_, rfl⟩
  have Y0 := Lib.hid hy0
  obtain ⟨y1, hy1⟩ : ∃ y : Nat, y = u / 256 % 256 := ⟨_, rfl⟩
  have Y1 := Lib.hid hy1
  rw [← hy0, ← hy1]
  clear hy0 hy1
  go_enter Tryd.func85, Tryd.ntmps85
  go_wp2_with fail
  go_loopw [10] (fun i wr => ∃ j : Nat, i = .int .i64 j ∧ j ≤ 2 ∧ ∃ v', Hid (Below base w wr ∧ Tgt wr T 2 true true v' ∧ wr.ownsRow base 5 1 v' (m + j) (xs ++ ([.int .u8 y0, .int .u8 y1] : List Value).take j))) (fun i _ => 2 - (intOf i).toNat)
  case atStart => exact ⟨0, rfl, by omega, v, Below.refl _ _, HT.out, by simpa using HO.out⟩
  case round =>
    obtain ⟨j, rfl, hj, v', HB⟩ := hrel
    have hj' : j = 0 ∨ j = 1 ∨ j = 2 := by omega
    have hbz := HB.out.1.size
    have q0 := HB.out.2.1.c0
    have q1 := HB.out.2.1.c1
    have q2 := HB.out.2.1.c2
    have q3 := HB.out.2.1.c3
    have qt := HB.out.2.1.lt
    have qf := HB.out.2.1.fr 3
    rcases hj' with rfl | rfl | rfl
    · rw [show ((0 : Nat) : Int) = 0 from rfl]
      have e1 : IntKind.u8.wrap (u : Int) = (y0 : Int) := by rw [IntKind.wrap_u8', Y0.out]; omega
      have hown0 : wr.ownsRow base 5 1 v' (m + 0) (xs ++ ([] : List Value)) := HB.out.2.2
      have HO0 := Lib.hid hown0
      have hmx : m + 0 + 1 ≤ maxLen := by unfold maxLen; omega
      clear hown0
      go_wp2_with fail
      go_region_law
        (first
          | ((refine step_append_lies _ (by rfl) _ _ _ (by rfl) base 5 i0 _ 1 1 Tryd.underlying92 I0.out I1.out I2.out I3.out rfl (by omega) v' (m + 0) (xs ++ ([] : List Value)) (by rfl) (O7.out.alloc _) ⟨w7.heap.size, 0, none⟩ 1 1 [.int .u8 y0] (by rfl) (by rfl) (World.news_of_block (cs := #[.int .u8 y0]) (t := 5) (fr := (0, 0)) (heap_alloc_new w7 _)) (by simp [Value.oneCell']) (by omega) hmx (by omega) (by simp; omega) (w7.heap.size + 1) (by simp) ?_; intro gg cap w8 hown8 hgrow hat hlt; have T8 := Lib.hid ((T7.out.below (B := w7.heap.size) ((Below.refl _ _).alloc (Nat.le_refl _) _) z7).grown hgrow (T7.out.ne O7.out)); have q8 := T8.out.c3; have f8 := T8.out.fr 3; have O8 := Lib.hid hown8; have B8 := Lib.hid (B7.out.trans (((Below.refl _ _).alloc (by omega) _).trans (below_grown (O7.out.alloc _) hgrow (by simp; omega)))); clear hown8 hgrow hat hlt))
          | ((go_simp; go_at_call 83; refine (shift_lo 2 true 0 0 _ (by omega) (by omega) rfl).mono ?_; rintro e w7 ⟨rfl, hb7⟩; have T7 := Lib.hid ((HB.out.2.1.below (Below.refl wr.heap.size wr).drew qt).below hb7 (by simp; omega)); have O7 := Lib.hid (own_below HO0.out.drew hb7); have z7 : T < w7.heap.size := T7.out.lt; have q7 := T7.out.c3; have B7 := Lib.hid (HB.out.1.drew.trans (hb7.mono (by simp; omega))); clear hb7)))
      all_goals
        have HN := Lib.hid (own_set (T := T) (o := 3) O8.out (T8.out.ne O8.out) (.slice (some ⟨gg, 0, none⟩) (m + 1) cap))
        have HT8 := Lib.hid (T8.out.set (.slice (some ⟨gg, 0, none⟩) (m + 1) cap))
        have HB8 := Lib.hid (B8.out.setCell (p := ⟨T, 3, none⟩) hb (.slice (some ⟨gg, 0, none⟩) (m + 1) cap))
        clear e1 q7 q8 f8
        go_wp2_with fail
        go_roundw
        case rel => exact ⟨1, rfl, by omega, _, HB8.out, HT8.out, by have := HN.out; rw [List.append_assoc] at this; exact this⟩
        case measure => simp [intOf]
    · rw [show ((1 : Nat) : Int) = 1 from rfl]
      have e1 : IntKind.u8.wrap ((u : Int) / 256) = (y1 : Int) := by rw [IntKind.wrap_u8', Y1.out]; omega
      have hown0 : wr.ownsRow base 5 1 v' (m + 1) (xs ++ ([.int .u8 y0] : List Value)) := HB.out.2.2
      have HO0 := Lib.hid hown0
      have hmx : m + 1 + 1 ≤ maxLen := by unfold maxLen; omega
      clear hown0
      go_wp2_with fail
      go_region_law
        (first
          | ((refine step_append_lies _ (by rfl) _ _ _ (by rfl) base 5 i0 _ 1 1 Tryd.underlying92 I0.out I1.out I2.out I3.out rfl (by omega) v' (m + 1) (xs ++ ([.int .u8 y0] : List Value)) (by rfl) (O7.out.alloc _) ⟨w7.heap.size, 0, none⟩ 1 1 [.int .u8 y1] (by rfl) (by rfl) (World.news_of_block (cs := #[.int .u8 y1]) (t := 5) (fr := (0, 0)) (heap_alloc_new w7 _)) (by simp [Value.oneCell']) (by omega) hmx (by omega) (by simp; omega) (w7.heap.size + 1) (by simp) ?_; intro gg cap w8 hown8 hgrow hat hlt; have T8 := Lib.hid ((T7.out.below (B := w7.heap.size) ((Below.refl _ _).alloc (Nat.le_refl _) _) z7).grown hgrow (T7.out.ne O7.out)); have q8 := T8.out.c3; have f8 := T8.out.fr 3; have O8 := Lib.hid hown8; have B8 := Lib.hid (B7.out.trans (((Below.refl _ _).alloc (by omega) _).trans (below_grown (O7.out.alloc _) hgrow (by simp; omega)))); clear hown8 hgrow hat hlt))
          | ((go_simp; go_at_call 83; refine (shift_lo 2 true 1 8 _ (by omega) (by omega) rfl).mono ?_; rintro e w7 ⟨rfl, hb7⟩; have T7 := Lib.hid ((HB.out.2.1.below (Below.refl wr.heap.size wr).drew qt).below hb7 (by simp; omega)); have O7 := Lib.hid (own_below HO0.out.drew hb7); have z7 : T < w7.heap.size := T7.out.lt; have q7 := T7.out.c3; have B7 := Lib.hid (HB.out.1.drew.trans (hb7.mono (by simp; omega))); clear hb7)))
      all_goals
        have HN := Lib.hid (own_set (T := T) (o := 3) O8.out (T8.out.ne O8.out) (.slice (some ⟨gg, 0, none⟩) (m + 2) cap))
        have HT8 := Lib.hid (T8.out.set (.slice (some ⟨gg, 0, none⟩) (m + 2) cap))
        have HB8 := Lib.hid (B8.out.setCell (p := ⟨T, 3, none⟩) hb (.slice (some ⟨gg, 0, none⟩) (m + 2) cap))
        clear e1 q7 q8 f8
        go_wp2_with fail
        go_roundw
        case rel => exact ⟨2, rfl, by omega, _, HB8.out, HT8.out, by have := HN.out; rw [List.append_assoc] at this; exact this⟩
        case measure => simp [intOf]
    · rw [show ((2 : Nat) : Int) = 2 from rfl]
      go_wp2_with fail
      go_end0
      exact ⟨v', rfl, HB.out.2.2, HB.out.2.1, HB.out.1⟩
end Go.Proofs.YthnfopjjghohcaaDoor.Wd
namespace Go.Proofs.YthnfopjjghohcaaDoor.Wd
open Go.RowKit
attribute [local go_sem ↓] Go.wp_at_zero Go.wp_at_succ

set_option maxRecDepth 100000 in
set_option maxHeartbeats 4000000 in
theorem putUnit2 (base T : Nat) (v : Value) (m : Nat) (xs : List Value) (u : Nat) (w : World) (hT : Tgt w T 2 false true v) (hb : base ≤ T) (hown : w.ownsRow base 5 1 v m xs) (hm : m ≤ 1000000) (_hu : u < 65536) :
    Calls Tryd.prog 85 #[.pointer (some ⟨T, 0, none⟩), .int .i32 (u : Int)] w fun e w' => ∃ v', e = .returned (.tuple #[]) ∧ w'.ownsRow base 5 1 v' (m + 2) (xs ++ [.int .u8 (u / 256 % 256 : Nat), .int .u8 (u % 256 : Nat)]) ∧ Tgt w' T 2 false true v' ∧ Below base w w' := by
  obtain ⟨i0, hi0, hz0, hz1, hz2⟩ := info_parts u8_info
  have I0 := Lib.hid hi0
  have I1 := Lib.hid hz0
  have I2 := Lib.hid hz1
  have I3 := Lib.hid hz2
  clear hi0 hz0 hz1 hz2
  have k0 := hT.c0
  have HT := Lib.hid hT
  have HO := Lib.hid hown
  clear hT hown
  obtain ⟨y0, hy0⟩ : ∃ y : Nat, y = u / 256 % 256 := ⟨_, rfl⟩
  have Y0 := Lib.hid hy0
  obtain ⟨y1, hy1⟩ : ∃ y : Nat, y = u % 256 := ⟨_, rfl⟩
  have Y1 := Lib.hid hy1
  rw [← hy0, ← hy1]
  clear hy0 hy1
  go_enter Tryd.func85, Tryd.ntmps85
  go_wp2_with fail
  go_loopw [10] (fun i wr => ∃ j : Nat, i = .int .i64 j ∧ j ≤ 2 ∧ ∃ v', Hid (Below base w wr ∧ Tgt wr T 2 false true v' ∧ wr.ownsRow base 5 1 v' (m + j) (xs ++ ([.int .u8 y0, .int .u8 y1] : List Value).take j))) (fun i _ => 2 - (intOf i).toNat)
  case atStart => exact ⟨0, rfl, by omega, v, Below.refl _ _, HT.out, by simpa using HO.out⟩
  case round =>
    obtain ⟨j, rfl, hj, v', HB⟩ := hrel
    have hj' : j = 0 ∨ j = 1 ∨ j = 2 := by omega
    have hbz := HB.out.1.size
    have q0 := HB.out.2.1.c0
    have q1 := HB.out.2.1.c1
    have q2 := HB.out.2.1.c2
    have q3 := HB.out.2.1.c3
    have qt := HB.out.2.1.lt
    have qf := HB.out.2.1.fr 3
    rcases hj' with rfl | rfl | rfl
    · rw [show ((0 : Nat) : Int) = 0 from rfl]
      have e1 : IntKind.u8.wrap ((u : Int) / 256) = (y0 : Int) := by rw [IntKind.wrap_u8', Y0.out]; omega
      have hown0 : wr.ownsRow base 5 1 v' (m + 0) (xs ++ ([] : List Value)) := HB.out.2.2
      have HO0 := Lib.hid hown0
      have hmx : m + 0 + 1 ≤ maxLen := by unfold maxLen; omega
      clear hown0
      go_wp2_with fail
      go_region_law
        (first
          | ((refine step_append_lies _ (by rfl) _ _ _ (by rfl) base 5 i0 _ 1 1 Tryd.underlying92 I0.out I1.out I2.out I3.out rfl (by omega) v' (m + 0) (xs ++ ([] : List Value)) (by rfl) (O7.out.alloc _) ⟨w7.heap.size, 0, none⟩ 1 1 [.int .u8 y0] (by rfl) (by rfl) (World.news_of_block (cs := #[.int .u8 y0]) (t := 5) (fr := (0, 0)) (heap_alloc_new w7 _)) (by simp [Value.oneCell']) (by omega) hmx (by omega) (by simp; omega) (w7.heap.size + 1) (by simp) ?_; intro gg cap w8 hown8 hgrow hat hlt; have T8 := Lib.hid ((T7.out.below (B := w7.heap.size) ((Below.refl _ _).alloc (Nat.le_refl _) _) z7).grown hgrow (T7.out.ne O7.out)); have q8 := T8.out.c3; have f8 := T8.out.fr 3; have O8 := Lib.hid hown8; have B8 := Lib.hid (B7.out.trans (((Below.refl _ _).alloc (by omega) _).trans (below_grown (O7.out.alloc _) hgrow (by simp; omega)))); clear hown8 hgrow hat hlt))
          | ((go_simp; go_at_call 83; refine (shift_hi 2 true 0 8 _ (by omega) (by omega) (by omega) rfl).mono ?_; rintro e w7 ⟨rfl, hb7⟩; have T7 := Lib.hid ((HB.out.2.1.below (Below.refl wr.heap.size wr).drew qt).below hb7 (by simp; omega)); have O7 := Lib.hid (own_below HO0.out.drew hb7); have z7 : T < w7.heap.size := T7.out.lt; have q7 := T7.out.c3; have B7 := Lib.hid (HB.out.1.drew.trans (hb7.mono (by simp; omega))); clear hb7)))
      all_goals
        have HN := Lib.hid (own_set (T := T) (o := 3) O8.out (T8.out.ne O8.out) (.slice (some ⟨gg, 0, none⟩) (m + 1) cap))
        have HT8 := Lib.hid (T8.out.set (.slice (some ⟨gg, 0, none⟩) (m + 1) cap))
        have HB8 := Lib.hid (B8.out.setCell (p := ⟨T, 3, none⟩) hb (.slice (some ⟨gg, 0, none⟩) (m + 1) cap))
        clear e1 q7 q8 f8
        go_wp2_with fail
        go_roundw
        case rel => exact ⟨1, rfl, by omega, _, HB8.out, HT8.out, by have := HN.out; rw [List.append_assoc] at this; exact this⟩
        case measure => simp [intOf]
    · rw [show ((1 : Nat) : Int) = 1 from rfl]
      have e1 : IntKind.u8.wrap (u : Int) = (y1 : Int) := by rw [IntKind.wrap_u8', Y1.out]; omega
      have hown0 : wr.ownsRow base 5 1 v' (m + 1) (xs ++ ([.int .u8 y0] : List Value)) := HB.out.2.2
      have HO0 := Lib.hid hown0
      have hmx : m + 1 + 1 ≤ maxLen := by unfold maxLen; omega
      clear hown0
      go_wp2_with fail
      go_region_law
        (first
          | ((refine step_append_lies _ (by rfl) _ _ _ (by rfl) base 5 i0 _ 1 1 Tryd.underlying92 I0.out I1.out I2.out I3.out rfl (by omega) v' (m + 1) (xs ++ ([.int .u8 y0] : List Value)) (by rfl) (O7.out.alloc _) ⟨w7.heap.size, 0, none⟩ 1 1 [.int .u8 y1] (by rfl) (by rfl) (World.news_of_block (cs := #[.int .u8 y1]) (t := 5) (fr := (0, 0)) (heap_alloc_new w7 _)) (by simp [Value.oneCell']) (by omega) hmx (by omega) (by simp; omega) (w7.heap.size + 1) (by simp) ?_; intro gg cap w8 hown8 hgrow hat hlt; have T8 := Lib.hid ((T7.out.below (B := w7.heap.size) ((Below.refl _ _).alloc (Nat.le_refl _) _) z7).grown hgrow (T7.out.ne O7.out)); have q8 := T8.out.c3; have f8 := T8.out.fr 3; have O8 := Lib.hid hown8; have B8 := Lib.hid (B7.out.trans (((Below.refl _ _).alloc (by omega) _).trans (below_grown (O7.out.alloc _) hgrow (by simp; omega)))); clear hown8 hgrow hat hlt))
          | ((go_simp; go_at_call 83; refine (shift_hi 2 true 1 0 _ (by omega) (by omega) (by omega) rfl).mono ?_; rintro e w7 ⟨rfl, hb7⟩; have T7 := Lib.hid ((HB.out.2.1.below (Below.refl wr.heap.size wr).drew qt).below hb7 (by simp; omega)); have O7 := Lib.hid (own_below HO0.out.drew hb7); have z7 : T < w7.heap.size := T7.out.lt; have q7 := T7.out.c3; have B7 := Lib.hid (HB.out.1.drew.trans (hb7.mono (by simp; omega))); clear hb7)))
      all_goals
        have HN := Lib.hid (own_set (T := T) (o := 3) O8.out (T8.out.ne O8.out) (.slice (some ⟨gg, 0, none⟩) (m + 2) cap))
        have HT8 := Lib.hid (T8.out.set (.slice (some ⟨gg, 0, none⟩) (m + 2) cap))
        have HB8 := Lib.hid (B8.out.setCell (p := ⟨T, 3, none⟩) hb (.slice (some ⟨gg, 0, none⟩) (m + 2) cap))
        clear e1 q7 q8 f8
        go_wp2_with fail
        go_roundw
        case rel => exact ⟨2, rfl, by omega, _, HB8.out, HT8.out, by have := HN.out; rw [List.append_assoc] at this; exact this⟩
        case measure => simp [intOf]
    · rw [show ((2 : Nat) : Int) = 2 from rfl]
      go_wp2_with fail
      go_end0
      exact ⟨v', rfl, HB.out.2.2, HB.out.2.1, HB.out.1⟩
end Go.Proofs.YthnfopjjghohcaaDoor.Wd
namespace Go.Proofs.YthnfopjjghohcaaDoor.Wd
open Go.RowKit
attribute [local go_sem ↓] Go.wp_at_zero Go.wp_at_succ

set_option maxRecDepth 100000 in
set_option maxHeartbeats 4000000 in
theorem putUnit3 (base T : Nat) (v : Value) (m : Nat) (xs : List Value) (u : Nat) (w : World) (hT : Tgt w T 4 true false v) (hb : base ≤ T) (hown : w.ownsRow base 5 1 v m xs) (hm : m ≤ 1000000) (hu : u < 1114112) :
    Calls Tryd.prog 85 #[.pointer (some ⟨T, 0, none⟩), .int .i32 (u : Int)] w fun e w' => ∃ v', e = .returned (.tuple #[]) ∧ w'.ownsRow base 5 1 v' (m + 4) (xs ++ [.int .u8 (u % 256 : Nat), .int .u8 (u / 256 % 256 : Nat), .int .u8 (u / 65536 % 256 : Nat), .int .u8 (u / 16777216 % 256 : Nat)]) ∧ Tgt w' T 4 true false v' ∧ Below base w w' := by
  obtain ⟨i0, hi0, hz0, hz1, hz2⟩ := info_parts u8_info
  have I0 := Lib.hid hi0
  have I1 := Lib.hid hz0
  have I2 := Lib.hid hz1
  have I3 := Lib.hid hz2
  clear hi0 hz0 hz1 hz2
  have k0 := hT.c0
  have HT := Lib.hid hT
  have HO := Lib.hid hown
  clear hT hown
  obtain ⟨y0, hy0⟩ : ∃ y : Nat, y = u % 256 := ⟨_, rfl⟩
  have Y0 := Lib.hid hy0
  obtain ⟨y1, hy1⟩ : ∃ y : Nat, y = u / 256 % 256 := ⟨_, rfl⟩
  have Y1 := Lib.hid hy1
  obtain ⟨y2, hy2⟩ : ∃ y : Nat, y = u / 65536 % 256 := ⟨_, rfl⟩
  have Y2 := Lib.hid hy2
  obtain ⟨y3, hy3⟩ : ∃ y : Nat, y = u / 16777216 % 256 := ⟨_, rfl⟩
  have Y3 := Lib.hid hy3
  rw [← hy0, ← hy1, ← hy2, ← hy3]
  clear hy0 hy1 hy2 hy3
  go_enter Tryd.func85, Tryd.ntmps85
  go_wp2_with fail
  go_loopw [10] (fun i wr => ∃ j : Nat, i = .int .i64 j ∧ j ≤ 4 ∧ ∃ v', Hid (Below base w wr ∧ Tgt wr T 4 true false v' ∧ wr.ownsRow base 5 1 v' (m + j) (xs ++ ([.int .u8 y0, .int .u8 y1, .int .u8 y2, .int .u8 y3] : List Value).take j))) (fun i _ => 4 - (intOf i).toNat)
  case atStart => exact ⟨0, rfl, by omega, v, Below.refl _ _, HT.out, by simpa using HO.out⟩
  case round =>
    obtain ⟨j, rfl, hj, v', HB⟩ := hrel
    have hj' : j = 0 ∨ j = 1 ∨ j = 2 ∨ j = 3 ∨ j = 4 := by omega
    have hbz := HB.out.1.size
    have q0 := HB.out.2.1.c0
    have q1 := HB.out.2.1.c1
    have q2 := HB.out.2.1.c2
    have q3 := HB.out.2.1.c3
    have qt := HB.out.2.1.lt
    have qf := HB.out.2.1.fr 3
    rcases hj' with rfl | rfl | rfl | rfl | rfl
    · rw [show ((0 : Nat) : Int) = 0 from rfl]
      have e1 : IntKind.u8.wrap (u : Int) = (y0 : Int) := by rw [IntKind.wrap_u8', Y0.out]; omega
      have hown0 : wr.ownsRow base 5 1 v' (m + 0) (xs ++ ([] : List Value)) := HB.out.2.2
      have HO0 := Lib.hid hown0
      have hmx : m + 0 + 1 ≤ maxLen := by unfold maxLen; omega
      clear hown0
      go_wp2_with fail
      go_region_law
        (first
          | ((refine step_append_lies _ (by rfl) _ _ _ (by rfl) base 5 i0 _ 1 1 Tryd.underlying92 I0.out I1.out I2.out I3.out rfl (by omega) v' (m + 0) (xs ++ ([] : List Value)) (by rfl) (O7.out.alloc _) ⟨w7.heap.size, 0, none⟩ 1 1 [.int .u8 y0] (by rfl) (by rfl) (World.news_of_block (cs := #[.int .u8 y0]) (t := 5) (fr := (0, 0)) (heap_alloc_new w7 _)) (by simp [Value.oneCell']) (by omega) hmx (by omega) (by simp; omega) (w7.heap.size + 1) (by simp) ?_; intro gg cap w8 hown8 hgrow hat hlt; have T8 := Lib.hid ((T7.out.below (B := w7.heap.size) ((Below.refl _ _).alloc (Nat.le_refl _) _) z7).grown hgrow (T7.out.ne O7.out)); have q8 := T8.out.c3; have f8 := T8.out.fr 3; have O8 := Lib.hid hown8; have B8 := Lib.hid (B7.out.trans (((Below.refl _ _).alloc (by omega) _).trans (below_grown (O7.out.alloc _) hgrow (by simp; omega)))); clear hown8 hgrow hat hlt))
          | ((go_simp; go_at_call 83; refine (shift_lo 4 false 0 0 _ (by omega) (by omega) rfl).mono ?_; rintro e w7 ⟨rfl, hb7⟩; have T7 := Lib.hid ((HB.out.2.1.below (Below.refl wr.heap.size wr).drew qt).below hb7 (by simp; omega)); have O7 := Lib.hid (own_below HO0.out.drew hb7); have z7 : T < w7.heap.size := T7.out.lt; have q7 := T7.out.c3; have B7 := Lib.hid (HB.out.1.drew.trans (hb7.mono (by simp; omega))); clear hb7)))
      all_goals
        have HN := Lib.hid (own_set (T := T) (o := 3) O8.out (T8.out.ne O8.out) (.slice (some ⟨gg, 0, none⟩) (m + 1) cap))
        have HT8 := Lib.hid (T8.out.set (.slice (some ⟨gg, 0, none⟩) (m + 1) cap))
        have HB8 := Lib.hid (B8.out.setCell (p := ⟨T, 3, none⟩) hb (.slice (some ⟨gg, 0, none⟩) (m + 1) cap))
        clear e1 q7 q8 f8
        go_wp2_with fail
        go_roundw
        case rel => exact ⟨1, rfl, by omega, _, HB8.out, HT8.out, by have := HN.out; rw [List.append_assoc] at this; exact this⟩
        case measure => simp [intOf]
    · rw [show ((1 : Nat) : Int) = 1 from rfl]
      have e1 : IntKind.u8.wrap ((u : Int) / 256) = (y1 : Int) := by rw [IntKind.wrap_u8', Y1.out]; omega
      have hown0 : wr.ownsRow base 5 1 v' (m + 1) (xs ++ ([.int .u8 y0] : List Value)) := HB.out.2.2
      have HO0 := Lib.hid hown0
      have hmx : m + 1 + 1 ≤ maxLen := by unfold maxLen; omega
      clear hown0
      go_wp2_with fail
      go_region_law
        (first
          | ((refine step_append_lies _ (by rfl) _ _ _ (by rfl) base 5 i0 _ 1 1 Tryd.underlying92 I0.out I1.out I2.out I3.out rfl (by omega) v' (m + 1) (xs ++ ([.int .u8 y0] : List Value)) (by rfl) (O7.out.alloc _) ⟨w7.heap.size, 0, none⟩ 1 1 [.int .u8 y1] (by rfl) (by rfl) (World.news_of_block (cs := #[.int .u8 y1]) (t := 5) (fr := (0, 0)) (heap_alloc_new w7 _)) (by simp [Value.oneCell']) (by omega) hmx (by omega) (by simp; omega) (w7.heap.size + 1) (by simp) ?_; intro gg cap w8 hown8 hgrow hat hlt; have T8 := Lib.hid ((T7.out.below (B := w7.heap.size) ((Below.refl _ _).alloc (Nat.le_refl _) _) z7).grown hgrow (T7.out.ne O7.out)); have q8 := T8.out.c3; have f8 := T8.out.fr 3; have O8 := Lib.hid hown8; have B8 := Lib.hid (B7.out.trans (((Below.refl _ _).alloc (by omega) _).trans (below_grown (O7.out.alloc _) hgrow (by simp; omega)))); clear hown8 hgrow hat hlt))
          | ((go_simp; go_at_call 83; refine (shift_lo 4 false 1 8 _ (by omega) (by omega) rfl).mono ?_; rintro e w7 ⟨rfl, hb7⟩; have T7 := Lib.hid ((HB.out.2.1.below (Below.refl wr.heap.size wr).drew qt).below hb7 (by simp; omega)); have O7 := Lib.hid (own_below HO0.out.drew hb7); have z7 : T < w7.heap.size := T7.out.lt; have q7 := T7.out.c3; have B7 := Lib.hid (HB.out.1.drew.trans (hb7.mono (by simp; omega))); clear hb7)))
      all_goals
        have HN := Lib.hid (own_set (T := T) (o := 3) O8.out (T8.out.ne O8.out) (.slice (some ⟨gg, 0, none⟩) (m + 2) cap))
        have HT8 := Lib.hid (T8.out.set (.slice (some ⟨gg, 0, none⟩) (m + 2) cap))
        have HB8 := Lib.hid (B8.out.setCell (p := ⟨T, 3, none⟩) hb (.slice (some ⟨gg, 0, none⟩) (m + 2) cap))
        clear e1 q7 q8 f8
        go_wp2_with fail
        go_roundw
        case rel => exact ⟨2, rfl, by omega, _, HB8.out, HT8.out, by have := HN.out; rw [List.append_assoc] at this; exact this⟩
        case measure => simp [intOf]
    · rw [show ((2 : Nat) : Int) = 2 from rfl]
      have e1 : IntKind.u8.wrap ((u : Int) / 65536) = (y2 : Int) := by rw [IntKind.wrap_u8', Y2.out]; omega
      have hown0 : wr.ownsRow base 5 1 v' (m + 2) (xs ++ ([.int .u8 y0, .int .u8 y1] : List Value)) := HB.out.2.2
      have HO0 := Lib.hid hown0
      have hmx : m + 2 + 1 ≤ maxLen := by unfold maxLen; omega
      clear hown0
      go_wp2_with fail
      go_region_law
        (first
          | ((refine step_append_lies _ (by rfl) _ _ _ (by rfl) base 5 i0 _ 1 1 Tryd.underlying92 I0.out I1.out I2.out I3.out rfl (by omega) v' (m + 2) (xs ++ ([.int .u8 y0, .int .u8 y1] : List Value)) (by rfl) (O7.out.alloc _) ⟨w7.heap.size, 0, none⟩ 1 1 [.int .u8 y2] (by rfl) (by rfl) (World.news_of_block (cs := #[.int .u8 y2]) (t := 5) (fr := (0, 0)) (heap_alloc_new w7 _)) (by simp [Value.oneCell']) (by omega) hmx (by omega) (by simp; omega) (w7.heap.size + 1) (by simp) ?_; intro gg cap w8 hown8 hgrow hat hlt; have T8 := Lib.hid ((T7.out.below (B := w7.heap.size) ((Below.refl _ _).alloc (Nat.le_refl _) _) z7).grown hgrow (T7.out.ne O7.out)); have q8 := T8.out.c3; have f8 := T8.out.fr 3; have O8 := Lib.hid hown8; have B8 := Lib.hid (B7.out.trans (((Below.refl _ _).alloc (by omega) _).trans (below_grown (O7.out.alloc _) hgrow (by simp; omega)))); clear hown8 hgrow hat hlt))
          | ((go_simp; go_at_call 83; refine (shift_lo 4 false 2 16 _ (by omega) (by omega) rfl).mono ?_; rintro e w7 ⟨rfl, hb7⟩; have T7 := Lib.hid ((HB.out.2.1.below (Below.refl wr.heap.size wr).drew qt).below hb7 (by simp; omega)); have O7 := Lib.hid (own_below HO0.out.drew hb7); have z7 : T < w7.heap.size := T7.out.lt; have q7 := T7.out.c3; have B7 := Lib.hid (HB.out.1.drew.trans (hb7.mono (by simp; omega))); clear hb7)))
      all_goals
        have HN := Lib.hid (own_set (T := T) (o := 3) O8.out (T8.out.ne O8.out) (.slice (some ⟨gg, 0, none⟩) (m + 3) cap))
        have HT8 := Lib.hid (T8.out.set (.slice (some ⟨gg, 0, none⟩) (m + 3) cap))
        have HB8 := Lib.hid (B8.out.setCell (p := ⟨T, 3, none⟩) hb (.slice (some ⟨gg, 0, none⟩) (m + 3) cap))
        clear e1 q7 q8 f8
        go_wp2_with fail
        go_roundw
        case rel => exact ⟨3, rfl, by omega, _, HB8.out, HT8.out, by have := HN.out; rw [List.append_assoc] at this; exact this⟩
        case measure => simp [intOf]
    · rw [show ((3 : Nat) : Int) = 3 from rfl]
      have e1 : IntKind.u8.wrap ((u : Int) / 16777216) = (y3 : Int) := by rw [IntKind.wrap_u8', Y3.out]; omega
      have hown0 : wr.ownsRow base 5 1 v' (m + 3) (xs ++ ([.int .u8 y0, .int .u8 y1, .int .u8 y2] : List Value)) := HB.out.2.2
      have HO0 := Lib.hid hown0
      have hmx : m + 3 + 1 ≤ maxLen := by unfold maxLen; omega
      clear hown0
      go_wp2_with fail
      go_region_law
        (first
          | ((refine step_append_lies _ (by rfl) _ _ _ (by rfl) base 5 i0 _ 1 1 Tryd.underlying92 I0.out I1.out I2.out I3.out rfl (by omega) v' (m + 3) (xs ++ ([.int .u8 y0, .int .u8 y1, .int .u8 y2] : List Value)) (by rfl) (O7.out.alloc _) ⟨w7.heap.size, 0, none⟩ 1 1 [.int .u8 y3] (by rfl) (by rfl) (World.news_of_block (cs := #[.int .u8 y3]) (t := 5) (fr := (0, 0)) (heap_alloc_new w7 _)) (by simp [Value.oneCell']) (by omega) hmx (by omega) (by simp; omega) (w7.heap.size + 1) (by simp) ?_; intro gg cap w8 hown8 hgrow hat hlt; have T8 := Lib.hid ((T7.out.below (B := w7.heap.size) ((Below.refl _ _).alloc (Nat.le_refl _) _) z7).grown hgrow (T7.out.ne O7.out)); have q8 := T8.out.c3; have f8 := T8.out.fr 3; have O8 := Lib.hid hown8; have B8 := Lib.hid (B7.out.trans (((Below.refl _ _).alloc (by omega) _).trans (below_grown (O7.out.alloc _) hgrow (by simp; omega)))); clear hown8 hgrow hat hlt))
          | ((go_simp; go_at_call 83; refine (shift_lo 4 false 3 24 _ (by omega) (by omega) rfl).mono ?_; rintro e w7 ⟨rfl, hb7⟩; have T7 := Lib.hid ((HB.out.2.1.below (Below.refl wr.heap.size wr).drew qt).below hb7 (by simp; omega)); have O7 := Lib.hid (own_below HO0.out.drew hb7); have z7 : T < w7.heap.size := T7.out.lt; have q7 := T7.out.c3; have B7 := Lib.hid (HB.out.1.drew.trans (hb7.mono (by simp; omega))); clear hb7)))
      all_goals
        have HN := Lib.hid (own_set (T := T) (o := 3) O8.out (T8.out.ne O8.out) (.slice (some ⟨gg, 0, none⟩) (m + 4) cap))
        have HT8 := Lib.hid (T8.out.set (.slice (some ⟨gg, 0, none⟩) (m + 4) cap))
        have HB8 := Lib.hid (B8.out.setCell (p := ⟨T, 3, none⟩) hb (.slice (some ⟨gg, 0, none⟩) (m + 4) cap))
        clear e1 q7 q8 f8
        go_wp2_with fail
        go_roundw
        case rel => exact ⟨4, rfl, by omega, _, HB8.out, HT8.out, by have := HN.out; rw [List.append_assoc] at this; exact this⟩
        case measure => simp [intOf]
    · rw [show ((4 : Nat) : Int) = 4 from rfl]
      go_wp2_with fail
      go_end0
      exact ⟨v', rfl, HB.out.2.2, HB.out.2.1, HB.out.1⟩
end Go.Proofs.YthnfopjjghohcaaDoor.Wd
namespace Go.Proofs.YthnfopjjghohcaaDoor.Wd
open Go.RowKit
attribute [local go_sem ↓] Go.wp_at_zero Go.wp_at_succ

set_option maxRecDepth 100000 in
set_option maxHeartbeats 4000000 in
theorem putUnit4 (base T : Nat) (v : Value) (m : Nat) (xs : List Value) (u : Nat) (w : World) (hT : Tgt w T 4 false false v) (hb : base ≤ T) (hown : w.ownsRow base 5 1 v m xs) (hm : m ≤ 1000000) (hu : u < 1114112) :
    Calls Tryd.prog 85 #[.pointer (some ⟨T, 0, none⟩), .int .i32 (u : Int)] w fun e w' => ∃ v', e = .returned (.tuple #[]) ∧ w'.ownsRow base 5 1 v' (m + 4) (xs ++ [.int .u8 (u / 16777216 % 256 : Nat), .int .u8 (u / 65536 % 256 : Nat), .int .u8 (u / 256 % 256 : Nat), .int .u8 (u % 256 : Nat)]) ∧ Tgt w' T 4 false false v' ∧ Below base w w' := by
  obtain ⟨i0, hi0, hz0, hz1, hz2⟩ := info_parts u8_info
  have I0 := Lib.hid hi0
  have I1 := Lib.hid hz0
  have I2 := Lib.hid hz1
  have I3 := Lib.hid hz2
  clear hi0 hz0 hz1 hz2
  have k0 := hT.c0
  have HT := Lib.hid hT
  have HO := Lib.hid hown
  clear hT hown
  obtain ⟨y0, hy0⟩ : ∃ y : Nat, y = u / 16777216 % 256 := ⟨_, rfl⟩
  have Y0 := Lib.hid hy0
  obtain ⟨y1, hy1⟩ : ∃ y : Nat, y = u / 65536 % 256 := ⟨_, rfl⟩
  have Y1 := Lib.hid hy1
  obtain ⟨y2, hy2⟩ : ∃ y : Nat, y = u / 256 % 256 := ⟨_, rfl⟩
  have Y2 := Lib.hid hy2
  obtain ⟨y3, hy3⟩ : ∃ y : Nat, y = u % 256 := ⟨_, rfl⟩
  have Y3 := Lib.hid hy3
  rw [← hy0, ← hy1, ← hy2, ← hy3]
  clear hy0 hy1 hy2 hy3
  go_enter Tryd.func85, Tryd.ntmps85
  go_wp2_with fail
  go_loopw [10] (fun i wr => ∃ j : Nat, i = .int .i64 j ∧ j ≤ 4 ∧ ∃ v', Hid (Below base w wr ∧ Tgt wr T 4 false false v' ∧ wr.ownsRow base 5 1 v' (m + j) (xs ++ ([.int .u8 y0, .int .u8 y1, .int .u8 y2, .int .u8 y3] : List Value).take j))) (fun i _ => 4 - (intOf i).toNat)
  case atStart => exact ⟨0, rfl, by omega, v, Below.refl _ _, HT.out, by simpa using HO.out⟩
  case round =>
    obtain ⟨j, rfl, hj, v', HB⟩ := hrel
    have hj' : j = 0 ∨ j = 1 ∨ j = 2 ∨ j = 3 ∨ j = 4 := by omega
    have hbz := HB.out.1.size
    have q0 := HB.out.2.1.c0
    have q1 := HB.out.2.1.c1
    have q2 := HB.out.2.1.c2
    have q3 := HB.out.2.1.c3
    have qt := HB.out.2.1.lt
    have qf := HB.out.2.1.fr 3
    rcases hj' with rfl | rfl | rfl | rfl | rfl
    · rw [show ((0 : Nat) : Int) = 0 from rfl]
      have e1 : IntKind.u8.wrap ((u : Int) / 16777216) = (y0 : Int) := by rw [IntKind.wrap_u8', Y0.out]; omega
      have hown0 : wr.ownsRow base 5 1 v' (m + 0) (xs ++ ([] : List Value)) := HB.out.2.2
      have HO0 := Lib.hid hown0
      have hmx : m + 0 + 1 ≤ maxLen := by unfold maxLen; omega
      clear hown0
      go_wp2_with fail
      go_region_law
        (first
          | ((refine step_append_lies _ (by rfl) _ _ _ (by rfl) base 5 i0 _ 1 1 Tryd.underlying92 I0.out I1.out I2.out I3.out rfl (by omega) v' (m + 0) (xs ++ ([] : List Value)) (by rfl) (O7.out.alloc _) ⟨w7.heap.size, 0, none⟩ 1 1 [.int .u8 y0] (by rfl) (by rfl) (World.news_of_block (cs := #[.int .u8 y0]) (t := 5) (fr := (0, 0)) (heap_alloc_new w7 _)) (by simp [Value.oneCell']) (by omega) hmx (by omega) (by simp; omega) (w7.heap.size + 1) (by simp) ?_; intro gg cap w8 hown8 hgrow hat hlt; have T8 := Lib.hid ((T7.out.below (B := w7.heap.size) ((Below.refl _ _).alloc (Nat.le_refl _) _) z7).grown hgrow (T7.out.ne O7.out)); have q8 := T8.out.c3; have f8 := T8.out.fr 3; have O8 := Lib.hid hown8; have B8 := Lib.hid (B7.out.trans (((Below.refl _ _).alloc (by omega) _).trans (below_grown (O7.out.alloc _) hgrow (by simp; omega)))); clear hown8 hgrow hat hlt))
          | ((go_simp; go_at_call 83; refine (shift_hi 4 false 0 24 _ (by omega) (by omega) (by omega) rfl).mono ?_; rintro e w7 ⟨rfl, hb7⟩; have T7 := Lib.hid ((HB.out.2.1.below (Below.refl wr.heap.size wr).drew qt).below hb7 (by simp; omega)); have O7 := Lib.hid (own_below HO0.out.drew hb7); have z7 : T < w7.heap.size := T7.out.lt; have q7 := T7.out.c3; have B7 := Lib.hid (HB.out.1.drew.trans (hb7.mono (by simp; omega))); clear hb7)))
      all_goals
        have HN := Lib.hid (own_set (T := T) (o := 3) O8.out (T8.out.ne O8.out) (.slice (some ⟨gg, 0, none⟩) (m + 1) cap))
        have HT8 := Lib.hid (T8.out.set (.slice (some ⟨gg, 0, none⟩) (m + 1) cap))
        have HB8 := Lib.hid (B8.out.setCell (p := ⟨T, 3, none⟩) hb (.slice (some ⟨gg, 0, none⟩) (m + 1) cap))
        clear e1 q7 q8 f8
        go_wp2_with fail
        go_roundw
        case rel => exact ⟨1, rfl, by omega, _, HB8.out, HT8.out, by have := HN.out; rw [List.append_assoc] at this; exact this⟩
        case measure => simp [intOf]
    · rw [show ((1 : Nat) : Int) = 1 from rfl]
      have e1 : IntKind.u8.wrap ((u : Int) / 65536) = (y1 : Int) := by rw [IntKind.wrap_u8', Y1.out]; omega
      have hown0 : wr.ownsRow base 5 1 v' (m + 1) (xs ++ ([.int .u8 y0] : List Value)) := HB.out.2.2
      have HO0 := Lib.hid hown0
      have hmx : m + 1 + 1 ≤ maxLen := by unfold maxLen; omega
      clear hown0
      go_wp2_with fail
      go_region_law
        (first
          | ((refine step_append_lies _ (by rfl) _ _ _ (by rfl) base 5 i0 _ 1 1 Tryd.underlying92 I0.out I1.out I2.out I3.out rfl (by omega) v' (m + 1) (xs ++ ([.int .u8 y0] : List Value)) (by rfl) (O7.out.alloc _) ⟨w7.heap.size, 0, none⟩ 1 1 [.int .u8 y1] (by rfl) (by rfl) (World.news_of_block (cs := #[.int .u8 y1]) (t := 5) (fr := (0, 0)) (heap_alloc_new w7 _)) (by simp [Value.oneCell']) (by omega) hmx (by omega) (by simp; omega) (w7.heap.size + 1) (by simp) ?_; intro gg cap w8 hown8 hgrow hat hlt; have T8 := Lib.hid ((T7.out.below (B := w7.heap.size) ((Below.refl _ _).alloc (Nat.le_refl _) _) z7).grown hgrow (T7.out.ne O7.out)); have q8 := T8.out.c3; have f8 := T8.out.fr 3; have O8 := Lib.hid hown8; have B8 := Lib.hid (B7.out.trans (((Below.refl _ _).alloc (by omega) _).trans (below_grown (O7.out.alloc _) hgrow (by simp; omega)))); clear hown8 hgrow hat hlt))
          | ((go_simp; go_at_call 83; refine (shift_hi 4 false 1 16 _ (by omega) (by omega) (by omega) rfl).mono ?_; rintro e w7 ⟨rfl, hb7⟩; have T7 := Lib.hid ((HB.out.2.1.below (Below.refl wr.heap.size wr).drew qt).below hb7 (by simp; omega)); have O7 := Lib.hid (own_below HO0.out.drew hb7); have z7 : T < w7.heap.size := T7.out.lt; have q7 := T7.out.c3; have B7 := Lib.hid (HB.out.1.drew.trans (hb7.mono (by simp; omega))); clear hb7)))
      all_goals
        have HN := Lib.hid (own_set (T := T) (o := 3) O8.out (T8.out.ne O8.out) (.slice (some ⟨gg, 0, none⟩) (m + 2) cap))
        have HT8 := Lib.hid (T8.out.set (.slice (some ⟨gg, 0, none⟩) (m + 2) cap))
        have HB8 := Lib.hid (B8.out.setCell (p := ⟨T, 3, none⟩) hb (.slice (some ⟨gg, 0, none⟩) (m + 2) cap))
        clear e1 q7 q8 f8
        go_wp2_with fail
        go_roundw
        case rel => exact ⟨2, rfl, by omega, _, HB8.out, HT8.out, by have := HN.out; rw [List.append_assoc] at this; exact this⟩
        case measure => simp [intOf]
    · rw [show ((2 : Nat) : Int) = 2 from rfl]
      have e1 : IntKind.u8.wrap ((u : Int) / 256) = (y2 : Int) := by rw [IntKind.wrap_u8', Y2.out]; omega
      have hown0 : wr.ownsRow base 5 1 v' (m + 2) (xs ++ ([.int .u8 y0, .int .u8 y1] : List Value)) := HB.out.2.2
      have HO0 := Lib.hid hown0
      have hmx : m + 2 + 1 ≤ maxLen := by unfold maxLen; omega
      clear hown0
      go_wp2_with fail
      go_region_law
        (first
          | ((refine step_append_lies _ (by rfl) _ _ _ (by rfl) base 5 i0 _ 1 1 Tryd.underlying92 I0.out I1.out I2.out I3.out rfl (by omega) v' (m + 2) (xs ++ ([.int .u8 y0, .int .u8 y1] : List Value)) (by rfl) (O7.out.alloc _) ⟨w7.heap.size, 0, none⟩ 1 1 [.int .u8 y2] (by rfl) (by rfl) (World.news_of_block (cs := #[.int .u8 y2]) (t := 5) (fr := (0, 0)) (heap_alloc_new w7 _)) (by simp [Value.oneCell']) (by omega) hmx (by omega) (by simp; omega) (w7.heap.size + 1) (by simp) ?_; intro gg cap w8 hown8 hgrow hat hlt; have T8 := Lib.hid ((T7.out.below (B := w7.heap.size) ((Below.refl _ _).alloc (Nat.le_refl _) _) z7).grown hgrow (T7.out.ne O7.out)); have q8 := T8.out.c3; have f8 := T8.out.fr 3; have O8 := Lib.hid hown8; have B8 := Lib.hid (B7.out.trans (((Below.refl _ _).alloc (by omega) _).trans (below_grown (O7.out.alloc _) hgrow (by simp; omega)))); clear hown8 hgrow hat hlt))
          | ((go_simp; go_at_call 83; refine (shift_hi 4 false 2 8 _ (by omega) (by omega) (by omega) rfl).mono ?_; rintro e w7 ⟨rfl, hb7⟩; have T7 := Lib.hid ((HB.out.2.1.below (Below.refl wr.heap.size wr).drew qt).below hb7 (by simp; omega)); have O7 := Lib.hid (own_below HO0.out.drew hb7); have z7 : T < w7.heap.size := T7.out.lt; have q7 := T7.out.c3; have B7 := Lib.hid (HB.out.1.drew.trans (hb7.mono (by simp; omega))); clear hb7)))
      all_goals
        have HN := Lib.hid (own_set (T := T) (o := 3) O8.out (T8.out.ne O8.out) (.slice (some ⟨gg, 0, none⟩) (m + 3) cap))
        have HT8 := Lib.hid (T8.out.set (.slice (some ⟨gg, 0, none⟩) (m + 3) cap))
        have HB8 := Lib.hid (B8.out.setCell (p := ⟨T, 3, none⟩) hb (.slice (some ⟨gg, 0, none⟩) (m + 3) cap))
        clear e1 q7 q8 f8
        go_wp2_with fail
        go_roundw
        case rel => exact ⟨3, rfl, by omega, _, HB8.out, HT8.out, by have := HN.out; rw [List.append_assoc] at this; exact this⟩
        case measure => simp [intOf]
    · rw [show ((3 : Nat) : Int) = 3 from rfl]
      have e1 : IntKind.u8.wrap (u : Int) = (y3 : Int) := by rw [IntKind.wrap_u8', Y3.out]; omega
      have hown0 : wr.ownsRow base 5 1 v' (m + 3) (xs ++ ([.int .u8 y0, .int .u8 y1, .int .u8 y2] : List Value)) := HB.out.2.2
      have HO0 := Lib.hid hown0
      have hmx : m + 3 + 1 ≤ maxLen := by unfold maxLen; omega
      clear hown0
      go_wp2_with fail
      go_region_law
        (first
          | ((refine step_append_lies _ (by rfl) _ _ _ (by rfl) base 5 i0 _ 1 1 Tryd.underlying92 I0.out I1.out I2.out I3.out rfl (by omega) v' (m + 3) (xs ++ ([.int .u8 y0, .int .u8 y1, .int .u8 y2] : List Value)) (by rfl) (O7.out.alloc _) ⟨w7.heap.size, 0, none⟩ 1 1 [.int .u8 y3] (by rfl) (by rfl) (World.news_of_block (cs := #[.int .u8 y3]) (t := 5) (fr := (0, 0)) (heap_alloc_new w7 _)) (by simp [Value.oneCell']) (by omega) hmx (by omega) (by simp; omega) (w7.heap.size + 1) (by simp) ?_; intro gg cap w8 hown8 hgrow hat hlt; have T8 := Lib.hid ((T7.out.below (B := w7.heap.size) ((Below.refl _ _).alloc (Nat.le_refl _) _) z7).grown hgrow (T7.out.ne O7.out)); have q8 := T8.out.c3; have f8 := T8.out.fr 3; have O8 := Lib.hid hown8; have B8 := Lib.hid (B7.out.trans (((Below.refl _ _).alloc (by omega) _).trans (below_grown (O7.out.alloc _) hgrow (by simp; omega)))); clear hown8 hgrow hat hlt))
          | ((go_simp; go_at_call 83; refine (shift_hi 4 false 3 0 _ (by omega) (by omega) (by omega) rfl).mono ?_; rintro e w7 ⟨rfl, hb7⟩; have T7 := Lib.hid ((HB.out.2.1.below (Below.refl wr.heap.size wr).drew qt).below hb7 (by simp; omega)); have O7 := Lib.hid (own_below HO0.out.drew hb7); have z7 : T < w7.heap.size := T7.out.lt; have q7 := T7.out.c3; have B7 := Lib.hid (HB.out.1.drew.trans (hb7.mono (by simp; omega))); clear hb7)))
      all_goals
        have HN := Lib.hid (own_set (T := T) (o := 3) O8.out (T8.out.ne O8.out) (.slice (some ⟨gg, 0, none⟩) (m + 4) cap))
        have HT8 := Lib.hid (T8.out.set (.slice (some ⟨gg, 0, none⟩) (m + 4) cap))
        have HB8 := Lib.hid (B8.out.setCell (p := ⟨T, 3, none⟩) hb (.slice (some ⟨gg, 0, none⟩) (m + 4) cap))
        clear e1 q7 q8 f8
        go_wp2_with fail
        go_roundw
        case rel => exact ⟨4, rfl, by omega, _, HB8.out, HT8.out, by have := HN.out; rw [List.append_assoc] at this; exact this⟩
        case measure => simp [intOf]
    · rw [show ((4 : Nat) : Int) = 4 from rfl]
      go_wp2_with fail
      go_end0
      exact ⟨v', rfl, HB.out.2.2, HB.out.2.1, HB.out.1⟩
end Go.Proofs.YthnfopjjghohcaaDoor.Wd
namespace Go.Proofs.YthnfopjjghohcaaDoor.Wd
open Go.RowKit

theorem dd (n : Nat) : n / 256 / 256 = n / 65536 := by omega
theorem ddd (n : Nat) : n / 65536 / 256 = n / 16777216 := by omega
theorem putUnit_any (k base T : Nat) (v : Value) (m : Nat) (xs : List Value) (u : Nat) (w : World) (h1 : 1 ≤ k) (h4 : k ≤ 4) (hT : Tgt w T (szK k : Int) (loK k) (prK k) v) (hb : base ≤ T) (hown : w.ownsRow base 5 1 v m xs) (hm : m ≤ 1000000) (hu : u < 65536 ∨ (3 ≤ k ∧ u < 1114112)) :
    Calls Tryd.prog 85 #[.pointer (some ⟨T, 0, none⟩), .int .i32 (u : Int)] w fun e w' => ∃ v', e = .returned (.tuple #[]) ∧ w'.ownsRow base 5 1 v' (m + szK k) (xs ++ u8v (unB k u)) ∧ Tgt w' T (szK k : Int) (loK k) (prK k) v' ∧ Below base w w' := by
  rcases kinds h1 h4 with rfl | rfl | rfl | rfl
  · have := putUnit1 base T v m xs u w hT hb hown hm (by omega)
    exact this
  · have := putUnit2 base T v m xs u w hT hb hown hm (by omega)
    exact this
  · have := putUnit3 base T v m xs u w hT hb hown hm (by omega)
    rw [← ddd, ← dd] at this
    exact this
  · have := putUnit4 base T v m xs u w hT hb hown hm (by omega)
    rw [← ddd, ← dd] at this
    exact this

theorem ofInt32 (a : Nat) (ha : a < 2147483648) : (BitVec.ofInt 32 (a : Int)).toNat = a := by
  rw [BitVec.ofInt_natCast, BitVec.toNat_ofNat]; exact Nat.mod_eq_of_lt (by omega)
theorem i32_and_nat (a b : Nat) (ha : a < 2147483648) (hb : b < 2147483648) : bits .and .i32 (a : Int) (b : Int) = ((a &&& b : Nat) : Int) := by
  have hx : a &&& b < 2 ^ 31 := Nat.and_lt_two_pow _ (by omega)
  show IntKind.i32.wrap ((BitVec.ofInt 32 (a : Int) &&& BitVec.ofInt 32 (b : Int)).toNat : Int) = _
  rw [BitVec.toNat_and, ofInt32 a ha, ofInt32 b hb, IntKind.wrap_i32]
  omega
theorem i32_or_nat (a b : Nat) (ha : a < 2147483648) (hb : b < 2147483648) : bits .or .i32 (a : Int) (b : Int) = ((a ||| b : Nat) : Int) := by
  have hx : a ||| b < 2 ^ 31 := Nat.or_lt_two_pow (by omega) (by omega)
  show IntKind.i32.wrap ((BitVec.ofInt 32 (a : Int) ||| BitVec.ofInt 32 (b : Int)).toNat : Int) = _
  rw [BitVec.toNat_or, ofInt32 a ha, ofInt32 b hb, IntKind.wrap_i32]
  omega
theorem orHi (q hi : Nat) (h : q < 1024) (hh : hi = 55296 + q) : bits .or .i32 55296 (q : Int) = (hi : Int) := by
  have e : bits .or .i32 55296 (q : Int) = ((55296 ||| q : Nat) : Int) := i32_or_nat 55296 q (by omega) (by omega)
  have := or_hi 54 q 10 (by omega)
  rw [e, hh]; congr 1
theorem orLo (q lo : Nat) (h : q < 1024) (hh : lo = 56320 + q) : bits .or .i32 56320 (q : Int) = (lo : Int) := by
  have e : bits .or .i32 56320 (q : Int) = ((56320 ||| q : Nat) : Int) := i32_or_nat 56320 q (by omega) (by omega)
  have := or_hi 55 q 10 (by omega)
  rw [e, hh]; congr 1
theorem andLo (x q : Nat) (h : x < 2147483648) (hh : q = x % 1024) : bits .and .i32 (x : Int) 1023 = (q : Int) := by
  have e : bits .and .i32 (x : Int) 1023 = ((x &&& 1023 : Nat) : Int) := i32_and_nat x 1023 h (by omega)
  rw [e, hh]; congr 1
  exact Nat.and_two_pow_sub_one_eq_mod x 10

set_option maxRecDepth 100000 in
set_option maxHeartbeats 1000000 in
theorem put_any (k base T : Nat) (v : Value) (m : Nat) (xs : List Value) (r : Nat) (w : World) (h1 : 1 ≤ k) (h4 : k ≤ 4) (hT : Tgt w T (szK k : Int) (loK k) (prK k) v) (hb : base ≤ T) (hown : w.ownsRow base 5 1 v m xs) (hm : m ≤ 900000) (hr : r < 1114112) :
    Calls Tryd.prog 80 #[.pointer (some ⟨T, 0, none⟩), .int .i32 (r : Int)] w fun e w' => ∃ v', e = .returned (.tuple #[]) ∧ w'.ownsRow base 5 1 v' (m + (chB k r).length) (xs ++ u8v (chB k r)) ∧ Tgt w' T (szK k : Int) (loK k) (prK k) v' ∧ Below base w w' := by
  have c2 := hT.c2
  have HT := Lib.hid hT
  have HO := Lib.hid hown
  by_cases c1 : 3 ≤ k ∨ r < 65536
  · have HC := Lib.hid (show chB k r = unB k r by unfold chB; rw [if_pos c1])
    have HP := Lib.hid (putUnit_any k base T v m xs r w h1 h4 hT hb hown (by omega) (by omega))
    by_cases c3 : 3 ≤ k
    · have hp : prK k = false := by simp [prK]; omega
      rw [hp] at c2
      clear c1 hT hown hp
      go_enter Tryd.func80, Tryd.ntmps80
      go_wp2_with fail
      refine HP.out.mono ?_
      rintro e w1 ⟨v1, rfl, ho1, hT1, hb1⟩
      have A1 := Lib.hid ho1
      have A2 := Lib.hid hT1
      have A3 := Lib.hid hb1
      clear ho1 hT1 hb1
      go_wp2_with fail
      refine bodyPost_ret (v := .tuple #[]) (by simp [results, Tryd.results80, go_sem]) rfl ⟨v1, rfl, ?_, A2.out, A3.out⟩
      rw [HC.out, unB_len]
      exact A1.out
    · have hp : prK k = true := by simp [prK]; omega
      rw [hp] at c2
      have c1' : (r : Int) < 65536 := by omega
      clear c1 hT hown hp
      go_enter Tryd.func80, Tryd.ntmps80
      go_wp2_with fail
      refine HP.out.mono ?_
      rintro e w1 ⟨v1, rfl, ho1, hT1, hb1⟩
      have A1 := Lib.hid ho1
      have A2 := Lib.hid hT1
      have A3 := Lib.hid hb1
      clear ho1 hT1 hb1
      go_wp2_with fail
      refine bodyPost_ret (v := .tuple #[]) (by simp [results, Tryd.results80, go_sem]) rfl ⟨v1, rfl, ?_, A2.out, A3.out⟩
      rw [HC.out, unB_len]
      exact A1.out
  · obtain ⟨x, rfl⟩ : ∃ x, r = 65536 + x := ⟨r - 65536, by omega⟩
    obtain ⟨q, hq⟩ : ∃ q, q = x / 1024 := ⟨_, rfl⟩
    obtain ⟨p, hp⟩ : ∃ q, q = x % 1024 := ⟨_, rfl⟩
    obtain ⟨hi, hhi⟩ : ∃ h, h = 55296 + q := ⟨_, rfl⟩
    obtain ⟨lo, hlo⟩ : ∃ h, h = 56320 + p := ⟨_, rfl⟩
    have HC := Lib.hid (show chB k (65536 + x) = unB k hi ++ unB k lo by
      unfold chB
      rw [if_neg c1, show 65536 + x - 65536 = x by omega, ← hq, ← hp, ← hhi, ← hlo])
    have hpk : prK k = true := by simp [prK]; omega
    have hx : x < 1048576 := by omega
    have e1 : ((65536 + x : Nat) : Int) - 65536 = (x : Int) := by omega
    have e2 : (x : Int) / 1024 = (q : Int) := by omega
    have e3 := orHi q hi (by omega) hhi
    have e4 := andLo x p (by omega) hp
    have e5 := orLo p lo (by omega) hlo
    have g1 : hi < 65536 := by omega
    have g2 : lo < 65536 := by omega
    have cc : ¬ ((65536 + x : Nat) : Int) < 65536 := by omega
    have c65 : (65536 : Int) ≤ ((65536 + x : Nat) : Int) := by omega
    have c66 : ((65536 + x : Nat) : Int) < 1114112 := by omega
    rw [hpk] at c2
    have HP1 := Lib.hid (putUnit_any k base T v m xs hi w h1 h4 hT hb hown (by omega) (by omega))
    generalize hrr : ((65536 + x : Nat) : Int) = rr at *
    clear c1 hT hown hpk hq hp hhi hlo hrr hr
    go_enter Tryd.func80, Tryd.ntmps80
    go_wp2_with fail
    refine HP1.out.mono ?_
    rintro e w1 ⟨v1, rfl, ho1, hT1, hb1⟩
    have A1 := Lib.hid ho1
    have A2 := Lib.hid hT1
    have A3 := Lib.hid hb1
    clear ho1 hT1 hb1
    have HP2 := Lib.hid (putUnit_any k base T v1 (m + szK k) (xs ++ u8v (unB k hi)) lo w1 h1 h4 A2.out hb A1.out (by have := szK_bd k; omega) (by omega))
    go_wp2_with fail
    refine HP2.out.mono ?_
    rintro e w2 ⟨v2, rfl, ho1, hT1, hb1⟩
    have D1 := Lib.hid ho1
    have D2 := Lib.hid hT1
    have D3 := Lib.hid (A3.out.trans hb1)
    clear ho1 hT1 hb1
    go_wp2_with fail
    go_end0
    refine ⟨v2, rfl, ?_, D2.out, D3.out⟩
    rw [HC.out, u8v_app, List.length_append, unB_len, unB_len, ← List.append_assoc, ← Nat.add_assoc]
    exact D1.out
end Go.Proofs.YthnfopjjghohcaaDoor.Wd
namespace Go.Proofs.YthnfopjjghohcaaDoor.Wd
open Go.RowKit

/-- What Encode answers. -/
def encV (k : Nat) (l : List Int) : Value := if l.all scal = true then .tuple #[.string (strB (chL k l)), .int .i64 0] else .tuple #[.string ⟨#[]⟩, .int .i64 11]
theorem encV_no (k : Nat) (l : List Int) (i : Nat) (h : i < l.length) (hs : scal (l.getD i 0) = false) : encV k l = .tuple #[.string ⟨#[]⟩, .int .i64 11] := by
  unfold encV
  rw [if_neg]
  intro ha
  rw [List.all_eq_true] at ha
  have := ha (l.getD i 0) (by simp [List.getD, List.getElem?_eq_getElem h])
  rw [hs] at this
  cases this
theorem encV_yes (k : Nat) (l : List Int) (ha : l.all scal = true) : encV k l = .tuple #[.string (strB (chL k l)), .int .i64 0] := by rw [encV, if_pos ha]

set_option maxRecDepth 100000 in
set_option maxHeartbeats 1000000 in
theorem encode_any (k : Nat) (A : Option Addr) (c : Nat) (l : List Int) (w : World) (hT : Tab w) (h1 : 1 ≤ k) (h4 : k ≤ 4) (hr : Ints .i32 w A l) (hlen : l.length ≤ 100000) :
    Calls Tryd.prog 72 #[.int .i64 (k : Int), .slice A l.length c] w fun e w' => e = .returned (encV k l) ∧ Below w.heap.size w w' := by
  have HL := Lib.hid (layout_any k w hT h1 h4)
  have HR := Lib.hid hr
  clear hr hT
  have HP := Lib.hid (fun base T v m xs r W => put_any k base T v m xs r W h1 h4)
  have HE := Lib.hid (fun i h hs => encV_no k l i h hs)
  have HY := Lib.hid (fun ha => encV_yes k l ha)
  have HM := Lib.hid (fun i h => chL_more k l i h)
  have HLe := Lib.hid (fun i => chL_le k h4 (l.take i))
  have HCh : Hid (chL k [] = []) := rfl
  generalize hC : chL k = C at *
  generalize encV k l = V at *
  generalize hz : (szK k : Int) = z at *
  generalize loK k = lo at *
  generalize prK k = pr at *
  clear hC hz
  go_enter Tryd.func72, Tryd.ntmps72
  go_wp2_with fail
  refine HL.out.mono ?_
  rintro e w1 ⟨rfl, hb1⟩
  have B1 := Lib.hid hb1
  have z1 := hb1.size
  clear hb1
  go_wp2_with fail
  have hB2 : Hid (Below w.heap.size w ((w1.alloc (.cells #[.int .i64 z, .bool lo, .bool pr] 107)).alloc (.cells #[.int .i64 z, .bool lo, .bool pr, .slice none 0 0] 128))) := (B1.out.alloc z1 _).alloc (by simp; omega) _
  have hT2 : Hid (Tgt ((w1.alloc (.cells #[.int .i64 z, .bool lo, .bool pr] 107)).alloc (.cells #[.int .i64 z, .bool lo, .bool pr, .slice none 0 0] 128)) (w1.heap.size + 1) z lo pr (.slice none 0 0)) := ⟨by have := heap_alloc_new (w1.alloc (.cells #[.int .i64 z, .bool lo, .bool pr] 107)) (.cells #[.int .i64 z, .bool lo, .bool pr, .slice none 0 0] 128); simpa using this⟩
  go_loopw [22] (fun i wr => ∃ j : Nat, i = .int .i64 j ∧ j ≤ l.length ∧ ∃ v, Hid ((l.take j).all scal = true ∧ Below w.heap.size w wr ∧ Tgt wr (w1.heap.size + 1) z lo pr v ∧ wr.ownsRow w.heap.size 5 1 v (C (l.take j)).length (u8v (C (l.take j))))) (fun i _ => l.length - (intOf i).toNat)
  case atStart => exact ⟨0, rfl, by omega, _, rfl, hB2.out, hT2.out, by rw [List.take_zero, HCh.out]; exact World.ownsRow_nil _ _ _ _⟩
  case round =>
    obtain ⟨j, rfl, hj, v, HQ⟩ := hrel
    have hsz := HQ.out.2.1.size
    by_cases hlt : j < l.length
    · obtain ⟨b, off, rfl, hb, hc⟩ := HR.out j hlt
      have hc' : wr.cell? ⟨b, off + j, none⟩ = some (.int .i32 (l.getD j 0)) := (HQ.out.2.1.cell (p := ⟨b, off + j, none⟩) hb).trans hc
      clear hc
      have hlt' : (j : Int) < l.length := by omega
      generalize hrk : l.getD j 0 = r at hc'
      have Hrk := Lib.hid hrk
      clear hrk
      cases hs : scal r
      · have HEE := Lib.hid (HE.out j hlt (by rw [Hrk.out]; exact hs))
        have HS := Lib.hid hs
        clear hs
        go_wp2_with fail
        refine (scalar_any _ _).mono ?_
        rw [HS.out]
        rintro e w' ⟨rfl, rfl⟩
        go_wp2_with fail
        go_ret2
        exact ⟨(congrArg Ending.returned HEE.out).symm, HQ.out.2.1⟩
      · have HS := Lib.hid hs
        obtain ⟨g0, g1⟩ := scal_bd hs
        clear hs
        obtain ⟨n, rfl⟩ := Int.eq_ofNat_of_zero_le g0
        go_wp2_with fail
        refine (scalar_any _ _).mono ?_
        rw [HS.out]
        rintro e w' ⟨rfl, rfl⟩
        go_wp2_with fail
        refine (HP.out w.heap.size (w1.heap.size + 1) v _ _ n _ HQ.out.2.2.1 (by omega) HQ.out.2.2.2 (by have := HLe.out j; have := List.length_take_le j l; omega) (by omega)).mono ?_
        rintro e w2 ⟨v2, rfl, ho2, hT3, hb2⟩
        have A1 := Lib.hid ho2
        have A2 := Lib.hid hT3
        have A3 := Lib.hid hb2
        clear ho2 hT3 hb2
        go_wp2_with fail
        go_roundw
        case rel =>
          refine ⟨j + 1, by go_num, by omega, v2, all_more l j hlt HQ.out.1 (by rw [Hrk.out]; exact HS.out), HQ.out.2.1.trans A3.out, A2.out, ?_⟩
          rw [HM.out j hlt, Hrk.out, Int.toNat_natCast, u8v_app, List.length_append]
          exact A1.out
        case measure => simp [intOf]; omega
    · have hlt' : ¬ (j : Int) < l.length := by omega
      obtain rfl : j = l.length := by omega
      have hq := HQ.out
      rw [List.take_length] at hq
      have HEE := Lib.hid (HY.out hq.1)
      have hrun := run_string_own _ _ _ _ _ hq.2.2.2
      have c3 := hq.2.2.1.c3
      have HB := Lib.hid hq.2.1
      clear hq
      go_wp2
      go_ret2
      exact ⟨(congrArg Ending.returned HEE.out).symm, HB.out⟩
set_option maxRecDepth 100000 in
set_option maxHeartbeats 1000000 in
theorem encode_no (k : Int) (A : Option Addr) (n c : Nat) (w : World) (h : k < 1 ∨ 4 < k) :
    Calls Tryd.prog 72 #[.int .i64 k, .slice A n c] w fun e w' => e = .returned (.tuple #[.string ⟨#[]⟩, .int .i64 16]) ∧ Below w.heap.size w w' := by
  go_enter Tryd.func72, Tryd.ntmps72
  go_wp2_with fail
  refine (layout_no k w h).mono ?_
  rintro e w1 ⟨rfl, hb1⟩
  have B1 := Lib.hid hb1
  have z1 := hb1.size
  clear hb1
  go_wp2_with fail
  go_ret2
  exact ⟨rfl, B1.out.alloc z1 _⟩
set_option maxRecDepth 100000 in
set_option maxHeartbeats 1000000 in
theorem mark_any (k : Nat) (w : World) (hT : Tab w) (h1 : 1 ≤ k) (h4 : k ≤ 4) :
    Calls Tryd.prog 59 #[.int .i64 (k : Int)] w fun e w' => e = .returned (.string (strB (mkB k))) ∧ Below w.heap.size w w' := by
  have b1 : Below w.heap.size w (w.alloc (.cells #[.int .i32 65279] 21)) := (Below.refl _ _).alloc (Nat.le_refl _) _
  have hpos := hT.pos
  have HT := Lib.hid hT
  have hE : encV k [65279] = .tuple #[.string (strB (mkB k)), .int .i64 0] := by
    rw [encV_yes k _ (by decide)]
    have : chL k [65279] = mkB k := by
      unfold chL mkB
      simp only [List.flatMap_cons, List.flatMap_nil, List.append_nil]
      unfold chB
      rw [if_pos (by right; decide)]
      rfl
    rw [this]
  have HE := Lib.hid hE
  have B1 := Lib.hid b1
  clear hE hT b1
  go_enter Tryd.func59, Tryd.ntmps59
  go_wp2_with fail
  refine (encode_any k (some ⟨w.heap.size, 0, none⟩) 1 [65279] _ (HT.out.below B1.out hpos) h1 h4 (ints_new .i32 [65279] 21 w) (by simp)).mono ?_
  rw [HE.out]
  rintro e w1 ⟨rfl, hb1⟩
  have B2 := Lib.hid (B1.out.trans (hb1.mono (by simp)))
  clear hb1
  go_wp2_with fail
  go_ret
  exact ⟨rfl, B2.out⟩
set_option maxRecDepth 100000 in
set_option maxHeartbeats 1000000 in
theorem mark_no (k : Int) (w : World) (h : k < 1 ∨ 4 < k) :
    Calls Tryd.prog 59 #[.int .i64 k] w fun e w' => e = .returned (.string ⟨#[]⟩) ∧ Below w.heap.size w w' := by
  have B1 := Lib.hid (show Below w.heap.size w (w.alloc (.cells #[.int .i32 65279] 21)) from (Below.refl _ _).alloc (Nat.le_refl _) _)
  go_enter Tryd.func59, Tryd.ntmps59
  go_wp2_with fail
  refine (encode_no k (some ⟨w.heap.size, 0, none⟩) 1 1 _ h).mono ?_
  rintro e w1 ⟨rfl, hb1⟩
  have B2 := Lib.hid (B1.out.trans (hb1.mono (by simp)))
  clear hb1
  go_wp2_with fail
  go_ret
  exact ⟨rfl, B2.out⟩
end Go.Proofs.YthnfopjjghohcaaDoor.Wd

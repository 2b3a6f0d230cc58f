import Derived.Test.YtohjkpdelopknaaDoorIb
namespace Go.Proofs.YtohjkpdelopknaaDoor
open Go.RowKit
attribute [local go_sem ↓] Go.wp_at_zero Go.wp_at_succ
set_option maxRecDepth 100000 in
set_option maxHeartbeats 4000000 in
theorem putUnit1 (base T : Nat) (v : Value) (m : Nat) (xs : List Value) (u : Nat) (w : World) (hT : Tgt w T 2 true true v) (hb : base ≤ T) (hown : w.ownsRow base 5 1 v m xs) (hm : m ≤ 1000000) (_hu : u < 65536) :
    Calls Tryd.prog 38 #[.pointer (some ⟨T, 0, none⟩), .int .i32 (u : Int)] w fun e w' => ∃ v', e = .returned (.tuple #[]) ∧ w'.ownsRow base 5 1 v' (m + 2) (xs ++ [.int .u8 (u % 256 : Nat), .int .u8 (u / 256 % 256 : Nat)]) ∧ Tgt w' T 2 true true v' ∧ Below base w w' := by
  obtain ⟨i0, hi0, hz0, hz1, hz2⟩ := info_parts u8_info
  have I0 := Lib.hid hi0
  have I1 := Lib.hid hz0
  have I2 := Lib.hid hz1
  have I3 := Lib.hid hz2
  clear hi0 hz0 hz1 hz2
  have k0 := hT.c0
  have HT := Lib.hid hT
  have HO := Lib.hid hown
  clear hT hown
  obtain ⟨y0, hy0⟩ : ∃ y : Nat, y = u % 256 := ⟨_, rfl⟩
  have Y0 := Lib.hid hy0
  obtain ⟨y1, hy1⟩ : ∃ y : Nat, y = u / 256 % 256 := ⟨_, rfl⟩
  have Y1 := Lib.hid hy1
  rw [← hy0, ← hy1]
  clear hy0 hy1
  go_enter Tryd.func38, Tryd.ntmps38
  go_wp2_with fail
  go_loopw [10] (fun i wr => ∃ j : Nat, i = .int .i64 j ∧ j ≤ 2 ∧ ∃ v', Hid (Below base w wr ∧ Tgt wr T 2 true true v' ∧ wr.ownsRow base 5 1 v' (m + j) (xs ++ ([.int .u8 y0, .int .u8 y1] : List Value).take j))) (fun i _ => 2 - (intOf i).toNat)
  case atStart => exact ⟨0, rfl, by omega, v, Below.refl _ _, HT.out, by simpa using HO.out⟩
  case round =>
    obtain ⟨j, rfl, hj, v', HB⟩ := hrel
    have hj' : j = 0 ∨ j = 1 ∨ j = 2 := by omega
    have hbz := HB.out.1.size
    have q0 := HB.out.2.1.c0
    have q1 := HB.out.2.1.c1
    have q2 := HB.out.2.1.c2
    have q3 := HB.out.2.1.c3
    have qt := HB.out.2.1.lt
    have qf := HB.out.2.1.fr 3
    rcases hj' with rfl | rfl | rfl
    · rw [show ((0 : Nat) : Int) = 0 from rfl]
      have e1 : IntKind.u8.wrap (u : Int) = (y0 : Int) := by rw [IntKind.wrap_u8', Y0.out]; omega
      have hown0 : wr.ownsRow base 5 1 v' (m + 0) (xs ++ ([] : List Value)) := HB.out.2.2
      have HO0 := Lib.hid hown0
      have hmx : m + 0 + 1 ≤ maxLen := by unfold maxLen; omega
      clear hown0
      go_wp2_with fail
      go_region_law
        (first
          | ((refine step_append_lies _ (by rfl) _ _ _ (by rfl) base 5 i0 _ 1 1 Tryd.underlying64 I0.out I1.out I2.out I3.out rfl (by omega) v' (m + 0) (xs ++ ([] : List Value)) (by rfl) (O7.out.alloc _) ⟨w7.heap.size, 0, none⟩ 1 1 [.int .u8 y0] (by rfl) (by rfl) (World.news_of_block (cs := #[.int .u8 y0]) (t := 5) (fr := (0, 0)) (heap_alloc_new w7 _)) (by simp [Value.oneCell']) (by omega) hmx (by omega) (by simp; omega) (w7.heap.size + 1) (by simp) ?_; intro gg cap w8 hown8 hgrow hat hlt; have T8 := Lib.hid ((T7.out.below (B := w7.heap.size) ((Below.refl _ _).alloc (Nat.le_refl _) _) z7).grown hgrow (T7.out.ne O7.out)); have q8 := T8.out.c3; have f8 := T8.out.fr 3; have O8 := Lib.hid hown8; have B8 := Lib.hid (B7.out.trans (((Below.refl _ _).alloc (by omega) _).trans (below_grown (O7.out.alloc _) hgrow (by simp; omega)))); clear hown8 hgrow hat hlt))
          | ((go_simp; go_at_call 43; refine (shift_lo 2 true 0 0 _ (by omega) (by omega) rfl).mono ?_; rintro e w7 ⟨rfl, hb7⟩; have T7 := Lib.hid ((HB.out.2.1.below (Below.refl wr.heap.size wr).drew qt).below hb7 (by simp; omega)); have O7 := Lib.hid (own_below HO0.out.drew hb7); have z7 : T < w7.heap.size := T7.out.lt; have q7 := T7.out.c3; have B7 := Lib.hid (HB.out.1.drew.trans (hb7.mono (by simp; omega))); clear hb7)))
      all_goals
        have HN := Lib.hid (own_set (T := T) (o := 3) O8.out (T8.out.ne O8.out) (.slice (some ⟨gg, 0, none⟩) (m + 1) cap))
        have HT8 := Lib.hid (T8.out.set (.slice (some ⟨gg, 0, none⟩) (m + 1) cap))
        have HB8 := Lib.hid (B8.out.setCell (p := ⟨T, 3, none⟩) hb (.slice (some ⟨gg, 0, none⟩) (m + 1) cap))
        clear e1 q7 q8 f8
        go_wp2_with fail
        go_roundw
        case rel => exact ⟨1, rfl, by omega, _, HB8.out, HT8.out, by have := HN.out; rw [List.append_assoc] at this; exact this⟩
        case measure => simp [intOf]
    · rw [show ((1 : Nat) : Int) = 1 from rfl]
      have e1 : IntKind.u8.wrap ((u : Int) / 256) = (y1 : Int) := by rw [IntKind.wrap_u8', Y1.out]; omega
      have hown0 : wr.ownsRow base 5 1 v' (m + 1) (xs ++ ([.int .u8 y0] : List Value)) := HB.out.2.2
      have HO0 := Lib.hid hown0
      have hmx : m + 1 + 1 ≤ maxLen := by unfold maxLen; omega
      clear hown0
      go_wp2_with fail
      go_region_law
        (first
          | ((refine step_append_lies _ (by rfl) _ _ _ (by rfl) base 5 i0 _ 1 1 Tryd.underlying64 I0.out I1.out I2.out I3.out rfl (by omega) v' (m + 1) (xs ++ ([.int .u8 y0] : List Value)) (by rfl) (O7.out.alloc _) ⟨w7.heap.size, 0, none⟩ 1 1 [.int .u8 y1] (by rfl) (by rfl) (World.news_of_block (cs := #[.int .u8 y1]) (t := 5) (fr := (0, 0)) (heap_alloc_new w7 _)) (by simp [Value.oneCell']) (by omega) hmx (by omega) (by simp; omega) (w7.heap.size + 1) (by simp) ?_; intro gg cap w8 hown8 hgrow hat hlt; have T8 := Lib.hid ((T7.out.below (B := w7.heap.size) ((Below.refl _ _).alloc (Nat.le_refl _) _) z7).grown hgrow (T7.out.ne O7.out)); have q8 := T8.out.c3; have f8 := T8.out.fr 3; have O8 := Lib.hid hown8; have B8 := Lib.hid (B7.out.trans (((Below.refl _ _).alloc (by omega) _).trans (below_grown (O7.out.alloc _) hgrow (by simp; omega)))); clear hown8 hgrow hat hlt))
          | ((go_simp; go_at_call 43; refine (shift_lo 2 true 1 8 _ (by omega) (by omega) rfl).mono ?_; rintro e w7 ⟨rfl, hb7⟩; have T7 := Lib.hid ((HB.out.2.1.below (Below.refl wr.heap.size wr).drew qt).below hb7 (by simp; omega)); have O7 := Lib.hid (own_below HO0.out.drew hb7); have z7 : T < w7.heap.size := T7.out.lt; have q7 := T7.out.c3; have B7 := Lib.hid (HB.out.1.drew.trans (hb7.mono (by simp; omega))); clear hb7)))
      all_goals
        have HN := Lib.hid (own_set (T := T) (o := 3) O8.out (T8.out.ne O8.out) (.slice (some ⟨gg, 0, none⟩) (m + 2) cap))
        have HT8 := Lib.hid (T8.out.set (.slice (some ⟨gg, 0, none⟩) (m + 2) cap))
        have HB8 := Lib.hid (B8.out.setCell (p := ⟨T, 3, none⟩) hb (.slice (some ⟨gg, 0, none⟩) (m + 2) cap))
        clear e1 q7 q8 f8
        go_wp2_with fail
        go_roundw
        case rel => exact ⟨2, rfl, by omega, _, HB8.out, HT8.out, by have := HN.out; rw [List.append_assoc] at this; exact this⟩
        case measure => simp [intOf]
    · rw [show ((2 : Nat) : Int) = 2 from rfl]
      go_wp2_with fail
      go_end0
      exact ⟨v', rfl, HB.out.2.2, HB.out.2.1, HB.out.1⟩
end Go.Proofs.YtohjkpdelopknaaDoor

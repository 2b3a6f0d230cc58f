import Derived.Test.YtoiedhkhmdgipaaDoorI
import Derived.Deep.RegionHeld3
import Derived.Deep.AppendLies
import Derived.Maps.AppendAt
namespace Go.Proofs.YtoiedhkhmdgipaaDoor
open Go.RowKit
theorem u8_info : (Tryd.prog.info? 5).map (fun i => (i.zero, i.size, i.bytes)) = some (some (.int .u8 0), 1, 1) := by kernel_rfl

/-- The row of the call's own is no block below its base. -/
theorem own_ne {w : World} {base : Nat} {e : TypeId} {size n : Nat} {v : Value} {xs : List Value} (h : w.ownsRow base e size v n xs) {b : Nat} (hb : b < base) : v.ownBlock ≠ some b := by
  intro he
  have := (h.lt b he).1
  omega
theorem below_grown {base : Nat} {w w' : World} {v : Value} {e : TypeId} {size n : Nat} {xs : List Value} (h : w.ownsRow base e size v n xs) (hg : w.grownBy w' v.ownBlock) (hb : base ≤ w.heap.size) : Below base w w' :=
  (Below.refl _ _).grown hg hb (fun k hk => (h.lt k hk).1)

theorem or_fact (c m : Nat) (hc : c < 256) (hm : m ≤ 256) (h : ∀ q : Fin 256, q.val < m → c ||| q.val = c + q.val) (q : Int) (h0 : 0 ≤ q) (h1 : q < m) : bits .or .u8 c (IntKind.u8.wrap q) = c + q := by
  obtain ⟨n, rfl⟩ := Int.eq_ofNat_of_zero_le h0
  have hn : n < 256 := by omega
  rw [IntKind.wrap_u8', show ((n : Int) % 256) = n from by omega]
  rw [u8_or_nat c n hc hn, h ⟨n, hn⟩ (by simp; omega)]
  simp
theorem or0' (q : Int) (h0 : 0 ≤ q) (h1 : q < 128) : bits .or .u8 0 (IntKind.u8.wrap q) = q := by
  have := or_fact 0 128 (by omega) (by omega) (by decide +kernel) q h0 h1
  simpa using this
theorem or2 (q : Int) (h0 : 0 ≤ q) (h1 : q < 32) : bits .or .u8 192 (IntKind.u8.wrap q) = 192 + q := or_fact 192 32 (by omega) (by omega) (by decide +kernel) q h0 h1
theorem or3 (q : Int) (h0 : 0 ≤ q) (h1 : q < 16) : bits .or .u8 224 (IntKind.u8.wrap q) = 224 + q := or_fact 224 16 (by omega) (by omega) (by decide +kernel) q h0 h1
theorem or4 (q : Int) (h0 : 0 ≤ q) (h1 : q < 8) : bits .or .u8 240 (IntKind.u8.wrap q) = 240 + q := or_fact 240 8 (by omega) (by omega) (by decide +kernel) q h0 h1

set_option maxRecDepth 100000 in
set_option maxHeartbeats 1000000 in
theorem put1 (base : Nat) (v : Value) (m : Nat) (xs : List Value) (r : Int) (w : World) (hT : Tab w) (hb : 1 ≤ base) (hbw : base ≤ w.heap.size) (hown : w.ownsRow base 5 1 v m xs) (hm : m ≤ 1000000) (h0 : 0 ≤ r) (h1 : r ≤ 127) :
    Calls Tryd.prog 28 #[v, .int .i32 r, .int .i64 1] w fun e w' => ∃ v', e = .returned v' ∧ w'.ownsRow base 5 1 v' (m + 1) (xs ++ [.int .u8 (r)]) ∧ Below base w w' := by
  obtain ⟨i0, hi0, hz0, hz1, hz2⟩ := info_parts u8_info
  obtain ⟨-, -, -, -, d1, d2, d3, d4, -, -, -, -⟩ := hT
  have I0 := Lib.hid hi0
  have I1 := Lib.hid hz0
  have I2 := Lib.hid hz1
  have I3 := Lib.hid hz2
  clear hi0 hz0 hz1 hz2 d2 d3 d4
  have hne := own_ne hown (b := 0) (by omega)
  have hmx : m + 1 ≤ maxLen := by unfold maxLen; omega
  have hq1 : IntKind.u8.wrap r = r := by rw [IntKind.wrap_u8']; omega
  have hq2 := or0' r (by omega) (by omega)
  rw [hq1] at hq2
  go_enter Tryd.func28, Tryd.ntmps28
  go_wp2_with fail
  go_region_held3 (fun w' => w'.cell? ⟨0, 4, none⟩ = some (.int .u8 0))
    (first
      | go_keep
      | (rw [hgrow.cell_far _ (by simp) (Ne.symm hne)]; assumption))
    ((refine step_append_lies _ (by rfl) _ _ _ (by rfl) base 5 i0 _ 1 1 Tryd.underlying54 I0.out I1.out I2.out I3.out rfl (by omega) v m xs (by rfl) ((hown.alloc _).drew)
        ⟨w.heap.size, 0, none⟩ 1 1 [.int .u8 r] (by rfl) (by rfl) (World.news_of_block (cs := #[.int .u8 r]) (t := 5) (fr := (0, 0)) (heap_alloc_new w _)) (by simp [Value.oneCell'])
        (by omega) hmx (by omega) (by simp; omega) (w.heap.size + 1) (by simp) ?_; intro gg cap w1 hown1 hgrow hat hlt))
  have hbw1 : Below base w w1 := ((Below.refl _ _).alloc hbw _).drew.trans (below_grown ((hown.alloc _).drew) hgrow (by simp; omega))
  clear hown hgrow hat hlt hne hq1 hq2
  have H1 := Lib.hid hown1
  have HB := Lib.hid hbw1
  clear hown1 hbw1
  go_wp2_with fail
  go_loopw [0, 7] (fun out left wr => ∃ q : Int, left = .int .i64 q ∧ (q = 0) ∧ Hid (Below base w wr ∧ wr.ownsRow base 5 1 out (m + (1 - (q / 6).toNat)) (xs ++ ([.int .u8 (r)]).take (1 - (q / 6).toNat)))) (fun _ left _ => (intOf left).toNat)
  case atStart => exact ⟨0, rfl, by omega, HB.out, H1.out⟩
  case round =>
    obtain ⟨q, rfl, hj, HR⟩ := hrel
    rcases hj with rfl
    · go_wp2_with fail
      go_ret
      exact ⟨_, rfl, HR.out.2, HR.out.1⟩

set_option maxRecDepth 100000 in
set_option maxHeartbeats 1000000 in
theorem put2 (base : Nat) (v : Value) (m : Nat) (xs : List Value) (r : Int) (w : World) (hT : Tab w) (hb : 1 ≤ base) (hbw : base ≤ w.heap.size) (hown : w.ownsRow base 5 1 v m xs) (hm : m ≤ 1000000) (h0 : 128 ≤ r) (h1 : r ≤ 2047) :
    Calls Tryd.prog 28 #[v, .int .i32 r, .int .i64 2] w fun e w' => ∃ v', e = .returned v' ∧ w'.ownsRow base 5 1 v' (m + 2) (xs ++ [.int .u8 (192 + r / 64), .int .u8 (128 + r % 64)]) ∧ Below base w w' := by
  obtain ⟨i0, hi0, hz0, hz1, hz2⟩ := info_parts u8_info
  obtain ⟨-, -, -, -, d1, d2, d3, d4, -, -, -, -⟩ := hT
  have I0 := Lib.hid hi0
  have I1 := Lib.hid hz0
  have I2 := Lib.hid hz1
  have I3 := Lib.hid hz2
  clear hi0 hz0 hz1 hz2 d1 d3 d4
  have hne := own_ne hown (b := 0) (by omega)
  have hmx : m + 1 ≤ maxLen := by unfold maxLen; omega
  have hq1 : IntKind.u8.wrap (r / 64) = r / 64 := by rw [IntKind.wrap_u8']; omega
  have hq2 := or2 (r / 64) (by omega) (by omega)
  rw [hq1] at hq2
  go_enter Tryd.func28, Tryd.ntmps28
  go_wp2_with fail
  go_region_held3 (fun w' => w'.cell? ⟨0, 7, none⟩ = some (.int .u8 192))
    (first
      | go_keep
      | (rw [hgrow.cell_far _ (by simp) (Ne.symm hne)]; assumption))
    ((refine step_append_lies _ (by rfl) _ _ _ (by rfl) base 5 i0 _ 1 1 Tryd.underlying54 I0.out I1.out I2.out I3.out rfl (by omega) v m xs (by rfl) ((hown.alloc _).drew)
        ⟨w.heap.size, 0, none⟩ 1 1 [.int .u8 (192 + r / 64)] (by rfl) (by rfl) (World.news_of_block (cs := #[.int .u8 (192 + r / 64)]) (t := 5) (fr := (0, 0)) (heap_alloc_new w _)) (by simp [Value.oneCell'])
        (by omega) hmx (by omega) (by simp; omega) (w.heap.size + 1) (by simp) ?_; intro gg cap w1 hown1 hgrow hat hlt))
  have hbw1 : Below base w w1 := ((Below.refl _ _).alloc hbw _).drew.trans (below_grown ((hown.alloc _).drew) hgrow (by simp; omega))
  clear hown hgrow hat hlt hne hq1 hq2
  have H1 := Lib.hid hown1
  have HB := Lib.hid hbw1
  clear hown1 hbw1
  go_wp2_with fail
  go_loopw [0, 7] (fun out left wr => ∃ q : Int, left = .int .i64 q ∧ (q = 0 ∨ q = 6) ∧ Hid (Below base w wr ∧ wr.ownsRow base 5 1 out (m + (2 - (q / 6).toNat)) (xs ++ ([.int .u8 (192 + r / 64), .int .u8 (128 + r % 64)]).take (2 - (q / 6).toNat)))) (fun _ left _ => (intOf left).toNat)
  case atStart => exact ⟨6, rfl, by omega, HB.out, H1.out⟩
  case round =>
    obtain ⟨q, rfl, hj, HR⟩ := hrel
    rcases hj with rfl | rfl
    · go_wp2_with fail
      go_ret
      exact ⟨_, rfl, HR.out.2, HR.out.1⟩
    · have hown2 : wr.ownsRow base 5 1 u0 (m + 1) (xs ++ [.int .u8 (192 + r / 64)]) := HR.out.2
      have hsr := HR.out.1.size
      have hmx2 : m + 1 + 1 ≤ maxLen := by unfold maxLen; omega
      have H2 := Lib.hid hown2
      clear hown2
      go_wp2_with (at_builtin; refine wpList_append_own_at _ rfl (.tmp 27) (.tmp 34) _ rfl base 5 i0 _ 1 1 Tryd.underlying54 I0.out I1.out I2.out I3.out rfl (by omega) u0 (m + 1) _ rfl (H2.out.alloc _) ⟨wr.heap.size, 0, none⟩ 1 1 [_] rfl rfl (cell_one_new _ _ _) (by simp [Value.oneCell']) hmx2 (by omega) (by simp; omega) ?_; intro v2 w2 hown2 hg2 hn2 hat2; have H3 := Lib.hid hown2; have H4 := Lib.hid hg2; clear hown2 hg2 hn2 hat2)
      go_roundw
      case rel =>
        refine ⟨0, rfl, by omega, ?_, ?_⟩
        · exact HR.out.1.trans (((Below.refl _ _).alloc (by omega) _).trans (below_grown (H2.out.alloc _) H4.out (by simp; omega)))
        · have := H3.out
          rw [List.append_assoc] at this
          exact this
      case measure => simp [intOf]

set_option maxRecDepth 100000 in
set_option maxHeartbeats 1000000 in
theorem put3 (base : Nat) (v : Value) (m : Nat) (xs : List Value) (r : Int) (w : World) (hT : Tab w) (hb : 1 ≤ base) (hbw : base ≤ w.heap.size) (hown : w.ownsRow base 5 1 v m xs) (hm : m ≤ 1000000) (h0 : 2048 ≤ r) (h1 : r ≤ 65535) :
    Calls Tryd.prog 28 #[v, .int .i32 r, .int .i64 3] w fun e w' => ∃ v', e = .returned v' ∧ w'.ownsRow base 5 1 v' (m + 3) (xs ++ [.int .u8 (224 + r / 4096), .int .u8 (128 + r / 64 % 64), .int .u8 (128 + r % 64)]) ∧ Below base w w' := by
  obtain ⟨i0, hi0, hz0, hz1, hz2⟩ := info_parts u8_info
  obtain ⟨-, -, -, -, d1, d2, d3, d4, -, -, -, -⟩ := hT
  have I0 := Lib.hid hi0
  have I1 := Lib.hid hz0
  have I2 := Lib.hid hz1
  have I3 := Lib.hid hz2
  clear hi0 hz0 hz1 hz2 d1 d2 d4
  have hne := own_ne hown (b := 0) (by omega)
  have hmx : m + 1 ≤ maxLen := by unfold maxLen; omega
  have hq1 : IntKind.u8.wrap (r / 4096) = r / 4096 := by rw [IntKind.wrap_u8']; omega
  have hq2 := or3 (r / 4096) (by omega) (by omega)
  rw [hq1] at hq2
  go_enter Tryd.func28, Tryd.ntmps28
  go_wp2_with fail
  go_region_held3 (fun w' => w'.cell? ⟨0, 10, none⟩ = some (.int .u8 224))
    (first
      | go_keep
      | (rw [hgrow.cell_far _ (by simp) (Ne.symm hne)]; assumption))
    ((refine step_append_lies _ (by rfl) _ _ _ (by rfl) base 5 i0 _ 1 1 Tryd.underlying54 I0.out I1.out I2.out I3.out rfl (by omega) v m xs (by rfl) ((hown.alloc _).drew)
        ⟨w.heap.size, 0, none⟩ 1 1 [.int .u8 (224 + r / 4096)] (by rfl) (by rfl) (World.news_of_block (cs := #[.int .u8 (224 + r / 4096)]) (t := 5) (fr := (0, 0)) (heap_alloc_new w _)) (by simp [Value.oneCell'])
        (by omega) hmx (by omega) (by simp; omega) (w.heap.size + 1) (by simp) ?_; intro gg cap w1 hown1 hgrow hat hlt))
  have hbw1 : Below base w w1 := ((Below.refl _ _).alloc hbw _).drew.trans (below_grown ((hown.alloc _).drew) hgrow (by simp; omega))
  clear hown hgrow hat hlt hne hq1 hq2
  have H1 := Lib.hid hown1
  have HB := Lib.hid hbw1
  clear hown1 hbw1
  go_wp2_with fail
  go_loopw [0, 7] (fun out left wr => ∃ q : Int, left = .int .i64 q ∧ (q = 0 ∨ q = 6 ∨ q = 12) ∧ Hid (Below base w wr ∧ wr.ownsRow base 5 1 out (m + (3 - (q / 6).toNat)) (xs ++ ([.int .u8 (224 + r / 4096), .int .u8 (128 + r / 64 % 64), .int .u8 (128 + r % 64)]).take (3 - (q / 6).toNat)))) (fun _ left _ => (intOf left).toNat)
  case atStart => exact ⟨12, rfl, by omega, HB.out, H1.out⟩
  case round =>
    obtain ⟨q, rfl, hj, HR⟩ := hrel
    rcases hj with rfl | rfl | rfl
    · go_wp2_with fail
      go_ret
      exact ⟨_, rfl, HR.out.2, HR.out.1⟩
    · have hown2 : wr.ownsRow base 5 1 u0 (m + 2) (xs ++ [.int .u8 (224 + r / 4096), .int .u8 (128 + r / 64 % 64)]) := HR.out.2
      have hsr := HR.out.1.size
      have hmx2 : m + 2 + 1 ≤ maxLen := by unfold maxLen; omega
      have H2 := Lib.hid hown2
      clear hown2
      go_wp2_with (at_builtin; refine wpList_append_own_at _ rfl (.tmp 27) (.tmp 34) _ rfl base 5 i0 _ 1 1 Tryd.underlying54 I0.out I1.out I2.out I3.out rfl (by omega) u0 (m + 2) _ rfl (H2.out.alloc _) ⟨wr.heap.size, 0, none⟩ 1 1 [_] rfl rfl (cell_one_new _ _ _) (by simp [Value.oneCell']) hmx2 (by omega) (by simp; omega) ?_; intro v2 w2 hown2 hg2 hn2 hat2; have H3 := Lib.hid hown2; have H4 := Lib.hid hg2; clear hown2 hg2 hn2 hat2)
      go_roundw
      case rel =>
        refine ⟨0, rfl, by omega, ?_, ?_⟩
        · exact HR.out.1.trans (((Below.refl _ _).alloc (by omega) _).trans (below_grown (H2.out.alloc _) H4.out (by simp; omega)))
        · have := H3.out
          rw [List.append_assoc] at this
          exact this
      case measure => simp [intOf]
    · have hown2 : wr.ownsRow base 5 1 u0 (m + 1) (xs ++ [.int .u8 (224 + r / 4096)]) := HR.out.2
      have hsr := HR.out.1.size
      have hmx2 : m + 1 + 1 ≤ maxLen := by unfold maxLen; omega
      have H2 := Lib.hid hown2
      clear hown2
      go_wp2_with (at_builtin; refine wpList_append_own_at _ rfl (.tmp 27) (.tmp 34) _ rfl base 5 i0 _ 1 1 Tryd.underlying54 I0.out I1.out I2.out I3.out rfl (by omega) u0 (m + 1) _ rfl (H2.out.alloc _) ⟨wr.heap.size, 0, none⟩ 1 1 [_] rfl rfl (cell_one_new _ _ _) (by simp [Value.oneCell']) hmx2 (by omega) (by simp; omega) ?_; intro v2 w2 hown2 hg2 hn2 hat2; have H3 := Lib.hid hown2; have H4 := Lib.hid hg2; clear hown2 hg2 hn2 hat2)
      go_roundw
      case rel =>
        refine ⟨6, rfl, by omega, ?_, ?_⟩
        · exact HR.out.1.trans (((Below.refl _ _).alloc (by omega) _).trans (below_grown (H2.out.alloc _) H4.out (by simp; omega)))
        · have := H3.out
          rw [List.append_assoc] at this
          exact this
      case measure => simp [intOf]

set_option maxRecDepth 100000 in
set_option maxHeartbeats 1000000 in
theorem put4 (base : Nat) (v : Value) (m : Nat) (xs : List Value) (r : Int) (w : World) (hT : Tab w) (hb : 1 ≤ base) (hbw : base ≤ w.heap.size) (hown : w.ownsRow base 5 1 v m xs) (hm : m ≤ 1000000) (h0 : 65536 ≤ r) (h1 : r ≤ 1114111) :
    Calls Tryd.prog 28 #[v, .int .i32 r, .int .i64 4] w fun e w' => ∃ v', e = .returned v' ∧ w'.ownsRow base 5 1 v' (m + 4) (xs ++ [.int .u8 (240 + r / 262144), .int .u8 (128 + r / 4096 % 64), .int .u8 (128 + r / 64 % 64), .int .u8 (128 + r % 64)]) ∧ Below base w w' := by
  obtain ⟨i0, hi0, hz0, hz1, hz2⟩ := info_parts u8_info
  obtain ⟨-, -, -, -, d1, d2, d3, d4, -, -, -, -⟩ := hT
  have I0 := Lib.hid hi0
  have I1 := Lib.hid hz0
  have I2 := Lib.hid hz1
  have I3 := Lib.hid hz2
  clear hi0 hz0 hz1 hz2 d1 d2 d3
  have hne := own_ne hown (b := 0) (by omega)
  have hmx : m + 1 ≤ maxLen := by unfold maxLen; omega
  have hq1 : IntKind.u8.wrap (r / 262144) = r / 262144 := by rw [IntKind.wrap_u8']; omega
  have hq2 := or4 (r / 262144) (by omega) (by omega)
  rw [hq1] at hq2
  go_enter Tryd.func28, Tryd.ntmps28
  go_wp2_with fail
  go_region_held3 (fun w' => w'.cell? ⟨0, 13, none⟩ = some (.int .u8 240))
    (first
      | go_keep
      | (rw [hgrow.cell_far _ (by simp) (Ne.symm hne)]; assumption))
    ((refine step_append_lies _ (by rfl) _ _ _ (by rfl) base 5 i0 _ 1 1 Tryd.underlying54 I0.out I1.out I2.out I3.out rfl (by omega) v m xs (by rfl) ((hown.alloc _).drew)
        ⟨w.heap.size, 0, none⟩ 1 1 [.int .u8 (240 + r / 262144)] (by rfl) (by rfl) (World.news_of_block (cs := #[.int .u8 (240 + r / 262144)]) (t := 5) (fr := (0, 0)) (heap_alloc_new w _)) (by simp [Value.oneCell'])
        (by omega) hmx (by omega) (by simp; omega) (w.heap.size + 1) (by simp) ?_; intro gg cap w1 hown1 hgrow hat hlt))
  have hbw1 : Below base w w1 := ((Below.refl _ _).alloc hbw _).drew.trans (below_grown ((hown.alloc _).drew) hgrow (by simp; omega))
  clear hown hgrow hat hlt hne hq1 hq2
  have H1 := Lib.hid hown1
  have HB := Lib.hid hbw1
  clear hown1 hbw1
  go_wp2_with fail
  go_loopw [0, 7] (fun out left wr => ∃ q : Int, left = .int .i64 q ∧ (q = 0 ∨ q = 6 ∨ q = 12 ∨ q = 18) ∧ Hid (Below base w wr ∧ wr.ownsRow base 5 1 out (m + (4 - (q / 6).toNat)) (xs ++ ([.int .u8 (240 + r / 262144), .int .u8 (128 + r / 4096 % 64), .int .u8 (128 + r / 64 % 64), .int .u8 (128 + r % 64)]).take (4 - (q / 6).toNat)))) (fun _ left _ => (intOf left).toNat)
  case atStart => exact ⟨18, rfl, by omega, HB.out, H1.out⟩
  case round =>
    obtain ⟨q, rfl, hj, HR⟩ := hrel
    rcases hj with rfl | rfl | rfl | rfl
    · go_wp2_with fail
      go_ret
      exact ⟨_, rfl, HR.out.2, HR.out.1⟩
    · have hown2 : wr.ownsRow base 5 1 u0 (m + 3) (xs ++ [.int .u8 (240 + r / 262144), .int .u8 (128 + r / 4096 % 64), .int .u8 (128 + r / 64 % 64)]) := HR.out.2
      have hsr := HR.out.1.size
      have hmx2 : m + 3 + 1 ≤ maxLen := by unfold maxLen; omega
      have H2 := Lib.hid hown2
      clear hown2
      go_wp2_with (at_builtin; refine wpList_append_own_at _ rfl (.tmp 27) (.tmp 34) _ rfl base 5 i0 _ 1 1 Tryd.underlying54 I0.out I1.out I2.out I3.out rfl (by omega) u0 (m + 3) _ rfl (H2.out.alloc _) ⟨wr.heap.size, 0, none⟩ 1 1 [_] rfl rfl (cell_one_new _ _ _) (by simp [Value.oneCell']) hmx2 (by omega) (by simp; omega) ?_; intro v2 w2 hown2 hg2 hn2 hat2; have H3 := Lib.hid hown2; have H4 := Lib.hid hg2; clear hown2 hg2 hn2 hat2)
      go_roundw
      case rel =>
        refine ⟨0, rfl, by omega, ?_, ?_⟩
        · exact HR.out.1.trans (((Below.refl _ _).alloc (by omega) _).trans (below_grown (H2.out.alloc _) H4.out (by simp; omega)))
        · have := H3.out
          rw [List.append_assoc] at this
          exact this
      case measure => simp [intOf]
    · have hown2 : wr.ownsRow base 5 1 u0 (m + 2) (xs ++ [.int .u8 (240 + r / 262144), .int .u8 (128 + r / 4096 % 64)]) := HR.out.2
      have hsr := HR.out.1.size
      have hmx2 : m + 2 + 1 ≤ maxLen := by unfold maxLen; omega
      have H2 := Lib.hid hown2
      clear hown2
      go_wp2_with (at_builtin; refine wpList_append_own_at _ rfl (.tmp 27) (.tmp 34) _ rfl base 5 i0 _ 1 1 Tryd.underlying54 I0.out I1.out I2.out I3.out rfl (by omega) u0 (m + 2) _ rfl (H2.out.alloc _) ⟨wr.heap.size, 0, none⟩ 1 1 [_] rfl rfl (cell_one_new _ _ _) (by simp [Value.oneCell']) hmx2 (by omega) (by simp; omega) ?_; intro v2 w2 hown2 hg2 hn2 hat2; have H3 := Lib.hid hown2; have H4 := Lib.hid hg2; clear hown2 hg2 hn2 hat2)
      go_roundw
      case rel =>
        refine ⟨6, rfl, by omega, ?_, ?_⟩
        · exact HR.out.1.trans (((Below.refl _ _).alloc (by omega) _).trans (below_grown (H2.out.alloc _) H4.out (by simp; omega)))
        · have := H3.out
          rw [List.append_assoc] at this
          exact this
      case measure => simp [intOf]
    · have hown2 : wr.ownsRow base 5 1 u0 (m + 1) (xs ++ [.int .u8 (240 + r / 262144)]) := HR.out.2
      have hsr := HR.out.1.size
      have hmx2 : m + 1 + 1 ≤ maxLen := by unfold maxLen; omega
      have H2 := Lib.hid hown2
      clear hown2
      go_wp2_with (at_builtin; refine wpList_append_own_at _ rfl (.tmp 27) (.tmp 34) _ rfl base 5 i0 _ 1 1 Tryd.underlying54 I0.out I1.out I2.out I3.out rfl (by omega) u0 (m + 1) _ rfl (H2.out.alloc _) ⟨wr.heap.size, 0, none⟩ 1 1 [_] rfl rfl (cell_one_new _ _ _) (by simp [Value.oneCell']) hmx2 (by omega) (by simp; omega) ?_; intro v2 w2 hown2 hg2 hn2 hat2; have H3 := Lib.hid hown2; have H4 := Lib.hid hg2; clear hown2 hg2 hn2 hat2)
      go_roundw
      case rel =>
        refine ⟨12, rfl, by omega, ?_, ?_⟩
        · exact HR.out.1.trans (((Below.refl _ _).alloc (by omega) _).trans (below_grown (H2.out.alloc _) H4.out (by simp; omega)))
        · have := H3.out
          rw [List.append_assoc] at this
          exact this
      case measure => simp [intOf]

/-- A character's bytes. -/
def byI (r : Int) : List Int :=
  if r ≤ 127 then [r] else if r ≤ 2047 then [192 + r / 64, 128 + r % 64] else if r ≤ 65535 then [224 + r / 4096, 128 + r / 64 % 64, 128 + r % 64] else [240 + r / 262144, 128 + r / 4096 % 64, 128 + r / 64 % 64, 128 + r % 64]
def u8s (l : List Int) : List Value := l.map fun x => .int .u8 x

theorem put_any (base : Nat) (v : Value) (m : Nat) (xs : List Value) (r : Int) (w : World) (hT : Tab w) (hb : 1 ≤ base) (hbw : base ≤ w.heap.size) (hown : w.ownsRow base 5 1 v m xs) (hm : m ≤ 1000000) (hs : scal r = true) :
    Calls Tryd.prog 28 #[v, .int .i32 r, .int .i64 (lenI r)] w fun e w' => ∃ v', e = .returned v' ∧ w'.ownsRow base 5 1 v' (m + (byI r).length) (xs ++ u8s (byI r)) ∧ Below base w w' := by
  obtain ⟨h0, h1⟩ := scal_bd hs
  have hl := (lenI_yes hs).symm
  unfold byI
  by_cases c1 : r ≤ 127
  · rw [if_pos c1] at hl ⊢
    rw [hl]; exact put1 base v m xs r w hT hb hbw hown hm h0 c1
  rw [if_neg c1] at hl ⊢
  by_cases c2 : r ≤ 2047
  · rw [if_pos c2] at hl ⊢
    rw [hl]; exact put2 base v m xs r w hT hb hbw hown hm (by omega) c2
  rw [if_neg c2] at hl ⊢
  by_cases c3 : r ≤ 65535
  · rw [if_pos c3] at hl ⊢
    rw [hl]; exact put3 base v m xs r w hT hb hbw hown hm (by omega) c3
  rw [if_neg c3] at hl ⊢
  rw [hl]; exact put4 base v m xs r w hT hb hbw hown hm (by omega) h1
end Go.Proofs.YtoiedhkhmdgipaaDoor

import Derived.Test.YtfjckdjnnbpcnaaYJ
import Derived.Test.YtfjckdjnnbpcnaaCr
import Derived.Test.YtfjckdjnnbpcnaaTG
namespace Go.Proofs.Ytfjckdjnnbpcnaa.Tr
open Go.RowKit Go.Shelf

attribute [local go_sem] Oper.semAt_some

/-- told of a nil table: nothing comes. -/
theorem toldN_any (w : World) : Calls Try.prog 46 #[.pointer none] w fun e w' => e = .returned (.func (.func 53) #[] #[.pointer (some ⟨w.heap.size, 0, none⟩)]) ∧ w' = w.alloc (.cells #[.pointer none] 48) := by
  go_enter Try.func46, Try.ntmps46
  go_wp2_with fail
  go_ret
  exact ⟨rfl, rfl⟩
set_option maxHeartbeats 4000000 in
set_option maxRecDepth 100000 in
theorem toldN_iter {α : Type} (encs : α → Array Value) (X : Nat) (n : Nat) (n0 : Nat) (w : World) (hX : X < w.heap.size) (hc : w.cell? ⟨X, 0, none⟩ = some (.pointer none)) :
    SeqStopsK Fence.wide n Try.prog 53 #[.pointer (some ⟨X, 0, none⟩)] encs (Below n0) (fun ys : List α => ys = []) (fun pre => pre <+: []) 0 w := fun l J Jx W hW _ _ hY h0 => by
  have hc' := (hW.cell (p := ⟨X, 0, none⟩) hX).trans hc
  refine callsIn_of_wp Try.func53 rfl trivial ?_ rfl
  simp only [Try.ntmps53, List.size_toArray, List.length_cons, List.length_nil, Nat.reduceAdd, Nat.reduceSub, Array.replicate_succ, Array.replicate_zero, List.push_toArray, List.append_toArray, List.nil_append, List.cons_append]
  gi_wp2
  refine bodyPost_ret (results_none rfl _ _ _) rfl ?_
  exact ⟨⟨_, rfl⟩, .inl ⟨_, rfl, h0⟩⟩
set_option maxHeartbeats 4000000 in
set_option maxRecDepth 100000 in
theorem spansN_any (w : World) : Calls Try.prog 36 #[.pointer none] w fun e w' => e = .returned (.slice none 0 0) ∧ Below w.heap.size w w' := by
  refine calls_marks Try.func36 rfl ?_
  simp only [Try.ntmps36, List.size_toArray, List.length_cons, List.length_nil, Nat.reduceAdd, Nat.reduceSub, Array.replicate_succ, Array.replicate_zero, List.push_toArray, List.append_toArray, List.nil_append, List.cons_append]
  go_wp2_with (go_at_call 46; refine (toldN_any _).mono ?_; rintro e w1 ⟨rfl, rfl⟩)
  obtain ⟨W0, hW0⟩ : ∃ W0, W0 = (w.alloc (.cells #[.slice none 0 0] 75)).alloc (.cells #[.pointer none] 48) := ⟨_, rfl⟩
  rw [← hW0]
  have z1 : (w.alloc (.cells #[.slice none 0 0] 75)).heap.size = w.heap.size + 1 := by simp
  have hb1 : Bk (w.alloc (.cells #[.slice none 0 0] 75)) w.heap.size [.slice none 0 0] 75 := ⟨heap_alloc_new w _⟩
  have hb2 : Bk W0 (w.heap.size + 1) [.pointer none] 48 := ⟨by rw [hW0, ← z1]; exact heap_alloc_new _ _⟩
  have k1 := hb1.below ((Below.refl _ _).alloc (Nat.le_refl _) (.cells #[.pointer none] 48))
  rw [← hW0] at k1
  have D0 : Below w.heap.size w W0 := by rw [hW0]; exact ((Below.refl _ w).alloc (Nat.le_refl _) _).alloc (by simp) _
  have hz0 : W0.heap.size = w.heap.size + 2 := by rw [hW0]; simp
  clear hW0 z1 hb1
  refine wp_of_wide (wpIn_rangeFunc_ownF (α := Unit) rfl (by omega) (gf := 53) (lb := #[.pointer (some ⟨w.heap.size + 1, 0, none⟩)]) rfl trivial (enters_of Try.func53 (by kernel_rfl) rfl)
    (toldN_iter (fun _ => #[.int .i32 0, .string ⟨#[]⟩]) (w.heap.size + 1) 4 w.heap.size W0 (by omega) (hb2.c (i := 0) rfl)) belowK_t (belowK_b (by omega)) (Below.refl _ _) (fun _ => rfl)
    (fun _ W => (W.cell? ⟨w.heap.size, 0, none⟩ = some (.slice none 0 0)) ∧ Below w.heap.size w W)
    (fun _ _ _ => False)
    (OwnFrom.and (Own.from (fun s A B row hs hg hr => cell_kept hs hg hr) _) (ownFrom_below (Nat.le_refl _) (by omega)))
    (fun _ _ _ _ _ hs _ _ => hs)
    ⟨k1.c (i := 0) rfl, D0⟩
    ?a1 ?assign (fun l pre x W _ h => absurd h (Nat.not_lt_zero _)) ?done ?stop)
  case a1 => exact fun _ => { tmps := #[.pointer none, undef, .slice none 0 0, .pointer (some ⟨w.heap.size, 0, none⟩), .int .i32 0, .string ⟨#[]⟩, undef, .pointer none, .func (.func 53) #[] #[.pointer (some ⟨w.heap.size + 1, 0, none⟩)], .int .i32 0, .string ⟨#[]⟩] ++ Array.replicate 40 undef, defers := [] }
  case assign =>
    intro l x W K hK
    simp only [Array.replicate_succ, Array.replicate_zero, List.push_toArray, List.append_toArray, List.nil_append, List.cons_append] at hK
    gi_wp2
    exact hK
  case stop =>
    rintro D c pre W _ _ h _
    exact h.elim
  case done =>
    rintro D ys W hD rfl ⟨c0, hB⟩ hK
    have HK := Lib.hid hK
    have HB := Lib.hid hB
    clear hK hB k1 hb2
    go_wp2_with fail
    refine leave_mark HK.out (leave_nil (results_tmp rfl _ _ _) ⟨rfl, ?_⟩)
    exact below_put HB.out (by omega)
theorem nilAll_any (w : World) : Calls Try.prog 21 #[.pointer none] w fun e w' => ∃ B, e = .returned (.func (.func 37) #[] #[.pointer (some ⟨B, 0, none⟩)]) ∧ B < w'.heap.size ∧ w'.cell? ⟨B, 0, none⟩ = some (.slice none 0 0) ∧ Below w.heap.size w w' := by
  go_enter Try.func21, Try.ntmps21
  go_wp2_with fail
  refine (spansN_any w).mono ?_
  rintro e w1 ⟨rfl, hb⟩
  have HB := Lib.hid hb
  clear hb
  go_wp2_with fail
  go_ret
  exact ⟨_, rfl, by simp, by simp, HB.out.alloc HB.out.size _⟩

set_option maxHeartbeats 4000000 in
set_option maxRecDepth 100000 in
theorem nilIter {α : Type} (encs : α → Array Value) (X : Nat) (n : Nat) (n0 : Nat) (w : World) (hX : X < w.heap.size) (hc : w.cell? ⟨X, 0, none⟩ = some (.slice none 0 0)) :
    SeqStopsK Fence.wide n Try.prog 37 #[.pointer (some ⟨X, 0, none⟩)] encs (Below n0) (fun ys : List α => ys = []) (fun pre => pre <+: []) 0 w := fun l J Jx W hW _ _ hY h0 => by
  have hc' := (hW.cell (p := ⟨X, 0, none⟩) hX).trans hc
  refine callsIn_of_wp Try.func37 rfl trivial ?_ rfl
  simp only [Try.ntmps37, List.size_toArray, List.length_cons, List.length_nil, Nat.reduceAdd, Nat.reduceSub, Array.replicate_succ, Array.replicate_zero, List.push_toArray, List.append_toArray, List.nil_append, List.cons_append]
  gi_wp2
  gi_loopw [7] (fun i wr => i = .int .i64 0 ∧ J [] wr) (fun _ _ => 0)
  case atStart => exact ⟨rfl, h0⟩
  case round =>
    obtain ⟨rfl, hJs⟩ := hrel
    gi_wp2
    go_end0
    exact ⟨⟨_, rfl⟩, .inl ⟨_, rfl, hJs⟩⟩

set_option maxHeartbeats 4000000 in
set_option maxRecDepth 100000 in
theorem nil4 (f t r : Int) (w : World) : (Calls Try.prog 22 #[.pointer none, .int .i32 f, .int .i32 t, .string ⟨#[97]⟩] w fun e w' => e = .returned (.int .i64 2) ∧ w = w') ∧
    (Calls Try.prog 23 #[.pointer none, .int .i32 r] w fun e w' => e = .returned (.string ⟨#[]⟩) ∧ w = w') ∧
    (Calls Try.prog 24 #[.pointer none] w fun e w' => e = .returned (.int .i64 0) ∧ w = w') ∧
    (Calls Try.prog 25 #[.pointer none] w fun e w' => e = .returned (.pointer none) ∧ w = w') := by
  refine ⟨?_, ?_, ?_, ?_⟩
  · go_enter Try.func22, Try.ntmps22
    go_wp2_with fail
    go_ret
    exact ⟨rfl, rfl⟩
  · go_enter Try.func23, Try.ntmps23
    go_wp2_with fail
    go_ret
    exact ⟨rfl, rfl⟩
  · go_enter Try.func24, Try.ntmps24
    go_wp2_with fail
    go_ret
    exact ⟨rfl, rfl⟩
  · go_enter Try.func25, Try.ntmps25
    go_wp2_with fail
    go_ret
    exact ⟨rfl, rfl⟩

set_option maxHeartbeats 8000000 in
set_option maxRecDepth 100000 in
theorem trieNil_walk (f t u r : Int) (w : World) (hA : ∀ W, Calls Try.prog 11 #[] W fun e w' => e = .returned (.bool true) ∧ Below W.heap.size W w') :
    Calls Try.prog 7 #[.agg #[.int .i32 f, .int .i32 t, .int .i64 u], .int .i32 r] w fun e w' => e = .returned (.bool true) ∧ Below w.heap.size w w' := by
  have HA := Lib.hid hA
  have H4 := Lib.hid (nil4 f t r)
  clear hA
  refine calls_marks Try.func7 rfl ?_
  simp only [Try.ntmps7, List.size_toArray, List.length_cons, List.length_nil, Nat.reduceAdd, Nat.reduceSub, Array.replicate_succ, Array.replicate_zero, List.push_toArray, List.append_toArray, List.nil_append, List.cons_append]
  have hnf : ∀ (cap : Array Value) (W : World), (binOp BinOp.eql 50 (.func (.func 37) #[] cap) .nilFunc).run Try.prog W = .ok (.bool false) W := fun _ _ => by kernel_rfl
  go_wp2_with (go_at_call 21; refine (nilAll_any _).mono ?_; rintro e w1 ⟨B, rfl, hBl, hBc, hb⟩)
  obtain ⟨W0, hW0⟩ : ∃ W0, W0 = w1.alloc (.cells #[.int .i64 0] 3) := ⟨_, rfl⟩
  rw [← hW0]
  have hb1 : Bk (w.alloc (.cells #[.int .i32 f, .int .i32 t, .int .i64 u] 33)) w.heap.size [.int .i32 f, .int .i32 t, .int .i64 u] 33 := ⟨heap_alloc_new w _⟩
  have hb3 : Bk W0 w1.heap.size [.int .i64 0] 3 := ⟨by rw [hW0]; exact heap_alloc_new _ _⟩
  have hal : Below w1.heap.size w1 W0 := by rw [hW0]; exact (Below.refl _ _).alloc (Nat.le_refl _) _
  have k1 := (hb1.below hb).below hal
  have hBc0 : W0.cell? ⟨B, 0, none⟩ = some (.slice none 0 0) := (hal.cell (p := ⟨B, 0, none⟩) hBl).trans hBc
  have hs1 := hb.size
  have hs0 := hal.size
  simp only [World.size_alloc] at hs1
  have D0 : Below w.heap.size w W0 := (((Below.refl _ w).alloc (Nat.le_refl _) _).trans (hb.mono (by simp))).trans (hal.mono (by omega))
  have hz0 : W0.heap.size = w1.heap.size + 1 := by rw [hW0]; simp
  clear hW0 hb1 hal hb hBc
  refine wp_of_wide (wpIn_rangeFunc_ownF (α := Unit) rfl (by omega) (gf := 37) (lb := #[.pointer (some ⟨B, 0, none⟩)]) rfl trivial (enters_of Try.func37 (by kernel_rfl) rfl)
    (nilIter (fun _ => #[.agg #[.int .i32 0, .int .i32 0], .string ⟨#[]⟩]) B 4 w.heap.size W0 (by omega) hBc0) belowK_t (belowK_b (by omega)) (Below.refl _ _) (fun _ => rfl)
    (fun pre W => (pre = [] ∧ W.cell? ⟨w.heap.size, 0, none⟩ = some (.int .i32 f) ∧ W.cell? ⟨w.heap.size, 1, none⟩ = some (.int .i32 t) ∧ W.cell? ⟨w1.heap.size, 0, none⟩ = some (.int .i64 0)) ∧ Below w.heap.size w W)
    (fun _ _ _ => False)
    (OwnFrom.and (Own.from (fun s A B row hs hg hr => ⟨hs.1, cell_kept hs.2.1 hg hr, cell_kept hs.2.2.1 hg hr, cell_kept hs.2.2.2 hg hr⟩) _) (ownFrom_below (Nat.le_refl _) (by omega)))
    (fun _ _ _ _ _ hs _ _ => hs)
    ⟨⟨rfl, k1.c (i := 0) rfl, k1.c (i := 1) rfl, hb3.c (i := 0) rfl⟩, D0⟩
    _ (fun l x W K hK => wpIn_skip hK) (fun l pre x W _ h => absurd h (Nat.not_lt_zero _)) ?done ?stop)
  case stop =>
    rintro D c pre W _ _ h _
    exact h.elim
  case done =>
    rintro D ys W hD rfl ⟨⟨_, c0, c1, cn⟩, hB⟩ hK
    have HK := Lib.hid hK
    have HB := Lib.hid hB
    clear hK hB k1 hb3
    have hDl : D < W.heap.size := (Array.getElem?_eq_some_iff.1 HK.out).1
    go_wp2_with (first
      | (go_at_call 22; refine (H4.out _).1.mono ?_; rintro e w' ⟨rfl, rfl⟩)
      | (go_at_call 23; refine (H4.out _).2.1.mono ?_; rintro e w' ⟨rfl, rfl⟩)
      | (go_at_call 24; refine (H4.out _).2.2.1.mono ?_; rintro e w' ⟨rfl, rfl⟩)
      | (go_at_call 25; refine (H4.out _).2.2.2.mono ?_; rintro e w' ⟨rfl, rfl⟩)
      | (go_at_call 11; refine (HA.out _).mono ?_; rintro e w9 ⟨rfl, hb9⟩; have B9 := Lib.hid hb9; have K9 := Lib.hid ((hb9.block D hDl).trans HK.out); clear hb9))
    refine leave_mark K9.out (leave_nil (results_tmp rfl _ _ _) ⟨rfl, ?_⟩)
    exact below_put (HB.out.trans (B9.out.mono HB.out.size)) (by omega)

end Go.Proofs.Ytfjckdjnnbpcnaa.Tr

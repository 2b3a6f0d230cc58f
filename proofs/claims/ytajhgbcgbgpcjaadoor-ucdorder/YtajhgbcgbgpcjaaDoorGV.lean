import Derived.Test.YtajhgbcgbgpcjaaDoorGH
import Derived.Test.YtajhgbcgbgpcjaaDoorFL
namespace Go.Proofs.YtajhgbcgbgpcjaaDoor.Uc
open Go.RowKit Fi

set_option maxRecDepth 100000 in
set_option maxHeartbeats 1000000 in
theorem same_any (f t c : Int) (n g k : ByteArray) (A1 A2 : Option Addr) (c1 c2 : Nat) (l : List Int) (w : World) (h1 : Ints .i32 w A1 l) (h2 : Ints .i32 w A2 l) (hl : l.length ≤ 100000) :
    Calls Tryd.prog 10 #[.agg #[.int .i32 f, .int .i32 t, .string n, .string g, .int .i64 c, .string k, .slice A1 l.length c1], .agg #[.int .i32 f, .int .i32 t, .string n, .string g, .int .i64 c, .string k, .slice A2 l.length c2]] w
      fun e w' => e = .returned (.bool true) ∧ Below w.heap.size w w' := by
  obtain ⟨w2, hw2⟩ : ∃ w2, w2 = (w.alloc (.cells #[.int .i32 f, .int .i32 t, .string n, .string g, .int .i64 c, .string k, .slice A1 l.length c1] 33)).alloc (.cells #[.int .i32 f, .int .i32 t, .string n, .string g, .int .i64 c, .string k, .slice A2 l.length c2] 34) := ⟨_, rfl⟩
  have hb : Below w.heap.size w w2 := by rw [hw2]; exact ((Below.refl _ w).alloc (Nat.le_refl _) _).alloc (by simp) _
  have hE := eqR A1 A2 c1 c2 l l w2 (h1.below hb) (h2.below hb) hl hl
  rw [decide_eq_true rfl, hw2] at hE
  rw [hw2] at hb
  have HE := Lib.hid hE
  have D := Lib.hid hb
  clear hE hb h1 h2 hw2
  go_enter Tryd.func10, Tryd.ntmps10
  go_wp2_with (go_at_call 13; refine HE.out.mono ?_; rintro e w3 ⟨rfl, hb⟩; have B3 := Lib.hid hb; clear hb)
  go_ret
  exact ⟨rfl, D.out.trans (B3.out.mono D.out.size)⟩

theorem aw5 : rwsE (⟨#[48, 48, 67, 57, 59, 69, 59, 76, 117, 59, 48, 59, 76, 59, 48, 48, 52, 53, 32, 48, 51, 48, 49, 10, 48, 48, 67, 65, 59, 88, 59, 76, 117, 59, 48, 59, 76, 59, 60, 110, 111, 66, 114, 101, 97, 107, 62, 32, 48, 48, 50, 48]⟩ : ByteArray).data.toList = ([⟨201, 201, [69], [76, 117], 0, [], [69, 769]⟩, ⟨202, 202, [88], [76, 117], 0, [110, 111, 66, 114, 101, 97, 107], [32]⟩], 0, 0) := by kernel_rfl
set_option maxRecDepth 1000000 in
set_option maxHeartbeats 4000000 in
theorem awake_any (w : World) (hL : Ml w) : Calls Tryd.prog 7 #[] w fun e w' => e = .returned (.bool true) ∧ Below w.heap.size w w' := by
  have h1 := rows_any ⟨#[48, 48, 67, 57, 59, 69, 59, 76, 117, 59, 48, 59, 76, 59, 48, 48, 52, 53, 32, 48, 51, 48, 49, 10, 48, 48, 67, 65, 59, 88, 59, 76, 117, 59, 48, 59, 76, 59, 60, 110, 111, 66, 114, 101, 97, 107, 62, 32, 48, 48, 50, 48]⟩ w hL (by decide)
  rw [aw5] at h1
  have H1 := Lib.hid (show Calls Tryd.prog 8 _ w fun e w' => ∃ g off cap A c, e = .returned (.tuple #[.slice (some ⟨g, off, none⟩) 2 cap, .int .i64 0, .int .i64 0]) ∧ w'.cell? ⟨g, off, none⟩ = some (.int .i32 201) ∧ w'.cell? ⟨g, off + 4, none⟩ = some (.int .i64 0) ∧ w'.cell? ⟨g, off + 6, none⟩ = some (.slice A 2 c) ∧ Ints .i32 w' A [69, 769] ∧ w'.cell? ⟨g, off + 12, none⟩ = some (.string ⟨#[110, 111, 66, 114, 101, 97, 107]⟩) ∧ Below w.heap.size w w' from by
    refine h1.mono ?_
    rintro e w' ⟨v, l, he, hl, hin, hb⟩
    obtain ⟨A, cap, rfl, hr⟩ := hin.rws
    rw [hl] at hr he
    obtain ⟨b, off, u, rfl, hlt, ⟨A2, c2, rfl, hi⟩, q0, q1, q2, q3, q4, q5, q6⟩ := hr 0 (by simp)
    obtain ⟨b', off', u', e2, _, _, _, _, _, _, _, p5, _⟩ := hr 1 (by simp)
    simp only [Option.some.injEq, Addr.mk.injEq] at e2
    obtain ⟨rfl, rfl, _⟩ := e2
    exact ⟨b, off, cap, A2, c2, he, q0, q4, q6, hi, p5, hb⟩)
  clear h1 hL
  go_enter Tryd.func7, Tryd.ntmps7
  go_wp2_with fail
  refine H1.out.mono ?_
  rintro e w1 ⟨g, off, cap, A, c, rfl, a0, a4, a6, hi, b5, hb⟩
  have B1 := Lib.hid hb
  obtain ⟨w2, hw2⟩ : ∃ w2, w2 = w1.alloc (.cells #[.int .i32 69, .int .i32 769] 21) := ⟨_, rfl⟩
  have hb2 : Below w1.heap.size w1 w2 := by rw [hw2]; exact (Below.refl _ w1).alloc (Nat.le_refl _) _
  have hi2 : Ints .i32 w2 (some ⟨w1.heap.size, 0, none⟩) [69, 769] := by
    have hk : Bk w2 w1.heap.size [.int .i32 69, .int .i32 769] 21 := by rw [hw2]; exact ⟨heap_alloc_new w1 _⟩
    intro i hi
    have h2 : i = 0 ∨ i = 1 := by simp at hi; omega
    rcases h2 with rfl | rfl
    · exact ⟨_, _, rfl, hk.lt, hk.c rfl⟩
    · exact ⟨_, _, rfl, hk.lt, hk.c rfl⟩
  have hE := eqR A (some ⟨w1.heap.size, 0, none⟩) c 2 [69, 769] [69, 769] w2 (hi.below hb2) hi2 (by decide) (by decide)
  rw [decide_eq_true rfl, hw2] at hE
  have HE := Lib.hid (show Calls Tryd.prog 13 #[.slice A 2 c, .slice (some ⟨w1.heap.size, 0, none⟩) 2 2] (w1.alloc (.cells #[.int .i32 69, .int .i32 769] 21)) _ from hE)
  have B2 := Lib.hid (show Below w.heap.size w (w1.alloc (.cells #[.int .i32 69, .int .i32 769] 21)) from hb.alloc hb.size _)
  have b5' := (hb2.cell (p := ⟨g, off + 12, none⟩) (World.block_lt_of_cell? w1 _ b5)).trans b5
  rw [hw2] at b5'
  have KB := Lib.hid b5'
  have hgl : g < w1.heap.size := World.block_lt_of_cell? w1 _ b5
  clear hE hi hi2 hb hb2 hw2 H1 b5'
  go_wp2_with (go_at_call 13; refine HE.out.mono ?_; rintro e w3 ⟨rfl, hb⟩; have B3 := Lib.hid hb; have b6 := (hb.cell (p := ⟨g, off + 12, none⟩) (by simp; omega)).trans KB.out; clear hb)
  go_ret
  exact ⟨rfl, B2.out.trans (B3.out.mono B2.out.size)⟩

end Go.Proofs.YtajhgbcgbgpcjaaDoor.Uc

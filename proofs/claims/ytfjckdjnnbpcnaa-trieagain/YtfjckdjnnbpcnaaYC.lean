import Derived.Test.YtfjckdjnnbpcnaaYB
namespace Go.Proofs.Ytfjckdjnnbpcnaa.Tr
open Go.RowKit Go.Maps

theorem Mv.refl (F : Nat → Prop) (w : World) : Mv F F w w := Mv.of_below (Below.refl _ _)
theorem Mv.drew {F F' : Nat → Prop} {w w' : World} (h : Mv F F' w w') (n : Nat) : Mv F F' w (w'.drewN n) := ⟨h.os, h.tape, h.output, h.size, h.keep, h.fp⟩
theorem Mv.set {w w' : World} {B : Nat} (h : Mv (· = B) (· = B) w w') (o : Nat) (v : Value) : Mv (· = B) (· = B) w (w'.setCell ⟨B, o, none⟩ v) :=
  ⟨h.os, h.tape, h.output, by simpa [World.setCell] using h.size, fun k hk hF => (Below.heap_setCell _ _ _ _ hF).trans (h.keep k hk hF), h.fp⟩
def lo (k f : Int) : Int := if f - k * 256 < 0 then 0 else f - k * 256
def hi (k t : Int) : Int := if 255 < t - k * 256 then 255 else t - k * 256
theorem fill_step {w wr : World} {B S L j : Nat} {h : Nat → Bool × Int} {c1 : Bool} {c2 : Int} (hS : B ≠ S) (hj : j < 256) (hL : L ≤ j)
    (H : Bk wr B (blkC fun q => if L ≤ q ∧ q < j then (c1, c2) else h q) 68 ∧ Bk wr S [.bool c1, .int .i64 c2] 66 ∧ Mv (· = B) (· = B) w wr) :
    Bk ((wr.setCell ⟨B, j * 2, none⟩ (.bool c1)).setCell ⟨B, j * 2 + 1, none⟩ (.int .i64 c2)).drew B (blkC fun q => if L ≤ q ∧ q < j + 1 then (c1, c2) else h q) 68 ∧
      Bk ((wr.setCell ⟨B, j * 2, none⟩ (.bool c1)).setCell ⟨B, j * 2 + 1, none⟩ (.int .i64 c2)).drew S [.bool c1, .int .i64 c2] 66 ∧
      Mv (· = B) (· = B) w ((wr.setCell ⟨B, j * 2, none⟩ (.bool c1)).setCell ⟨B, j * 2 + 1, none⟩ (.int .i64 c2)).drew := by
  obtain ⟨h1, h2, h3⟩ := H
  refine ⟨?_, (h2.on (Below.heap_setCell _ _ _ _ (fun e => hS e.symm))).on (Below.heap_setCell _ _ _ _ (fun e => hS e.symm)), ((h3.set _ _).set _ _).drew 1⟩
  have h4 := (h1.set (j * 2) (.bool c1)).set (j * 2 + 1) (.int .i64 c2)
  rw [blkC_set _ j (c1, c2) hj] at h4
  rw [blkC_same (h' := fun k => if k = j then (c1, c2) else if L ≤ k ∧ k < j then (c1, c2) else h k) fun q hq => by
    by_cases e : q = j
    · subst e; rw [if_pos ⟨hL, by omega⟩, if_pos rfl]
    · rw [if_neg e]
      by_cases e2 : L ≤ q ∧ q < j
      · rw [if_pos (by omega), if_pos e2]
      · rw [if_neg (by omega), if_neg e2]]
  exact h4.drew 1
set_option maxHeartbeats 4000000 in
set_option maxRecDepth 100000 in
theorem fill_any (w : World) (B : Nat) (h : Nat → Bool × Int) (k f t : Int) (c1 : Bool) (c2 : Int) (hB : Bk w B (blkC h) 68) (hk0 : 0 ≤ k) (hk1 : f / 256 ≤ k) (hk2 : k ≤ t / 256) (hf : 0 ≤ f) (hft : f ≤ t) (ht : t ≤ 1114111) :
    Calls Try.prog 43 #[.pointer (some ⟨B, 0, none⟩), .int .i32 k, .int .i32 f, .int .i32 t, .agg #[.bool c1, .int .i64 c2]] w
      fun e w' => e = .returned (.tuple #[]) ∧ Bk w' B (blkC fun j => if f ≤ k * 256 + j ∧ k * 256 + j ≤ t then (c1, c2) else h j) 68 ∧ Mv (· = B) (· = B) w w' := by
  have HB := Lib.hid hB
  have hBS : B ≠ w.heap.size := by have := hB.lt; omega
  have hk3 : k ≤ 4351 := by omega
  clear hB
  have hlo : (0 ≤ f - k * 256 ∧ lo k f = f - k * 256) ∨ (f - k * 256 < 0 ∧ lo k f = 0) := by unfold lo; split <;> omega
  have hhi : (t - k * 256 ≤ 255 ∧ hi k t = t - k * 256) ∨ (255 < t - k * 256 ∧ hi k t = 255) := by unfold hi; split <;> omega
  obtain ⟨L, hL⟩ : ∃ L : Nat, (L : Int) = lo k f := ⟨(lo k f).toNat, by omega⟩
  obtain ⟨H, hH⟩ : ∃ H : Nat, (H : Int) = hi k t := ⟨(hi k t).toNat, by omega⟩
  have hL2 : L ≤ 255 := by omega
  have hH2 : H ≤ 255 := by omega
  have hLH : L ≤ H + 1 := by omega
  have HE : Hid (∀ j : Nat, j < 256 → ((f ≤ k * 256 + j ∧ k * 256 + j ≤ t) ↔ (L ≤ j ∧ j ≤ H))) := by
    have h1 : ∀ j : Nat, j < 256 → ((f ≤ k * 256 + j ∧ k * 256 + j ≤ t) ↔ (L ≤ j ∧ j ≤ H)) := fun j hj => by omega
    exact Lib.hid h1
  have hlo2 : (0 ≤ f - k * 256 ∧ f - k * 256 = (L : Int)) ∨ (f - k * 256 < 0 ∧ (0 : Int) = (L : Int)) := by omega
  have hhi2 : (t - k * 256 ≤ 255 ∧ t - k * 256 = (H : Int)) ∨ (255 < t - k * 256 ∧ (255 : Int) = (H : Int)) := by omega
  clear hlo hhi hL hH
  go_enter Try.func43, Try.ntmps43
  rcases hlo2 with ⟨hlo, hlo3⟩ | ⟨hlo, hlo3⟩
  all_goals
    have HLO := Lib.hid hlo3
    clear hlo3
    go_wp2_with fail
    go_loopw [11] (fun i wr => ∃ j : Nat, i = .int .i32 j ∧ L ≤ j ∧ j ≤ H + 1 ∧ Hid (Bk wr B (blkC fun q => if L ≤ q ∧ q < j then (c1, c2) else h q) 68 ∧ Bk wr w.heap.size [.bool c1, .int .i64 c2] 66 ∧ Mv (· = B) (· = B) w wr)) (fun i _ => 256 - (intOf i).toNat)
    case atStart =>
      refine ⟨L, by rw [HLO.out], Nat.le_refl _, hLH, ?_, ⟨heap_alloc_new w _⟩, Mv.of_below ((Below.refl _ w).alloc (Nat.le_refl _) _)⟩
      have e : (blkC fun q => if L ≤ q ∧ q < L then (c1, c2) else h q) = blkC h := blkC_same fun j _ => by rw [if_neg (by omega)]
      rw [e]
      exact HB.out.below ((Below.refl _ w).alloc (Nat.le_refl _) _)
    case round =>
      obtain ⟨j, rfl, hj0, hj1, HR⟩ := hrel
      by_cases hlt : j ≤ H
      · have b0 := HR.out.1.c (i := j * 2) ((blkC_at _ j 0 (by omega) (by omega)))
        have b1 := HR.out.1.c (i := j * 2 + 1) ((blkC_at _ j 1 (by omega) (by omega)))
        have fr := HR.out.1.fr
        have x0 := HR.out.2.1.c (i := 0) rfl
        have x1 := HR.out.2.1.c (i := 1) rfl
        rcases hhi2 with ⟨hhi, hhi3⟩ | ⟨hhi, hhi3⟩
        all_goals
          have g : (j : Int) ≤ t - k * 256 ∧ (j : Int) ≤ 255 := by omega
          obtain ⟨g1, g2⟩ := g
          clear hhi3
          go_wp2_with fail
          go_region
          all_goals
            go_wp2_with fail
            go_roundw
            case measure => simp [intOf] <;> omega
            case rel =>
              refine ⟨j + 1, by go_num, by omega, by omega, ?_⟩
              exact Lib.hid (fill_step hBS (by omega) hj0 HR.out)
      · have g : ¬ ((j : Int) ≤ t - k * 256 ∧ (j : Int) ≤ 255) := by omega
        rcases hhi2 with ⟨hhi, hhi3⟩ | ⟨hhi, hhi3⟩
        · have g1 : ¬ (j : Int) ≤ t - k * 256 := by omega
          clear hhi3
          go_wp2_with fail
          go_end0
          refine ⟨rfl, ?_, HR.out.2.2⟩
          obtain rfl : j = H + 1 := by omega
          rw [blkC_same (h' := fun q => if L ≤ q ∧ q < H + 1 then (c1, c2) else h q) fun q hq => by
            have h1 := HE.out q hq
            by_cases h2 : L ≤ q ∧ q < H + 1
            · rw [if_pos (h1.2 (by omega)), if_pos h2]
            · rw [if_neg (fun h3 => h2 (by have := h1.1 h3; omega)), if_neg h2]]
          exact HR.out.1
        · have g1 : ¬ (j : Int) ≤ 255 := by omega
          clear hhi3
          go_wp2_with fail
          go_end0
          refine ⟨rfl, ?_, HR.out.2.2⟩
          obtain rfl : j = H + 1 := by omega
          rw [blkC_same (h' := fun q => if L ≤ q ∧ q < H + 1 then (c1, c2) else h q) fun q hq => by
            have h1 := HE.out q hq
            by_cases h2 : L ≤ q ∧ q < H + 1
            · rw [if_pos (h1.2 (by omega)), if_pos h2]
            · rw [if_neg (fun h3 => h2 (by have := h1.1 h3; omega)), if_neg h2]]
          exact HR.out.1

end Go.Proofs.Ytfjckdjnnbpcnaa.Tr


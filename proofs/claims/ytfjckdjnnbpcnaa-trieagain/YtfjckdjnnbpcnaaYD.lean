import Derived.Test.YtfjckdjnnbpcnaaYC
namespace Go.Proofs.Ytfjckdjnnbpcnaa.Tr
open Go.RowKit Go.Maps

/-- Does a block tell something? -/
def telB (h : Nat → Bool × Int) (n : Nat) : Bool := (List.range n).any fun j => (h j).1
theorem telB_one (h : Nat → Bool × Int) (n : Nat) : telB h (n + 1) = (telB h n || (h n).1) := by unfold telB; rw [List.range_succ, List.any_append]; simp
theorem telB_yes {h : Nat → Bool × Int} {j : Nat} (hj : j < 256) (he : (h j).1 = true) : telB h 256 = true := List.any_eq_true.2 ⟨j, List.mem_range.2 hj, he⟩
set_option maxHeartbeats 4000000 in
set_option maxRecDepth 100000 in
theorem tells_any (w : World) (B : Nat) (h : Nat → Bool × Int) (hB : Bk w B (blkC h) 68) :
    Calls Try.prog 44 #[.pointer (some ⟨B, 0, none⟩)] w fun e w' => e = .returned (.bool (!telB h 256)) ∧ w = w' := by
  have HB := Lib.hid hB
  clear hB
  go_enter Try.func44, Try.ntmps44
  go_wp2_with fail
  go_loop [3, 4] (fun _ i => ∃ j : Nat, i = .int .i64 j ∧ j ≤ 256 ∧ Hid (telB h j = false)) (fun _ i => 256 - (intOf i).toNat)
  case atStart => exact ⟨0, rfl, by omega, rfl⟩
  case round =>
    obtain ⟨j, rfl, hj, HR⟩ := hrel
    by_cases hlt : j < 256
    · have b0 := HB.out.c (i := j * 2) ((blkC_at _ j 0 hlt (by omega)))
      have hl : (j : Int) < 256 := by omega
      have HT := Lib.hid (telB_one h j)
      have HY := Lib.hid (telB_yes (h := h) hlt)
      cases hb : (h j).1 with
      | true =>
        simp only [hb] at b0
        have hh := HY.out hb
        have HH := Lib.hid hh
        clear hh hb
        go_wp2_with fail
        go_ret
        exact ⟨by rw [HH.out]; rfl, rfl⟩
      | false =>
        simp only [hb] at b0
        have HN := Lib.hid (show telB h (j + 1) = false by rw [HT.out, HR.out, hb]; rfl)
        clear hb
        go_wp2_with fail
        go_round
        case measure => simp [intOf] <;> omega
        case rel => exact ⟨j + 1, by go_num, by omega, HN⟩
    · obtain rfl : j = 256 := by omega
      have hl : ¬ ((256 : Nat) : Int) < 256 := by omega
      go_wp2_with fail
      go_ret
      exact ⟨by rw [HR.out]; rfl, rfl⟩

set_option maxHeartbeats 4000000 in
theorem new_any (w : World) (nn : Int) : Calls Try.prog 9 #[.int .i64 nn] w fun e w' => e = .returned (.pointer (some ⟨w.heap.size + 1, 0, none⟩)) ∧ w' = (w.alloc (.map #[] 0)).alloc (.cells #[.int .i64 nn, .map (some w.heap.size)] 58) := by
  have hmm := @run_makeMap Try.prog
  go_enter Try.func9, Try.ntmps9
  go_wp2_with fail
  go_ret
  exact ⟨by simp, rfl⟩

end Go.Proofs.Ytfjckdjnnbpcnaa.Tr

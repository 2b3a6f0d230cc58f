import Derived.Test.YtoiedhkhmdgipaaDoorO
import Derived.Laws.BytesArg
namespace Go.Proofs.YtoiedhkhmdgipaaDoor
open Go.RowKit

theorem run_string_new (l : List Int) (w : World) (n : Nat) (hn : l.length = n) :
    (convert 54 9 (.slice (some ⟨w.heap.size, 0, none⟩) n n)).run Tryd.prog (w.alloc (.cells (l.map (Value.int .u8)).toArray 5)) = .ok (.string (strOfNums l)) (w.alloc (.cells (l.map (Value.int .u8)).toArray 5)) := by
  refine run_convert_bytes_arg _ 54 5 Tryd.underlying54 Tryd.underlying5 w.heap.size 0 n n l hn (fun i hi => ?_) 9 Tryd.underlying9
  obtain ⟨b, off, e, _, hc⟩ := ints_new .u8 l 5 w i (by omega)
  simp at e
  obtain ⟨rfl, rfl⟩ := e
  exact hc

set_option maxRecDepth 100000 in
set_option maxHeartbeats 1000000 in
theorem rbytes_any (r : Int) (w : World) (hs : scal r = true) : Calls Tryd.prog 16 #[.int .i32 r] w fun e w' => e = .returned (.string (strOfNums (byI r))) ∧ Below w.heap.size w w' := by
  obtain ⟨h0, h1⟩ := scal_bd hs
  clear hs
  unfold byI
  by_cases c1 : r ≤ 127
  · rw [if_pos c1]
    have hrun := run_string_new [r] w 1 rfl
    simp only [List.map_cons, List.map_nil] at hrun
    go_enter Tryd.func16, Tryd.ntmps16
    go_wp2
    go_ret
    exact ⟨rfl, (Below.refl _ _).alloc (Nat.le_refl _) _⟩
  rw [if_neg c1]
  by_cases c2 : r ≤ 2047
  · rw [if_pos c2]
    have hrun := run_string_new [192 + r / 64, 128 + r % 64] w 2 rfl
    simp only [List.map_cons, List.map_nil] at hrun
    go_enter Tryd.func16, Tryd.ntmps16
    go_wp2
    go_ret
    exact ⟨rfl, (Below.refl _ _).alloc (Nat.le_refl _) _⟩
  rw [if_neg c2]
  by_cases c3 : r ≤ 65535
  · rw [if_pos c3]
    have hrun := run_string_new [224 + r / 4096, 128 + r / 64 % 64, 128 + r % 64] w 3 rfl
    simp only [List.map_cons, List.map_nil] at hrun
    go_enter Tryd.func16, Tryd.ntmps16
    go_wp2
    go_ret
    exact ⟨rfl, (Below.refl _ _).alloc (Nat.le_refl _) _⟩
  rw [if_neg c3]
  have hrun := run_string_new [240 + r / 262144, 128 + r / 4096 % 64, 128 + r / 64 % 64, 128 + r % 64] w 4 rfl
  simp only [List.map_cons, List.map_nil] at hrun
  go_enter Tryd.func16, Tryd.ntmps16
  go_wp2
  go_ret
  exact ⟨rfl, (Below.refl _ _).alloc (Nat.le_refl _) _⟩
end Go.Proofs.YtoiedhkhmdgipaaDoor

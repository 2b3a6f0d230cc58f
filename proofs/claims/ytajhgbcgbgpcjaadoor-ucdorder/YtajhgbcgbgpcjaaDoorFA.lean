import Derived.Test.YtajhgbcgbgpcjaaDoorRows
import Derived.Test.YtajhgbcgbgpcjaaDoorSk
import Derived.Shelf.Strings.SlTrimAscii
import Derived.WalkKit
import Derived.WalkSpells
import Derived.WalkLawsBesides
import Derived.Lib.Hide
import Derived.Lib.Strings
import Derived.Lib.IndexBytes
import Derived.Lib.OthersKept
import Derived.Lib.TrimUEq
import Derived.Lib.TrimU
import Derived.Lib.MapLaws
import Derived.IntWalk
import Derived.Laws.BitsAllLaws
import Derived.Laws.BytesArg
import Derived.Laws.OwnMore
import Derived.Laws.AppendOwnNone
import Derived.Deep.QuietTactic
import Derived.BigQuiet
import Derived.Deep.RegionHeld3
import Derived.Deep.RegionLaw
import Derived.Deep.DrawnRows
import Derived.Deep.AppendLies
import Derived.Deep.Heap
import Derived.Deep.Onto
import Derived.Deep.LoopGhost
import Derived.Maps.AppendAt
namespace Go.Proofs.YtajhgbcgbgpcjaaDoor.Fi
open Go.RowKit

def scal (r : Int) : Bool := (0 ≤ r && r < 55296) || (57343 < r && r ≤ 1114111)
theorem ret_int {k : IntKind} {a b : Int} (h : a = b) : Ending.returned (.int k a) = .returned (.int k b) := by rw [h]
theorem ret_bool {a b : Bool} (h : a = b) : Ending.returned (.bool a) = .returned (.bool b) := by rw [h]
theorem ret2 {k l : IntKind} {a b c d : Int} (h : a = b) (h' : c = d) : Ending.returned (.tuple #[.int k a, .int l c]) = .returned (.tuple #[.int k b, .int l d]) := by rw [h, h']
theorem scal_bd {r : Int} (h : scal r = true) : 0 ≤ r ∧ r ≤ 1114111 := by simp [scal] at h; omega

set_option maxHeartbeats 400000 in
theorem scalar_any (r : Int) (w : World) : Calls Tryd.prog 15 #[.int .i32 r] w fun e w' => e = .returned (.bool (scal r)) ∧ w = w' := by
  unfold scal
  by_cases h1 : 0 ≤ r
  · by_cases h2 : r < 55296
    · go_enter Tryd.func15, Tryd.ntmps15
      go_wp2
      go_ret
      exact ⟨by simp [h1, h2], rfl⟩
    · by_cases h3 : 57343 < r
      · by_cases h4 : r ≤ 1114111
        · go_enter Tryd.func15, Tryd.ntmps15
          go_wp2
          go_ret
          exact ⟨by simp, rfl⟩
        · go_enter Tryd.func15, Tryd.ntmps15
          go_wp2
          go_ret
          exact ⟨by simp; omega, rfl⟩
      · go_enter Tryd.func15, Tryd.ntmps15
        go_wp2
        go_ret
        exact ⟨by simp; omega, rfl⟩
  · have h3 : ¬ 57343 < r := by omega
    go_enter Tryd.func15, Tryd.ntmps15
    go_wp2
    go_ret
    exact ⟨by simp; omega, rfl⟩

/-- What a digit counts; 16: it is none. -/
def dv (b : Nat) : Nat := if 48 ≤ b ∧ b ≤ 57 then b - 48 else if 97 ≤ b ∧ b ≤ 102 then b - 87 else if 65 ≤ b ∧ b ≤ 70 then b - 55 else 16
theorem dv_le (b : Nat) : dv b ≤ 16 := by unfold dv; split <;> (try split) <;> (try split) <;> omega
theorem dv_high {b : Nat} (h : 128 ≤ b) : dv b = 16 := by unfold dv; rw [if_neg (by omega), if_neg (by omega), if_neg (by omega)]
set_option maxHeartbeats 400000 in
theorem digit_any (b : Nat) (w : World) (hb : b ≤ 1114111) : Calls Tryd.prog 84 #[.int .i32 b] w fun e w' => e = .returned (.int .i64 (dv b)) ∧ w = w' := by
  by_cases h1 : 48 ≤ b ∧ b ≤ 57
  · have H := Lib.hid (show dv b = b - 48 by unfold dv; rw [if_pos h1])
    obtain ⟨a1, a2⟩ := h1
    have c1 : (48 : Int) ≤ b := by omega
    have c2 : (b : Int) ≤ 57 := by omega
    go_enter Tryd.func84, Tryd.ntmps84
    go_wp2
    go_ret
    exact ⟨ret_int (by rw [H.out]; omega), rfl⟩
  · by_cases h2 : 97 ≤ b ∧ b ≤ 102
    · have H := Lib.hid (show dv b = b - 87 by unfold dv; rw [if_neg h1, if_pos h2])
      obtain ⟨a1, a2⟩ := h2
      clear h1
      have c1 : (97 : Int) ≤ b := by omega
      have c2 : (b : Int) ≤ 102 := by omega
      go_enter Tryd.func84, Tryd.ntmps84
      go_wp2
      go_ret
      exact ⟨ret_int (by rw [H.out]; omega), rfl⟩
    · by_cases h3 : 65 ≤ b ∧ b ≤ 70
      · have H := Lib.hid (show dv b = b - 55 by unfold dv; rw [if_neg h1, if_neg h2, if_pos h3])
        obtain ⟨a1, a2⟩ := h3
        clear h1 h2
        have c1 : (65 : Int) ≤ b := by omega
        have c2 : (b : Int) ≤ 70 := by omega
        go_enter Tryd.func84, Tryd.ntmps84
        go_wp2
        go_ret
        exact ⟨ret_int (by rw [H.out]; omega), rfl⟩
      · have H := Lib.hid (show dv b = 16 by unfold dv; rw [if_neg h1, if_neg h2, if_neg h3])
        go_enter Tryd.func84, Tryd.ntmps84
        go_wp2
        all_goals first
          | (exfalso; omega)
          | (go_ret; exact ⟨ret_int (by rw [H.out]; rfl), rfl⟩)

end Go.Proofs.YtajhgbcgbgpcjaaDoor.Fi

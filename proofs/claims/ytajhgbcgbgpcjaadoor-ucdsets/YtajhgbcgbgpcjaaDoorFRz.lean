import Derived.Test.YtajhgbcgbgpcjaaDoorFP
namespace Go.Proofs.YtajhgbcgbgpcjaaDoor.Fi
open Go.RowKit

set_option maxHeartbeats 400000 in
theorem rblank_any (b : Nat) (w : World) : Calls Tryd.prog 66 #[.int .u8 b] w fun e w' => e = .returned (.bool (blB b)) ∧ w = w' := by
  have H := Lib.hid (show ∀ x : Bool, (x = true ↔ b = 9 ∨ b = 13 ∨ b = 32) → x = blB b by
    intro x hx
    rw [Bool.eq_iff_iff, hx]
    simp [blB, or_assoc])
  by_cases h1 : b = 9
  · subst h1
    clear H
    go_enter Tryd.func66, Tryd.ntmps66
    go_wp2
    go_ret
    exact ⟨rfl, rfl⟩
  · by_cases h2 : b = 13
    · subst h2
      clear H
      go_enter Tryd.func66, Tryd.ntmps66
      go_wp2
      go_ret
      exact ⟨rfl, rfl⟩
    · have n1 : ((b : Int) == 9) = false := beq_eq_false_iff_ne.2 (by omega)
      have n2 : ((b : Int) == 13) = false := beq_eq_false_iff_ne.2 (by omega)
      go_enter Tryd.func66, Tryd.ntmps66
      go_wp2
      go_ret
      exact ⟨ret_bool (H.out _ (by simp; omega)), rfl⟩

end Go.Proofs.YtajhgbcgbgpcjaaDoor.Fi

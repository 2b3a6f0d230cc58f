import Derived.Test.YtfjckdjnnbpcnaaTC
import Derived.Recover
import Derived.Defers
import Derived.Maps.OwnSet
import Derived.Maps.RangeWalk
namespace Go.Proofs.Ytfjckdjnnbpcnaa.Tr
open Go.RowKit

/-! number, same (whose deferred function recovers from nothing) -/
def numB (r : Int) : Bool := decide (0 ≤ r) && decide (r ≤ 1114111)
theorem number_any (r : Int) (w : World) : Calls Try.prog 26 #[.int .i32 r] w fun e w' => e = .returned (.bool (numB r)) ∧ w = w' := by
  by_cases h : 0 ≤ r
  · have h1 : decide (0 ≤ r) = true := by simpa using h
    go_enter Try.func26, Try.ntmps26
    go_wp2
    go_ret
    exact ⟨by simp [numB, h], rfl⟩
  · have h1 : decide (0 ≤ r) = false := by simpa using h
    go_enter Try.func26, Try.ntmps26
    go_wp2
    go_ret
    exact ⟨by simp [numB]; omega, rfl⟩
theorem idle_any (w : World) : CallsD Try.prog 42 #[] .returning w fun e u' w' => e = .returned (.tuple #[]) ∧ u' = .returning ∧ w' = w := by
  refine callsD_of_wpS Try.func42 rfl fun c₀ cs hu => ?_
  apply wpS_region
  simp [wpOpsS, go_sem, recoverD, hu, Try.ntmps42, bodyPostS, results, Try.results42]
  cases c₀
  simp_all
theorem sameV_any (a b : Int) (w : World) : Calls Try.prog 27 #[.int .i64 a, .int .i64 b] w fun e w' => e = .returned (.bool (a == b)) ∧ w = w' := by
  go_enter_defers Try.func27, Try.ntmps27
  go_wp2
  refine leaves_cons (f := 42) (args := #[]) (by simp) (by simp [go_sem]) ?_
  refine (idle_any _).mono ?_
  rintro e u' w'' ⟨rfl, rfl, rfl⟩
  exact ⟨_, results_tmp rfl _ _ _, rfl, rfl⟩

end Go.Proofs.Ytfjckdjnnbpcnaa.Tr

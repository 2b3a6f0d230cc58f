import Derived.Test.YtagbeioooohbgaaGreatDoorM32
namespace Go.Proofs.YtagbeioooohbgaaGreatDoor.Ba
open Go.RowKit Go.Maps Go.Shelf Uc Ha
open Fi (scal scal_bd Ml)

/-! What the laws over lines have in common -/
theorem few_any (d o : ByteArray) (w : World) (f : Bool) (hf : (decide (d.size ≤ 3000) && decide (o.size ≤ 500)) = f) (hd : d.size ≤ 9223372036854775807) (ho : o.size ≤ 9223372036854775807) :
    Calls Tryz.prog 7 #[.agg #[.string d, .string o]] w fun e w' => e = .returned (.bool f) ∧ Below w.heap.size w w' := by
  have hb : Below w.heap.size w (w.alloc (.cells #[.string d, .string o] 23)) := (Below.refl _ w).alloc (Nat.le_refl _) _
  have D := Lib.hid hb
  clear hb
  by_cases h1 : d.size ≤ 3000
  · by_cases h2 : o.size ≤ 500
    · have hq : f = true := by rw [← hf]; simp [h1, h2]
      subst hq
      have g1 : decide ((d.size : Int) ≤ 3000) = true := by simp; omega
      have g2 : decide ((o.size : Int) ≤ 500) = true := by simp; omega
      clear hf
      go_enter Tryz.func7, Tryz.ntmps7
      go_wp2_with fail
      go_ret
      exact ⟨rfl, D.out⟩
    · have hq : f = false := by rw [← hf]; simp [h2]
      subst hq
      have g1 : decide ((d.size : Int) ≤ 3000) = true := by simp; omega
      have g2 : decide ((o.size : Int) ≤ 500) = false := by simp; omega
      clear hf
      go_enter Tryz.func7, Tryz.ntmps7
      go_wp2_with fail
      go_ret
      exact ⟨rfl, D.out⟩
  · have hq : f = false := by rw [← hf]; simp [h1]
    subst hq
    have g1 : decide ((d.size : Int) ≤ 3000) = false := by simp; omega
    clear hf
    go_enter Tryz.func7, Tryz.ntmps7
    go_wp2_with fail
    go_ret
    exact ⟨rfl, D.out⟩

end Go.Proofs.YtagbeioooohbgaaGreatDoor.Ba

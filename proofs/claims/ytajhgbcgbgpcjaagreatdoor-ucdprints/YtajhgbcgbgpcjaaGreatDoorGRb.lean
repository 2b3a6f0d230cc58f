import Derived.Test.YtajhgbcgbgpcjaaGreatDoorGRa
import Derived.Test.YtajhgbcgbgpcjaaGreatDoorGM
namespace Go.Proofs.YtajhgbcgbgpcjaaGreatDoor.Uc
open Go.RowKit Fi

theorem dec_lo {u : Nat} (h : u < 10) : Lib.decDigits u = [UInt8.ofNat (48 + u)] := by rw [Lib.decDigits, dif_pos h]
theorem dec_hi {u : Nat} (h : ¬ u < 10) : Lib.decDigits u = Lib.decDigits (u / 10) ++ [UInt8.ofNat (48 + u % 10)] := by rw [Lib.decDigits, dif_neg h]
set_option maxRecDepth 100000 in
set_option maxHeartbeats 2000000 in
theorem dec_one (u : Nat) (w : World) (hu : u ≤ 254) (ih : ∀ W, ¬ u < 10 → Calls Tryz.prog 40 #[.int .i64 ((u / 10 : Nat) : Int)] W fun e w' => e = .returned (.string ⟨(Lib.decDigits (u / 10)).toArray⟩) ∧ Below W.heap.size W w') :
    Calls Tryz.prog 40 #[.int .i64 u] w fun e w' => e = .returned (.string ⟨(Lib.decDigits u).toArray⟩) ∧ Below w.heap.size w w' := by
  obtain ⟨d, hd⟩ : ∃ d : UInt8, d = UInt8.ofNat (48 + u % 10) := ⟨_, rfl⟩
  have hdn : (d.toNat : Int) = 48 + (u : Int) % 10 := by rw [hd]; simp; omega
  have hs0 := fun W : World => one_str d W
  rw [hdn] at hs0
  have HS := Lib.hid hs0
  have HD := Lib.hid hd
  clear hd hdn hs0
  by_cases h : u < 10
  · have H := Lib.hid (show Lib.decDigits u = [d] by rw [dec_lo h, HD.out]; congr 2; omega)
    have g1 : ¬ (9 : Int) < u := by omega
    have hs := HS.out w
    go_enter Tryz.func40, Tryz.ntmps40
    go_wp2_with fail
    go_ret
    exact ⟨ret_eq (by rw [H.out]; rfl), (Below.refl _ w).alloc (Nat.le_refl _) _⟩
  · have H := Lib.hid (show Lib.decDigits u = Lib.decDigits (u / 10) ++ [d] by rw [dec_hi h, HD.out])
    have g1 : (9 : Int) < u := by omega
    have hs := HS.out w
    have hih : ∀ W, Calls Tryz.prog 40 #[.int .i64 ((u : Int) / 10)] W fun e w' => e = .returned (.string ⟨(Lib.decDigits (u / 10)).toArray⟩) ∧ Below W.heap.size W w' := fun W => by
      have e : ((u / 10 : Nat) : Int) = (u : Int) / 10 := by omega
      rw [← e]
      exact ih W h
    have HI := Lib.hid hih
    clear hih
    have hl := dec_small (u / 10) (by omega)
    obtain ⟨ab, hab⟩ : ∃ ab : ByteArray, ab = ⟨(Lib.decDigits (u / 10)).toArray⟩ := ⟨_, rfl⟩
    have haz : ab.size ≤ 3 := by rw [hab, size_mk]; exact hl
    have HAB := Lib.hid hab
    rw [← hab] at HI
    clear hab hl ih
    have d1 : ¬ 9223372036854775806 < ab.size := by omega
    go_enter Tryz.func40, Tryz.ntmps40
    go_wp2_with (go_at_call 40; refine (HI.out _).mono ?_; rintro e w1 ⟨rfl, hb1⟩; have B1 := Lib.hid (((Below.refl _ w).alloc (Nat.le_refl _) (.cells #[.int .u8 (48 + (u : Int) % 10)] 5)).trans (hb1.mono (by simp))); clear hb1)
    go_ret
    exact ⟨ret_eq (by rw [H.out, HAB.out]; rfl), B1.out⟩
theorem decimals_any (u : Nat) (w : World) (hu : u ≤ 254) : Calls Tryz.prog 40 #[.int .i64 u] w fun e w' => e = .returned (.string ⟨(Lib.decDigits u).toArray⟩) ∧ Below w.heap.size w w' :=
  dec_one u w hu fun W h1 => dec_one (u / 10) W (by omega) fun W h2 => dec_one (u / 10 / 10) W (by omega) fun W h3 => absurd (show u / 10 / 10 < 10 by omega) h3

end Go.Proofs.YtajhgbcgbgpcjaaGreatDoor.Uc

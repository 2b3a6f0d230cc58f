import Derived.Test.YthnfopjjghohcaaDoorGW2
namespace Go.Proofs.YthnfopjjghohcaaDoor.Wd
open Go.RowKit

/-- Whether a string begins with another one. -/
def preB (s p : ByteArray) : Bool := decide (p.size ≤ s.size) && ((s.extract 0 p.size).toList == p.toList)
set_option maxRecDepth 100000 in
set_option maxHeartbeats 1000000 in
theorem hasPre0 (s p : ByteArray) (w : World) (_hs : s.size ≤ 100000) (_hp : p.size ≤ 100000) : Calls Tryd.prog 71 #[.string s, .string p] w fun e w' => e = .returned (.bool (preB s p)) ∧ w = w' := by
  by_cases h : p.size ≤ s.size
  · have h' : (p.size : Int) ≤ s.size := by omega
    have HF := Lib.hid (show ((s.extract 0 p.size).toList == p.toList) = preB s p by
      unfold preB
      rw [show decide (p.size ≤ s.size) = true by simpa using h, Bool.true_and])
    go_enter Tryd.func71, Tryd.ntmps71
    go_wp2
    go_ret
    exact ⟨ret_bool HF.out, rfl⟩
  · have h' : ¬ (p.size : Int) ≤ s.size := by omega
    have HF := Lib.hid (show false = preB s p by unfold preB; simp; omega)
    go_enter Tryd.func71, Tryd.ntmps71
    go_wp2
    go_ret
    exact ⟨ret_bool HF.out, rfl⟩
theorem hasPre (s p : ByteArray) (w : World) (hs : s.size ≤ 100000) (hp : p.size ≤ 100000) : Calls Tryd.prog 58 #[.string s, .string p] w fun e w' => e = .returned (.bool (preB s p)) ∧ w = w' := by
  have H := Lib.hid (hasPre0 s p w hs hp)
  generalize preB s p = b at *
  go_enter Tryd.func58, Tryd.ntmps58
  go_wp2_with fail
  refine H.out.mono ?_
  rintro e w' ⟨rfl, rfl⟩
  go_wp2
  go_ret
  exact ⟨rfl, rfl⟩
def mk (k : Nat) : ByteArray := strB (mkB k)
theorem mk_size (k : Nat) : (mk k).size = szK k := by unfold mk mkB; rw [strB_size, unB_len]
/-- Which kind bytes tell, and by how many. -/
def gss (s : ByteArray) : Int × Int := if preB s (mk 3) then (3, 4) else if preB s (mk 4) then (4, 4) else if preB s (mk 1) then (1, 2) else if preB s (mk 2) then (2, 2) else (0, 0)
set_option maxRecDepth 100000 in
set_option maxHeartbeats 2000000 in
theorem guess_any (s : ByteArray) (w : World) (hT : Tab w) (hs : s.size ≤ 100000) : Calls Tryd.prog 61 #[.string s] w fun e w' => e = .returned (.tuple #[.int .i64 (gss s).1, .int .i64 (gss s).2]) ∧ Below w.heap.size w w' := by
  have hpos := hT.pos
  have HT := Lib.hid hT
  clear hT
  have HM := Lib.hid (fun (k : Nat) W hW h1 h4 => mark_any k W hW h1 h4)
  have z1 : (mk 1).size = 2 := mk_size 1
  have HM1 := Lib.hid (fun W hW => HM.out 1 W hW (by omega) (by omega))
  rw [show strB (mkB 1) = mk 1 from rfl] at HM1
  have z2 : (mk 2).size = 2 := mk_size 2
  have HM2 := Lib.hid (fun W hW => HM.out 2 W hW (by omega) (by omega))
  rw [show strB (mkB 2) = mk 2 from rfl] at HM2
  have z3 : (mk 3).size = 4 := mk_size 3
  have HM3 := Lib.hid (fun W hW => HM.out 3 W hW (by omega) (by omega))
  rw [show strB (mkB 3) = mk 3 from rfl] at HM3
  have z4 : (mk 4).size = 4 := mk_size 4
  have HM4 := Lib.hid (fun W hW => HM.out 4 W hW (by omega) (by omega))
  rw [show strB (mkB 4) = mk 4 from rfl] at HM4
  generalize hE1 : mk 1 = m1 at *
  have y1 : m1.size ≤ 4 := by omega
  have Z1 := Lib.hid (show ((m1.size : Nat) : Int) = 2 by omega)
  clear z1
  generalize hE2 : mk 2 = m2 at *
  have y2 : m2.size ≤ 4 := by omega
  have Z2 := Lib.hid (show ((m2.size : Nat) : Int) = 2 by omega)
  clear z2
  generalize hE3 : mk 3 = m3 at *
  have y3 : m3.size ≤ 4 := by omega
  have Z3 := Lib.hid (show ((m3.size : Nat) : Int) = 4 by omega)
  clear z3
  generalize hE4 : mk 4 = m4 at *
  have y4 : m4.size ≤ 4 := by omega
  have Z4 := Lib.hid (show ((m4.size : Nat) : Int) = 4 by omega)
  clear z4
  clear HM
  generalize hG0 : gss s = G
  have HG : Hid (G = if preB s m3 then (3, 4) else if preB s m4 then (4, 4) else if preB s m1 then (1, 2) else if preB s m2 then (2, 2) else (0, 0)) := by show G = _; rw [← hG0]; unfold gss; rw [hE3, hE4, hE1, hE2]
  clear hG0 hE1 hE2 hE3 hE4
  have i0 : ∀ w : World, (Instr.index 116 (.agg #[.int .i64 3, .int .i64 4, .int .i64 1, .int .i64 2]) (.int .i64 0)).run Tryd.prog w = .ok (.int .i64 3) w := fun _ => by kernel_rfl
  have i1 : ∀ w : World, (Instr.index 116 (.agg #[.int .i64 3, .int .i64 4, .int .i64 1, .int .i64 2]) (.int .i64 1)).run Tryd.prog w = .ok (.int .i64 4) w := fun _ => by kernel_rfl
  have i2 : ∀ w : World, (Instr.index 116 (.agg #[.int .i64 3, .int .i64 4, .int .i64 1, .int .i64 2]) (.int .i64 2)).run Tryd.prog w = .ok (.int .i64 1) w := fun _ => by kernel_rfl
  have i3 : ∀ w : World, (Instr.index 116 (.agg #[.int .i64 3, .int .i64 4, .int .i64 1, .int .i64 2]) (.int .i64 3)).run Tryd.prog w = .ok (.int .i64 2) w := fun _ => by kernel_rfl
  go_enter Tryd.func61, Tryd.ntmps61
  go_wp2_with fail
  go_loopw [8] (fun i wr => ∃ j : Nat, i = .int .i64 j ∧ j ≤ 4 ∧ Hid (Below w.heap.size w wr ∧ (0 < j → preB s m3 = false) ∧ (1 < j → preB s m4 = false) ∧ (2 < j → preB s m1 = false) ∧ (3 < j → preB s m2 = false))) (fun i _ => 4 - (intOf i).toNat)
  case atStart => exact ⟨0, rfl, by omega, Below.refl _ _, by omega, by omega, by omega, by omega⟩
  case round =>
    obtain ⟨j, rfl, hj, HQ⟩ := hrel
    have hbz := HQ.out.1.size
    have hj' : j = 0 ∨ j = 1 ∨ j = 2 ∨ j = 3 ∨ j = 4 := by omega
    rcases hj' with rfl | rfl | rfl | rfl | rfl
    · rw [show ((0 : Nat) : Int) = 0 from rfl]
      rcases (Bool.eq_false_or_eq_true (preB s m3)).symm with hp | hp
      · have HP := Lib.hid hp
        clear hp
        go_wp2_with fail
        refine (HM3.out _ (HT.out.below HQ.out.1 hpos)).mono ?_
        rintro e w1 ⟨rfl, hb1⟩
        have B1 := Lib.hid (HQ.out.1.trans (hb1.mono hbz))
        clear hb1
        go_wp2_with fail
        refine (hasPre s m3 _ hs (by omega)).mono ?_
        rw [HP.out]
        rintro e w' ⟨rfl, rfl⟩
        go_wp2_with fail
        go_roundw
        case rel => exact ⟨1, rfl, by omega, B1.out, fun h => HP.out, fun h => absurd h (by omega), fun h => absurd h (by omega), fun h => absurd h (by omega)⟩
        case measure => simp [intOf]
      · have HP := Lib.hid hp
        clear hp
        have hG : G = (3, 4) := by
          rw [HG.out]
          simp only [HP.out]
          rfl
        have HGG := Lib.hid hG
        clear hG
        go_wp2_with fail
        refine (HM3.out _ (HT.out.below HQ.out.1 hpos)).mono ?_
        rintro e w1 ⟨rfl, hb1⟩
        have B1 := Lib.hid (HQ.out.1.trans (hb1.mono hbz))
        clear hb1
        go_wp2_with fail
        refine (hasPre s m3 _ hs (by omega)).mono ?_
        rw [HP.out]
        rintro e w' ⟨rfl, rfl⟩
        go_wp2_with fail
        go_ret2
        exact ⟨ret2 (by rw [HGG.out]) (by rw [HGG.out]; exact Z3.out), B1.out⟩
    · rw [show ((1 : Nat) : Int) = 1 from rfl]
      rcases (Bool.eq_false_or_eq_true (preB s m4)).symm with hp | hp
      · have HP := Lib.hid hp
        clear hp
        go_wp2_with fail
        refine (HM4.out _ (HT.out.below HQ.out.1 hpos)).mono ?_
        rintro e w1 ⟨rfl, hb1⟩
        have B1 := Lib.hid (HQ.out.1.trans (hb1.mono hbz))
        clear hb1
        go_wp2_with fail
        refine (hasPre s m4 _ hs (by omega)).mono ?_
        rw [HP.out]
        rintro e w' ⟨rfl, rfl⟩
        go_wp2_with fail
        go_roundw
        case rel => exact ⟨2, rfl, by omega, B1.out, fun h => HQ.out.2.1 (by omega), fun h => HP.out, fun h => absurd h (by omega), fun h => absurd h (by omega)⟩
        case measure => simp [intOf]
      · have HP := Lib.hid hp
        clear hp
        have hG : G = (4, 4) := by
          rw [HG.out]
          simp only [HP.out, HQ.out.2.1 (show 0 < 1 by omega)]
          rfl
        have HGG := Lib.hid hG
        clear hG
        go_wp2_with fail
        refine (HM4.out _ (HT.out.below HQ.out.1 hpos)).mono ?_
        rintro e w1 ⟨rfl, hb1⟩
        have B1 := Lib.hid (HQ.out.1.trans (hb1.mono hbz))
        clear hb1
        go_wp2_with fail
        refine (hasPre s m4 _ hs (by omega)).mono ?_
        rw [HP.out]
        rintro e w' ⟨rfl, rfl⟩
        go_wp2_with fail
        go_ret2
        exact ⟨ret2 (by rw [HGG.out]) (by rw [HGG.out]; exact Z4.out), B1.out⟩
    · rw [show ((2 : Nat) : Int) = 2 from rfl]
      rcases (Bool.eq_false_or_eq_true (preB s m1)).symm with hp | hp
      · have HP := Lib.hid hp
        clear hp
        go_wp2_with fail
        refine (HM1.out _ (HT.out.below HQ.out.1 hpos)).mono ?_
        rintro e w1 ⟨rfl, hb1⟩
        have B1 := Lib.hid (HQ.out.1.trans (hb1.mono hbz))
        clear hb1
        go_wp2_with fail
        refine (hasPre s m1 _ hs (by omega)).mono ?_
        rw [HP.out]
        rintro e w' ⟨rfl, rfl⟩
        go_wp2_with fail
        go_roundw
        case rel => exact ⟨3, rfl, by omega, B1.out, fun h => HQ.out.2.1 (by omega), fun h => HQ.out.2.2.1 (by omega), fun h => HP.out, fun h => absurd h (by omega)⟩
        case measure => simp [intOf]
      · have HP := Lib.hid hp
        clear hp
        have hG : G = (1, 2) := by
          rw [HG.out]
          simp only [HP.out, HQ.out.2.1 (show 0 < 2 by omega), HQ.out.2.2.1 (show 1 < 2 by omega)]
          rfl
        have HGG := Lib.hid hG
        clear hG
        go_wp2_with fail
        refine (HM1.out _ (HT.out.below HQ.out.1 hpos)).mono ?_
        rintro e w1 ⟨rfl, hb1⟩
        have B1 := Lib.hid (HQ.out.1.trans (hb1.mono hbz))
        clear hb1
        go_wp2_with fail
        refine (hasPre s m1 _ hs (by omega)).mono ?_
        rw [HP.out]
        rintro e w' ⟨rfl, rfl⟩
        go_wp2_with fail
        go_ret2
        exact ⟨ret2 (by rw [HGG.out]) (by rw [HGG.out]; exact Z1.out), B1.out⟩
    · rw [show ((3 : Nat) : Int) = 3 from rfl]
      rcases (Bool.eq_false_or_eq_true (preB s m2)).symm with hp | hp
      · have HP := Lib.hid hp
        clear hp
        go_wp2_with fail
        refine (HM2.out _ (HT.out.below HQ.out.1 hpos)).mono ?_
        rintro e w1 ⟨rfl, hb1⟩
        have B1 := Lib.hid (HQ.out.1.trans (hb1.mono hbz))
        clear hb1
        go_wp2_with fail
        refine (hasPre s m2 _ hs (by omega)).mono ?_
        rw [HP.out]
        rintro e w' ⟨rfl, rfl⟩
        go_wp2_with fail
        go_roundw
        case rel => exact ⟨4, rfl, by omega, B1.out, fun h => HQ.out.2.1 (by omega), fun h => HQ.out.2.2.1 (by omega), fun h => HQ.out.2.2.2.1 (by omega), fun h => HP.out⟩
        case measure => simp [intOf]
      · have HP := Lib.hid hp
        clear hp
        have hG : G = (2, 2) := by
          rw [HG.out]
          simp only [HP.out, HQ.out.2.1 (show 0 < 3 by omega), HQ.out.2.2.1 (show 1 < 3 by omega), HQ.out.2.2.2.1 (show 2 < 3 by omega)]
          rfl
        have HGG := Lib.hid hG
        clear hG
        go_wp2_with fail
        refine (HM2.out _ (HT.out.below HQ.out.1 hpos)).mono ?_
        rintro e w1 ⟨rfl, hb1⟩
        have B1 := Lib.hid (HQ.out.1.trans (hb1.mono hbz))
        clear hb1
        go_wp2_with fail
        refine (hasPre s m2 _ hs (by omega)).mono ?_
        rw [HP.out]
        rintro e w' ⟨rfl, rfl⟩
        go_wp2_with fail
        go_ret2
        exact ⟨ret2 (by rw [HGG.out]) (by rw [HGG.out]; exact Z2.out), B1.out⟩
    · rw [show ((4 : Nat) : Int) = 4 from rfl]
      have hG : G = (0, 0) := by
        rw [HG.out]
        simp only [HQ.out.2.1 (show 0 < 4 by omega), HQ.out.2.2.1 (show 1 < 4 by omega), HQ.out.2.2.2.1 (show 2 < 4 by omega), HQ.out.2.2.2.2 (show 3 < 4 by omega)]
        rfl
      have HGG := Lib.hid hG
      clear hG
      go_wp2_with fail
      go_ret2
      exact ⟨ret2 (by rw [HGG.out]) (by rw [HGG.out]), HQ.out.1⟩
end Go.Proofs.YthnfopjjghohcaaDoor.Wd

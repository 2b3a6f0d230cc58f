import Derived.Test.YtagbeioooohbgaaGreatDoorM18
namespace Go.Proofs.YtagbeioooohbgaaGreatDoor.So
open Go.RowKit Go.Sort Tr
variable {w0 w : World} {g : Nat} {pf sp : List Value} {d : Array Int}

/-! partition -/
set_option maxHeartbeats 16000000 in
set_option maxRecDepth 100000 in
theorem part_any (cap a b pv : Nat) (h : SR w0 w g pf sp d) (hap : a ≤ pv) (hpb : pv < b) (hb : b ≤ d.size) (hsz : d.size ≤ 100000) :
    Calls Tryz.prog 114 #[.slice (some ⟨g, pf.length, none⟩) d.size cap, .int .i64 a, .int .i64 b, .int .i64 pv] w fun e w' =>
      ∃ (m : Nat) (fl : Bool), e = .returned (.tuple #[.int .i64 m, .bool fl]) ∧ m = (partition ltInt d a b pv).1 ∧ SR w0 w' g pf sp (partition ltInt d a b pv).2.2 := by
  obtain ⟨n, hn⟩ : ∃ n, n = d.size := ⟨_, rfl⟩
  obtain ⟨off, hoff⟩ : ∃ off, off = pf.length := ⟨_, rfl⟩
  rw [← hn, ← hoff]
  rw [← hn] at hb hsz
  have HN := Lib.hid hn
  have HF := Lib.hid hoff
  have HR := Lib.hid h
  clear hn hoff h
  obtain ⟨b1, hb1⟩ : ∃ b1, b1 = b - 1 := ⟨_, rfl⟩
  have HB := Lib.hid hb1
  have hb1I : (b : Int) - 1 = b1 := by omega
  have hbb : b1 < b ∧ a ≤ b1 := by omega
  obtain ⟨hbb1, hbb2⟩ := hbb
  clear hb1
  have hNN : Hid (d.size = n) := Lib.hid HN.out.symm
  obtain ⟨G0, hG⟩ : ∃ G0 : Nat → Int, ∀ t, G0 t = d[t]! := ⟨fun t => d[t]!, fun _ => rfl⟩
  have hcw : ∀ t, t < n → w.cell? ⟨g, off + t, none⟩ = some (.int .i32 (G0 t)) := fun t ht => by rw [hG, HF.out]; exact HR.out.cell t (by rw [hNN.out]; exact ht)
  have hfw : ∀ t, t < n → w.frozen? ⟨g, off + t, none⟩ = false := fun t ht => by rw [HF.out]; exact HR.out.fr t (by rw [hNN.out]; exact ht)
  have HG0 := Lib.hid hG
  clear hG
  have ha0 : a < n := by omega
  have hp0 : pv < n := by omega
  obtain ⟨U, hU⟩ := set_some (q := off + pv) (hcw pv hp0) (off + a) (.int .i32 (G0 pv))
  go_enter Tryz.func114, Tryz.ntmps114
  go_wp2_with fail
  go_region
  all_goals
    go_wp2_with fail
    clear hcw hfw hU
    obtain ⟨dk, hdk⟩ : ∃ dk, dk = swp d a pv := ⟨_, rfl⟩
    have HK : Hid (dk.size = n) := Lib.hid (by rw [hdk, size_swp]; exact hNN.out)
    obtain ⟨i, hi⟩ : ∃ i, i = a + 1 := ⟨_, rfl⟩
    have hiI : (a : Int) + 1 = i := by omega
    rw [hiI]
    obtain ⟨j, hj⟩ : ∃ j, j = b1 := ⟨_, rfl⟩
    rw [← hj]
    have HO : Hid (partLoop ltInt a i j dk = partLoop ltInt a (a + 1) b1 (swp d a pv)) := Lib.hid (by rw [hi, hj, hdk])
    have hai : a < i := by omega
    have hjb : j < b := by omega
    have haj : a ≤ j := by omega
    have hij : i ≤ j + 2 := by omega
    have HDK := Lib.hid hdk
    clear hi hj hiI hdk hbb1 hbb2 hb1I
    go_loopw [10] (fun vi wx => ∃ (i1 : Nat), vi = .int .i64 i1 ∧ i ≤ i1 ∧ i1 ≤ j + 2 ∧ Hid (SR w0 wx g pf sp dk) ∧ Hid (scanUp (fun x => ltInt x dk[a]!) dk j i = scanUp (fun x => ltInt x dk[a]!) dk j i1)) (fun vi _ => j + 2 - (intOf vi).toNat)
    case atStart => exact ⟨i, rfl, Nat.le_refl _, by omega, (by rw [HDK.out]; exact HR.out.swapG _ HF.out hNN.out ha0 hp0 HG0.out), rfl⟩
    case round =>
      obtain ⟨i2, rfl, hi2, hi2j, HS2, HUU⟩ := hrel
      by_cases hu : i2 ≤ j
      · have huI : (i2 : Int) ≤ j := by omega
        obtain ⟨G, hG⟩ : ∃ G : Nat → Int, ∀ t, G t = dk[t]! := ⟨fun t => dk[t]!, fun _ => rfl⟩
        have hcw : ∀ t, t < n → wr.cell? ⟨g, off + t, none⟩ = some (.int .i32 (G t)) := fun t ht => by rw [hG, HF.out]; exact HS2.out.cell t (by rw [HK.out]; exact ht)
        have hfw : ∀ t, t < n → wr.frozen? ⟨g, off + t, none⟩ = false := fun t ht => by rw [HF.out]; exact HS2.out.fr t (by rw [HK.out]; exact ht)
        have HG := Lib.hid hG
        clear hG
        have han : a < n := by omega
        have hin : i2 < n := by omega
        go_wp2_with fail
        go_quiet (first | (go_at_call 80; refine Calls.quiet_of_same (less_any _ _ _)))
        go_wp2_with fail
        · have hl : ltInt (G i2) (G a) = true := by assumption
          have hl2 := hl
          rw [HG.out, HG.out] at hl2
          have HU2 : Hid (scanUp (fun x => ltInt x dk[a]!) dk j i = scanUp (fun x => ltInt x dk[a]!) dk j (i2 + 1)) := Lib.hid (by rw [HUU.out, up_go (p := (fun x => ltInt x dk[a]!)) hu hl2])
          clear hl hl2
          go_roundw
          case measure => simp [intOf]; omega
          case rel => exact ⟨i2 + 1, by go_num, by omega, by omega, Lib.hid (HS2.out.drew _), HU2⟩
        · have hl : ltInt (G i2) (G a) = false := by assumption
          have hl2 := hl
          rw [HG.out, HG.out] at hl2
          have HU : Hid (scanUp (fun x => ltInt x dk[a]!) dk j i = i2) := Lib.hid (by rw [HUU.out, up_stop (p := (fun x => ltInt x dk[a]!)) (.inr hl2)])
          have HSx := Lib.hid (HS2.out.drew nq)
          clear hl2 hcw hfw
          generalize wr.drewN nq = wq at *
          clear HS2
          go_loopw [11] (fun vj wx => ∃ (j1 : Nat), vj = .int .i64 j1 ∧ j1 ≤ j ∧ i2 ≤ j1 + 2 ∧ Hid (SR w0 wx g pf sp dk) ∧ Hid (scanDown (fun x => !ltInt x dk[a]!) dk i2 j = scanDown (fun x => !ltInt x dk[a]!) dk i2 j1)) (fun vj _ => (intOf vj).toNat)
          case atStart => exact ⟨j, rfl, Nat.le_refl _, by omega, HSx, rfl⟩
          case round =>
            obtain ⟨j2, rfl, hj2, hij2, HS3, HDD⟩ := hrel
            by_cases hd : i2 ≤ j2
            · have hdI : (i2 : Int) ≤ j2 := by omega
              obtain ⟨G, hG⟩ : ∃ G : Nat → Int, ∀ t, G t = dk[t]! := ⟨fun t => dk[t]!, fun _ => rfl⟩
              have hcw : ∀ t, t < n → wr.cell? ⟨g, off + t, none⟩ = some (.int .i32 (G t)) := fun t ht => by rw [hG, HF.out]; exact HS3.out.cell t (by rw [HK.out]; exact ht)
              have hfw : ∀ t, t < n → wr.frozen? ⟨g, off + t, none⟩ = false := fun t ht => by rw [HF.out]; exact HS3.out.fr t (by rw [HK.out]; exact ht)
              have HG := Lib.hid hG
              clear hG
              have han : a < n := by omega
              have hjn : j2 < n := by omega
              go_wp2_with fail
              go_quiet (first | (go_at_call 80; refine Calls.quiet_of_same (less_any _ _ _)))
              go_wp2_with fail
              · have hl : ltInt (G j2) (G a) = false := by first | assumption | simpa using ‹(!ltInt (G j2) (G a)) = true›
                have hl2 := hl
                rw [HG.out, HG.out] at hl2
                obtain ⟨j3, hj3⟩ : ∃ j3, j2 = j3 + 1 := ⟨j2 - 1, by omega⟩
                have HD2 : Hid (scanDown (fun x => !ltInt x dk[a]!) dk i2 j = scanDown (fun x => !ltInt x dk[a]!) dk i2 j3) := Lib.hid (by rw [HDD.out, hj3, down_go (by omega) (by rw [← hj3]; simp [hl2])])
                have hj3I : (j2 : Int) - 1 = j3 := by omega
                clear hl hl2
                have hb3 : j3 ≤ j ∧ i2 ≤ j3 + 2 ∧ j3 < j2 := by omega
                clear hj3
                go_roundw
                case measure => simp [intOf]; omega
                case rel => exact ⟨j3, by first | rfl | (congr 1), hb3.1, hb3.2.1, Lib.hid (HS3.out.drew _), HD2⟩
              · have hl : ltInt (G j2) (G a) = true := by first | assumption | simpa using ‹(!ltInt (G j2) (G a)) = false›
                have hl2 := hl
                rw [HG.out, HG.out] at hl2
                have HD : Hid (scanDown (fun x => !ltInt x dk[a]!) dk i2 j = j2) := Lib.hid (by
                  obtain ⟨j3, hj3⟩ : ∃ j3, j2 = j3 + 1 := ⟨j2 - 1, by omega⟩
                  rw [HDD.out, hj3, down_stop (.inr (by rw [← hj3]; simp [hl2]))])
                have HS4 := Lib.hid (HS3.out.drew nq)
                clear hl2 hcw hfw
                generalize wr.drewN nq = wq at *
                clear HS3
                have hijI : ¬ (j2 : Int) < i2 := by omega
                obtain ⟨G, hG⟩ : ∃ G : Nat → Int, ∀ t, G t = dk[t]! := ⟨fun t => dk[t]!, fun _ => rfl⟩
                have hcw : ∀ t, t < n → wq.cell? ⟨g, off + t, none⟩ = some (.int .i32 (G t)) := fun t ht => by rw [hG, HF.out]; exact HS4.out.cell t (by rw [HK.out]; exact ht)
                have hfw : ∀ t, t < n → wq.frozen? ⟨g, off + t, none⟩ = false := fun t ht => by rw [HF.out]; exact HS4.out.fr t (by rw [HK.out]; exact ht)
                have HG := Lib.hid hG
                clear hG
                have hi2n : i2 < n := by omega
                have hj2n : j2 < n := by omega
                obtain ⟨U, hU⟩ := set_some (q := off + j2) (hcw j2 hj2n) (off + i2) (.int .i32 (G j2))
                obtain ⟨j3, hj3⟩ : ∃ j3, j2 = j3 + 1 := ⟨j2 - 1, by omega⟩
                have hj3I : (j2 : Int) - 1 = j3 := by omega
                have HL9 : Hid (partLoop ltInt a i j dk = partLoop ltInt a (i2 + 1) j3 (swp dk i2 j2)) := Lib.hid (by rw [partLoop_eq, HU.out, HD.out, if_neg (by omega), hj3]; rfl)
                have bb : a < i2 + 1 ∧ i2 + 1 ≤ j3 + 2 ∧ j3 < b ∧ a ≤ j3 + 0 := by omega
                clear hj3
                go_wp2_with fail
                go_region
                all_goals
                  go_wp2_with fail
                  clear hcw hfw hU
                  go_loopw [10, 11] (fun vi vj wr => ∃ (i j : Nat) (dk : Array Int), vi = .int .i64 i ∧ vj = .int .i64 j ∧ a < i ∧ i ≤ j + 2 ∧ j < b ∧ a ≤ j ∧ Hid (dk.size = n) ∧ Hid (SR w0 wr g pf sp dk) ∧ Hid (partLoop ltInt a i j dk = partLoop ltInt a (a + 1) b1 (swp d a pv))) (fun _ vj _ => (intOf vj).toNat)
                  case atStart => exact ⟨i2 + 1, j3, swp dk i2 j2, by go_num, rfl, bb.1, bb.2.1, bb.2.2.1, bb.2.2.2, Lib.hid (by rw [size_swp]; exact HK.out), HS4.out.swapG _ HF.out HK.out hi2n hj2n HG.out, Lib.hid (by rw [← HO.out, HL9.out])⟩
                  case round =>
                    clear HS4 HU HD HUU HDD HSx HL9 bb HK HO
                    rename_i wr' _ _
                    obtain ⟨i, j, dk, rfl, rfl, hai, hij, hjb, haj, HK, HS, HO⟩ := hrel
                    obtain ⟨wo, hwo⟩ : ∃ x, x = wr := ⟨_, rfl⟩
                    subst hwo
                    go_wp2_with fail
                    go_loopw [10] (fun vi wx => ∃ (i1 : Nat), vi = .int .i64 i1 ∧ i ≤ i1 ∧ i1 ≤ j + 2 ∧ Hid (SR w0 wx g pf sp dk) ∧ Hid (scanUp (fun x => ltInt x dk[a]!) dk j i = scanUp (fun x => ltInt x dk[a]!) dk j i1)) (fun vi _ => j + 2 - (intOf vi).toNat)
                    case atStart => exact ⟨i, rfl, Nat.le_refl _, by omega, HS, rfl⟩
                    case round =>
                      obtain ⟨i2, rfl, hi2, hi2j, HS2, HUU⟩ := hrel
                      by_cases hu : i2 ≤ j
                      · have huI : (i2 : Int) ≤ j := by omega
                        obtain ⟨G, hG⟩ : ∃ G : Nat → Int, ∀ t, G t = dk[t]! := ⟨fun t => dk[t]!, fun _ => rfl⟩
                        have hcw : ∀ t, t < n → wr.cell? ⟨g, off + t, none⟩ = some (.int .i32 (G t)) := fun t ht => by rw [hG, HF.out]; exact HS2.out.cell t (by rw [HK.out]; exact ht)
                        have hfw : ∀ t, t < n → wr.frozen? ⟨g, off + t, none⟩ = false := fun t ht => by rw [HF.out]; exact HS2.out.fr t (by rw [HK.out]; exact ht)
                        have HG := Lib.hid hG
                        clear hG
                        have han : a < n := by omega
                        have hin : i2 < n := by omega
                        go_wp2_with fail
                        go_quiet (first | (go_at_call 80; refine Calls.quiet_of_same (less_any _ _ _)))
                        go_wp2_with fail
                        · have hl : ltInt (G i2) (G a) = true := by assumption
                          have hl2 := hl
                          rw [HG.out, HG.out] at hl2
                          have HU2 : Hid (scanUp (fun x => ltInt x dk[a]!) dk j i = scanUp (fun x => ltInt x dk[a]!) dk j (i2 + 1)) := Lib.hid (by rw [HUU.out, up_go (p := (fun x => ltInt x dk[a]!)) hu hl2])
                          clear hl hl2
                          go_roundw
                          case measure => simp [intOf]; omega
                          case rel => exact ⟨i2 + 1, by go_num, by omega, by omega, Lib.hid (HS2.out.drew _), HU2⟩
                        · have hl : ltInt (G i2) (G a) = false := by assumption
                          have hl2 := hl
                          rw [HG.out, HG.out] at hl2
                          have HU : Hid (scanUp (fun x => ltInt x dk[a]!) dk j i = i2) := Lib.hid (by rw [HUU.out, up_stop (p := (fun x => ltInt x dk[a]!)) (.inr hl2)])
                          have HSx := Lib.hid (HS2.out.drew nq)
                          clear hl2 hcw hfw
                          generalize wr.drewN nq = wq at *
                          clear HS2
                          go_loopw [11] (fun vj wx => ∃ (j1 : Nat), vj = .int .i64 j1 ∧ j1 ≤ j ∧ i2 ≤ j1 + 2 ∧ Hid (SR w0 wx g pf sp dk) ∧ Hid (scanDown (fun x => !ltInt x dk[a]!) dk i2 j = scanDown (fun x => !ltInt x dk[a]!) dk i2 j1)) (fun vj _ => (intOf vj).toNat)
                          case atStart => exact ⟨j, rfl, Nat.le_refl _, by omega, HSx, rfl⟩
                          case round =>
                            obtain ⟨j2, rfl, hj2, hij2, HS3, HDD⟩ := hrel
                            by_cases hd : i2 ≤ j2
                            · have hdI : (i2 : Int) ≤ j2 := by omega
                              obtain ⟨G, hG⟩ : ∃ G : Nat → Int, ∀ t, G t = dk[t]! := ⟨fun t => dk[t]!, fun _ => rfl⟩
                              have hcw : ∀ t, t < n → wr.cell? ⟨g, off + t, none⟩ = some (.int .i32 (G t)) := fun t ht => by rw [hG, HF.out]; exact HS3.out.cell t (by rw [HK.out]; exact ht)
                              have hfw : ∀ t, t < n → wr.frozen? ⟨g, off + t, none⟩ = false := fun t ht => by rw [HF.out]; exact HS3.out.fr t (by rw [HK.out]; exact ht)
                              have HG := Lib.hid hG
                              clear hG
                              have han : a < n := by omega
                              have hjn : j2 < n := by omega
                              go_wp2_with fail
                              go_quiet (first | (go_at_call 80; refine Calls.quiet_of_same (less_any _ _ _)))
                              go_wp2_with fail
                              · have hl : ltInt (G j2) (G a) = false := by first | assumption | simpa using ‹(!ltInt (G j2) (G a)) = true›
                                have hl2 := hl
                                rw [HG.out, HG.out] at hl2
                                obtain ⟨j3, hj3⟩ : ∃ j3, j2 = j3 + 1 := ⟨j2 - 1, by omega⟩
                                have HD2 : Hid (scanDown (fun x => !ltInt x dk[a]!) dk i2 j = scanDown (fun x => !ltInt x dk[a]!) dk i2 j3) := Lib.hid (by rw [HDD.out, hj3, down_go (by omega) (by rw [← hj3]; simp [hl2])])
                                have hj3I : (j2 : Int) - 1 = j3 := by omega
                                clear hl hl2
                                have hb3 : j3 ≤ j ∧ i2 ≤ j3 + 2 ∧ j3 < j2 := by omega
                                clear hj3
                                go_roundw
                                case measure => simp [intOf]; omega
                                case rel => exact ⟨j3, by first | rfl | (congr 1), hb3.1, hb3.2.1, Lib.hid (HS3.out.drew _), HD2⟩
                              · have hl : ltInt (G j2) (G a) = true := by first | assumption | simpa using ‹(!ltInt (G j2) (G a)) = false›
                                have hl2 := hl
                                rw [HG.out, HG.out] at hl2
                                have HD : Hid (scanDown (fun x => !ltInt x dk[a]!) dk i2 j = j2) := Lib.hid (by
                                  obtain ⟨j3, hj3⟩ : ∃ j3, j2 = j3 + 1 := ⟨j2 - 1, by omega⟩
                                  rw [HDD.out, hj3, down_stop (.inr (by rw [← hj3]; simp [hl2]))])
                                have HS4 := Lib.hid (HS3.out.drew nq)
                                clear hl2 hcw hfw
                                generalize wr.drewN nq = wq at *
                                clear HS3
                                have hijI : ¬ (j2 : Int) < i2 := by omega
                                obtain ⟨G, hG⟩ : ∃ G : Nat → Int, ∀ t, G t = dk[t]! := ⟨fun t => dk[t]!, fun _ => rfl⟩
                                have hcw : ∀ t, t < n → wq.cell? ⟨g, off + t, none⟩ = some (.int .i32 (G t)) := fun t ht => by rw [hG, HF.out]; exact HS4.out.cell t (by rw [HK.out]; exact ht)
                                have hfw : ∀ t, t < n → wq.frozen? ⟨g, off + t, none⟩ = false := fun t ht => by rw [HF.out]; exact HS4.out.fr t (by rw [HK.out]; exact ht)
                                have HG := Lib.hid hG
                                clear hG
                                have hi2n : i2 < n := by omega
                                have hj2n : j2 < n := by omega
                                obtain ⟨U, hU⟩ := set_some (q := off + j2) (hcw j2 hj2n) (off + i2) (.int .i32 (G j2))
                                obtain ⟨j3, hj3⟩ : ∃ j3, j2 = j3 + 1 := ⟨j2 - 1, by omega⟩
                                have hj3I : (j2 : Int) - 1 = j3 := by omega
                                have HL9 : Hid (partLoop ltInt a i j dk = partLoop ltInt a (i2 + 1) j3 (swp dk i2 j2)) := Lib.hid (by rw [partLoop_eq, HU.out, HD.out, if_neg (by omega), hj3]; rfl)
                                have bb : a < i2 + 1 ∧ i2 + 1 ≤ j3 + 2 ∧ j3 < b ∧ a ≤ j3 + 0 := by omega
                                clear hj3
                                go_wp2_with fail
                                go_region
                                all_goals
                                  go_wp2_with fail
                                  go_roundw
                                  case measure => simp [intOf]; omega
                                  case rel => exact ⟨i2 + 1, j3, swp dk i2 j2, by go_num, rfl, bb.1, bb.2.1, bb.2.2.1, bb.2.2.2, Lib.hid (by rw [size_swp]; exact HK.out), HS4.out.swapG _ HF.out HK.out hi2n hj2n HG.out, Lib.hid (by rw [← HO.out, HL9.out])⟩
                            · have hdI : ¬ (i2 : Int) ≤ j2 := by omega
                              have HD : Hid (scanDown (fun x => !ltInt x dk[a]!) dk i2 j = j2) := Lib.hid (by
                                rw [HDD.out]
                                cases hc : j2 with
                                | zero => rw [down_zero]
                                | succ j3 => rw [down_stop (.inl (by omega))])
                              go_wp2_with fail
                              go_quiet (fail)
                              go_wp2_with fail
                              have HS4 := Lib.hid (HS3.out.drew nq)
                              generalize wr.drewN nq = wq at *
                              clear HS3
                              have hijI : (j2 : Int) < i2 := by omega
                              have HL9 : Hid (partLoop ltInt a i j dk = (j2, dk)) := Lib.hid (by rw [partLoop_eq, HU.out, HD.out, if_pos (by omega)])
                              obtain ⟨G, hG⟩ : ∃ G : Nat → Int, ∀ t, G t = dk[t]! := ⟨fun t => dk[t]!, fun _ => rfl⟩
                              have hcw : ∀ t, t < n → wq.cell? ⟨g, off + t, none⟩ = some (.int .i32 (G t)) := fun t ht => by rw [hG, HF.out]; exact HS4.out.cell t (by rw [HK.out]; exact ht)
                              have hfw : ∀ t, t < n → wq.frozen? ⟨g, off + t, none⟩ = false := fun t ht => by rw [HF.out]; exact HS4.out.fr t (by rw [HK.out]; exact ht)
                              have HG := Lib.hid hG
                              clear hG
                              have hj2n : j2 < n := by omega
                              have ha2n : a < n := by omega
                              obtain ⟨U, hU⟩ := set_some (q := off + a) (hcw a ha2n) (off + j2) (.int .i32 (G a))
                              go_wp2_with fail
                              go_region
                              all_goals
                                go_wp2_with fail
                                go_ret2
                                refine ⟨j2, false, rfl, ?_, ?_⟩
                                · rw [partition_fst, ← HB.out, ← HO.out, HL9.out]
                                · rw [partition_arr, ← HB.out, ← HO.out, HL9.out]
                                  exact (HS4.out.swapG _ HF.out HK.out hj2n ha2n HG.out).out
                      · have huI : ¬ (i2 : Int) ≤ j := by omega
                        have HU : Hid (scanUp (fun x => ltInt x dk[a]!) dk j i = i2) := Lib.hid (by rw [HUU.out, up_stop (.inl hu)])
                        go_wp2_with fail
                        go_quiet (fail)
                        go_wp2_with fail
                        have HSx := Lib.hid (HS2.out.drew nq)
                        generalize wr.drewN nq = wq at *
                        clear HS2
                        go_loopw [11] (fun vj wx => ∃ (j1 : Nat), vj = .int .i64 j1 ∧ j1 ≤ j ∧ i2 ≤ j1 + 2 ∧ Hid (SR w0 wx g pf sp dk) ∧ Hid (scanDown (fun x => !ltInt x dk[a]!) dk i2 j = scanDown (fun x => !ltInt x dk[a]!) dk i2 j1)) (fun vj _ => (intOf vj).toNat)
                        case atStart => exact ⟨j, rfl, Nat.le_refl _, by omega, HSx, rfl⟩
                        case round =>
                          obtain ⟨j2, rfl, hj2, hij2, HS3, HDD⟩ := hrel
                          have hd : ¬ i2 ≤ j2 := by omega
                          have hdI : ¬ (i2 : Int) ≤ j2 := by omega
                          have HD : Hid (scanDown (fun x => !ltInt x dk[a]!) dk i2 j = j2) := Lib.hid (by
                            rw [HDD.out]
                            cases hc : j2 with
                            | zero => rw [down_zero]
                            | succ j3 => rw [down_stop (.inl (by omega))])
                          go_wp2_with fail
                          go_quiet (fail)
                          go_wp2_with fail
                          have HS4 := Lib.hid (HS3.out.drew nq)
                          generalize wr.drewN nq = wq at *
                          clear HS3
                          have hijI : (j2 : Int) < i2 := by omega
                          have HL9 : Hid (partLoop ltInt a i j dk = (j2, dk)) := Lib.hid (by rw [partLoop_eq, HU.out, HD.out, if_pos (by omega)])
                          obtain ⟨G, hG⟩ : ∃ G : Nat → Int, ∀ t, G t = dk[t]! := ⟨fun t => dk[t]!, fun _ => rfl⟩
                          have hcw : ∀ t, t < n → wq.cell? ⟨g, off + t, none⟩ = some (.int .i32 (G t)) := fun t ht => by rw [hG, HF.out]; exact HS4.out.cell t (by rw [HK.out]; exact ht)
                          have hfw : ∀ t, t < n → wq.frozen? ⟨g, off + t, none⟩ = false := fun t ht => by rw [HF.out]; exact HS4.out.fr t (by rw [HK.out]; exact ht)
                          have HG := Lib.hid hG
                          clear hG
                          have hj2n : j2 < n := by omega
                          have ha2n : a < n := by omega
                          obtain ⟨U, hU⟩ := set_some (q := off + a) (hcw a ha2n) (off + j2) (.int .i32 (G a))
                          go_wp2_with fail
                          go_region
                          all_goals
                            go_wp2_with fail
                            go_ret2
                            refine ⟨j2, false, rfl, ?_, ?_⟩
                            · rw [partition_fst, ← HB.out, ← HO.out, HL9.out]
                            · rw [partition_arr, ← HB.out, ← HO.out, HL9.out]
                              exact (HS4.out.swapG _ HF.out HK.out hj2n ha2n HG.out).out
            · have hdI : ¬ (i2 : Int) ≤ j2 := by omega
              have HD : Hid (scanDown (fun x => !ltInt x dk[a]!) dk i2 j = j2) := Lib.hid (by
                rw [HDD.out]
                cases hc : j2 with
                | zero => rw [down_zero]
                | succ j3 => rw [down_stop (.inl (by omega))])
              go_wp2_with fail
              go_quiet (fail)
              go_wp2_with fail
              have HS4 := Lib.hid (HS3.out.drew nq)
              generalize wr.drewN nq = wq at *
              clear HS3
              have hijI : (j2 : Int) < i2 := by omega
              have HL9 : Hid (partLoop ltInt a i j dk = (j2, dk)) := Lib.hid (by rw [partLoop_eq, HU.out, HD.out, if_pos (by omega)])
              obtain ⟨G, hG⟩ : ∃ G : Nat → Int, ∀ t, G t = dk[t]! := ⟨fun t => dk[t]!, fun _ => rfl⟩
              have hcw : ∀ t, t < n → wq.cell? ⟨g, off + t, none⟩ = some (.int .i32 (G t)) := fun t ht => by rw [hG, HF.out]; exact HS4.out.cell t (by rw [HK.out]; exact ht)
              have hfw : ∀ t, t < n → wq.frozen? ⟨g, off + t, none⟩ = false := fun t ht => by rw [HF.out]; exact HS4.out.fr t (by rw [HK.out]; exact ht)
              have HG := Lib.hid hG
              clear hG
              have hj2n : j2 < n := by omega
              have ha2n : a < n := by omega
              obtain ⟨U, hU⟩ := set_some (q := off + a) (hcw a ha2n) (off + j2) (.int .i32 (G a))
              go_wp2_with fail
              go_region
              all_goals
                go_wp2_with fail
                go_ret2
                refine ⟨j2, true, rfl, ?_, ?_⟩
                · rw [partition_fst, ← HB.out, ← HO.out, HL9.out]
                · rw [partition_arr, ← HB.out, ← HO.out, HL9.out]
                  exact (HS4.out.swapG _ HF.out HK.out hj2n ha2n HG.out).out
      · have huI : ¬ (i2 : Int) ≤ j := by omega
        have HU : Hid (scanUp (fun x => ltInt x dk[a]!) dk j i = i2) := Lib.hid (by rw [HUU.out, up_stop (.inl hu)])
        go_wp2_with fail
        go_quiet (fail)
        go_wp2_with fail
        have HSx := Lib.hid (HS2.out.drew nq)
        generalize wr.drewN nq = wq at *
        clear HS2
        go_loopw [11] (fun vj wx => ∃ (j1 : Nat), vj = .int .i64 j1 ∧ j1 ≤ j ∧ i2 ≤ j1 + 2 ∧ Hid (SR w0 wx g pf sp dk) ∧ Hid (scanDown (fun x => !ltInt x dk[a]!) dk i2 j = scanDown (fun x => !ltInt x dk[a]!) dk i2 j1)) (fun vj _ => (intOf vj).toNat)
        case atStart => exact ⟨j, rfl, Nat.le_refl _, by omega, HSx, rfl⟩
        case round =>
          obtain ⟨j2, rfl, hj2, hij2, HS3, HDD⟩ := hrel
          have hd : ¬ i2 ≤ j2 := by omega
          have hdI : ¬ (i2 : Int) ≤ j2 := by omega
          have HD : Hid (scanDown (fun x => !ltInt x dk[a]!) dk i2 j = j2) := Lib.hid (by
            rw [HDD.out]
            cases hc : j2 with
            | zero => rw [down_zero]
            | succ j3 => rw [down_stop (.inl (by omega))])
          go_wp2_with fail
          go_quiet (fail)
          go_wp2_with fail
          have HS4 := Lib.hid (HS3.out.drew nq)
          generalize wr.drewN nq = wq at *
          clear HS3
          have hijI : (j2 : Int) < i2 := by omega
          have HL9 : Hid (partLoop ltInt a i j dk = (j2, dk)) := Lib.hid (by rw [partLoop_eq, HU.out, HD.out, if_pos (by omega)])
          obtain ⟨G, hG⟩ : ∃ G : Nat → Int, ∀ t, G t = dk[t]! := ⟨fun t => dk[t]!, fun _ => rfl⟩
          have hcw : ∀ t, t < n → wq.cell? ⟨g, off + t, none⟩ = some (.int .i32 (G t)) := fun t ht => by rw [hG, HF.out]; exact HS4.out.cell t (by rw [HK.out]; exact ht)
          have hfw : ∀ t, t < n → wq.frozen? ⟨g, off + t, none⟩ = false := fun t ht => by rw [HF.out]; exact HS4.out.fr t (by rw [HK.out]; exact ht)
          have HG := Lib.hid hG
          clear hG
          have hj2n : j2 < n := by omega
          have ha2n : a < n := by omega
          obtain ⟨U, hU⟩ := set_some (q := off + a) (hcw a ha2n) (off + j2) (.int .i32 (G a))
          go_wp2_with fail
          go_region
          all_goals
            go_wp2_with fail
            go_ret2
            refine ⟨j2, true, rfl, ?_, ?_⟩
            · rw [partition_fst, ← HB.out, ← HO.out, HL9.out]
            · rw [partition_arr, ← HB.out, ← HO.out, HL9.out]
              exact (HS4.out.swapG _ HF.out HK.out hj2n ha2n HG.out).out

end Go.Proofs.YtagbeioooohbgaaGreatDoor.So

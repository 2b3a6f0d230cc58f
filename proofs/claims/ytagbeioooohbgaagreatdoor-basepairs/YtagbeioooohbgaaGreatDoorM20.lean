import Derived.Test.YtagbeioooohbgaaGreatDoorM18
import Derived.IntWalk
section
namespace Go.Proofs.YtagbeioooohbgaaGreatDoor.So
open Go.RowKit Go.Sort Tr
variable {w0 w : World} {g : Nat} {pf sp : List Value} {d : Array Int}

/-! partialInsertionSort -/
theorem pi_step {a b s i i2 : Nat} {d : Array Int} (h1 : scanSorted ltInt d b i = i2) (hne : i2 ≠ b) (h50 : ¬ b - a < 50) :
    partialIns ltInt a b (s + 1) i d = partialIns ltInt a b s i2 (if b - i2 ≥ 2 then shiftUp ltInt b (i2 + 1) (if i2 - a ≥ 2 then shiftDown ltInt (i2 - 1) (swp d i2 (i2 - 1)) else swp d i2 (i2 - 1)) else (if i2 - a ≥ 2 then shiftDown ltInt (i2 - 1) (swp d i2 (i2 - 1)) else swp d i2 (i2 - 1))) := by
  rw [partialIns]
  simp only [h1, if_neg hne, if_neg h50]
set_option maxHeartbeats 32000000 in
set_option maxRecDepth 100000 in
theorem part_ins_any (cap a b : Nat) (h : SR w0 w g pf sp d) (hab : a < b) (hb : b ≤ d.size) (hsz : d.size ≤ 100000) :
    Calls Tryz.prog 112 #[.slice (some ⟨g, pf.length, none⟩) d.size cap, .int .i64 a, .int .i64 b] w fun e w' =>
      e = .returned (.bool (partialInsertionSort ltInt d a b).2) ∧ SR w0 w' g pf sp (partialInsertionSort ltInt d a b).1 := by
  obtain ⟨n, hn⟩ : ∃ n, n = d.size := ⟨_, rfl⟩
  obtain ⟨off, hoff⟩ : ∃ off, off = pf.length := ⟨_, rfl⟩
  rw [← hn, ← hoff]
  rw [← hn] at hb hsz
  have HN := Lib.hid hn
  have HF := Lib.hid hoff
  have HR := Lib.hid h
  clear hn hoff h
  go_enter Tryz.func112, Tryz.ntmps112
  go_wp2_with fail
  go_loopw [7, 8] (fun vi vs wr => ∃ (s i : Nat) (dk : Array Int), vs = .int .i64 (5 - (s : Int)) ∧ vi = .int .i64 i ∧ s ≤ 5 ∧ a < i ∧ i ≤ b ∧ Hid (dk.size = n) ∧ Hid (SR w0 wr g pf sp dk) ∧ Hid (partialIns ltInt a b s i dk = partialInsertionSort ltInt d a b)) (fun _ vs _ => (5 - intOf vs).toNat)
  case atStart => exact ⟨5, a + 1, d, rfl, by go_num, Nat.le_refl _, by omega, by omega, HN.out.symm, HR, rfl⟩
  case round =>
    obtain ⟨s1, i, dk, rfl, rfl, hs5, hai, hib, HK, HS, HO⟩ := hrel
    cases s1 with
    | zero =>
      have hsI : (5 : Int) - ((0 : Nat) : Int) = 5 := by omega
      rw [hsI]
      clear hsI
      go_wp2_with fail
      go_ret
      rw [← HO.out]
      exact ⟨rfl, HS.out⟩
    | succ s =>
      obtain ⟨z, hz⟩ : ∃ z : Int, z = 5 - ((s + 1 : Nat) : Int) := ⟨_, rfl⟩
      rw [← hz]
      have hzb : 0 ≤ z ∧ z < 5 := by omega
      obtain ⟨hz0, hz1⟩ := hzb
      have hsI : (Value.int .i64 (z + 1)) = .int .i64 (5 - (s : Int)) := by congr 1; omega
      clear hz
      obtain ⟨wo, hwo⟩ : ∃ x, x = wr := ⟨_, rfl⟩
      subst hwo
      have HSI := Lib.hid hsI
      clear hsI
      go_wp2_with fail
      go_loopw [7] (fun vi wx => ∃ i1 : Nat, vi = .int .i64 i1 ∧ a < i1 ∧ i1 ≤ b ∧ Hid (SR w0 wx g pf sp dk) ∧ Hid (scanSorted ltInt dk b i = scanSorted ltInt dk b i1)) (fun vi _ => b - (intOf vi).toNat)
      case atStart => exact ⟨i, rfl, hai, hib, HS, rfl⟩
      case round =>
        obtain ⟨i2, rfl, hai2, hib2, HSS, HSC⟩ := hrel
        by_cases hlt : i2 < b
        · have hltI : (i2 : Int) < b := by omega
          obtain ⟨q, hq⟩ : ∃ q, i2 = q + 1 := ⟨i2 - 1, by omega⟩
          have hqI : (i2 : Int) - 1 = q := by omega
          have qw : IntKind.i64.wrap (q : Int) = q := IntWalk.i64_in _ (by omega)
          have jw : IntKind.i64.wrap (i2 : Int) = i2 := IntWalk.i64_in _ (by omega)
          have hqn : q < n ∧ i2 < n ∧ q < i2 := by omega
          obtain ⟨hqn1, hqn2, hqn3⟩ := hqn
          have HQ := Lib.hid hq
          clear hq
          have hneI : ¬ (i2 : Int) = b := by omega
          have hneB : ((i2 : Int) == (b : Int)) = false := by simpa using hneI
          obtain ⟨l, hl9⟩ : ∃ l, l = b - a := ⟨_, rfl⟩
          have hlI : (b : Int) - a = l := by omega
          have hl50 : b - a < 50 ↔ l < 50 := by omega
          clear hl9
          by_cases h50 : b - a < 50
          · have h50I : (l : Int) < 50 := by omega
            obtain ⟨G, hG⟩ : ∃ G : Nat → Int, ∀ t, G t = dk[t]! := ⟨fun t => dk[t]!, fun _ => rfl⟩
            have hcw : ∀ t, t < n → wr.cell? ⟨g, off + t, none⟩ = some (.int .i32 (G t)) := fun t ht => by rw [hG, HF.out]; exact HSS.out.cell t (by rw [HK.out]; exact ht)
            have hfw : ∀ t, t < n → wr.frozen? ⟨g, off + t, none⟩ = false := fun t ht => by rw [HF.out]; exact HSS.out.fr t (by rw [HK.out]; exact ht)
            have HG := Lib.hid hG
            clear hG
            go_wp2_with fail
            go_quiet (first | (go_at_call 80; refine Calls.quiet_of_same (less_any _ _ _)))
            go_wp2_with fail
            · have hl : ltInt (G i2) (G q) = false := by first | assumption | simpa using ‹(!ltInt (G i2) (G q)) = true›
              have hl2 := hl
              rw [HG.out, HG.out] at hl2
              have HD : Hid (scanSorted ltInt dk b i = scanSorted ltInt dk b (i2 + 1)) := Lib.hid (by rw [HSC.out, scanSorted, if_pos (by rw [HQ.out, Nat.add_sub_cancel, ← HQ.out, hl2]; simp [hlt])])
              clear hl hl2
              go_roundw
              case measure => simp [intOf]; omega
              case rel => exact ⟨i2 + 1, by go_num, by omega, by omega, Lib.hid (HSS.out.drew _), HD⟩
            · have hl : ltInt (G i2) (G q) = true := by first | assumption | simpa using ‹(!ltInt (G i2) (G q)) = false›
              have hl2 := hl
              rw [HG.out, HG.out] at hl2
              have HD : Hid (scanSorted ltInt dk b i = i2) := Lib.hid (by rw [HSC.out, scanSorted, if_neg (by rw [HQ.out, Nat.add_sub_cancel, ← HQ.out, hl2]; simp)])
              have HE : Hid (partialInsertionSort ltInt d a b = (dk, false)) := Lib.hid (by rw [← HO.out, partialIns]; simp only [HD.out]; rw [if_neg (by omega), if_pos h50])
              go_ret
              rw [HE.out]
              exact ⟨rfl, HSS.out.drew _⟩
          · have h50I : ¬ (l : Int) < 50 := by omega
            obtain ⟨G, hG⟩ : ∃ G : Nat → Int, ∀ t, G t = dk[t]! := ⟨fun t => dk[t]!, fun _ => rfl⟩
            have hcw : ∀ t, t < n → wr.cell? ⟨g, off + t, none⟩ = some (.int .i32 (G t)) := fun t ht => by rw [hG, HF.out]; exact HSS.out.cell t (by rw [HK.out]; exact ht)
            have hfw : ∀ t, t < n → wr.frozen? ⟨g, off + t, none⟩ = false := fun t ht => by rw [HF.out]; exact HSS.out.fr t (by rw [HK.out]; exact ht)
            have HG := Lib.hid hG
            clear hG
            go_wp2_with fail
            go_quiet (first | (go_at_call 80; refine Calls.quiet_of_same (less_any _ _ _)))
            go_wp2_with fail
            · have hl : ltInt (G i2) (G q) = false := by first | assumption | simpa using ‹(!ltInt (G i2) (G q)) = true›
              have hl2 := hl
              rw [HG.out, HG.out] at hl2
              have HD : Hid (scanSorted ltInt dk b i = scanSorted ltInt dk b (i2 + 1)) := Lib.hid (by rw [HSC.out, scanSorted, if_pos (by rw [HQ.out, Nat.add_sub_cancel, ← HQ.out, hl2]; simp [hlt])])
              clear hl hl2
              go_roundw
              case measure => simp [intOf]; omega
              case rel => exact ⟨i2 + 1, by go_num, by omega, by omega, Lib.hid (HSS.out.drew _), HD⟩
            · have hl : ltInt (G i2) (G q) = true := by first | assumption | simpa using ‹(!ltInt (G i2) (G q)) = false›
              have hl2 := hl
              rw [HG.out, HG.out] at hl2
              have HD : Hid (scanSorted ltInt dk b i = i2) := Lib.hid (by rw [HSC.out, scanSorted, if_neg (by rw [HQ.out, Nat.add_sub_cancel, ← HQ.out, hl2]; simp)])
              have HSd := Lib.hid (HSS.out.drew nq)
              clear hl2 hcw hfw
              generalize wr.drewN nq = wq at *
              clear HSS
              have hcw : ∀ t, t < n → wq.cell? ⟨g, off + t, none⟩ = some (.int .i32 (G t)) := fun t ht => by rw [HG.out, HF.out]; exact HSd.out.cell t (by rw [HK.out]; exact ht)
              have hfw : ∀ t, t < n → wq.frozen? ⟨g, off + t, none⟩ = false := fun t ht => by rw [HF.out]; exact HSd.out.fr t (by rw [HK.out]; exact ht)
              obtain ⟨d2, hd2⟩ : ∃ d2, d2 = swp dk i2 q := ⟨_, rfl⟩
              have HK2 : Hid (d2.size = n) := Lib.hid (by rw [hd2, size_swp]; exact HK.out)
              have HSTP : Hid (partialIns ltInt a b s i2 (if b - i2 ≥ 2 then shiftUp ltInt b (i2 + 1) (if i2 - a ≥ 2 then shiftDown ltInt q d2 else d2) else (if i2 - a ≥ 2 then shiftDown ltInt q d2 else d2)) = partialInsertionSort ltInt d a b) := Lib.hid (by
                have h9 := pi_step (s := s) (a := a) HD.out (by omega) h50
                rw [show i2 - 1 = q by have := HQ.out; omega, ← hd2] at h9
                rw [← HO.out, h9])
              have HD2 := Lib.hid hd2
              clear hd2
              obtain ⟨md, hmd⟩ : ∃ md, md = i2 - a := ⟨_, rfl⟩
              have hmdI : (i2 : Int) - a = md := by omega
              obtain ⟨mu, hmu⟩ : ∃ mu, mu = b - i2 := ⟨_, rfl⟩
              have hmuI : (b : Int) - i2 = mu := by omega
              rcases (show (2 ≤ md ∧ 2 ≤ mu) ∨ (2 ≤ md ∧ ¬ 2 ≤ mu) ∨ (¬ 2 ≤ md ∧ 2 ≤ mu) ∨ (¬ 2 ≤ md ∧ ¬ 2 ≤ mu) by omega) with ⟨hd2, hu2⟩ | ⟨hd2, hu2⟩ | ⟨hd2, hu2⟩ | ⟨hd2, hu2⟩
              · have hd2I : (2 : Int) ≤ md := by omega
                have hu2I : (2 : Int) ≤ mu := by omega
                have HST0 : Hid (partialIns ltInt a b s i2 (shiftUp ltInt b (i2 + 1) (shiftDown ltInt q d2)) = partialInsertionSort ltInt d a b) := Lib.hid (by
                  have h9 := HSTP.out
                  rw [if_pos (by omega), if_pos (by omega)] at h9
                  exact h9)
                clear hmd hmu
                go_region
                all_goals
                  have HW := fun k => HSd.out.swapG k HF.out HK.out hqn2 hqn1 HG.out
                  simp only [← HD2.out] at HW
                  have HS2 := HW 1
                  clear hcw hfw HSTP
                  go_wp2_with fail
                  go_loopw [9] (fun vj wx => ∃ (j : Nat) (dj : Array Int), vj = .int .i64 j ∧ j ≤ q ∧ Hid (dj.size = n) ∧ Hid (SR w0 wx g pf sp dj) ∧ Hid (shiftDown ltInt j dj = shiftDown ltInt q d2)) (fun vj _ => (intOf vj).toNat)
                  case atStart => exact ⟨q, d2, rfl, Nat.le_refl _, HK2, HS2, rfl⟩
                  case round =>
                    obtain ⟨j, dj, rfl, hj1, HKj, HSj, HJ⟩ := hrel
                    by_cases hj0 : 1 ≤ j
                    · have hj0I : (1 : Int) ≤ j := by omega
                      obtain ⟨q1, hq1⟩ : ∃ q1, j = q1 + 1 := ⟨j - 1, by omega⟩
                      have hq1I : (j : Int) - 1 = q1 := by omega
                      have q1w : IntKind.i64.wrap (q1 : Int) = q1 := IntWalk.i64_in _ (by omega)
                      have j1w : IntKind.i64.wrap (j : Int) = j := IntWalk.i64_in _ (by omega)
                      have hq1n : q1 < n ∧ j < n ∧ q1 < j := by omega
                      obtain ⟨hq1n1, hq1n2, hq1n3⟩ := hq1n
                      have HQ1 := Lib.hid hq1
                      clear hq1
                      obtain ⟨G, hG⟩ : ∃ G : Nat → Int, ∀ t, G t = dj[t]! := ⟨fun t => dj[t]!, fun _ => rfl⟩
                      have hcw : ∀ t, t < n → wr.cell? ⟨g, off + t, none⟩ = some (.int .i32 (G t)) := fun t ht => by rw [hG, HF.out]; exact HSj.out.cell t (by rw [HKj.out]; exact ht)
                      have hfw : ∀ t, t < n → wr.frozen? ⟨g, off + t, none⟩ = false := fun t ht => by rw [HF.out]; exact HSj.out.fr t (by rw [HKj.out]; exact ht)
                      have HG := Lib.hid hG
                      clear hG
                      go_wp2_with fail
                      go_quiet (first | (go_at_call 80; refine Calls.quiet_of_same (less_any _ _ _)))
                      go_wp2_with fail
                      · have hl : ltInt (G j) (G q1) = false := by first | assumption | simpa using ‹(!ltInt (G j) (G q1)) = true›
                        have hl2 := hl
                        rw [HG.out, HG.out] at hl2
                        have HD9 : Hid (shiftDown ltInt q d2 = dj) := Lib.hid (by rw [← HJ.out, HQ1.out, shiftDown, ← HQ1.out, hl2]; rfl)
                        have HST : Hid (partialIns ltInt a b s i2 (shiftUp ltInt b (i2 + 1) dj) = partialInsertionSort ltInt d a b) := Lib.hid (by rw [← HD9.out]; exact HST0.out)
                        have HSd2 := Lib.hid (HSj.out.drew nq)
                        clear hl2 hcw hfw
                        generalize wr.drewN nq = wq2 at *
                        clear HSj
                        go_loopw [10] (fun vj wx => ∃ (j : Nat) (dz : Array Int), vj = .int .i64 j ∧ i2 < j ∧ j ≤ b ∧ Hid (dz.size = n) ∧ Hid (SR w0 wx g pf sp dz) ∧ Hid (shiftUp ltInt b j dz = shiftUp ltInt b (i2 + 1) dj)) (fun vj _ => b - (intOf vj).toNat)
                        case atStart => exact ⟨i2 + 1, dj, by go_num, by omega, by omega, HKj, HSd2, rfl⟩
                        case round =>
                          obtain ⟨j, dj2, rfl, hj1, hj2, HKu, HSu, HJu⟩ := hrel
                          by_cases hjb : j < b
                          · have hjbI : (j : Int) < b := by omega
                            obtain ⟨q1, hq1⟩ : ∃ q1, j = q1 + 1 := ⟨j - 1, by omega⟩
                            have hq1I : (j : Int) - 1 = q1 := by omega
                            have q1w : IntKind.i64.wrap (q1 : Int) = q1 := IntWalk.i64_in _ (by omega)
                            have j1w : IntKind.i64.wrap (j : Int) = j := IntWalk.i64_in _ (by omega)
                            have hq1n : q1 < n ∧ j < n ∧ q1 < j := by omega
                            obtain ⟨hq1n1, hq1n2, hq1n3⟩ := hq1n
                            have HQ1 := Lib.hid hq1
                            clear hq1
                            obtain ⟨G, hG⟩ : ∃ G : Nat → Int, ∀ t, G t = dj2[t]! := ⟨fun t => dj2[t]!, fun _ => rfl⟩
                            have hcw : ∀ t, t < n → wr.cell? ⟨g, off + t, none⟩ = some (.int .i32 (G t)) := fun t ht => by rw [hG, HF.out]; exact HSu.out.cell t (by rw [HKu.out]; exact ht)
                            have hfw : ∀ t, t < n → wr.frozen? ⟨g, off + t, none⟩ = false := fun t ht => by rw [HF.out]; exact HSu.out.fr t (by rw [HKu.out]; exact ht)
                            have HG := Lib.hid hG
                            clear hG
                            go_wp2_with fail
                            go_quiet (first | (go_at_call 80; refine Calls.quiet_of_same (less_any _ _ _)))
                            go_wp2_with fail
                            · have hl : ltInt (G j) (G q1) = false := by first | assumption | simpa using ‹(!ltInt (G j) (G q1)) = true›
                              have hl2 := hl
                              rw [HG.out, HG.out] at hl2
                              have HD9 : Hid (shiftUp ltInt b (i2 + 1) dj = dj2) := Lib.hid (by rw [← HJu.out, shiftUp, if_pos hjb, HQ1.out, Nat.add_sub_cancel, ← HQ1.out, hl2]; rfl)
                              clear hl hl2
                              go_roundw
                              case measure => simp [intOf]; omega
                              case rel => exact ⟨s, i2, dj2, HSI.out, rfl, by omega, by omega, hib2, HKu, Lib.hid (HSu.out.drew _), Lib.hid (by rw [← HD9.out]; exact HST.out)⟩
                            · have hl : ltInt (G j) (G q1) = true := by first | assumption | simpa using ‹(!ltInt (G j) (G q1)) = false›
                              have hl2 := hl
                              rw [HG.out, HG.out] at hl2
                              have HD9 : Hid (shiftUp ltInt b j dj2 = shiftUp ltInt b (j + 1) (swp dj2 j q1)) := Lib.hid (by rw [shiftUp, if_pos hjb, HQ1.out, Nat.add_sub_cancel, ← HQ1.out, hl2]; rfl)
                              clear hl hl2
                              go_region
                              all_goals
                                go_wp2_with fail
                                go_roundw
                                case measure => simp [intOf]; omega
                                case rel => exact ⟨j + 1, swp dj2 j q1, by go_num, by omega, by omega, Lib.hid (by rw [size_swp]; exact HKu.out), HSu.out.swapG _ HF.out HKu.out hq1n2 hq1n1 HG.out, Lib.hid (by rw [← HJu.out, HD9.out])⟩
                          · have hjbI : ¬ (j : Int) < b := by omega
                            have HD9 : Hid (shiftUp ltInt b (i2 + 1) dj = dj2) := Lib.hid (by rw [← HJu.out, shiftUp, if_neg hjb])
                            go_wp2_with fail
                            go_roundw
                            case measure => simp [intOf]; omega
                            case rel => exact ⟨s, i2, dj2, HSI.out, rfl, by omega, by omega, hib2, HKu, HSu, Lib.hid (by rw [← HD9.out]; exact HST.out)⟩
                      · have hl : ltInt (G j) (G q1) = true := by first | assumption | simpa using ‹(!ltInt (G j) (G q1)) = false›
                        have hl2 := hl
                        rw [HG.out, HG.out] at hl2
                        have HD9 : Hid (shiftDown ltInt j dj = shiftDown ltInt q1 (swp dj j q1)) := Lib.hid (by rw [HQ1.out, shiftDown, ← HQ1.out, hl2]; rfl)
                        clear hl hl2
                        go_region
                        all_goals
                          go_wp2_with fail
                          go_roundw
                          case measure => simp [intOf]; omega
                          case rel => exact ⟨q1, swp dj j q1, rfl, by omega, Lib.hid (by rw [size_swp]; exact HKj.out), HSj.out.swapG _ HF.out HKj.out hq1n2 hq1n1 HG.out, Lib.hid (by rw [← HJ.out, HD9.out])⟩
                    · have hj0I : ¬ (1 : Int) ≤ j := by omega
                      have HD9 : Hid (shiftDown ltInt q d2 = dj) := Lib.hid (by rw [← HJ.out, show j = 0 by omega, shiftDown])
                      have HST : Hid (partialIns ltInt a b s i2 (shiftUp ltInt b (i2 + 1) dj) = partialInsertionSort ltInt d a b) := Lib.hid (by rw [← HD9.out]; exact HST0.out)
                      go_wp2_with fail
                      go_loopw [10] (fun vj wx => ∃ (j : Nat) (dz : Array Int), vj = .int .i64 j ∧ i2 < j ∧ j ≤ b ∧ Hid (dz.size = n) ∧ Hid (SR w0 wx g pf sp dz) ∧ Hid (shiftUp ltInt b j dz = shiftUp ltInt b (i2 + 1) dj)) (fun vj _ => b - (intOf vj).toNat)
                      case atStart => exact ⟨i2 + 1, dj, by go_num, by omega, by omega, HKj, HSj, rfl⟩
                      case round =>
                        obtain ⟨j, dj2, rfl, hj1, hj2, HKu, HSu, HJu⟩ := hrel
                        by_cases hjb : j < b
                        · have hjbI : (j : Int) < b := by omega
                          obtain ⟨q1, hq1⟩ : ∃ q1, j = q1 + 1 := ⟨j - 1, by omega⟩
                          have hq1I : (j : Int) - 1 = q1 := by omega
                          have q1w : IntKind.i64.wrap (q1 : Int) = q1 := IntWalk.i64_in _ (by omega)
                          have j1w : IntKind.i64.wrap (j : Int) = j := IntWalk.i64_in _ (by omega)
                          have hq1n : q1 < n ∧ j < n ∧ q1 < j := by omega
                          obtain ⟨hq1n1, hq1n2, hq1n3⟩ := hq1n
                          have HQ1 := Lib.hid hq1
                          clear hq1
                          obtain ⟨G, hG⟩ : ∃ G : Nat → Int, ∀ t, G t = dj2[t]! := ⟨fun t => dj2[t]!, fun _ => rfl⟩
                          have hcw : ∀ t, t < n → wr.cell? ⟨g, off + t, none⟩ = some (.int .i32 (G t)) := fun t ht => by rw [hG, HF.out]; exact HSu.out.cell t (by rw [HKu.out]; exact ht)
                          have hfw : ∀ t, t < n → wr.frozen? ⟨g, off + t, none⟩ = false := fun t ht => by rw [HF.out]; exact HSu.out.fr t (by rw [HKu.out]; exact ht)
                          have HG := Lib.hid hG
                          clear hG
                          go_wp2_with fail
                          go_quiet (first | (go_at_call 80; refine Calls.quiet_of_same (less_any _ _ _)))
                          go_wp2_with fail
                          · have hl : ltInt (G j) (G q1) = false := by first | assumption | simpa using ‹(!ltInt (G j) (G q1)) = true›
                            have hl2 := hl
                            rw [HG.out, HG.out] at hl2
                            have HD9 : Hid (shiftUp ltInt b (i2 + 1) dj = dj2) := Lib.hid (by rw [← HJu.out, shiftUp, if_pos hjb, HQ1.out, Nat.add_sub_cancel, ← HQ1.out, hl2]; rfl)
                            clear hl hl2
                            go_roundw
                            case measure => simp [intOf]; omega
                            case rel => exact ⟨s, i2, dj2, HSI.out, rfl, by omega, by omega, hib2, HKu, Lib.hid (HSu.out.drew _), Lib.hid (by rw [← HD9.out]; exact HST.out)⟩
                          · have hl : ltInt (G j) (G q1) = true := by first | assumption | simpa using ‹(!ltInt (G j) (G q1)) = false›
                            have hl2 := hl
                            rw [HG.out, HG.out] at hl2
                            have HD9 : Hid (shiftUp ltInt b j dj2 = shiftUp ltInt b (j + 1) (swp dj2 j q1)) := Lib.hid (by rw [shiftUp, if_pos hjb, HQ1.out, Nat.add_sub_cancel, ← HQ1.out, hl2]; rfl)
                            clear hl hl2
                            go_region
                            all_goals
                              go_wp2_with fail
                              go_roundw
                              case measure => simp [intOf]; omega
                              case rel => exact ⟨j + 1, swp dj2 j q1, by go_num, by omega, by omega, Lib.hid (by rw [size_swp]; exact HKu.out), HSu.out.swapG _ HF.out HKu.out hq1n2 hq1n1 HG.out, Lib.hid (by rw [← HJu.out, HD9.out])⟩
                        · have hjbI : ¬ (j : Int) < b := by omega
                          have HD9 : Hid (shiftUp ltInt b (i2 + 1) dj = dj2) := Lib.hid (by rw [← HJu.out, shiftUp, if_neg hjb])
                          go_wp2_with fail
                          go_roundw
                          case measure => simp [intOf]; omega
                          case rel => exact ⟨s, i2, dj2, HSI.out, rfl, by omega, by omega, hib2, HKu, HSu, Lib.hid (by rw [← HD9.out]; exact HST.out)⟩
              · have hd2I : (2 : Int) ≤ md := by omega
                have hu2I : ¬ (2 : Int) ≤ mu := by omega
                have HST0 : Hid (partialIns ltInt a b s i2 (shiftDown ltInt q d2) = partialInsertionSort ltInt d a b) := Lib.hid (by
                  have h9 := HSTP.out
                  rw [if_neg (by omega), if_pos (by omega)] at h9
                  exact h9)
                clear hmd hmu
                go_region
                all_goals
                  have HW := fun k => HSd.out.swapG k HF.out HK.out hqn2 hqn1 HG.out
                  simp only [← HD2.out] at HW
                  have HS2 := HW 1
                  clear hcw hfw HSTP
                  go_wp2_with fail
                  go_loopw [9] (fun vj wx => ∃ (j : Nat) (dj : Array Int), vj = .int .i64 j ∧ j ≤ q ∧ Hid (dj.size = n) ∧ Hid (SR w0 wx g pf sp dj) ∧ Hid (shiftDown ltInt j dj = shiftDown ltInt q d2)) (fun vj _ => (intOf vj).toNat)
                  case atStart => exact ⟨q, d2, rfl, Nat.le_refl _, HK2, HS2, rfl⟩
                  case round =>
                    obtain ⟨j, dj, rfl, hj1, HKj, HSj, HJ⟩ := hrel
                    by_cases hj0 : 1 ≤ j
                    · have hj0I : (1 : Int) ≤ j := by omega
                      obtain ⟨q1, hq1⟩ : ∃ q1, j = q1 + 1 := ⟨j - 1, by omega⟩
                      have hq1I : (j : Int) - 1 = q1 := by omega
                      have q1w : IntKind.i64.wrap (q1 : Int) = q1 := IntWalk.i64_in _ (by omega)
                      have j1w : IntKind.i64.wrap (j : Int) = j := IntWalk.i64_in _ (by omega)
                      have hq1n : q1 < n ∧ j < n ∧ q1 < j := by omega
                      obtain ⟨hq1n1, hq1n2, hq1n3⟩ := hq1n
                      have HQ1 := Lib.hid hq1
                      clear hq1
                      obtain ⟨G, hG⟩ : ∃ G : Nat → Int, ∀ t, G t = dj[t]! := ⟨fun t => dj[t]!, fun _ => rfl⟩
                      have hcw : ∀ t, t < n → wr.cell? ⟨g, off + t, none⟩ = some (.int .i32 (G t)) := fun t ht => by rw [hG, HF.out]; exact HSj.out.cell t (by rw [HKj.out]; exact ht)
                      have hfw : ∀ t, t < n → wr.frozen? ⟨g, off + t, none⟩ = false := fun t ht => by rw [HF.out]; exact HSj.out.fr t (by rw [HKj.out]; exact ht)
                      have HG := Lib.hid hG
                      clear hG
                      go_wp2_with fail
                      go_quiet (first | (go_at_call 80; refine Calls.quiet_of_same (less_any _ _ _)))
                      go_wp2_with fail
                      · have hl : ltInt (G j) (G q1) = false := by first | assumption | simpa using ‹(!ltInt (G j) (G q1)) = true›
                        have hl2 := hl
                        rw [HG.out, HG.out] at hl2
                        have HD9 : Hid (shiftDown ltInt q d2 = dj) := Lib.hid (by rw [← HJ.out, HQ1.out, shiftDown, ← HQ1.out, hl2]; rfl)
                        have HST : Hid (partialIns ltInt a b s i2 dj = partialInsertionSort ltInt d a b) := Lib.hid (by rw [← HD9.out]; exact HST0.out)
                        have HSd2 := Lib.hid (HSj.out.drew nq)
                        clear hl2 hcw hfw
                        generalize wr.drewN nq = wq2 at *
                        clear HSj
                        go_roundw
                        case measure => simp [intOf]; omega
                        case rel => exact ⟨s, i2, dj, HSI.out, rfl, by omega, by omega, hib2, HKj, HSd2, Lib.hid (HST.out)⟩
                      · have hl : ltInt (G j) (G q1) = true := by first | assumption | simpa using ‹(!ltInt (G j) (G q1)) = false›
                        have hl2 := hl
                        rw [HG.out, HG.out] at hl2
                        have HD9 : Hid (shiftDown ltInt j dj = shiftDown ltInt q1 (swp dj j q1)) := Lib.hid (by rw [HQ1.out, shiftDown, ← HQ1.out, hl2]; rfl)
                        clear hl hl2
                        go_region
                        all_goals
                          go_wp2_with fail
                          go_roundw
                          case measure => simp [intOf]; omega
                          case rel => exact ⟨q1, swp dj j q1, rfl, by omega, Lib.hid (by rw [size_swp]; exact HKj.out), HSj.out.swapG _ HF.out HKj.out hq1n2 hq1n1 HG.out, Lib.hid (by rw [← HJ.out, HD9.out])⟩
                    · have hj0I : ¬ (1 : Int) ≤ j := by omega
                      have HD9 : Hid (shiftDown ltInt q d2 = dj) := Lib.hid (by rw [← HJ.out, show j = 0 by omega, shiftDown])
                      have HST : Hid (partialIns ltInt a b s i2 dj = partialInsertionSort ltInt d a b) := Lib.hid (by rw [← HD9.out]; exact HST0.out)
                      go_wp2_with fail
                      go_roundw
                      case measure => simp [intOf]; omega
                      case rel => exact ⟨s, i2, dj, HSI.out, rfl, by omega, by omega, hib2, HKj, HSj, Lib.hid (HST.out)⟩
              · have hd2I : ¬ (2 : Int) ≤ md := by omega
                have hu2I : (2 : Int) ≤ mu := by omega
                have HST : Hid (partialIns ltInt a b s i2 (shiftUp ltInt b (i2 + 1) d2) = partialInsertionSort ltInt d a b) := Lib.hid (by
                  have h9 := HSTP.out
                  rw [if_pos (by omega), if_neg (by omega)] at h9
                  exact h9)
                clear hmd hmu
                go_region
                all_goals
                  have HW := fun k => HSd.out.swapG k HF.out HK.out hqn2 hqn1 HG.out
                  simp only [← HD2.out] at HW
                  have HS2 := HW 1
                  clear hcw hfw HSTP
                  go_wp2_with fail
                  go_loopw [10] (fun vj wx => ∃ (j : Nat) (dz : Array Int), vj = .int .i64 j ∧ i2 < j ∧ j ≤ b ∧ Hid (dz.size = n) ∧ Hid (SR w0 wx g pf sp dz) ∧ Hid (shiftUp ltInt b j dz = shiftUp ltInt b (i2 + 1) d2)) (fun vj _ => b - (intOf vj).toNat)
                  case atStart => exact ⟨i2 + 1, d2, by go_num, by omega, by omega, HK2, HS2, rfl⟩
                  case round =>
                    obtain ⟨j, dj2, rfl, hj1, hj2, HKu, HSu, HJu⟩ := hrel
                    by_cases hjb : j < b
                    · have hjbI : (j : Int) < b := by omega
                      obtain ⟨q1, hq1⟩ : ∃ q1, j = q1 + 1 := ⟨j - 1, by omega⟩
                      have hq1I : (j : Int) - 1 = q1 := by omega
                      have q1w : IntKind.i64.wrap (q1 : Int) = q1 := IntWalk.i64_in _ (by omega)
                      have j1w : IntKind.i64.wrap (j : Int) = j := IntWalk.i64_in _ (by omega)
                      have hq1n : q1 < n ∧ j < n ∧ q1 < j := by omega
                      obtain ⟨hq1n1, hq1n2, hq1n3⟩ := hq1n
                      have HQ1 := Lib.hid hq1
                      clear hq1
                      obtain ⟨G, hG⟩ : ∃ G : Nat → Int, ∀ t, G t = dj2[t]! := ⟨fun t => dj2[t]!, fun _ => rfl⟩
                      have hcw : ∀ t, t < n → wr.cell? ⟨g, off + t, none⟩ = some (.int .i32 (G t)) := fun t ht => by rw [hG, HF.out]; exact HSu.out.cell t (by rw [HKu.out]; exact ht)
                      have hfw : ∀ t, t < n → wr.frozen? ⟨g, off + t, none⟩ = false := fun t ht => by rw [HF.out]; exact HSu.out.fr t (by rw [HKu.out]; exact ht)
                      have HG := Lib.hid hG
                      clear hG
                      go_wp2_with fail
                      go_quiet (first | (go_at_call 80; refine Calls.quiet_of_same (less_any _ _ _)))
                      go_wp2_with fail
                      · have hl : ltInt (G j) (G q1) = false := by first | assumption | simpa using ‹(!ltInt (G j) (G q1)) = true›
                        have hl2 := hl
                        rw [HG.out, HG.out] at hl2
                        have HD9 : Hid (shiftUp ltInt b (i2 + 1) d2 = dj2) := Lib.hid (by rw [← HJu.out, shiftUp, if_pos hjb, HQ1.out, Nat.add_sub_cancel, ← HQ1.out, hl2]; rfl)
                        clear hl hl2
                        go_roundw
                        case measure => simp [intOf]; omega
                        case rel => exact ⟨s, i2, dj2, HSI.out, rfl, by omega, by omega, hib2, HKu, Lib.hid (HSu.out.drew _), Lib.hid (by rw [← HD9.out]; exact HST.out)⟩
                      · have hl : ltInt (G j) (G q1) = true := by first | assumption | simpa using ‹(!ltInt (G j) (G q1)) = false›
                        have hl2 := hl
                        rw [HG.out, HG.out] at hl2
                        have HD9 : Hid (shiftUp ltInt b j dj2 = shiftUp ltInt b (j + 1) (swp dj2 j q1)) := Lib.hid (by rw [shiftUp, if_pos hjb, HQ1.out, Nat.add_sub_cancel, ← HQ1.out, hl2]; rfl)
                        clear hl hl2
                        go_region
                        all_goals
                          go_wp2_with fail
                          go_roundw
                          case measure => simp [intOf]; omega
                          case rel => exact ⟨j + 1, swp dj2 j q1, by go_num, by omega, by omega, Lib.hid (by rw [size_swp]; exact HKu.out), HSu.out.swapG _ HF.out HKu.out hq1n2 hq1n1 HG.out, Lib.hid (by rw [← HJu.out, HD9.out])⟩
                    · have hjbI : ¬ (j : Int) < b := by omega
                      have HD9 : Hid (shiftUp ltInt b (i2 + 1) d2 = dj2) := Lib.hid (by rw [← HJu.out, shiftUp, if_neg hjb])
                      go_wp2_with fail
                      go_roundw
                      case measure => simp [intOf]; omega
                      case rel => exact ⟨s, i2, dj2, HSI.out, rfl, by omega, by omega, hib2, HKu, HSu, Lib.hid (by rw [← HD9.out]; exact HST.out)⟩
              · have hd2I : ¬ (2 : Int) ≤ md := by omega
                have hu2I : ¬ (2 : Int) ≤ mu := by omega
                have HST : Hid (partialIns ltInt a b s i2 d2 = partialInsertionSort ltInt d a b) := Lib.hid (by
                  have h9 := HSTP.out
                  rw [if_neg (by omega), if_neg (by omega)] at h9
                  exact h9)
                clear hmd hmu
                go_region
                all_goals
                  have HW := fun k => HSd.out.swapG k HF.out HK.out hqn2 hqn1 HG.out
                  simp only [← HD2.out] at HW
                  have HS2 := HW 1
                  clear hcw hfw HSTP
                  go_wp2_with fail
                  go_roundw
                  case measure => simp [intOf]; omega
                  case rel => exact ⟨s, i2, d2, HSI.out, rfl, by omega, by omega, hib2, HK2, HS2, Lib.hid (HST.out)⟩
        · obtain rfl : i2 = b := by omega
          have hltI : ¬ (i2 : Int) < i2 := by omega
          have HD : Hid (scanSorted ltInt dk i2 i = i2) := Lib.hid (by rw [HSC.out, scanSorted, if_neg (by simp)])
          have HE : Hid (partialInsertionSort ltInt d a i2 = (dk, true)) := Lib.hid (by rw [← HO.out, partialIns]; simp only [HD.out, if_true])
          go_wp2_with fail
          go_quiet (fail)
          go_wp2_with fail
          go_ret
          rw [HE.out]
          exact ⟨rfl, HSS.out.drew _⟩

end Go.Proofs.YtagbeioooohbgaaGreatDoor.So
end
section
namespace Go.Proofs.YtagbeioooohbgaaGreatDoor.So
open Go.RowKit Go.Sort Tr
variable {w0 w : World} {g : Nat} {pf sp : List Value} {d : Array Int}

/-! breakPatterns: some swaps within: which ones is left open. -/
set_option maxHeartbeats 4000000 in
set_option maxRecDepth 100000 in
theorem next_any (w : World) (B : Nat) (r : Int) (hB : Bk w B [.int .u64 r] 187) :
    Calls Tryz.prog 140 #[.pointer (some ⟨B, 0, none⟩)] w fun e w' => ∃ r' : Int, e = .returned (.int .u64 r') ∧ Bk w' B [.int .u64 r'] 187 ∧ Mv (· = B) (· = B) w w' := by
  have h0 := hB.c (i := 0) rfl
  have hf := hB.fr 0
  have HB := Lib.hid (And.intro hB (Mv.refl (· = B) w))
  clear hB
  go_enter Tryz.func140, Tryz.ntmps140
  go_wp2_with fail
  go_region
  all_goals
    obtain ⟨r1, hr1⟩ : ∃ x, x = bits BinOp.xor IntKind.u64 r (IntKind.u64.wrap (r * 8192)) := ⟨_, rfl⟩
    rw [← hr1]
    have K1 : Hid (Bk (w.setCell ⟨B, 0, none⟩ (.int .u64 r1)).drew B [.int .u64 r1] 187 ∧ Mv (· = B) (· = B) w (w.setCell ⟨B, 0, none⟩ (.int .u64 r1)).drew) := Lib.hid ⟨(HB.out.1.set 0 _).drew 1, (HB.out.2.set 0 _).drew 1⟩
    clear hr1 h0 hf
    generalize (w.setCell ⟨B, 0, none⟩ (.int .u64 r1)).drew = w1 at *
    have h0 := K1.out.1.c (i := 0) rfl
    have hf := K1.out.1.fr 0
    go_wp2_with fail
    go_region
    all_goals
      obtain ⟨r2, hr2⟩ : ∃ x, x = bits BinOp.xor IntKind.u64 r1 (r1 / 128) := ⟨_, rfl⟩
      rw [← hr2]
      have K2 : Hid (Bk (w1.setCell ⟨B, 0, none⟩ (.int .u64 r2)).drew B [.int .u64 r2] 187 ∧ Mv (· = B) (· = B) w (w1.setCell ⟨B, 0, none⟩ (.int .u64 r2)).drew) := Lib.hid ⟨(K1.out.1.set 0 _).drew 1, (K1.out.2.set 0 _).drew 1⟩
      clear hr2 h0 hf
      generalize (w1.setCell ⟨B, 0, none⟩ (.int .u64 r2)).drew = w2 at *
      have h0 := K2.out.1.c (i := 0) rfl
      have hf := K2.out.1.fr 0
      go_wp2_with fail
      go_region
      all_goals
        obtain ⟨r3, hr3⟩ : ∃ x, x = bits BinOp.xor IntKind.u64 r2 (IntKind.u64.wrap (r2 * 131072)) := ⟨_, rfl⟩
        rw [← hr3]
        have K3 : Hid (Bk (w2.setCell ⟨B, 0, none⟩ (.int .u64 r3)).drew B [.int .u64 r3] 187 ∧ Mv (· = B) (· = B) w (w2.setCell ⟨B, 0, none⟩ (.int .u64 r3)).drew) := Lib.hid ⟨(K2.out.1.set 0 _).drew 1, (K2.out.2.set 0 _).drew 1⟩
        clear hr3 h0 hf
        generalize (w2.setCell ⟨B, 0, none⟩ (.int .u64 r3)).drew = w3 at *
        have h0 := K3.out.1.c (i := 0) rfl
        go_wp2_with fail
        go_ret
        exact ⟨r3, rfl, K3.out⟩
theorem tab_at : ∀ i : Fin 256, ((([0, 1, 2, 2, 3, 3, 3, 3, 4, 4, 4, 4, 4, 4, 4, 4, 5, 5, 5, 5, 5, 5, 5, 5, 5, 5, 5, 5, 5, 5, 5, 5, 6, 6, 6, 6, 6, 6, 6, 6, 6, 6, 6, 6, 6, 6, 6, 6, 6, 6, 6, 6, 6, 6, 6, 6, 6, 6, 6, 6, 6, 6, 6, 6, 7, 7, 7, 7, 7, 7, 7, 7, 7, 7, 7, 7, 7, 7, 7, 7, 7, 7, 7, 7, 7, 7, 7, 7, 7, 7, 7, 7, 7, 7, 7, 7, 7, 7, 7, 7, 7, 7, 7, 7, 7, 7, 7, 7, 7, 7, 7, 7, 7, 7, 7, 7, 7, 7, 7, 7, 7, 7, 7, 7, 7, 7, 7, 7, 8, 8, 8, 8, 8, 8, 8, 8, 8, 8, 8, 8, 8, 8, 8, 8, 8, 8, 8, 8, 8, 8, 8, 8, 8, 8, 8, 8, 8, 8, 8, 8, 8, 8, 8, 8, 8, 8, 8, 8, 8, 8, 8, 8, 8, 8, 8, 8, 8, 8, 8, 8, 8, 8, 8, 8, 8, 8, 8, 8, 8, 8, 8, 8, 8, 8, 8, 8, 8, 8, 8, 8, 8, 8, 8, 8, 8, 8, 8, 8, 8, 8, 8, 8, 8, 8, 8, 8, 8, 8, 8, 8, 8, 8, 8, 8, 8, 8, 8, 8, 8, 8, 8, 8, 8, 8, 8, 8, 8, 8, 8, 8, 8, 8, 8, 8, 8, 8, 8, 8, 8, 8, 8, 8, 8, 8, 8, 8] : List UInt8)[i.val]?.getD 0).toNat ≤ 8) ∧ (1 ≤ i.val → 2 ^ (([0, 1, 2, 2, 3, 3, 3, 3, 4, 4, 4, 4, 4, 4, 4, 4, 5, 5, 5, 5, 5, 5, 5, 5, 5, 5, 5, 5, 5, 5, 5, 5, 6, 6, 6, 6, 6, 6, 6, 6, 6, 6, 6, 6, 6, 6, 6, 6, 6, 6, 6, 6, 6, 6, 6, 6, 6, 6, 6, 6, 6, 6, 6, 6, 7, 7, 7, 7, 7, 7, 7, 7, 7, 7, 7, 7, 7, 7, 7, 7, 7, 7, 7, 7, 7, 7, 7, 7, 7, 7, 7, 7, 7, 7, 7, 7, 7, 7, 7, 7, 7, 7, 7, 7, 7, 7, 7, 7, 7, 7, 7, 7, 7, 7, 7, 7, 7, 7, 7, 7, 7, 7, 7, 7, 7, 7, 7, 7, 8, 8, 8, 8, 8, 8, 8, 8, 8, 8, 8, 8, 8, 8, 8, 8, 8, 8, 8, 8, 8, 8, 8, 8, 8, 8, 8, 8, 8, 8, 8, 8, 8, 8, 8, 8, 8, 8, 8, 8, 8, 8, 8, 8, 8, 8, 8, 8, 8, 8, 8, 8, 8, 8, 8, 8, 8, 8, 8, 8, 8, 8, 8, 8, 8, 8, 8, 8, 8, 8, 8, 8, 8, 8, 8, 8, 8, 8, 8, 8, 8, 8, 8, 8, 8, 8, 8, 8, 8, 8, 8, 8, 8, 8, 8, 8, 8, 8, 8, 8, 8, 8, 8, 8, 8, 8, 8, 8, 8, 8, 8, 8, 8, 8, 8, 8, 8, 8, 8, 8, 8, 8, 8, 8, 8, 8, 8, 8] : List UInt8)[i.val]?.getD 0).toNat ≤ 2 * i.val) := by decide +kernel

theorem and_bound (x : Int) (m : Nat) (hm : m < 18446744073709551616) : ∃ q : Nat, bits .and .u64 x (m : Int) = q ∧ q ≤ m := by
  have h1 : (BitVec.ofInt 64 (m : Int)).toNat = m := by
    rw [BitVec.ofInt_natCast, BitVec.toNat_ofNat]
    exact Nat.mod_eq_of_lt (by omega)
  obtain ⟨n, hn⟩ : ∃ n, n = (BitVec.ofInt 64 x).toNat &&& m := ⟨_, rfl⟩
  have h2 : n ≤ m := by
    rw [hn]
    exact Nat.and_le_right
  refine ⟨n, ?_, h2⟩
  have h3 : IntKind.u64.wrap (n : Int) = (n : Int) := IntWalk.u64_in _ ⟨by omega, by omega⟩
  have h4 : (BitVec.ofInt 64 x &&& BitVec.ofInt 64 (m : Int)).toNat = n := by rw [BitVec.toNat_and, h1, hn]
  show IntKind.u64.wrap (((BitVec.ofInt 64 x &&& BitVec.ofInt 64 (m : Int)).toNat : Nat) : Int) = (n : Int)
  rw [h4]
  exact h3

end Go.Proofs.YtagbeioooohbgaaGreatDoor.So
end

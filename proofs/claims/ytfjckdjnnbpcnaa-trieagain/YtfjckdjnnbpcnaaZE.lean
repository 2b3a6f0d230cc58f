import Derived.Test.YtfjckdjnnbpcnaaZA
import Derived.IntWalk
namespace Go.Proofs.Ytfjckdjnnbpcnaa.So
open Go.RowKit Go.Sort Tr
variable {w0 w : World} {g : Nat} {pf sp : List Value} {d : Array Int}

/-! partitionEqual -/
theorem up_go {p : Int → Bool} {d : Array Int} {j i : Nat} (h1 : i ≤ j) (h2 : p d[i]! = true) : scanUp p d j i = scanUp p d j (i + 1) := by rw [scanUp, if_pos (by simp [h1, h2])]
theorem up_stop {p : Int → Bool} {d : Array Int} {j i : Nat} (h : ¬ i ≤ j ∨ p d[i]! = false) : scanUp p d j i = i := by
  rw [scanUp, if_neg]
  rcases h with h | h <;> simp [h]
theorem down_go {p : Int → Bool} {d : Array Int} {i j : Nat} (h1 : i ≤ j + 1) (h2 : p d[j + 1]! = true) : scanDown p d i (j + 1) = scanDown p d i j := by rw [scanDown, if_pos (by simp [h1, h2])]
theorem down_stop {p : Int → Bool} {d : Array Int} {i j : Nat} (h : ¬ i ≤ j + 1 ∨ p d[j + 1]! = false) : scanDown p d i (j + 1) = j + 1 := by
  rw [scanDown, if_neg]
  rcases h with h | h <;> simp [h]
theorem down_zero {p : Int → Bool} {d : Array Int} {i : Nat} : scanDown p d i 0 = 0 := by rw [scanDown]

theorem set_some {w : World} {g q : Nat} {u : Value} (h : w.cell? ⟨g, q, none⟩ = some u) (p : Nat) (v : Value) : ∃ U, (w.setCell ⟨g, p, none⟩ v).cell? ⟨g, q, none⟩ = some U := by
  by_cases e : p = q
  · subst e
    exact ⟨v, World.cell?_setCell_same' _ _ _ (by rw [h]; rfl)⟩
  · exact ⟨u, (World.cell?_setCell_other w _ _ v (fun e2 => e (by cases e2; rfl))).trans h⟩
set_option maxHeartbeats 16000000 in
set_option maxRecDepth 100000 in
theorem partEq_any (cap a b pv : Nat) (h : SR w0 w g pf sp d) (hap : a ≤ pv) (hpb : pv < b) (hb : b ≤ d.size) (hsz : d.size ≤ 100000) :
    Calls Try.prog 69 #[.slice (some ⟨g, pf.length, none⟩) d.size cap, .int .i64 a, .int .i64 b, .int .i64 pv] w fun e w' =>
      ∃ m : Nat, e = .returned (.int .i64 m) ∧ m = (partitionEqual ltInt d a b pv).1 ∧ SR w0 w' g pf sp (partitionEqual ltInt d a b pv).2 := by
  obtain ⟨n, hn⟩ : ∃ n, n = d.size := ⟨_, rfl⟩
  obtain ⟨off, hoff⟩ : ∃ off, off = pf.length := ⟨_, rfl⟩
  rw [← hn, ← hoff]
  rw [← hn] at hb hsz
  have HN := Lib.hid hn
  have HF := Lib.hid hoff
  have HR := Lib.hid h
  clear hn hoff h
  have HE : Hid (partitionEqual ltInt d a b pv = partEqLoop ltInt a (a + 1) (b - 1) (swp d a pv)) := Lib.hid rfl
  obtain ⟨b1, hb1⟩ : ∃ b1, b1 = b - 1 := ⟨_, rfl⟩
  rw [← hb1] at HE
  have hb1I : (b : Int) - 1 = b1 := by omega
  have hbb : b1 < b ∧ a ≤ b1 := by omega
  obtain ⟨hbb1, hbb2⟩ := hbb
  clear hb1
  have hNN : Hid (d.size = n) := Lib.hid HN.out.symm
  obtain ⟨G0, hG⟩ : ∃ G0 : Nat → Int, ∀ t, G0 t = d[t]! := ⟨fun t => d[t]!, fun _ => rfl⟩
  have hcw : ∀ t, t < n → w.cell? ⟨g, off + t, none⟩ = some (.int .i32 (G0 t)) := fun t ht => by rw [hG, HF.out]; exact HR.out.cell t (by rw [hNN.out]; exact ht)
  have hfw : ∀ t, t < n → w.frozen? ⟨g, off + t, none⟩ = false := fun t ht => by rw [HF.out]; exact HR.out.fr t (by rw [hNN.out]; exact ht)
  have HG0 := Lib.hid hG
  clear hG
  have ha0 : a < n := by omega
  have hp0 : pv < n := by omega
  obtain ⟨U, hU⟩ := set_some (q := off + pv) (hcw pv hp0) (off + a) (.int .i32 (G0 pv))
  go_enter Try.func69, Try.ntmps69
  go_wp2_with fail
  go_region
  all_goals
    go_wp2_with fail
    clear hcw hfw hU
    go_loopw [9, 10] (fun vi vj wr => ∃ (i j : Nat) (dk : Array Int), vi = .int .i64 i ∧ vj = .int .i64 j ∧ a < i ∧ i ≤ j + 2 ∧ j < b ∧ Hid (dk.size = n) ∧ Hid (SR w0 wr g pf sp dk) ∧ Hid (partEqLoop ltInt a i j dk = partEqLoop ltInt a (a + 1) b1 (swp d a pv))) (fun _ vj _ => (intOf vj).toNat)
    case atStart => exact ⟨a + 1, b1, swp d a pv, by go_num, rfl, by omega, by omega, hbb1, Lib.hid (by rw [size_swp]; exact hNN.out), HR.out.swapG _ HF.out hNN.out ha0 hp0 HG0.out, rfl⟩
    case round =>
      obtain ⟨i, j, dk, rfl, rfl, hai, hij, hjb, HK, HS, HO⟩ := hrel
      obtain ⟨wo, hwo⟩ : ∃ x, x = wr := ⟨_, rfl⟩
      subst hwo
      go_wp2_with fail
      go_loopw [9] (fun vi wx => ∃ (i1 : Nat), vi = .int .i64 i1 ∧ i ≤ i1 ∧ i1 ≤ j + 2 ∧ Hid (SR w0 wx g pf sp dk) ∧ Hid (scanUp (fun x => !ltInt dk[a]! x) dk j i = scanUp (fun x => !ltInt dk[a]! x) dk j i1)) (fun vi _ => j + 2 - (intOf vi).toNat)
      case atStart => exact ⟨i, rfl, Nat.le_refl _, hij, HS, rfl⟩
      case round =>
        obtain ⟨i2, rfl, hi2, hi2j, HS2, HUU⟩ := hrel
        by_cases hu : i2 ≤ j
        · have huI : (i2 : Int) ≤ j := by omega
          obtain ⟨G, hG⟩ : ∃ G : Nat → Int, ∀ t, G t = dk[t]! := ⟨fun t => dk[t]!, fun _ => rfl⟩
          have hcw : ∀ t, t < n → wr.cell? ⟨g, off + t, none⟩ = some (.int .i32 (G t)) := fun t ht => by rw [hG, HF.out]; exact HS2.out.cell t (by rw [HK.out]; exact ht)
          have hfw : ∀ t, t < n → wr.frozen? ⟨g, off + t, none⟩ = false := fun t ht => by rw [HF.out]; exact HS2.out.fr t (by rw [HK.out]; exact ht)
          have HG := Lib.hid hG
          clear hG
          have han : a < n := by omega
          have hin : i2 < n := by omega
          go_wp2_with fail
          go_quiet (first | (go_at_call 68; refine Calls.quiet_of_same (less_any _ _ _)))
          go_wp2_with fail
          · have hl : ltInt (G a) (G i2) = false := by first | assumption | simpa using ‹(!ltInt (G a) (G i2)) = true›
            have hl2 := hl
            rw [HG.out, HG.out] at hl2
            have HU2 : Hid (scanUp (fun x => !ltInt dk[a]! x) dk j i = scanUp (fun x => !ltInt dk[a]! x) dk j (i2 + 1)) := Lib.hid (by rw [HUU.out, up_go hu (by simp [hl2])])
            clear hl hl2
            go_roundw
            case measure => simp [intOf]; omega
            case rel => exact ⟨i2 + 1, by go_num, by omega, by omega, Lib.hid (HS2.out.drew _), HU2⟩
          · have hl : ltInt (G a) (G i2) = true := by first | assumption | simpa using ‹(!ltInt (G a) (G i2)) = false›
            have hl2 := hl
            rw [HG.out, HG.out] at hl2
            have HU : Hid (scanUp (fun x => !ltInt dk[a]! x) dk j i = i2) := Lib.hid (by rw [HUU.out, up_stop (.inr (by simp [hl2]))])
            have HSx := Lib.hid (HS2.out.drew nq)
            clear hl2 hcw hfw
            generalize wr.drewN nq = wq at *
            clear HS2
            go_loopw [10] (fun vj wx => ∃ (j1 : Nat), vj = .int .i64 j1 ∧ j1 ≤ j ∧ i2 ≤ j1 + 2 ∧ Hid (SR w0 wx g pf sp dk) ∧ Hid (scanDown (fun x => ltInt dk[a]! x) dk i2 j = scanDown (fun x => ltInt dk[a]! x) dk i2 j1)) (fun vj _ => (intOf vj).toNat)
            case atStart => exact ⟨j, rfl, Nat.le_refl _, by omega, HSx, rfl⟩
            case round =>
              obtain ⟨j2, rfl, hj2, hij2, HS3, HDD⟩ := hrel
              by_cases hd : i2 ≤ j2
              · have hdI : (i2 : Int) ≤ j2 := by omega
                obtain ⟨G, hG⟩ : ∃ G : Nat → Int, ∀ t, G t = dk[t]! := ⟨fun t => dk[t]!, fun _ => rfl⟩
                have hcw : ∀ t, t < n → wr.cell? ⟨g, off + t, none⟩ = some (.int .i32 (G t)) := fun t ht => by rw [hG, HF.out]; exact HS3.out.cell t (by rw [HK.out]; exact ht)
                have hfw : ∀ t, t < n → wr.frozen? ⟨g, off + t, none⟩ = false := fun t ht => by rw [HF.out]; exact HS3.out.fr t (by rw [HK.out]; exact ht)
                have HG := Lib.hid hG
                clear hG
                have han : a < n := by omega
                have hjn : j2 < n := by omega
                go_wp2_with fail
                go_quiet (first | (go_at_call 68; refine Calls.quiet_of_same (less_any _ _ _)))
                go_wp2_with fail
                · have hl : ltInt (G a) (G j2) = true := by assumption
                  have hl2 := hl
                  rw [HG.out, HG.out] at hl2
                  obtain ⟨j3, hj3⟩ : ∃ j3, j2 = j3 + 1 := ⟨j2 - 1, by omega⟩
                  have HD2 : Hid (scanDown (fun x => ltInt dk[a]! x) dk i2 j = scanDown (fun x => ltInt dk[a]! x) dk i2 j3) := Lib.hid (by rw [HDD.out, hj3, down_go (by omega) (by rw [← hj3]; exact hl2)])
                  have hj3I : (j2 : Int) - 1 = j3 := by omega
                  clear hl hl2
                  have hb3 : j3 ≤ j ∧ i2 ≤ j3 + 2 ∧ j3 < j2 := by omega
                  clear hj3
                  go_roundw
                  case measure => simp [intOf]; omega
                  case rel => exact ⟨j3, by first | rfl | (congr 1), hb3.1, hb3.2.1, Lib.hid (HS3.out.drew _), HD2⟩
                · have hl : ltInt (G a) (G j2) = false := by assumption
                  have hl2 := hl
                  rw [HG.out, HG.out] at hl2
                  have HD : Hid (scanDown (fun x => ltInt dk[a]! x) dk i2 j = j2) := Lib.hid (by
                    obtain ⟨j3, hj3⟩ : ∃ j3, j2 = j3 + 1 := ⟨j2 - 1, by omega⟩
                    rw [HDD.out, hj3, down_stop (.inr (by rw [← hj3]; exact hl2))])
                  have HS4 := Lib.hid (HS3.out.drew nq)
                  clear hl2 hcw hfw
                  generalize wr.drewN nq = wq at *
                  clear HS3
                  have hijI : ¬ (j2 : Int) < i2 := by omega
                  obtain ⟨G, hG⟩ : ∃ G : Nat → Int, ∀ t, G t = dk[t]! := ⟨fun t => dk[t]!, fun _ => rfl⟩
                  have hcw : ∀ t, t < n → wq.cell? ⟨g, off + t, none⟩ = some (.int .i32 (G t)) := fun t ht => by rw [hG, HF.out]; exact HS4.out.cell t (by rw [HK.out]; exact ht)
                  have hfw : ∀ t, t < n → wq.frozen? ⟨g, off + t, none⟩ = false := fun t ht => by rw [HF.out]; exact HS4.out.fr t (by rw [HK.out]; exact ht)
                  have HG := Lib.hid hG
                  clear hG
                  have hi2n : i2 < n := by omega
                  have hj2n : j2 < n := by omega
                  obtain ⟨U, hU⟩ := set_some (q := off + j2) (hcw j2 hj2n) (off + i2) (.int .i32 (G j2))
                  obtain ⟨j3, hj3⟩ : ∃ j3, j2 = j3 + 1 := ⟨j2 - 1, by omega⟩
                  have hj3I : (j2 : Int) - 1 = j3 := by omega
                  have HJ3 := Lib.hid hj3
                  have HL9 : Hid (partEqLoop ltInt a i j dk = partEqLoop ltInt a (i2 + 1) j3 (swp dk i2 j2)) := Lib.hid (by rw [partEqLoop_eq, HU.out, HD.out, if_neg (by omega), hj3]; rfl)
                  have bb : a < i2 + 1 ∧ i2 + 1 ≤ j3 + 2 ∧ j3 < b := by omega
                  clear hj3
                  go_wp2_with fail
                  go_region
                  all_goals
                    go_wp2_with fail
                    go_roundw
                    case measure => simp [intOf]; omega
                    case rel => exact ⟨i2 + 1, j3, swp dk i2 j2, by go_num, rfl, bb.1, bb.2.1, bb.2.2, Lib.hid (by rw [size_swp]; exact HK.out), HS4.out.swapG _ HF.out HK.out hi2n hj2n HG.out, Lib.hid (by rw [← HO.out, HL9.out])⟩
              · have hdI : ¬ (i2 : Int) ≤ j2 := by omega
                have HD : Hid (scanDown (fun x => ltInt dk[a]! x) dk i2 j = j2) := Lib.hid (by
                  rw [HDD.out]
                  cases hc : j2 with
                  | zero => rw [down_zero]
                  | succ j3 => rw [down_stop (.inl (by omega))])
                go_wp2_with fail
                go_quiet (fail)
                go_wp2_with fail
                have HS4 := Lib.hid (HS3.out.drew nq)
                generalize wr.drewN nq = wq at *
                clear HS3
                have hijI : (j2 : Int) < i2 := by omega
                have HL9 : Hid (partEqLoop ltInt a i j dk = (i2, dk)) := Lib.hid (by rw [partEqLoop_eq, HU.out, HD.out, if_pos (by omega)])
                go_wp2_with fail
                go_ret
                refine ⟨_, rfl, ?_, ?_⟩
                · rw [HE.out, ← HO.out, HL9.out]
                · rw [HE.out, ← HO.out, HL9.out]; exact HS4.out
        · have huI : ¬ (i2 : Int) ≤ j := by omega
          have HU : Hid (scanUp (fun x => !ltInt dk[a]! x) dk j i = i2) := Lib.hid (by rw [HUU.out, up_stop (.inl hu)])
          go_wp2_with fail
          go_quiet (fail)
          go_wp2_with fail
          have HSx := Lib.hid (HS2.out.drew nq)
          generalize wr.drewN nq = wq at *
          clear HS2
          go_loopw [10] (fun vj wx => ∃ (j1 : Nat), vj = .int .i64 j1 ∧ j1 ≤ j ∧ i2 ≤ j1 + 2 ∧ Hid (SR w0 wx g pf sp dk) ∧ Hid (scanDown (fun x => ltInt dk[a]! x) dk i2 j = scanDown (fun x => ltInt dk[a]! x) dk i2 j1)) (fun vj _ => (intOf vj).toNat)
          case atStart => exact ⟨j, rfl, Nat.le_refl _, by omega, HSx, rfl⟩
          case round =>
            obtain ⟨j2, rfl, hj2, hij2, HS3, HDD⟩ := hrel
            have hd : ¬ i2 ≤ j2 := by omega
            have hdI : ¬ (i2 : Int) ≤ j2 := by omega
            have HD : Hid (scanDown (fun x => ltInt dk[a]! x) dk i2 j = j2) := Lib.hid (by
              rw [HDD.out]
              cases hc : j2 with
              | zero => rw [down_zero]
              | succ j3 => rw [down_stop (.inl (by omega))])
            go_wp2_with fail
            go_quiet (fail)
            go_wp2_with fail
            have HS4 := Lib.hid (HS3.out.drew nq)
            generalize wr.drewN nq = wq at *
            clear HS3
            have hijI : (j2 : Int) < i2 := by omega
            have HL9 : Hid (partEqLoop ltInt a i j dk = (i2, dk)) := Lib.hid (by rw [partEqLoop_eq, HU.out, HD.out, if_pos (by omega)])
            go_wp2_with fail
            go_ret
            refine ⟨_, rfl, ?_, ?_⟩
            · rw [HE.out, ← HO.out, HL9.out]
            · rw [HE.out, ← HO.out, HL9.out]; exact HS4.out

end Go.Proofs.Ytfjckdjnnbpcnaa.So

import Derived.Test.YtfjckdjnnbpcnaaZA
import Derived.IntWalk
namespace Go.Proofs.Ytfjckdjnnbpcnaa.So
open Go.RowKit Go.Sort Tr
variable {w0 w : World} {g : Nat} {pf sp : List Value} {d : Array Int}

/-! reverseRange -/
set_option maxHeartbeats 4000000 in
set_option maxRecDepth 100000 in
theorem rev_any (cap a b : Nat) (h : SR w0 w g pf sp d) (hab : a < b) (hb : b ≤ d.size) (hsz : d.size ≤ 100000) :
    Calls Try.prog 66 #[.slice (some ⟨g, pf.length, none⟩) d.size cap, .int .i64 a, .int .i64 b] w fun e w' =>
      e = .returned (.tuple #[]) ∧ SR w0 w' g pf sp (reverseRange d a b) := by
  obtain ⟨n, hn⟩ : ∃ n, n = d.size := ⟨_, rfl⟩
  obtain ⟨off, hoff⟩ : ∃ off, off = pf.length := ⟨_, rfl⟩
  rw [← hn, ← hoff]
  rw [← hn] at hb hsz
  have HN := Lib.hid hn
  have HF := Lib.hid hoff
  have HR := Lib.hid h
  clear hn hoff h
  obtain ⟨b1, hb1⟩ : ∃ b1, b1 = b - 1 := ⟨_, rfl⟩
  have hb1I : (b : Int) - 1 = b1 := by omega
  have hb1n : b1 < n := by omega
  have HE : Hid (reverseRange d a b = reverseLoop a b1 d) := Lib.hid (by unfold reverseRange; rw [hb1])
  clear hb1
  go_enter Try.func66, Try.ntmps66
  go_wp2_with fail
  go_loopw [6, 7] (fun vi vj wr => ∃ (i j : Nat) (dk : Array Int), vi = .int .i64 i ∧ vj = .int .i64 j ∧ i ≤ n ∧ j < n ∧ Hid (dk.size = n) ∧ Hid (SR w0 wr g pf sp dk) ∧ Hid (reverseLoop i j dk = reverseRange d a b)) (fun _ vj _ => (intOf vj).toNat)
  case atStart => exact ⟨a, b1, d, rfl, rfl, by omega, hb1n, HN.out.symm, HR, Lib.hid HE.out.symm⟩
  case round =>
    obtain ⟨i, j, dk, rfl, rfl, hi, hj, HK, HS, HO⟩ := hrel
    by_cases hlt : i < j
    · have hltI : (i : Int) < j := by omega
      obtain ⟨j1, hj1⟩ : ∃ j1, j1 = j - 1 := ⟨_, rfl⟩
      have hj1I : (j : Int) - 1 = j1 := by omega
      have hj1n : j1 < n ∧ j1 < j := by omega
      obtain ⟨hj1a, hj1b⟩ := hj1n
      have hin : i < n := by omega
      obtain ⟨G, hG⟩ : ∃ G : Nat → Int, ∀ t, G t = dk[t]! := ⟨fun t => dk[t]!, fun _ => rfl⟩
      have hcw : ∀ t, t < n → wr.cell? ⟨g, off + t, none⟩ = some (.int .i32 (G t)) := fun t ht => by rw [hG, HF.out]; exact HS.out.cell t (by rw [HK.out]; exact ht)
      have hfw : ∀ t, t < n → wr.frozen? ⟨g, off + t, none⟩ = false := fun t ht => by rw [HF.out]; exact HS.out.fr t (by rw [HK.out]; exact ht)
      have HG := Lib.hid hG
      have HS2 : Hid (reverseLoop i j dk = reverseLoop (i + 1) j1 (swp dk i j)) := Lib.hid (by rw [reverseLoop, if_pos hlt, hj1])
      clear hG hj1
      go_wp2_with fail
      go_region
      all_goals
        go_wp2_with fail
        go_roundw
        case measure => simp [intOf]; omega
        case rel => exact ⟨i + 1, j1, swp dk i j, by go_num, rfl, by omega, hj1a, Lib.hid (by rw [size_swp]; exact HK.out), HS.out.swapG _ HF.out HK.out hin hj HG.out, Lib.hid (by rw [← HO.out, HS2.out])⟩
    · have hltI : ¬ (i : Int) < j := by omega
      have HS2 : Hid (reverseLoop i j dk = dk) := Lib.hid (by rw [reverseLoop, if_neg hlt])
      go_wp2_with fail
      go_end0
      refine ⟨rfl, ?_⟩
      rw [← HO.out, HS2.out]
      exact HS.out

end Go.Proofs.Ytfjckdjnnbpcnaa.So

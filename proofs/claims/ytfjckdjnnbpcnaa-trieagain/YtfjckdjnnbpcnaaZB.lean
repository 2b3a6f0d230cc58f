import Derived.Test.YtfjckdjnnbpcnaaZA
import Derived.IntWalk
namespace Go.Proofs.Ytfjckdjnnbpcnaa.So
open Go.RowKit Go.Sort Tr
variable {w0 w : World} {g : Nat} {pf sp : List Value} {d : Array Int}

/-! siftDown, heapSort -/
theorem sift_end (hi first r : Nat) (d : Array Int) (h : ¬ 2 * r + 1 < hi) : siftDown ltInt hi first r d = d := by rw [siftDown, dif_pos (by omega)]
theorem sift_two (hi first r : Nat) (d : Array Int) (h : 2 * r + 1 + 1 < hi) (hl : ltInt d[first + (2 * r + 1)]! d[first + (2 * r + 1) + 1]! = true) :
    siftDown ltInt hi first r d = if ltInt d[first + r]! d[first + (2 * r + 1) + 1]! = true then siftDown ltInt hi first (2 * r + 1 + 1) (swp d (first + r) (first + (2 * r + 1) + 1)) else d := by
  rw [siftDown, dif_neg (by omega), if_pos (by simp [h, hl])]
  rw [show first + (2 * r + 2) = first + (2 * r + 1) + 1 by omega, show 2 * r + 2 = 2 * r + 1 + 1 by omega]
  cases hx : ltInt d[first + r]! d[first + (2 * r + 1) + 1]! with
  | true => simp [h]
  | false => simp
theorem sift_one (hi first r : Nat) (d : Array Int) (h : 2 * r + 1 < hi) (hl : ¬ 2 * r + 1 + 1 < hi ∨ ltInt d[first + (2 * r + 1)]! d[first + (2 * r + 1) + 1]! = false) :
    siftDown ltInt hi first r d = if ltInt d[first + r]! d[first + (2 * r + 1)]! = true then siftDown ltInt hi first (2 * r + 1) (swp d (first + r) (first + (2 * r + 1))) else d := by
  rw [siftDown, dif_neg (by omega), if_neg (by
    rcases hl with hl | hl
    · simp [hl]
    · simp [hl])]
  cases hx : ltInt d[first + r]! d[first + (2 * r + 1)]! with
  | true => simp
  | false => simp
set_option maxHeartbeats 8000000 in
set_option maxRecDepth 100000 in
theorem sift_any (cap lo hi first : Nat) (h : SR w0 w g pf sp d) (hlo : lo ≤ 100000) (hhi : first + hi ≤ d.size) (hsz : d.size ≤ 100000) :
    Calls Try.prog 73 #[.slice (some ⟨g, pf.length, none⟩) d.size cap, .int .i64 lo, .int .i64 hi, .int .i64 first] w fun e w' =>
      e = .returned (.tuple #[]) ∧ SR w0 w' g pf sp (siftDown ltInt hi first lo d) := by
  obtain ⟨n, hn⟩ : ∃ n, n = d.size := ⟨_, rfl⟩
  obtain ⟨off, hoff⟩ : ∃ off, off = pf.length := ⟨_, rfl⟩
  rw [← hn, ← hoff]
  rw [← hn] at hhi hsz
  have HN := Lib.hid hn
  have HF := Lib.hid hoff
  have HR := Lib.hid h
  clear hn hoff h
  go_enter Try.func73, Try.ntmps73
  go_wp2_with fail
  go_loopw [8, 9] (fun vr _ wr => ∃ (r : Nat) (dk : Array Int), vr = .int .i64 r ∧ r ≤ 100000 ∧ Hid (dk.size = n) ∧ Hid (SR w0 wr g pf sp dk) ∧ Hid (siftDown ltInt hi first r dk = siftDown ltInt hi first lo d)) (fun vr _ _ => hi - (intOf vr).toNat)
  case atStart => exact ⟨lo, d, rfl, hlo, HN.out.symm, HR, rfl⟩
  case round =>
    obtain ⟨r, dk, rfl, hr, HK, HS, HO⟩ := hrel
    obtain ⟨c, hc⟩ : ∃ c : Nat, c = 2 * r + 1 := ⟨_, rfl⟩
    have hcI : 2 * (r : Int) + 1 = c := by omega
    by_cases hlt : c < hi
    · have hltI : ¬ (hi : Int) ≤ c := by omega
      obtain ⟨p0, hp0⟩ : ∃ p, p = first + r := ⟨_, rfl⟩
      obtain ⟨p1, hp1⟩ : ∃ p, p = first + c := ⟨_, rfl⟩
      have e0 : (first : Int) + r = p0 := by omega
      have e1 : (first : Int) + c = p1 := by omega
      have b0 : p0 < n := by omega
      have b1 : p1 < n := by omega
      obtain ⟨G, hG⟩ : ∃ G : Nat → Int, ∀ t, G t = dk[t]! := ⟨fun t => dk[t]!, fun _ => rfl⟩
      have hcw : ∀ t, t < n → wr.cell? ⟨g, off + t, none⟩ = some (.int .i32 (G t)) := fun t ht => by rw [hG, HF.out]; exact HS.out.cell t (by rw [HK.out]; exact ht)
      have hfw : ∀ t, t < n → wr.frozen? ⟨g, off + t, none⟩ = false := fun t ht => by rw [HF.out]; exact HS.out.fr t (by rw [HK.out]; exact ht)
      obtain ⟨c2, hc2⟩ : ∃ c2, c2 = c + 1 := ⟨_, rfl⟩
      obtain ⟨p2, hp2⟩ : ∃ p2, p2 = p1 + 1 := ⟨_, rfl⟩
      have e3 : (c : Int) + 1 = c2 := by omega
      have e4 : (p1 : Int) + 1 = p2 := by omega
      have e2 : (first : Int) + c2 = p2 := by omega
      have S1 := fun hl => sift_one hi first r dk (by omega) hl
      have S2 := fun h1 h2 => sift_two hi first r dk h1 h2
      rw [← hc, ← hc2, ← hp1, ← hp2, ← hp0, ← hG, ← hG, ← hG] at S1 S2
      have HS1 := Lib.hid S1
      have HS2 := Lib.hid S2
      have HG := Lib.hid hG
      clear hG S1 S2
      have hcr : r < c := by omega
      have hc2r : r < c2 := by omega
      have b3 : c2 < hi → p2 < n := by omega
      have b4 : p2 ≤ 200000 := by omega
      have b5 : c2 ≤ 200000 := by omega
      clear hc hp0 hp1 hc2 hp2
      have q0 : IntKind.i64.wrap (p0 : Int) = p0 := IntWalk.i64_in _ (by omega)
      have q1 : IntKind.i64.wrap (p1 : Int) = p1 := IntWalk.i64_in _ (by omega)
      have q2 : IntKind.i64.wrap (p2 : Int) = p2 := IntWalk.i64_in _ (by omega)
      have q3 : IntKind.i64.wrap (c2 : Int) = c2 := IntWalk.i64_in _ (by omega)
      by_cases h2 : c2 < hi
      · have h2I : (c2 : Int) < hi := by omega
        have b2 : p2 < n := b3 h2
        go_wp2_with fail
        clear hcI
        go_quiet (first | (go_at_call 68; refine Calls.quiet_of_same (less_any _ _ _)))
        go_wp2_with fail
        · have hl : ltInt (G p1) (G p2) = true := by assumption
          have HL := Lib.hid hl
          clear hl
          have HSq := Lib.hid (HS.out.drew nq)
          clear hcw hfw
          generalize wr.drewN nq = wq at *
          have hcw : ∀ t, t < n → wq.cell? ⟨g, off + t, none⟩ = some (.int .i32 (G t)) := fun t ht => by rw [HG.out, HF.out]; exact HSq.out.cell t (by rw [HK.out]; exact ht)
          have hfw : ∀ t, t < n → wq.frozen? ⟨g, off + t, none⟩ = false := fun t ht => by rw [HF.out]; exact HSq.out.fr t (by rw [HK.out]; exact ht)
          go_quiet (first | (go_at_call 68; refine Calls.quiet_of_same (less_any _ _ _)))
          go_wp2_with fail
          · have hl2 : ltInt (G p0) (G p2) = false := by first | assumption | simpa using ‹(!ltInt (G p0) (G p2)) = true›
            refine bodyPost_ret (results_none rfl _ _ _) rfl ⟨rfl, ?_⟩
            rw [← HO.out, HS2.out h2 HL.out, if_neg (by rw [hl2]; decide)]
            first
              | exact (HSq.out.drew _)
              | exact HSq.out
          · have hl2 : ltInt (G p0) (G p2) = true := by first | assumption | simpa using ‹(!ltInt (G p0) (G p2)) = false›
            have HL2 := Lib.hid hl2
            go_region
            all_goals go_wp2
            go_roundw
            case measure => simp [intOf]; omega
            case rel =>
              refine ⟨c2, swp dk p0 p2, rfl, by omega, Lib.hid (by rw [size_swp]; exact HK.out), ?_, Lib.hid (by rw [← HO.out, HS2.out h2 HL.out, if_pos HL2.out])⟩
              first
                | exact HSq.out.swapG _ HF.out HK.out b0 (by omega) HG.out
                | exact (HSq.out.drew _).swapG _ HF.out HK.out b0 (by omega) HG.out
        · have hl : ltInt (G p1) (G p2) = false := by assumption
          have HL := Lib.hid hl
          clear hl
          have HSq := Lib.hid (HS.out.drew nq)
          clear hcw hfw
          generalize wr.drewN nq = wq at *
          have hcw : ∀ t, t < n → wq.cell? ⟨g, off + t, none⟩ = some (.int .i32 (G t)) := fun t ht => by rw [HG.out, HF.out]; exact HSq.out.cell t (by rw [HK.out]; exact ht)
          have hfw : ∀ t, t < n → wq.frozen? ⟨g, off + t, none⟩ = false := fun t ht => by rw [HF.out]; exact HSq.out.fr t (by rw [HK.out]; exact ht)
          go_quiet (first | (go_at_call 68; refine Calls.quiet_of_same (less_any _ _ _)))
          go_wp2_with fail
          · have hl2 : ltInt (G p0) (G p1) = false := by first | assumption | simpa using ‹(!ltInt (G p0) (G p1)) = true›
            refine bodyPost_ret (results_none rfl _ _ _) rfl ⟨rfl, ?_⟩
            rw [← HO.out, HS1.out (.inr HL.out), if_neg (by rw [hl2]; decide)]
            first
              | exact (HSq.out.drew _)
              | exact HSq.out
          · have hl2 : ltInt (G p0) (G p1) = true := by first | assumption | simpa using ‹(!ltInt (G p0) (G p1)) = false›
            have HL2 := Lib.hid hl2
            go_region
            all_goals go_wp2
            go_roundw
            case measure => simp [intOf]; omega
            case rel =>
              refine ⟨c, swp dk p0 p1, rfl, by omega, Lib.hid (by rw [size_swp]; exact HK.out), ?_, Lib.hid (by rw [← HO.out, HS1.out (.inr HL.out), if_pos HL2.out])⟩
              first
                | exact HSq.out.swapG _ HF.out HK.out b0 (by omega) HG.out
                | exact (HSq.out.drew _).swapG _ HF.out HK.out b0 (by omega) HG.out
      · have h2I : ¬ (c2 : Int) < hi := by omega
        go_wp2_with fail
        clear hcI
        go_quiet (first | (go_at_call 68; refine Calls.quiet_of_same (less_any _ _ _)))
        go_wp2_with fail
        have HSq := Lib.hid (HS.out.drew nq)
        clear hcw hfw
        generalize wr.drewN nq = wq at *
        have hcw : ∀ t, t < n → wq.cell? ⟨g, off + t, none⟩ = some (.int .i32 (G t)) := fun t ht => by rw [HG.out, HF.out]; exact HSq.out.cell t (by rw [HK.out]; exact ht)
        have hfw : ∀ t, t < n → wq.frozen? ⟨g, off + t, none⟩ = false := fun t ht => by rw [HF.out]; exact HSq.out.fr t (by rw [HK.out]; exact ht)
        go_quiet (first | (go_at_call 68; refine Calls.quiet_of_same (less_any _ _ _)))
        go_wp2_with fail
        · have hl2 : ltInt (G p0) (G p1) = false := by first | assumption | simpa using ‹(!ltInt (G p0) (G p1)) = true›
          refine bodyPost_ret (results_none rfl _ _ _) rfl ⟨rfl, ?_⟩
          rw [← HO.out, HS1.out (.inl h2), if_neg (by rw [hl2]; decide)]
          first
            | exact (HSq.out.drew _)
            | exact HSq.out
        · have hl2 : ltInt (G p0) (G p1) = true := by first | assumption | simpa using ‹(!ltInt (G p0) (G p1)) = false›
          have HL2 := Lib.hid hl2
          go_region
          all_goals go_wp2
          go_roundw
          case measure => simp [intOf]; omega
          case rel =>
            refine ⟨c, swp dk p0 p1, rfl, by omega, Lib.hid (by rw [size_swp]; exact HK.out), ?_, Lib.hid (by rw [← HO.out, HS1.out (.inl h2), if_pos HL2.out])⟩
            first
              | exact HSq.out.swapG _ HF.out HK.out b0 (by omega) HG.out
              | exact (HSq.out.drew _).swapG _ HF.out HK.out b0 (by omega) HG.out
    · have hltI : (hi : Int) ≤ c := by omega
      have hcb : c ≤ 300000 := by omega
      have q3 : IntKind.i64.wrap (c : Int) = c := IntWalk.i64_in _ (by omega)
      have HE := Lib.hid (sift_end hi first r dk (by omega))
      clear hc
      go_wp2_with fail
      go_end0
      exact ⟨rfl, by rw [← HO.out, HE.out]; exact HS.out⟩

end Go.Proofs.Ytfjckdjnnbpcnaa.So

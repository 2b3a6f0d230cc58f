import Derived.Test.YtagbeioooohbgaaGreatDoorM11
import Derived.Sort.LotA
import Derived.Sort.LotB
import Derived.Sort.LotC
import Derived.CellFam
import Derived.BigGuard
import Derived.BigCall
import Derived.Deep.Draws
import Derived.Deep.QuietTactic
import Derived.BigQuiet
import Derived.IntWalk
section
namespace Go.Proofs.YtagbeioooohbgaaGreatDoor.So
open Go.RowKit Go.Sort Tr

/-! The library's sort at runes: a row of numbers in a block, and all else as it was. -/
def enc (x : Int) : Value := .int .i32 x
def rowC (pf : List Value) (d : Array Int) (sp : List Value) : List Value := pf ++ (d.toList.map enc ++ sp)
structure SR (w0 w : World) (g : Nat) (pf sp : List Value) (d : Array Int) : Prop where
  blk : Bk w g (rowC pf d sp) 21
  mv : Mv (· = g) (· = g) w0 w
theorem rowC_at (pf sp : List Value) (d : Array Int) {j : Nat} (h : j < d.size) : (rowC pf d sp)[pf.length + j]? = some (.int .i32 d[j]!) := by
  unfold rowC
  rw [List.getElem?_append_right (by omega), show pf.length + j - pf.length = j by omega, List.getElem?_append_left (by simpa using h), List.getElem?_map, Array.getElem?_toList, Array.getElem?_eq_getElem h, getElem!_pos d j h]
  rfl
theorem rowC_set (pf sp : List Value) (d : Array Int) {j : Nat} (x : Int) (h : j < d.size) : (rowC pf d sp).set (pf.length + j) (enc x) = rowC pf (d.setIfInBounds j x) sp := by
  unfold rowC
  rw [List.set_append_right _ _ (by omega), show pf.length + j - pf.length = j by omega, List.set_append_left _ _ (by simpa using h), ← List.map_set, Array.toList_setIfInBounds]
variable {w0 w : World} {g : Nat} {pf sp : List Value} {d : Array Int}
theorem SR.cell (h : SR w0 w g pf sp d) : ∀ t, t < d.size → w.cell? ⟨g, pf.length + t, none⟩ = some (.int .i32 d[t]!) := fun _ ht => h.blk.c (rowC_at pf sp d ht)
theorem SR.fr (h : SR w0 w g pf sp d) : ∀ t, t < d.size → w.frozen? ⟨g, pf.length + t, none⟩ = false := fun _ _ => h.blk.fr _
theorem SR.drew (h : SR w0 w g pf sp d) (n : Nat) : SR w0 (w.drewN n) g pf sp d := ⟨h.blk.drew n, h.mv.drew n⟩
theorem SR.swap (h : SR w0 w g pf sp d) {i j : Nat} (hi : i < d.size) (hj : j < d.size) :
    SR w0 ((w.setCell ⟨g, pf.length + i, none⟩ (.int .i32 d[j]!)).setCell ⟨g, pf.length + j, none⟩ (.int .i32 d[i]!)) g pf sp (swp d i j) := by
  refine ⟨?_, (h.mv.set _ _).set _ _⟩
  have h1 := (h.blk.set (pf.length + i) (enc d[j]!)).set (pf.length + j) (enc d[i]!)
  rw [rowC_set pf sp d _ hi, rowC_set pf sp _ _ (by simpa using hj)] at h1
  exact h1
theorem SR.swapG (h : SR w0 w g pf sp d) (q : Nat) {off n i j : Nat} (ho : off = pf.length) (hn : d.size = n) (hi : i < n) (hj : j < n) {G : Nat → Int} (hG : ∀ t, G t = d[t]!) :
    Hid (SR w0 (((w.drewN q).setCell ⟨g, off + i, none⟩ (.int .i32 (G j))).setCell ⟨g, off + j, none⟩ (.int .i32 (G i))) g pf sp (swp d i j)) := by
  rw [hG, hG, ho]
  exact Lib.hid ((h.drew q).swap (by omega) (by omega))
theorem SR.start (h : Bk w g (rowC pf d sp) 21) : SR w w g pf sp d := ⟨h, Mv.refl _ _⟩
/-- New blocks. -/
theorem SR.grow {w' : World} (h : SR w0 w g pf sp d) (hb : Below w.heap.size w w') : SR w0 w' g pf sp d :=
  ⟨h.blk.below hb, hb.os.trans h.mv.os, hb.tape.trans h.mv.tape, hb.output.trans h.mv.output, Nat.le_trans h.mv.size hb.size, fun k hk hF => (hb.block k (Nat.lt_of_lt_of_le hk h.mv.size)).trans (h.mv.keep k hk hF), h.mv.fp⟩
theorem SR.lt (h : SR w0 w g pf sp d) : g < w.heap.size := h.blk.lt

theorem nan_any (x : Int) (w : World) : Calls Tryz.prog 102 #[.int .i32 x] w fun e w' => e = .returned (.bool false) ∧ w' = w := by
  go_enter Tryz.func102, Tryz.ntmps102
  go_wp2
  go_ret
  exact ⟨by simp, rfl⟩
theorem less_any (x y : Int) (w : World) : Calls Tryz.prog 80 #[.int .i32 x, .int .i32 y] w fun e w' => e = .returned (.bool (ltInt x y)) ∧ w' = w := by
  go_enter Tryz.func80, Tryz.ntmps80
  go_wp2_with (go_at_call 102; refine (nan_any _ _).mono ?_; rintro e w' ⟨rfl, rfl⟩)
  go_ret
  exact ⟨rfl, rfl⟩

/-! insertionSort -/
theorem ins_go (a j : Nat) (d : Array Int) (hj : a < j) (hl : ltInt d[j]! d[j - 1]! = true) : insInner ltInt a j d = insInner ltInt a (j - 1) (swp d j (j - 1)) := by
  obtain ⟨k, rfl⟩ : ∃ k, j = k + 1 := ⟨j - 1, by omega⟩
  rw [insInner]
  simp only [Nat.add_sub_cancel] at hl ⊢
  simp [hj, hl]
theorem ins_stop (a j : Nat) (d : Array Int) (h : j ≤ a ∨ ltInt d[j]! d[j - 1]! = false) : insInner ltInt a j d = d := by
  cases j with
  | zero => rw [insInner]
  | succ k =>
    rw [insInner]
    simp only [Nat.add_sub_cancel] at h
    rcases h with h | h
    · simp [show ¬ k + 1 > a by omega]
    · simp [h]
set_option maxHeartbeats 4000000 in
set_option maxRecDepth 100000 in
theorem ins_any (cap a b : Nat) (h : SR w0 w g pf sp d) (hab : a ≤ b) (hb : b ≤ d.size) (hsz : d.size ≤ 100000) :
    Calls Tryz.prog 107 #[.slice (some ⟨g, pf.length, none⟩) d.size cap, .int .i64 a, .int .i64 b] w fun e w' =>
      e = .returned (.tuple #[]) ∧ SR w0 w' g pf sp (insertionSort ltInt d a b) := by
  obtain ⟨n, hn⟩ : ∃ n, n = d.size := ⟨_, rfl⟩
  obtain ⟨off, hoff⟩ : ∃ off, off = pf.length := ⟨_, rfl⟩
  rw [← hn, ← hoff]
  rw [← hn] at hb hsz
  have HN := Lib.hid hn
  have HF := Lib.hid hoff
  have HR := Lib.hid h
  clear hn hoff h
  go_enter Tryz.func107, Tryz.ntmps107
  go_wp2_with fail
  go_loopw [6] (fun vi wr => ∃ (i : Nat) (dk : Array Int), vi = .int .i64 i ∧ a < i ∧ i ≤ b + 1 ∧ Hid (dk.size = n) ∧ Hid (SR w0 wr g pf sp dk) ∧ Hid (insOuter ltInt a b i dk = insOuter ltInt a b (a + 1) d)) (fun vi _ => b + 1 - (intOf vi).toNat)
  case atStart => exact ⟨a + 1, d, by go_num, by omega, by omega, HN.out.symm, HR, rfl⟩
  case round =>
    obtain ⟨i, dk, rfl, hai, hib, HK, HS, HO⟩ := hrel
    by_cases hlt : i < b
    · have hltI : (i : Int) < b := by omega
      obtain ⟨wo, hwo⟩ : ∃ x, x = wr := ⟨_, rfl⟩
      subst hwo
      go_wp2_with fail
      go_loopw [7] (fun vj wx => ∃ (j : Nat) (dj : Array Int), vj = .int .i64 j ∧ a ≤ j ∧ j ≤ i ∧ Hid (dj.size = n) ∧ Hid (SR w0 wx g pf sp dj) ∧ Hid (insInner ltInt a j dj = insInner ltInt a i dk)) (fun vj _ => (intOf vj).toNat)
      case atStart => exact ⟨i, dk, rfl, by omega, Nat.le_refl _, HK, HS, rfl⟩
      case round =>
        obtain ⟨j, dj, rfl, haj, hji, HKj, HSj, HI⟩ := hrel
        obtain ⟨G, hG⟩ : ∃ G : Nat → Int, ∀ t, G t = dj[t]! := ⟨fun t => dj[t]!, fun _ => rfl⟩
        have hcw : ∀ t, t < n → wr.cell? ⟨g, off + t, none⟩ = some (.int .i32 (G t)) := fun t ht => by rw [hG, HF.out]; exact HSj.out.cell t (by rw [HKj.out]; exact ht)
        have hfw : ∀ t, t < n → wr.frozen? ⟨g, off + t, none⟩ = false := fun t ht => by rw [HF.out]; exact HSj.out.fr t (by rw [HKj.out]; exact ht)
        have HG := Lib.hid hG
        clear hG
        have OUT : Hid ((j ≤ a ∨ ltInt dj[j]! dj[j - 1]! = false) → insOuter ltInt a b (i + 1) dj = insOuter ltInt a b (a + 1) d) := by
          have h1 : (j ≤ a ∨ ltInt dj[j]! dj[j - 1]! = false) → insOuter ltInt a b (i + 1) dj = insOuter ltInt a b (a + 1) d := fun hs => by
            have h2 : insOuter ltInt a b i dk = insOuter ltInt a b (i + 1) (insInner ltInt a i dk) := by rw [insOuter, if_pos hlt]
            rw [← HO.out, h2, ← HI.out, ins_stop _ _ _ hs]
          exact Lib.hid h1
        by_cases hja : a < j
        · have hjaI : (a : Int) < j := by omega
          go_wp2_with fail
          go_quiet (first | (go_at_call 80; refine Calls.quiet_of_same (less_any _ _ _)))
          go_wp2
          · have hl : ltInt (G j) (G (j - 1)) = true := by assumption
            go_region
            all_goals go_wp2
            go_roundw
            case rel =>
              refine ⟨j - 1, swp dj j (j - 1), by congr 1; omega, by omega, by omega, Lib.hid (by rw [size_swp]; exact HKj.out), ?_, Lib.hid (by rw [← HI.out, ins_go a j dj hja (by rw [← HG.out, ← HG.out]; exact hl)])⟩
              exact HSj.out.swapG _ HF.out HKj.out (by omega) (by omega) HG.out
            case measure => simp [intOf]; omega
          · have hl : ltInt (G j) (G (j - 1)) = false := by assumption
            go_roundw
            case rel => exact ⟨i + 1, dj, by go_num, by omega, by omega, HKj, Lib.hid (HSj.out.drew _), Lib.hid (OUT.out (.inr (by rw [← HG.out, ← HG.out]; exact hl)))⟩
            case measure => simp [intOf]; omega
        · have hjaI : ¬ (a : Int) < j := by omega
          go_wp2_with fail
          go_quiet (first | (go_at_call 80; refine Calls.quiet_of_same (less_any _ _ _)))
          go_wp2
          go_roundw
          case rel => exact ⟨i + 1, dj, by go_num, by omega, by omega, HKj, Lib.hid (HSj.out.drew _), Lib.hid (OUT.out (.inl (by omega)))⟩
          case measure => simp [intOf]; omega
    · have hltI : ¬ (i : Int) < b := by omega
      go_wp2_with fail
      go_end0
      refine ⟨rfl, ?_⟩
      unfold insertionSort
      rw [← HO.out, insOuter, if_neg hlt]
      exact HS.out

end Go.Proofs.YtagbeioooohbgaaGreatDoor.So
end
section
namespace Go.Proofs.YtagbeioooohbgaaGreatDoor.So
open Go.RowKit Go.Sort Tr
variable {w0 w : World} {g : Nat} {pf sp : List Value} {d : Array Int}

/-! siftDown, heapSort -/
theorem sift_end (hi first r : Nat) (d : Array Int) (h : ¬ 2 * r + 1 < hi) : siftDown ltInt hi first r d = d := by rw [siftDown, dif_pos (by omega)]
theorem sift_two (hi first r : Nat) (d : Array Int) (h : 2 * r + 1 + 1 < hi) (hl : ltInt d[first + (2 * r + 1)]! d[first + (2 * r + 1) + 1]! = true) :
    siftDown ltInt hi first r d = if ltInt d[first + r]! d[first + (2 * r + 1) + 1]! = true then siftDown ltInt hi first (2 * r + 1 + 1) (swp d (first + r) (first + (2 * r + 1) + 1)) else d := by
  rw [siftDown, dif_neg (by omega), if_pos (by simp [h, hl])]
  rw [show first + (2 * r + 2) = first + (2 * r + 1) + 1 by omega, show 2 * r + 2 = 2 * r + 1 + 1 by omega]
  cases hx : ltInt d[first + r]! d[first + (2 * r + 1) + 1]! with
  | true => simp [h]
  | false => simp
theorem sift_one (hi first r : Nat) (d : Array Int) (h : 2 * r + 1 < hi) (hl : ¬ 2 * r + 1 + 1 < hi ∨ ltInt d[first + (2 * r + 1)]! d[first + (2 * r + 1) + 1]! = false) :
    siftDown ltInt hi first r d = if ltInt d[first + r]! d[first + (2 * r + 1)]! = true then siftDown ltInt hi first (2 * r + 1) (swp d (first + r) (first + (2 * r + 1))) else d := by
  rw [siftDown, dif_neg (by omega), if_neg (by
    rcases hl with hl | hl
    · simp [hl]
    · simp [hl])]
  cases hx : ltInt d[first + r]! d[first + (2 * r + 1)]! with
  | true => simp
  | false => simp
set_option maxHeartbeats 8000000 in
set_option maxRecDepth 100000 in
theorem sift_any (cap lo hi first : Nat) (h : SR w0 w g pf sp d) (hlo : lo ≤ 100000) (hhi : first + hi ≤ d.size) (hsz : d.size ≤ 100000) :
    Calls Tryz.prog 138 #[.slice (some ⟨g, pf.length, none⟩) d.size cap, .int .i64 lo, .int .i64 hi, .int .i64 first] w fun e w' =>
      e = .returned (.tuple #[]) ∧ SR w0 w' g pf sp (siftDown ltInt hi first lo d) := by
  obtain ⟨n, hn⟩ : ∃ n, n = d.size := ⟨_, rfl⟩
  obtain ⟨off, hoff⟩ : ∃ off, off = pf.length := ⟨_, rfl⟩
  rw [← hn, ← hoff]
  rw [← hn] at hhi hsz
  have HN := Lib.hid hn
  have HF := Lib.hid hoff
  have HR := Lib.hid h
  clear hn hoff h
  go_enter Tryz.func138, Tryz.ntmps138
  go_wp2_with fail
  go_loopw [8, 9] (fun vr _ wr => ∃ (r : Nat) (dk : Array Int), vr = .int .i64 r ∧ r ≤ 100000 ∧ Hid (dk.size = n) ∧ Hid (SR w0 wr g pf sp dk) ∧ Hid (siftDown ltInt hi first r dk = siftDown ltInt hi first lo d)) (fun vr _ _ => hi - (intOf vr).toNat)
  case atStart => exact ⟨lo, d, rfl, hlo, HN.out.symm, HR, rfl⟩
  case round =>
    obtain ⟨r, dk, rfl, hr, HK, HS, HO⟩ := hrel
    obtain ⟨c, hc⟩ : ∃ c : Nat, c = 2 * r + 1 := ⟨_, rfl⟩
    have hcI : 2 * (r : Int) + 1 = c := by omega
    by_cases hlt : c < hi
    · have hltI : ¬ (hi : Int) ≤ c := by omega
      obtain ⟨p0, hp0⟩ : ∃ p, p = first + r := ⟨_, rfl⟩
      obtain ⟨p1, hp1⟩ : ∃ p, p = first + c := ⟨_, rfl⟩
      have e0 : (first : Int) + r = p0 := by omega
      have e1 : (first : Int) + c = p1 := by omega
      have b0 : p0 < n := by omega
      have b1 : p1 < n := by omega
      obtain ⟨G, hG⟩ : ∃ G : Nat → Int, ∀ t, G t = dk[t]! := ⟨fun t => dk[t]!, fun _ => rfl⟩
      have hcw : ∀ t, t < n → wr.cell? ⟨g, off + t, none⟩ = some (.int .i32 (G t)) := fun t ht => by rw [hG, HF.out]; exact HS.out.cell t (by rw [HK.out]; exact ht)
      have hfw : ∀ t, t < n → wr.frozen? ⟨g, off + t, none⟩ = false := fun t ht => by rw [HF.out]; exact HS.out.fr t (by rw [HK.out]; exact ht)
      obtain ⟨c2, hc2⟩ : ∃ c2, c2 = c + 1 := ⟨_, rfl⟩
      obtain ⟨p2, hp2⟩ : ∃ p2, p2 = p1 + 1 := ⟨_, rfl⟩
      have e3 : (c : Int) + 1 = c2 := by omega
      have e4 : (p1 : Int) + 1 = p2 := by omega
      have e2 : (first : Int) + c2 = p2 := by omega
      have S1 := fun hl => sift_one hi first r dk (by omega) hl
      have S2 := fun h1 h2 => sift_two hi first r dk h1 h2
      rw [← hc, ← hc2, ← hp1, ← hp2, ← hp0, ← hG, ← hG, ← hG] at S1 S2
      have HS1 := Lib.hid S1
      have HS2 := Lib.hid S2
      have HG := Lib.hid hG
      clear hG S1 S2
      have hcr : r < c := by omega
      have hc2r : r < c2 := by omega
      have b3 : c2 < hi → p2 < n := by omega
      have b4 : p2 ≤ 200000 := by omega
      have b5 : c2 ≤ 200000 := by omega
      clear hc hp0 hp1 hc2 hp2
      have q0 : IntKind.i64.wrap (p0 : Int) = p0 := IntWalk.i64_in _ (by omega)
      have q1 : IntKind.i64.wrap (p1 : Int) = p1 := IntWalk.i64_in _ (by omega)
      have q2 : IntKind.i64.wrap (p2 : Int) = p2 := IntWalk.i64_in _ (by omega)
      have q3 : IntKind.i64.wrap (c2 : Int) = c2 := IntWalk.i64_in _ (by omega)
      by_cases h2 : c2 < hi
      · have h2I : (c2 : Int) < hi := by omega
        have b2 : p2 < n := b3 h2
        go_wp2_with fail
        clear hcI
        go_quiet (first | (go_at_call 80; refine Calls.quiet_of_same (less_any _ _ _)))
        go_wp2_with fail
        · have hl : ltInt (G p1) (G p2) = true := by assumption
          have HL := Lib.hid hl
          clear hl
          have HSq := Lib.hid (HS.out.drew nq)
          clear hcw hfw
          generalize wr.drewN nq = wq at *
          have hcw : ∀ t, t < n → wq.cell? ⟨g, off + t, none⟩ = some (.int .i32 (G t)) := fun t ht => by rw [HG.out, HF.out]; exact HSq.out.cell t (by rw [HK.out]; exact ht)
          have hfw : ∀ t, t < n → wq.frozen? ⟨g, off + t, none⟩ = false := fun t ht => by rw [HF.out]; exact HSq.out.fr t (by rw [HK.out]; exact ht)
          go_quiet (first | (go_at_call 80; refine Calls.quiet_of_same (less_any _ _ _)))
          go_wp2_with fail
          · have hl2 : ltInt (G p0) (G p2) = false := by first | assumption | simpa using ‹(!ltInt (G p0) (G p2)) = true›
            refine bodyPost_ret (results_none rfl _ _ _) rfl ⟨rfl, ?_⟩
            rw [← HO.out, HS2.out h2 HL.out, if_neg (by rw [hl2]; decide)]
            first
              | exact (HSq.out.drew _)
              | exact HSq.out
          · have hl2 : ltInt (G p0) (G p2) = true := by first | assumption | simpa using ‹(!ltInt (G p0) (G p2)) = false›
            have HL2 := Lib.hid hl2
            go_region
            all_goals go_wp2
            go_roundw
            case measure => simp [intOf]; omega
            case rel =>
              refine ⟨c2, swp dk p0 p2, rfl, by omega, Lib.hid (by rw [size_swp]; exact HK.out), ?_, Lib.hid (by rw [← HO.out, HS2.out h2 HL.out, if_pos HL2.out])⟩
              first
                | exact HSq.out.swapG _ HF.out HK.out b0 (by omega) HG.out
                | exact (HSq.out.drew _).swapG _ HF.out HK.out b0 (by omega) HG.out
        · have hl : ltInt (G p1) (G p2) = false := by assumption
          have HL := Lib.hid hl
          clear hl
          have HSq := Lib.hid (HS.out.drew nq)
          clear hcw hfw
          generalize wr.drewN nq = wq at *
          have hcw : ∀ t, t < n → wq.cell? ⟨g, off + t, none⟩ = some (.int .i32 (G t)) := fun t ht => by rw [HG.out, HF.out]; exact HSq.out.cell t (by rw [HK.out]; exact ht)
          have hfw : ∀ t, t < n → wq.frozen? ⟨g, off + t, none⟩ = false := fun t ht => by rw [HF.out]; exact HSq.out.fr t (by rw [HK.out]; exact ht)
          go_quiet (first | (go_at_call 80; refine Calls.quiet_of_same (less_any _ _ _)))
          go_wp2_with fail
          · have hl2 : ltInt (G p0) (G p1) = false := by first | assumption | simpa using ‹(!ltInt (G p0) (G p1)) = true›
            refine bodyPost_ret (results_none rfl _ _ _) rfl ⟨rfl, ?_⟩
            rw [← HO.out, HS1.out (.inr HL.out), if_neg (by rw [hl2]; decide)]
            first
              | exact (HSq.out.drew _)
              | exact HSq.out
          · have hl2 : ltInt (G p0) (G p1) = true := by first | assumption | simpa using ‹(!ltInt (G p0) (G p1)) = false›
            have HL2 := Lib.hid hl2
            go_region
            all_goals go_wp2
            go_roundw
            case measure => simp [intOf]; omega
            case rel =>
              refine ⟨c, swp dk p0 p1, rfl, by omega, Lib.hid (by rw [size_swp]; exact HK.out), ?_, Lib.hid (by rw [← HO.out, HS1.out (.inr HL.out), if_pos HL2.out])⟩
              first
                | exact HSq.out.swapG _ HF.out HK.out b0 (by omega) HG.out
                | exact (HSq.out.drew _).swapG _ HF.out HK.out b0 (by omega) HG.out
      · have h2I : ¬ (c2 : Int) < hi := by omega
        go_wp2_with fail
        clear hcI
        go_quiet (first | (go_at_call 80; refine Calls.quiet_of_same (less_any _ _ _)))
        go_wp2_with fail
        have HSq := Lib.hid (HS.out.drew nq)
        clear hcw hfw
        generalize wr.drewN nq = wq at *
        have hcw : ∀ t, t < n → wq.cell? ⟨g, off + t, none⟩ = some (.int .i32 (G t)) := fun t ht => by rw [HG.out, HF.out]; exact HSq.out.cell t (by rw [HK.out]; exact ht)
        have hfw : ∀ t, t < n → wq.frozen? ⟨g, off + t, none⟩ = false := fun t ht => by rw [HF.out]; exact HSq.out.fr t (by rw [HK.out]; exact ht)
        go_quiet (first | (go_at_call 80; refine Calls.quiet_of_same (less_any _ _ _)))
        go_wp2_with fail
        · have hl2 : ltInt (G p0) (G p1) = false := by first | assumption | simpa using ‹(!ltInt (G p0) (G p1)) = true›
          refine bodyPost_ret (results_none rfl _ _ _) rfl ⟨rfl, ?_⟩
          rw [← HO.out, HS1.out (.inl h2), if_neg (by rw [hl2]; decide)]
          first
            | exact (HSq.out.drew _)
            | exact HSq.out
        · have hl2 : ltInt (G p0) (G p1) = true := by first | assumption | simpa using ‹(!ltInt (G p0) (G p1)) = false›
          have HL2 := Lib.hid hl2
          go_region
          all_goals go_wp2
          go_roundw
          case measure => simp [intOf]; omega
          case rel =>
            refine ⟨c, swp dk p0 p1, rfl, by omega, Lib.hid (by rw [size_swp]; exact HK.out), ?_, Lib.hid (by rw [← HO.out, HS1.out (.inl h2), if_pos HL2.out])⟩
            first
              | exact HSq.out.swapG _ HF.out HK.out b0 (by omega) HG.out
              | exact (HSq.out.drew _).swapG _ HF.out HK.out b0 (by omega) HG.out
    · have hltI : (hi : Int) ≤ c := by omega
      have hcb : c ≤ 300000 := by omega
      have q3 : IntKind.i64.wrap (c : Int) = c := IntWalk.i64_in _ (by omega)
      have HE := Lib.hid (sift_end hi first r dk (by omega))
      clear hc
      go_wp2_with fail
      go_end0
      exact ⟨rfl, by rw [← HO.out, HE.out]; exact HS.out⟩

end Go.Proofs.YtagbeioooohbgaaGreatDoor.So
end
section
namespace Go.Proofs.YtagbeioooohbgaaGreatDoor.So
open Go.RowKit Go.Sort Tr
variable {w0 w : World} {g : Nat} {pf sp : List Value} {d : Array Int}

theorem siftDown_size (hi first r : Nat) (d : Array Int) : (siftDown ltInt hi first r d).size = d.size := by
  fun_induction siftDown ltInt hi first r d <;> simp_all [size_swp]
set_option maxHeartbeats 8000000 in
set_option maxRecDepth 100000 in
theorem heap_any (cap a b : Nat) (h : SR w0 w g pf sp d) (hab : a < b) (hb : b ≤ d.size) (hsz : d.size ≤ 100000) :
    Calls Tryz.prog 108 #[.slice (some ⟨g, pf.length, none⟩) d.size cap, .int .i64 a, .int .i64 b] w fun e w' =>
      e = .returned (.tuple #[]) ∧ SR w0 w' g pf sp (heapSort ltInt d a b) := by
  obtain ⟨n, hn⟩ : ∃ n, n = d.size := ⟨_, rfl⟩
  obtain ⟨off, hoff⟩ : ∃ off, off = pf.length := ⟨_, rfl⟩
  rw [← hn, ← hoff]
  rw [← hn] at hb hsz
  have HN := Lib.hid hn
  have HF := Lib.hid hoff
  have HR := Lib.hid h
  clear hn hoff h
  obtain ⟨hi, hhi⟩ : ∃ hi, hi = b - a := ⟨_, rfl⟩
  have hhiI : (b : Int) - a = hi := by omega
  obtain ⟨k0, hk0⟩ : ∃ k0, k0 = (hi - 1) / 2 := ⟨_, rfl⟩
  have hk0I : ((hi : Int) - 1) / 2 = k0 := by omega
  have hpos : (1 : Int) ≤ hi := by omega
  have hhn : a + hi ≤ n := by omega
  have HE : Hid (heapSort ltInt d a b = heapPop ltInt a hi (heapBuild ltInt hi a (k0 + 1) d)) := Lib.hid (by unfold heapSort; rw [← hhi, ← hk0])
  have hk9 : k0 ≤ hi := by omega
  clear hhi hk0
  have CS : ∀ (wr : World) (dk : Array Int) (lo h2 : Nat), SR w0 wr g pf sp dk → dk.size = n → lo ≤ 100000 → a + h2 ≤ n →
      Calls Tryz.prog 138 #[.slice (some ⟨g, off, none⟩) n cap, .int .i64 lo, .int .i64 h2, .int .i64 a] wr fun e w' => e = .returned (.tuple #[]) ∧ SR w0 w' g pf sp (siftDown ltInt h2 a lo dk) := fun wr dk lo h2 hs hd hl hh => by
    have h9 := sift_any (d := dk) cap lo h2 a hs hl (by omega) (by omega)
    rw [hd, ← HF.out] at h9
    exact h9
  have HCS := Lib.hid CS
  have HK0I := Lib.hid hk0I
  clear CS hk0I
  go_enter Tryz.func108, Tryz.ntmps108
  go_wp2_with fail
  go_loopw [9] (fun vi wr => ∃ (k : Nat) (dk : Array Int), vi = .int .i64 ((k : Int) - 1) ∧ k ≤ k0 + 1 ∧ Hid (dk.size = n) ∧ Hid (SR w0 wr g pf sp dk) ∧ Hid (heapBuild ltInt hi a k dk = heapBuild ltInt hi a (k0 + 1) d)) (fun vi _ => (intOf vi + 1).toNat)
  case atStart => exact ⟨k0 + 1, d, by rw [HK0I.out]; congr 1; omega, Nat.le_refl _, HN.out.symm, HR, rfl⟩
  case round =>
    obtain ⟨k, dk, rfl, hk, HK, HS, HO⟩ := hrel
    cases k with
    | succ k =>
      have hkI : ((k + 1 : Nat) : Int) - 1 = k := by omega
      rw [hkI]
      clear hkI
      have hk1 : k ≤ 100000 := by omega
      go_wp2_with fail
      refine (HCS.out _ dk k hi HS.out HK.out hk1 hhn).mono ?_
      rintro e w2 ⟨rfl, hs2⟩
      have S2 := Lib.hid hs2
      clear hs2
      go_wp2_with fail
      go_roundw
      case measure => simp [intOf] <;> omega
      case rel =>
        first
          | exact ⟨k, _, rfl, by omega, Lib.hid ((siftDown_size _ _ _ _).trans HK.out), S2, Lib.hid HO.out⟩
          | (repeat apply Exists.intro
             exact ⟨⟨k, _, rfl, by omega, Lib.hid ((siftDown_size _ _ _ _).trans HK.out), S2, Lib.hid HO.out⟩, rfl⟩)
    | zero =>
      have hkI : ((0 : Nat) : Int) - 1 = -1 := by omega
      rw [hkI]
      clear hkI
      go_wp2_with fail
      go_loopw [10] (fun vi wr => ∃ (k : Nat) (dk : Array Int), vi = .int .i64 ((k : Int) - 1) ∧ k ≤ hi ∧ Hid (dk.size = n) ∧ Hid (SR w0 wr g pf sp dk) ∧ Hid (heapPop ltInt a k dk = heapSort ltInt d a b)) (fun vi _ => (intOf vi + 1).toNat)
      case atStart => exact ⟨hi, dk, rfl, Nat.le_refl _, HK, HS, Lib.hid (by rw [HE.out, ← HO.out]; rfl)⟩
      case round =>
        obtain ⟨k, dj, rfl, hk2, HKj, HSj, HOj⟩ := hrel
        cases k with
        | succ k =>
          have hkI : ((k + 1 : Nat) : Int) - 1 = k := by omega
          rw [hkI]
          clear hkI
          have hk1 : a + k ≤ n := by omega
          obtain ⟨G, hG⟩ : ∃ G : Nat → Int, ∀ t, G t = dj[t]! := ⟨fun t => dj[t]!, fun _ => rfl⟩
          have hcw : ∀ t, t < n → wr.cell? ⟨g, off + t, none⟩ = some (.int .i32 (G t)) := fun t ht => by rw [hG, HF.out]; exact HSj.out.cell t (by rw [HKj.out]; exact ht)
          have hfw : ∀ t, t < n → wr.frozen? ⟨g, off + t, none⟩ = false := fun t ht => by rw [HF.out]; exact HSj.out.fr t (by rw [HKj.out]; exact ht)
          have HG := Lib.hid hG
          clear hG
          have b0 : a < n := by omega
          obtain ⟨p, hp⟩ : ∃ p, p = a + k := ⟨_, rfl⟩
          have hpI : (a : Int) + k = p := by omega
          have b1 : p < n := by omega
          have q1 : IntKind.i64.wrap (p : Int) = p := IntWalk.i64_in _ (by omega)
          have HP := Lib.hid hp
          by_cases hak : 0 < k
          · have hap : a < p := by omega
            clear hp
            go_wp2_with fail
            go_region
            all_goals
              go_wp2_with fail
              refine (HCS.out _ (swp dj a p) 0 k ((HSj.out.swapG _ HF.out HKj.out b0 b1 HG.out).out) (by rw [size_swp]; exact HKj.out) (by omega) hk1).mono ?_
              rintro e w2 ⟨rfl, hs2⟩
              have S2 := Lib.hid hs2
              clear hs2
              go_wp2_with fail
              go_roundw
              case measure => simp [intOf] <;> omega
              case rel =>
                first
                  | exact ⟨k, _, rfl, by omega, Lib.hid ((siftDown_size _ _ _ _).trans ((size_swp _ _ _).trans HKj.out)), S2, Lib.hid (by rw [← HOj.out, HP.out]; rfl)⟩
                  | (repeat apply Exists.intro
                     exact ⟨⟨k, _, rfl, by omega, Lib.hid ((siftDown_size _ _ _ _).trans ((size_swp _ _ _).trans HKj.out)), S2, Lib.hid (by rw [← HOj.out, HP.out]; rfl)⟩, rfl⟩)
          · have hk00 : (k : Int) = 0 := by omega
            rw [hk00]
            have HK0 : Hid (k = 0) := Lib.hid (by omega)
            clear hp hpI q1 b1 HP hk00 hak hk1 hk2
            obtain rfl := HK0.out
            go_wp2_with fail
            go_region
            all_goals
              go_wp2_with fail
              refine (HCS.out _ (swp dj a a) 0 0 ((HSj.out.swapG _ HF.out HKj.out b0 b0 HG.out).out) (by rw [size_swp]; exact HKj.out) (by omega) (by omega)).mono ?_
              rintro e w2 ⟨rfl, hs2⟩
              have S2 := Lib.hid hs2
              clear hs2
              go_wp2_with fail
              go_roundw
              case measure => simp [intOf] <;> omega
              case rel =>
                first
                  | exact ⟨0, _, rfl, by omega, Lib.hid ((siftDown_size _ _ _ _).trans ((size_swp _ _ _).trans HKj.out)), S2, Lib.hid (by rw [← HOj.out]; rfl)⟩
                  | (repeat apply Exists.intro
                     exact ⟨⟨0, _, rfl, by omega, Lib.hid ((siftDown_size _ _ _ _).trans ((size_swp _ _ _).trans HKj.out)), S2, Lib.hid (by rw [← HOj.out]; rfl)⟩, rfl⟩)
        | zero =>
          have hkI : ((0 : Nat) : Int) - 1 = -1 := by omega
          rw [hkI]
          clear hkI
          go_wp2_with fail
          go_end0
          refine ⟨rfl, ?_⟩
          rw [← HOj.out]
          exact HSj.out

end Go.Proofs.YtagbeioooohbgaaGreatDoor.So
end
section
namespace Go.Proofs.YtagbeioooohbgaaGreatDoor.So
open Go.RowKit Go.Sort Tr
variable {w0 w : World} {g : Nat} {pf sp : List Value} {d : Array Int}

/-! reverseRange -/
set_option maxHeartbeats 4000000 in
set_option maxRecDepth 100000 in
theorem rev_any (cap a b : Nat) (h : SR w0 w g pf sp d) (hab : a < b) (hb : b ≤ d.size) (hsz : d.size ≤ 100000) :
    Calls Tryz.prog 111 #[.slice (some ⟨g, pf.length, none⟩) d.size cap, .int .i64 a, .int .i64 b] w fun e w' =>
      e = .returned (.tuple #[]) ∧ SR w0 w' g pf sp (reverseRange d a b) := by
  obtain ⟨n, hn⟩ : ∃ n, n = d.size := ⟨_, rfl⟩
  obtain ⟨off, hoff⟩ : ∃ off, off = pf.length := ⟨_, rfl⟩
  rw [← hn, ← hoff]
  rw [← hn] at hb hsz
  have HN := Lib.hid hn
  have HF := Lib.hid hoff
  have HR := Lib.hid h
  clear hn hoff h
  obtain ⟨b1, hb1⟩ : ∃ b1, b1 = b - 1 := ⟨_, rfl⟩
  have hb1I : (b : Int) - 1 = b1 := by omega
  have hb1n : b1 < n := by omega
  have HE : Hid (reverseRange d a b = reverseLoop a b1 d) := Lib.hid (by unfold reverseRange; rw [hb1])
  clear hb1
  go_enter Tryz.func111, Tryz.ntmps111
  go_wp2_with fail
  go_loopw [6, 7] (fun vi vj wr => ∃ (i j : Nat) (dk : Array Int), vi = .int .i64 i ∧ vj = .int .i64 j ∧ i ≤ n ∧ j < n ∧ Hid (dk.size = n) ∧ Hid (SR w0 wr g pf sp dk) ∧ Hid (reverseLoop i j dk = reverseRange d a b)) (fun _ vj _ => (intOf vj).toNat)
  case atStart => exact ⟨a, b1, d, rfl, rfl, by omega, hb1n, HN.out.symm, HR, Lib.hid HE.out.symm⟩
  case round =>
    obtain ⟨i, j, dk, rfl, rfl, hi, hj, HK, HS, HO⟩ := hrel
    by_cases hlt : i < j
    · have hltI : (i : Int) < j := by omega
      obtain ⟨j1, hj1⟩ : ∃ j1, j1 = j - 1 := ⟨_, rfl⟩
      have hj1I : (j : Int) - 1 = j1 := by omega
      have hj1n : j1 < n ∧ j1 < j := by omega
      obtain ⟨hj1a, hj1b⟩ := hj1n
      have hin : i < n := by omega
      obtain ⟨G, hG⟩ : ∃ G : Nat → Int, ∀ t, G t = dk[t]! := ⟨fun t => dk[t]!, fun _ => rfl⟩
      have hcw : ∀ t, t < n → wr.cell? ⟨g, off + t, none⟩ = some (.int .i32 (G t)) := fun t ht => by rw [hG, HF.out]; exact HS.out.cell t (by rw [HK.out]; exact ht)
      have hfw : ∀ t, t < n → wr.frozen? ⟨g, off + t, none⟩ = false := fun t ht => by rw [HF.out]; exact HS.out.fr t (by rw [HK.out]; exact ht)
      have HG := Lib.hid hG
      have HS2 : Hid (reverseLoop i j dk = reverseLoop (i + 1) j1 (swp dk i j)) := Lib.hid (by rw [reverseLoop, if_pos hlt, hj1])
      clear hG hj1
      go_wp2_with fail
      go_region
      all_goals
        go_wp2_with fail
        go_roundw
        case measure => simp [intOf]; omega
        case rel => exact ⟨i + 1, j1, swp dk i j, by go_num, rfl, by omega, hj1a, Lib.hid (by rw [size_swp]; exact HK.out), HS.out.swapG _ HF.out HK.out hin hj HG.out, Lib.hid (by rw [← HO.out, HS2.out])⟩
    · have hltI : ¬ (i : Int) < j := by omega
      have HS2 : Hid (reverseLoop i j dk = dk) := Lib.hid (by rw [reverseLoop, if_neg hlt])
      go_wp2_with fail
      go_end0
      refine ⟨rfl, ?_⟩
      rw [← HO.out, HS2.out]
      exact HS.out

end Go.Proofs.YtagbeioooohbgaaGreatDoor.So
end
section
namespace Go.Proofs.YtagbeioooohbgaaGreatDoor.So
open Go.RowKit Go.Sort Tr
variable {w0 w : World} {g : Nat} {pf sp : List Value} {d : Array Int}

/-! order2, median, medianAdjacent, choosePivot: they write nothing but a counter of the call's own: which of the places comes out is left open. -/
structure Two (w w' : World) (B : Nat) : Prop where
  b : ∃ k : Int, 0 ≤ k ∧ k ≤ 1000000 ∧ Bk w' B [.int .i64 k] 3
  mv : Mv (· = B) (· = B) w w'
/-- The counter, told by a number. -/
def Cnt (w : World) (B : Nat) (k : Int) : Prop := Bk w B [.int .i64 k] 3
set_option maxHeartbeats 4000000 in
set_option maxRecDepth 100000 in
theorem order2_any (cap x y B : Nat) (k : Int) (h : SR w0 w g pf sp d) (hx : x < d.size) (hy : y < d.size) (hsz : d.size ≤ 100000) (hB : Bk w B [.int .i64 k] 3) (hk : 0 ≤ k) (hk2 : k ≤ 1000) (_hBg : B ≠ g) :
    Calls Tryz.prog 151 #[.slice (some ⟨g, pf.length, none⟩) d.size cap, .int .i64 x, .int .i64 y, .pointer (some ⟨B, 0, none⟩)] w fun e w' =>
      ∃ (p q : Nat) (k' : Int), e = .returned (.tuple #[.int .i64 p, .int .i64 q]) ∧ ((p = x ∧ q = y) ∨ (p = y ∧ q = x)) ∧ 0 ≤ k' ∧ k' ≤ k + 1 ∧ Bk w' B [.int .i64 k'] 3 ∧ Mv (· = B) (· = B) w w' := by
  obtain ⟨n, hn⟩ : ∃ n, n = d.size := ⟨_, rfl⟩
  obtain ⟨off, hoff⟩ : ∃ off, off = pf.length := ⟨_, rfl⟩
  rw [← hn, ← hoff]
  rw [← hn] at hx hy hsz
  have HN := Lib.hid hn
  have HF := Lib.hid hoff
  have HR := Lib.hid h
  clear hn hoff h
  obtain ⟨G, hG⟩ : ∃ G : Nat → Int, ∀ t, G t = d[t]! := ⟨fun t => d[t]!, fun _ => rfl⟩
  have hcw : ∀ t, t < n → w.cell? ⟨g, off + t, none⟩ = some (.int .i32 (G t)) := fun t ht => by rw [hG, HF.out]; exact HR.out.cell t (by rw [← HN.out]; exact ht)
  have hb0 := hB.c (i := 0) rfl
  have hbf := hB.fr 0
  have HB := Lib.hid hB
  clear hG hB
  have qx : IntKind.i64.wrap (x : Int) = x := IntWalk.i64_in _ (by omega)
  have qy : IntKind.i64.wrap (y : Int) = y := IntWalk.i64_in _ (by omega)
  go_enter Tryz.func151, Tryz.ntmps151
  go_wp2_with fail
  go_quiet (first | (go_at_call 80; refine Calls.quiet_of_same (less_any _ _ _)))
  go_wp2_with fail
  · go_ret2
    exact ⟨y, x, k + 1, rfl, .inr ⟨rfl, rfl⟩, by omega, by omega, (HB.out.drew _).set 0 _, ((Mv.refl _ _).drew _).set _ _⟩
  · go_ret2
    exact ⟨x, y, k, rfl, .inl ⟨rfl, rfl⟩, by omega, by omega, HB.out.drew _, (Mv.refl _ _).drew _⟩

set_option maxHeartbeats 4000000 in
set_option maxRecDepth 100000 in
theorem median_any (cap x y z B : Nat) (k : Int) (h : SR w0 w g pf sp d) (hx : x < d.size) (hy : y < d.size) (hz : z < d.size) (hsz : d.size ≤ 100000) (hB : Bk w B [.int .i64 k] 3) (hk : 0 ≤ k) (hk2 : k ≤ 900) (hBg : B ≠ g) (hBn : w0.heap.size ≤ B) :
    Calls Tryz.prog 142 #[.slice (some ⟨g, pf.length, none⟩) d.size cap, .int .i64 x, .int .i64 y, .int .i64 z, .pointer (some ⟨B, 0, none⟩)] w fun e w' =>
      ∃ (p : Nat) (k' : Int), e = .returned (.int .i64 p) ∧ (p = x ∨ p = y ∨ p = z) ∧ 0 ≤ k' ∧ k' ≤ k + 3 ∧ Bk w' B [.int .i64 k'] 3 ∧ Mv (· = B) (· = B) w w' ∧ SR w0 w' g pf sp d := by
  have keepR : ∀ {u u' : World}, SR w0 u g pf sp d → Mv (· = B) (· = B) u u' → SR w0 u' g pf sp d := fun {u u'} hu hm =>
    ⟨hu.blk.on (hm.keep g hu.lt (fun e => hBg e.symm)), hm.os.trans hu.mv.os, hm.tape.trans hu.mv.tape, hm.output.trans hu.mv.output, Nat.le_trans hu.mv.size hm.size, fun j hj hF => (hm.keep j (Nat.lt_of_lt_of_le hj hu.mv.size) (by omega)).trans (hu.mv.keep j hj hF), hu.mv.fp⟩
  have HR := Lib.hid h
  have HB := Lib.hid hB
  have KR := @keepR
  clear h hB keepR
  go_enter Tryz.func142, Tryz.ntmps142
  go_wp2_with fail
  refine (order2_any cap x y B k HR.out hx hy hsz HB.out hk (by omega) hBg).mono ?_
  rintro e w1 ⟨p1, q1, k1, rfl, ho1, hk1a, hk1b, hB1, hm1⟩
  have B1 := Lib.hid hB1
  have M1 := Lib.hid hm1
  have R1 := Lib.hid (KR HR.out hm1)
  clear hB1 hm1
  go_wp2_with fail
  refine (order2_any cap q1 z B k1 R1.out (by omega) hz hsz B1.out hk1a (by omega) hBg).mono ?_
  rintro e w2 ⟨p2, q2, k2, rfl, ho2, hk2a, hk2b, hB2, hm2⟩
  have B2 := Lib.hid hB2
  have M2 := Lib.hid (M1.out.trans hm2)
  have R2 := Lib.hid (KR R1.out hm2)
  clear hB2 hm2
  go_wp2_with fail
  refine (order2_any cap p1 p2 B k2 R2.out (by omega) (by omega) hsz B2.out hk2a (by omega) hBg).mono ?_
  rintro e w3 ⟨p3, q3, k3, rfl, ho3, hk3a, hk3b, hB3, hm3⟩
  have B3 := Lib.hid hB3
  have M3 := Lib.hid (M2.out.trans hm3)
  have R3 := Lib.hid (KR R2.out hm3)
  clear hB3 hm3
  go_wp2_with fail
  go_ret
  exact ⟨q3, k3, rfl, by omega, hk3a, by omega, B3.out, M3.out, R3.out⟩
set_option maxHeartbeats 4000000 in
set_option maxRecDepth 100000 in
theorem medianAdj_any (cap x B : Nat) (k : Int) (h : SR w0 w g pf sp d) (hx0 : 1 ≤ x) (hx : x + 1 < d.size) (hsz : d.size ≤ 100000) (hB : Bk w B [.int .i64 k] 3) (hk : 0 ≤ k) (hk2 : k ≤ 900) (hBg : B ≠ g) (hBn : w0.heap.size ≤ B) :
    Calls Tryz.prog 141 #[.slice (some ⟨g, pf.length, none⟩) d.size cap, .int .i64 x, .pointer (some ⟨B, 0, none⟩)] w fun e w' =>
      ∃ (p : Nat) (k' : Int), e = .returned (.int .i64 p) ∧ (x ≤ p + 1 ∧ p ≤ x + 1) ∧ 0 ≤ k' ∧ k' ≤ k + 3 ∧ Bk w' B [.int .i64 k'] 3 ∧ Mv (· = B) (· = B) w w' ∧ SR w0 w' g pf sp d := by
  obtain ⟨a, ha⟩ : ∃ a, x = a + 1 := ⟨x - 1, by omega⟩
  subst ha
  have e1 : ((a + 1 : Nat) : Int) - 1 = a := by omega
  have e2 : ((a + 1 : Nat) : Int) + 1 = ((a + 2 : Nat) : Int) := by omega
  have HM := Lib.hid (median_any cap a (a + 1) (a + 2) B k h (by omega) (by omega) (by omega) hsz hB hk hk2 hBg hBn)
  clear h hB
  go_enter Tryz.func141, Tryz.ntmps141
  go_wp2_with fail
  refine HM.out.mono ?_
  rintro e w3 ⟨p, k', rfl, hp, hka, hkb, hB3, hm3, hs3⟩
  have Q := Lib.hid (And.intro hB3 (And.intro hm3 hs3))
  clear hB3 hm3 hs3
  go_wp2_with fail
  go_ret
  exact ⟨p, k', rfl, by omega, hka, hkb, Q.out⟩
/-- A place within, and a hint: which ones is left open. -/
def PivE (a b : Nat) (e : Ending) : Prop := ∃ (p : Nat) (hh : Int), e = .returned (.tuple #[.int .i64 p, .int .i64 hh]) ∧ a ≤ p ∧ p < b ∧ (hh = 0 ∨ hh = 1 ∨ hh = 2)
set_option maxHeartbeats 8000000 in
set_option maxRecDepth 100000 in
theorem pivot_any (cap a b : Nat) (h : SR w0 w g pf sp d) (hab : a + 12 < b) (hb : b ≤ d.size) (hsz : d.size ≤ 100000) :
    Calls Tryz.prog 110 #[.slice (some ⟨g, pf.length, none⟩) d.size cap, .int .i64 a, .int .i64 b] w fun e w' =>
      PivE a b e ∧ SR w0 w' g pf sp d := by
  obtain ⟨l, hl⟩ : ∃ l, l = b - a := ⟨_, rfl⟩
  have hlI : (b : Int) - a = l := by omega
  obtain ⟨q, hq⟩ : ∃ q, q = l / 4 := ⟨_, rfl⟩
  have hqI : (l : Int) / 4 = q := by omega
  obtain ⟨i, hi⟩ : ∃ i, i = a + q := ⟨_, rfl⟩
  obtain ⟨j, hj⟩ : ∃ j, j = a + q * 2 := ⟨_, rfl⟩
  obtain ⟨k, hk⟩ : ∃ k, k = a + q * 3 := ⟨_, rfl⟩
  have hiI : (a : Int) + q = i := by omega
  have hjI : (a : Int) + q * 2 = j := by omega
  have hkI : (a : Int) + q * 3 = k := by omega
  have hl13 : (13 : Int) ≤ l := by omega
  have hlb : l ≤ 100000 := by omega
  have hqb : q ≤ 100000 := by omega
  have B1 : a ≤ i ∧ i < b ∧ a ≤ j ∧ j < b ∧ a ≤ k ∧ k < b ∧ k ≤ 200000 := by omega
  obtain ⟨bi0, bi1, bj0, bj1, bk0, bk1, bk2⟩ := B1
  have B2 : 50 ≤ l → a + 1 ≤ i ∧ i + 1 < b ∧ a + 1 ≤ j ∧ j + 1 < b ∧ a + 1 ≤ k ∧ k + 1 < b := by omega
  clear hl hq hi hj hk
  have h0l := h.lt
  have hsz0 := h.mv.size
  have HR := Lib.hid (h.grow ((Below.refl _ w).alloc (Nat.le_refl _) (.cells #[.int .i64 0] 3)))
  have HB : Hid (Bk (w.alloc (.cells #[.int .i64 0] 3)) w.heap.size [.int .i64 0] 3) := Lib.hid ⟨heap_alloc_new w _⟩
  have hBg : w.heap.size ≠ g := by omega
  clear h
  by_cases h50 : 50 ≤ l
  · obtain ⟨c1, c2, c3, c4, c5, c6⟩ := B2 h50
    have h50I : (50 : Int) ≤ l := by omega
    clear B2
    go_enter Tryz.func110, Tryz.ntmps110
    go_wp2_with fail
    refine (medianAdj_any cap i w.heap.size 0 HR.out (by omega) (by omega) hsz HB.out (by omega) (by omega) hBg hsz0).mono ?_
    rintro e w3 ⟨p1, k1, rfl, hp1, hka1, hkb1, hB3, hm3, hs3⟩
    have Q1 := Lib.hid (And.intro hB3 hs3)
    clear hB3 hm3 hs3
    go_wp2_with fail
    refine (medianAdj_any cap j w.heap.size k1 Q1.out.2 (by omega) (by omega) hsz Q1.out.1 (by omega) (by omega) hBg hsz0).mono ?_
    rintro e w4 ⟨p2, k2, rfl, hp2, hka2, hkb2, hB3, hm3, hs3⟩
    have Q2 := Lib.hid (And.intro hB3 hs3)
    clear hB3 hm3 hs3
    go_wp2_with fail
    refine (medianAdj_any cap k w.heap.size k2 Q2.out.2 (by omega) (by omega) hsz Q2.out.1 (by omega) (by omega) hBg hsz0).mono ?_
    rintro e w5 ⟨p3, k3, rfl, hp3, hka3, hkb3, hB3, hm3, hs3⟩
    have Q3 := Lib.hid (And.intro hB3 hs3)
    clear hB3 hm3 hs3
    go_wp2_with fail
    refine (median_any cap p1 p2 p3 w.heap.size k3 Q3.out.2 (by omega) (by omega) (by omega) hsz Q3.out.1 (by omega) (by omega) hBg hsz0).mono ?_
    rintro e w6 ⟨p, k', rfl, hp, hka, hkb, hB3, hm3, hs3⟩
    have c0 := hB3.c (i := 0) rfl
    have Q := Lib.hid hs3
    clear hB3 hm3 hs3
    go_wp2_with fail
    all_goals
      go_ret2
      first
        | exact ⟨⟨p, 1, rfl, by omega, by omega, by omega⟩, Q.out⟩
        | exact ⟨⟨p, 2, rfl, by omega, by omega, by omega⟩, Q.out⟩
        | exact ⟨⟨p, 0, rfl, by omega, by omega, by omega⟩, Q.out⟩
  · have h50I : ¬ (50 : Int) ≤ l := by omega
    clear B2
    go_enter Tryz.func110, Tryz.ntmps110
    go_wp2_with fail
    refine (median_any cap i j k w.heap.size 0 HR.out (by omega) (by omega) (by omega) hsz HB.out (by omega) (by omega) hBg hsz0).mono ?_
    rintro e w3 ⟨p, k', rfl, hp, hka, hkb, hB3, hm3, hs3⟩
    have c0 := hB3.c (i := 0) rfl
    have Q := Lib.hid hs3
    clear hB3 hm3 hs3
    go_wp2_with fail
    all_goals
      go_ret2
      first
        | exact ⟨⟨p, 1, rfl, by omega, by omega, by omega⟩, Q.out⟩
        | exact ⟨⟨p, 2, rfl, by omega, by omega, by omega⟩, Q.out⟩
        | exact ⟨⟨p, 0, rfl, by omega, by omega, by omega⟩, Q.out⟩

end Go.Proofs.YtagbeioooohbgaaGreatDoor.So
end
section
namespace Go.Proofs.YtagbeioooohbgaaGreatDoor.So
open Go.RowKit Go.Sort Tr
variable {w0 w : World} {g : Nat} {pf sp : List Value} {d : Array Int}

/-! partitionEqual -/
theorem up_go {p : Int → Bool} {d : Array Int} {j i : Nat} (h1 : i ≤ j) (h2 : p d[i]! = true) : scanUp p d j i = scanUp p d j (i + 1) := by rw [scanUp, if_pos (by simp [h1, h2])]
theorem up_stop {p : Int → Bool} {d : Array Int} {j i : Nat} (h : ¬ i ≤ j ∨ p d[i]! = false) : scanUp p d j i = i := by
  rw [scanUp, if_neg]
  rcases h with h | h <;> simp [h]
theorem down_go {p : Int → Bool} {d : Array Int} {i j : Nat} (h1 : i ≤ j + 1) (h2 : p d[j + 1]! = true) : scanDown p d i (j + 1) = scanDown p d i j := by rw [scanDown, if_pos (by simp [h1, h2])]
theorem down_stop {p : Int → Bool} {d : Array Int} {i j : Nat} (h : ¬ i ≤ j + 1 ∨ p d[j + 1]! = false) : scanDown p d i (j + 1) = j + 1 := by
  rw [scanDown, if_neg]
  rcases h with h | h <;> simp [h]
theorem down_zero {p : Int → Bool} {d : Array Int} {i : Nat} : scanDown p d i 0 = 0 := by rw [scanDown]

theorem set_some {w : World} {g q : Nat} {u : Value} (h : w.cell? ⟨g, q, none⟩ = some u) (p : Nat) (v : Value) : ∃ U, (w.setCell ⟨g, p, none⟩ v).cell? ⟨g, q, none⟩ = some U := by
  by_cases e : p = q
  · subst e
    exact ⟨v, World.cell?_setCell_same' _ _ _ (by rw [h]; rfl)⟩
  · exact ⟨u, (World.cell?_setCell_other w _ _ v (fun e2 => e (by cases e2; rfl))).trans h⟩
set_option maxHeartbeats 16000000 in
set_option maxRecDepth 100000 in
theorem partEq_any (cap a b pv : Nat) (h : SR w0 w g pf sp d) (hap : a ≤ pv) (hpb : pv < b) (hb : b ≤ d.size) (hsz : d.size ≤ 100000) :
    Calls Tryz.prog 113 #[.slice (some ⟨g, pf.length, none⟩) d.size cap, .int .i64 a, .int .i64 b, .int .i64 pv] w fun e w' =>
      ∃ m : Nat, e = .returned (.int .i64 m) ∧ m = (partitionEqual ltInt d a b pv).1 ∧ SR w0 w' g pf sp (partitionEqual ltInt d a b pv).2 := by
  obtain ⟨n, hn⟩ : ∃ n, n = d.size := ⟨_, rfl⟩
  obtain ⟨off, hoff⟩ : ∃ off, off = pf.length := ⟨_, rfl⟩
  rw [← hn, ← hoff]
  rw [← hn] at hb hsz
  have HN := Lib.hid hn
  have HF := Lib.hid hoff
  have HR := Lib.hid h
  clear hn hoff h
  have HE : Hid (partitionEqual ltInt d a b pv = partEqLoop ltInt a (a + 1) (b - 1) (swp d a pv)) := Lib.hid rfl
  obtain ⟨b1, hb1⟩ : ∃ b1, b1 = b - 1 := ⟨_, rfl⟩
  rw [← hb1] at HE
  have hb1I : (b : Int) - 1 = b1 := by omega
  have hbb : b1 < b ∧ a ≤ b1 := by omega
  obtain ⟨hbb1, hbb2⟩ := hbb
  clear hb1
  have hNN : Hid (d.size = n) := Lib.hid HN.out.symm
  obtain ⟨G0, hG⟩ : ∃ G0 : Nat → Int, ∀ t, G0 t = d[t]! := ⟨fun t => d[t]!, fun _ => rfl⟩
  have hcw : ∀ t, t < n → w.cell? ⟨g, off + t, none⟩ = some (.int .i32 (G0 t)) := fun t ht => by rw [hG, HF.out]; exact HR.out.cell t (by rw [hNN.out]; exact ht)
  have hfw : ∀ t, t < n → w.frozen? ⟨g, off + t, none⟩ = false := fun t ht => by rw [HF.out]; exact HR.out.fr t (by rw [hNN.out]; exact ht)
  have HG0 := Lib.hid hG
  clear hG
  have ha0 : a < n := by omega
  have hp0 : pv < n := by omega
  obtain ⟨U, hU⟩ := set_some (q := off + pv) (hcw pv hp0) (off + a) (.int .i32 (G0 pv))
  go_enter Tryz.func113, Tryz.ntmps113
  go_wp2_with fail
  go_region
  all_goals
    go_wp2_with fail
    clear hcw hfw hU
    go_loopw [9, 10] (fun vi vj wr => ∃ (i j : Nat) (dk : Array Int), vi = .int .i64 i ∧ vj = .int .i64 j ∧ a < i ∧ i ≤ j + 2 ∧ j < b ∧ Hid (dk.size = n) ∧ Hid (SR w0 wr g pf sp dk) ∧ Hid (partEqLoop ltInt a i j dk = partEqLoop ltInt a (a + 1) b1 (swp d a pv))) (fun _ vj _ => (intOf vj).toNat)
    case atStart => exact ⟨a + 1, b1, swp d a pv, by go_num, rfl, by omega, by omega, hbb1, Lib.hid (by rw [size_swp]; exact hNN.out), HR.out.swapG _ HF.out hNN.out ha0 hp0 HG0.out, rfl⟩
    case round =>
      obtain ⟨i, j, dk, rfl, rfl, hai, hij, hjb, HK, HS, HO⟩ := hrel
      obtain ⟨wo, hwo⟩ : ∃ x, x = wr := ⟨_, rfl⟩
      subst hwo
      go_wp2_with fail
      go_loopw [9] (fun vi wx => ∃ (i1 : Nat), vi = .int .i64 i1 ∧ i ≤ i1 ∧ i1 ≤ j + 2 ∧ Hid (SR w0 wx g pf sp dk) ∧ Hid (scanUp (fun x => !ltInt dk[a]! x) dk j i = scanUp (fun x => !ltInt dk[a]! x) dk j i1)) (fun vi _ => j + 2 - (intOf vi).toNat)
      case atStart => exact ⟨i, rfl, Nat.le_refl _, hij, HS, rfl⟩
      case round =>
        obtain ⟨i2, rfl, hi2, hi2j, HS2, HUU⟩ := hrel
        by_cases hu : i2 ≤ j
        · have huI : (i2 : Int) ≤ j := by omega
          obtain ⟨G, hG⟩ : ∃ G : Nat → Int, ∀ t, G t = dk[t]! := ⟨fun t => dk[t]!, fun _ => rfl⟩
          have hcw : ∀ t, t < n → wr.cell? ⟨g, off + t, none⟩ = some (.int .i32 (G t)) := fun t ht => by rw [hG, HF.out]; exact HS2.out.cell t (by rw [HK.out]; exact ht)
          have hfw : ∀ t, t < n → wr.frozen? ⟨g, off + t, none⟩ = false := fun t ht => by rw [HF.out]; exact HS2.out.fr t (by rw [HK.out]; exact ht)
          have HG := Lib.hid hG
          clear hG
          have han : a < n := by omega
          have hin : i2 < n := by omega
          go_wp2_with fail
          go_quiet (first | (go_at_call 80; refine Calls.quiet_of_same (less_any _ _ _)))
          go_wp2_with fail
          · have hl : ltInt (G a) (G i2) = false := by first | assumption | simpa using ‹(!ltInt (G a) (G i2)) = true›
            have hl2 := hl
            rw [HG.out, HG.out] at hl2
            have HU2 : Hid (scanUp (fun x => !ltInt dk[a]! x) dk j i = scanUp (fun x => !ltInt dk[a]! x) dk j (i2 + 1)) := Lib.hid (by rw [HUU.out, up_go hu (by simp [hl2])])
            clear hl hl2
            go_roundw
            case measure => simp [intOf]; omega
            case rel => exact ⟨i2 + 1, by go_num, by omega, by omega, Lib.hid (HS2.out.drew _), HU2⟩
          · have hl : ltInt (G a) (G i2) = true := by first | assumption | simpa using ‹(!ltInt (G a) (G i2)) = false›
            have hl2 := hl
            rw [HG.out, HG.out] at hl2
            have HU : Hid (scanUp (fun x => !ltInt dk[a]! x) dk j i = i2) := Lib.hid (by rw [HUU.out, up_stop (.inr (by simp [hl2]))])
            have HSx := Lib.hid (HS2.out.drew nq)
            clear hl2 hcw hfw
            generalize wr.drewN nq = wq at *
            clear HS2
            go_loopw [10] (fun vj wx => ∃ (j1 : Nat), vj = .int .i64 j1 ∧ j1 ≤ j ∧ i2 ≤ j1 + 2 ∧ Hid (SR w0 wx g pf sp dk) ∧ Hid (scanDown (fun x => ltInt dk[a]! x) dk i2 j = scanDown (fun x => ltInt dk[a]! x) dk i2 j1)) (fun vj _ => (intOf vj).toNat)
            case atStart => exact ⟨j, rfl, Nat.le_refl _, by omega, HSx, rfl⟩
            case round =>
              obtain ⟨j2, rfl, hj2, hij2, HS3, HDD⟩ := hrel
              by_cases hd : i2 ≤ j2
              · have hdI : (i2 : Int) ≤ j2 := by omega
                obtain ⟨G, hG⟩ : ∃ G : Nat → Int, ∀ t, G t = dk[t]! := ⟨fun t => dk[t]!, fun _ => rfl⟩
                have hcw : ∀ t, t < n → wr.cell? ⟨g, off + t, none⟩ = some (.int .i32 (G t)) := fun t ht => by rw [hG, HF.out]; exact HS3.out.cell t (by rw [HK.out]; exact ht)
                have hfw : ∀ t, t < n → wr.frozen? ⟨g, off + t, none⟩ = false := fun t ht => by rw [HF.out]; exact HS3.out.fr t (by rw [HK.out]; exact ht)
                have HG := Lib.hid hG
                clear hG
                have han : a < n := by omega
                have hjn : j2 < n := by omega
                go_wp2_with fail
                go_quiet (first | (go_at_call 80; refine Calls.quiet_of_same (less_any _ _ _)))
                go_wp2_with fail
                · have hl : ltInt (G a) (G j2) = true := by assumption
                  have hl2 := hl
                  rw [HG.out, HG.out] at hl2
                  obtain ⟨j3, hj3⟩ : ∃ j3, j2 = j3 + 1 := ⟨j2 - 1, by omega⟩
                  have HD2 : Hid (scanDown (fun x => ltInt dk[a]! x) dk i2 j = scanDown (fun x => ltInt dk[a]! x) dk i2 j3) := Lib.hid (by rw [HDD.out, hj3, down_go (by omega) (by rw [← hj3]; exact hl2)])
                  have hj3I : (j2 : Int) - 1 = j3 := by omega
                  clear hl hl2
                  have hb3 : j3 ≤ j ∧ i2 ≤ j3 + 2 ∧ j3 < j2 := by omega
                  clear hj3
                  go_roundw
                  case measure => simp [intOf]; omega
                  case rel => exact ⟨j3, by first | rfl | (congr 1), hb3.1, hb3.2.1, Lib.hid (HS3.out.drew _), HD2⟩
                · have hl : ltInt (G a) (G j2) = false := by assumption
                  have hl2 := hl
                  rw [HG.out, HG.out] at hl2
                  have HD : Hid (scanDown (fun x => ltInt dk[a]! x) dk i2 j = j2) := Lib.hid (by
                    obtain ⟨j3, hj3⟩ : ∃ j3, j2 = j3 + 1 := ⟨j2 - 1, by omega⟩
                    rw [HDD.out, hj3, down_stop (.inr (by rw [← hj3]; exact hl2))])
                  have HS4 := Lib.hid (HS3.out.drew nq)
                  clear hl2 hcw hfw
                  generalize wr.drewN nq = wq at *
                  clear HS3
                  have hijI : ¬ (j2 : Int) < i2 := by omega
                  obtain ⟨G, hG⟩ : ∃ G : Nat → Int, ∀ t, G t = dk[t]! := ⟨fun t => dk[t]!, fun _ => rfl⟩
                  have hcw : ∀ t, t < n → wq.cell? ⟨g, off + t, none⟩ = some (.int .i32 (G t)) := fun t ht => by rw [hG, HF.out]; exact HS4.out.cell t (by rw [HK.out]; exact ht)
                  have hfw : ∀ t, t < n → wq.frozen? ⟨g, off + t, none⟩ = false := fun t ht => by rw [HF.out]; exact HS4.out.fr t (by rw [HK.out]; exact ht)
                  have HG := Lib.hid hG
                  clear hG
                  have hi2n : i2 < n := by omega
                  have hj2n : j2 < n := by omega
                  obtain ⟨U, hU⟩ := set_some (q := off + j2) (hcw j2 hj2n) (off + i2) (.int .i32 (G j2))
                  obtain ⟨j3, hj3⟩ : ∃ j3, j2 = j3 + 1 := ⟨j2 - 1, by omega⟩
                  have hj3I : (j2 : Int) - 1 = j3 := by omega
                  have HJ3 := Lib.hid hj3
                  have HL9 : Hid (partEqLoop ltInt a i j dk = partEqLoop ltInt a (i2 + 1) j3 (swp dk i2 j2)) := Lib.hid (by rw [partEqLoop_eq, HU.out, HD.out, if_neg (by omega), hj3]; rfl)
                  have bb : a < i2 + 1 ∧ i2 + 1 ≤ j3 + 2 ∧ j3 < b := by omega
                  clear hj3
                  go_wp2_with fail
                  go_region
                  all_goals
                    go_wp2_with fail
                    go_roundw
                    case measure => simp [intOf]; omega
                    case rel => exact ⟨i2 + 1, j3, swp dk i2 j2, by go_num, rfl, bb.1, bb.2.1, bb.2.2, Lib.hid (by rw [size_swp]; exact HK.out), HS4.out.swapG _ HF.out HK.out hi2n hj2n HG.out, Lib.hid (by rw [← HO.out, HL9.out])⟩
              · have hdI : ¬ (i2 : Int) ≤ j2 := by omega
                have HD : Hid (scanDown (fun x => ltInt dk[a]! x) dk i2 j = j2) := Lib.hid (by
                  rw [HDD.out]
                  cases hc : j2 with
                  | zero => rw [down_zero]
                  | succ j3 => rw [down_stop (.inl (by omega))])
                go_wp2_with fail
                go_quiet (fail)
                go_wp2_with fail
                have HS4 := Lib.hid (HS3.out.drew nq)
                generalize wr.drewN nq = wq at *
                clear HS3
                have hijI : (j2 : Int) < i2 := by omega
                have HL9 : Hid (partEqLoop ltInt a i j dk = (i2, dk)) := Lib.hid (by rw [partEqLoop_eq, HU.out, HD.out, if_pos (by omega)])
                go_wp2_with fail
                go_ret
                refine ⟨_, rfl, ?_, ?_⟩
                · rw [HE.out, ← HO.out, HL9.out]
                · rw [HE.out, ← HO.out, HL9.out]; exact HS4.out
        · have huI : ¬ (i2 : Int) ≤ j := by omega
          have HU : Hid (scanUp (fun x => !ltInt dk[a]! x) dk j i = i2) := Lib.hid (by rw [HUU.out, up_stop (.inl hu)])
          go_wp2_with fail
          go_quiet (fail)
          go_wp2_with fail
          have HSx := Lib.hid (HS2.out.drew nq)
          generalize wr.drewN nq = wq at *
          clear HS2
          go_loopw [10] (fun vj wx => ∃ (j1 : Nat), vj = .int .i64 j1 ∧ j1 ≤ j ∧ i2 ≤ j1 + 2 ∧ Hid (SR w0 wx g pf sp dk) ∧ Hid (scanDown (fun x => ltInt dk[a]! x) dk i2 j = scanDown (fun x => ltInt dk[a]! x) dk i2 j1)) (fun vj _ => (intOf vj).toNat)
          case atStart => exact ⟨j, rfl, Nat.le_refl _, by omega, HSx, rfl⟩
          case round =>
            obtain ⟨j2, rfl, hj2, hij2, HS3, HDD⟩ := hrel
            have hd : ¬ i2 ≤ j2 := by omega
            have hdI : ¬ (i2 : Int) ≤ j2 := by omega
            have HD : Hid (scanDown (fun x => ltInt dk[a]! x) dk i2 j = j2) := Lib.hid (by
              rw [HDD.out]
              cases hc : j2 with
              | zero => rw [down_zero]
              | succ j3 => rw [down_stop (.inl (by omega))])
            go_wp2_with fail
            go_quiet (fail)
            go_wp2_with fail
            have HS4 := Lib.hid (HS3.out.drew nq)
            generalize wr.drewN nq = wq at *
            clear HS3
            have hijI : (j2 : Int) < i2 := by omega
            have HL9 : Hid (partEqLoop ltInt a i j dk = (i2, dk)) := Lib.hid (by rw [partEqLoop_eq, HU.out, HD.out, if_pos (by omega)])
            go_wp2_with fail
            go_ret
            refine ⟨_, rfl, ?_, ?_⟩
            · rw [HE.out, ← HO.out, HL9.out]
            · rw [HE.out, ← HO.out, HL9.out]; exact HS4.out

end Go.Proofs.YtagbeioooohbgaaGreatDoor.So
end

import Derived.Test.YtfjckdjnnbpcnaaYC
import Derived.Sort.LotA
import Derived.Sort.LotB
import Derived.Sort.LotC
import Derived.CellFam
import Derived.BigGuard
import Derived.BigCall
import Derived.Deep.Draws
import Derived.Deep.QuietTactic
import Derived.BigQuiet
namespace Go.Proofs.Ytfjckdjnnbpcnaa.So
open Go.RowKit Go.Sort Tr

/-! The library's sort at runes: a row of numbers in a block, and all else as it was. -/
def enc (x : Int) : Value := .int .i32 x
def rowC (pf : List Value) (d : Array Int) (sp : List Value) : List Value := pf ++ (d.toList.map enc ++ sp)
structure SR (w0 w : World) (g : Nat) (pf sp : List Value) (d : Array Int) : Prop where
  blk : Bk w g (rowC pf d sp) 21
  mv : Mv (· = g) (· = g) w0 w
theorem rowC_at (pf sp : List Value) (d : Array Int) {j : Nat} (h : j < d.size) : (rowC pf d sp)[pf.length + j]? = some (.int .i32 d[j]!) := by
  unfold rowC
  rw [List.getElem?_append_right (by omega), show pf.length + j - pf.length = j by omega, List.getElem?_append_left (by simpa using h), List.getElem?_map, Array.getElem?_toList, Array.getElem?_eq_getElem h, getElem!_pos d j h]
  rfl
theorem rowC_set (pf sp : List Value) (d : Array Int) {j : Nat} (x : Int) (h : j < d.size) : (rowC pf d sp).set (pf.length + j) (enc x) = rowC pf (d.setIfInBounds j x) sp := by
  unfold rowC
  rw [List.set_append_right _ _ (by omega), show pf.length + j - pf.length = j by omega, List.set_append_left _ _ (by simpa using h), ← List.map_set, Array.toList_setIfInBounds]
variable {w0 w : World} {g : Nat} {pf sp : List Value} {d : Array Int}
theorem SR.cell (h : SR w0 w g pf sp d) : ∀ t, t < d.size → w.cell? ⟨g, pf.length + t, none⟩ = some (.int .i32 d[t]!) := fun _ ht => h.blk.c (rowC_at pf sp d ht)
theorem SR.fr (h : SR w0 w g pf sp d) : ∀ t, t < d.size → w.frozen? ⟨g, pf.length + t, none⟩ = false := fun _ _ => h.blk.fr _
theorem SR.drew (h : SR w0 w g pf sp d) (n : Nat) : SR w0 (w.drewN n) g pf sp d := ⟨h.blk.drew n, h.mv.drew n⟩
theorem SR.swap (h : SR w0 w g pf sp d) {i j : Nat} (hi : i < d.size) (hj : j < d.size) :
    SR w0 ((w.setCell ⟨g, pf.length + i, none⟩ (.int .i32 d[j]!)).setCell ⟨g, pf.length + j, none⟩ (.int .i32 d[i]!)) g pf sp (swp d i j) := by
  refine ⟨?_, (h.mv.set _ _).set _ _⟩
  have h1 := (h.blk.set (pf.length + i) (enc d[j]!)).set (pf.length + j) (enc d[i]!)
  rw [rowC_set pf sp d _ hi, rowC_set pf sp _ _ (by simpa using hj)] at h1
  exact h1
theorem SR.swapG (h : SR w0 w g pf sp d) (q : Nat) {off n i j : Nat} (ho : off = pf.length) (hn : d.size = n) (hi : i < n) (hj : j < n) {G : Nat → Int} (hG : ∀ t, G t = d[t]!) :
    Hid (SR w0 (((w.drewN q).setCell ⟨g, off + i, none⟩ (.int .i32 (G j))).setCell ⟨g, off + j, none⟩ (.int .i32 (G i))) g pf sp (swp d i j)) := by
  rw [hG, hG, ho]
  exact Lib.hid ((h.drew q).swap (by omega) (by omega))
theorem SR.start (h : Bk w g (rowC pf d sp) 21) : SR w w g pf sp d := ⟨h, Mv.refl _ _⟩
/-- New blocks. -/
theorem SR.grow {w' : World} (h : SR w0 w g pf sp d) (hb : Below w.heap.size w w') : SR w0 w' g pf sp d :=
  ⟨h.blk.below hb, hb.os.trans h.mv.os, hb.tape.trans h.mv.tape, hb.output.trans h.mv.output, Nat.le_trans h.mv.size hb.size, fun k hk hF => (hb.block k (Nat.lt_of_lt_of_le hk h.mv.size)).trans (h.mv.keep k hk hF), h.mv.fp⟩
theorem SR.lt (h : SR w0 w g pf sp d) : g < w.heap.size := h.blk.lt

theorem nan_any (x : Int) (w : World) : Calls Try.prog 78 #[.int .i32 x] w fun e w' => e = .returned (.bool false) ∧ w' = w := by
  go_enter Try.func78, Try.ntmps78
  go_wp2
  go_ret
  exact ⟨by simp, rfl⟩
theorem less_any (x y : Int) (w : World) : Calls Try.prog 68 #[.int .i32 x, .int .i32 y] w fun e w' => e = .returned (.bool (ltInt x y)) ∧ w' = w := by
  go_enter Try.func68, Try.ntmps68
  go_wp2_with (go_at_call 78; refine (nan_any _ _).mono ?_; rintro e w' ⟨rfl, rfl⟩)
  go_ret
  exact ⟨rfl, rfl⟩

/-! insertionSort -/
theorem ins_go (a j : Nat) (d : Array Int) (hj : a < j) (hl : ltInt d[j]! d[j - 1]! = true) : insInner ltInt a j d = insInner ltInt a (j - 1) (swp d j (j - 1)) := by
  obtain ⟨k, rfl⟩ : ∃ k, j = k + 1 := ⟨j - 1, by omega⟩
  rw [insInner]
  simp only [Nat.add_sub_cancel] at hl ⊢
  simp [hj, hl]
theorem ins_stop (a j : Nat) (d : Array Int) (h : j ≤ a ∨ ltInt d[j]! d[j - 1]! = false) : insInner ltInt a j d = d := by
  cases j with
  | zero => rw [insInner]
  | succ k =>
    rw [insInner]
    simp only [Nat.add_sub_cancel] at h
    rcases h with h | h
    · simp [show ¬ k + 1 > a by omega]
    · simp [h]
set_option maxHeartbeats 4000000 in
set_option maxRecDepth 100000 in
theorem ins_any (cap a b : Nat) (h : SR w0 w g pf sp d) (hab : a ≤ b) (hb : b ≤ d.size) (hsz : d.size ≤ 100000) :
    Calls Try.prog 62 #[.slice (some ⟨g, pf.length, none⟩) d.size cap, .int .i64 a, .int .i64 b] w fun e w' =>
      e = .returned (.tuple #[]) ∧ SR w0 w' g pf sp (insertionSort ltInt d a b) := by
  obtain ⟨n, hn⟩ : ∃ n, n = d.size := ⟨_, rfl⟩
  obtain ⟨off, hoff⟩ : ∃ off, off = pf.length := ⟨_, rfl⟩
  rw [← hn, ← hoff]
  rw [← hn] at hb hsz
  have HN := Lib.hid hn
  have HF := Lib.hid hoff
  have HR := Lib.hid h
  clear hn hoff h
  go_enter Try.func62, Try.ntmps62
  go_wp2_with fail
  go_loopw [6] (fun vi wr => ∃ (i : Nat) (dk : Array Int), vi = .int .i64 i ∧ a < i ∧ i ≤ b + 1 ∧ Hid (dk.size = n) ∧ Hid (SR w0 wr g pf sp dk) ∧ Hid (insOuter ltInt a b i dk = insOuter ltInt a b (a + 1) d)) (fun vi _ => b + 1 - (intOf vi).toNat)
  case atStart => exact ⟨a + 1, d, by go_num, by omega, by omega, HN.out.symm, HR, rfl⟩
  case round =>
    obtain ⟨i, dk, rfl, hai, hib, HK, HS, HO⟩ := hrel
    by_cases hlt : i < b
    · have hltI : (i : Int) < b := by omega
      obtain ⟨wo, hwo⟩ : ∃ x, x = wr := ⟨_, rfl⟩
      subst hwo
      go_wp2_with fail
      go_loopw [7] (fun vj wx => ∃ (j : Nat) (dj : Array Int), vj = .int .i64 j ∧ a ≤ j ∧ j ≤ i ∧ Hid (dj.size = n) ∧ Hid (SR w0 wx g pf sp dj) ∧ Hid (insInner ltInt a j dj = insInner ltInt a i dk)) (fun vj _ => (intOf vj).toNat)
      case atStart => exact ⟨i, dk, rfl, by omega, Nat.le_refl _, HK, HS, rfl⟩
      case round =>
        obtain ⟨j, dj, rfl, haj, hji, HKj, HSj, HI⟩ := hrel
        obtain ⟨G, hG⟩ : ∃ G : Nat → Int, ∀ t, G t = dj[t]! := ⟨fun t => dj[t]!, fun _ => rfl⟩
        have hcw : ∀ t, t < n → wr.cell? ⟨g, off + t, none⟩ = some (.int .i32 (G t)) := fun t ht => by rw [hG, HF.out]; exact HSj.out.cell t (by rw [HKj.out]; exact ht)
        have hfw : ∀ t, t < n → wr.frozen? ⟨g, off + t, none⟩ = false := fun t ht => by rw [HF.out]; exact HSj.out.fr t (by rw [HKj.out]; exact ht)
        have HG := Lib.hid hG
        clear hG
        have OUT : Hid ((j ≤ a ∨ ltInt dj[j]! dj[j - 1]! = false) → insOuter ltInt a b (i + 1) dj = insOuter ltInt a b (a + 1) d) := by
          have h1 : (j ≤ a ∨ ltInt dj[j]! dj[j - 1]! = false) → insOuter ltInt a b (i + 1) dj = insOuter ltInt a b (a + 1) d := fun hs => by
            have h2 : insOuter ltInt a b i dk = insOuter ltInt a b (i + 1) (insInner ltInt a i dk) := by rw [insOuter, if_pos hlt]
            rw [← HO.out, h2, ← HI.out, ins_stop _ _ _ hs]
          exact Lib.hid h1
        by_cases hja : a < j
        · have hjaI : (a : Int) < j := by omega
          go_wp2_with fail
          go_quiet (first | (go_at_call 68; refine Calls.quiet_of_same (less_any _ _ _)))
          go_wp2
          · have hl : ltInt (G j) (G (j - 1)) = true := by assumption
            go_region
            all_goals go_wp2
            go_roundw
            case rel =>
              refine ⟨j - 1, swp dj j (j - 1), by congr 1; omega, by omega, by omega, Lib.hid (by rw [size_swp]; exact HKj.out), ?_, Lib.hid (by rw [← HI.out, ins_go a j dj hja (by rw [← HG.out, ← HG.out]; exact hl)])⟩
              exact HSj.out.swapG _ HF.out HKj.out (by omega) (by omega) HG.out
            case measure => simp [intOf]; omega
          · have hl : ltInt (G j) (G (j - 1)) = false := by assumption
            go_roundw
            case rel => exact ⟨i + 1, dj, by go_num, by omega, by omega, HKj, Lib.hid (HSj.out.drew _), Lib.hid (OUT.out (.inr (by rw [← HG.out, ← HG.out]; exact hl)))⟩
            case measure => simp [intOf]; omega
        · have hjaI : ¬ (a : Int) < j := by omega
          go_wp2_with fail
          go_quiet (first | (go_at_call 68; refine Calls.quiet_of_same (less_any _ _ _)))
          go_wp2
          go_roundw
          case rel => exact ⟨i + 1, dj, by go_num, by omega, by omega, HKj, Lib.hid (HSj.out.drew _), Lib.hid (OUT.out (.inl (by omega)))⟩
          case measure => simp [intOf]; omega
    · have hltI : ¬ (i : Int) < b := by omega
      go_wp2_with fail
      go_end0
      refine ⟨rfl, ?_⟩
      unfold insertionSort
      rw [← HO.out, insOuter, if_neg hlt]
      exact HS.out

end Go.Proofs.Ytfjckdjnnbpcnaa.So

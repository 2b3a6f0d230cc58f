import Derived.Test.YtagbeioooohbgaaGreatDoorZQ
import Derived.Test.YtagbeioooohbgaaGreatDoorZM
section
namespace Go.Proofs.YtagbeioooohbgaaGreatDoor.So
open Go.RowKit Go.Sort Tr
variable {w0 w : World} {g : Nat} {pf sp : List Value} {d : Array Int}

/-! breakPatterns: some swaps within the part: which ones is left open. -/
theorem SR.other (h : SR w0 w g pf sp d) {w2 : World} {B : Nat} (hm : Mv (· = B) (· = B) w w2) (hB : w0.heap.size ≤ B) (hg : g ≠ B) : SR w0 w2 g pf sp d :=
  ⟨⟨(hm.keep g h.lt hg).trans h.blk.blk⟩, hm.os.trans h.mv.os, hm.tape.trans h.mv.tape, hm.output.trans h.mv.output, Nat.le_trans h.mv.size hm.size,
   fun k hk hF => (hm.keep k (Nat.lt_of_lt_of_le hk h.mv.size) (fun e => by subst e; omega)).trans (h.mv.keep k hk hF), h.mv.fp⟩
theorem Bk.oth {w : World} {X Y o : Nat} {cs : List Value} {t : TypeId} (h : Bk w X cs t) (hne : X ≠ Y) (v : Value) : Bk (w.setCell ⟨Y, o, none⟩ v) X cs t := ⟨(Below.heap_setCell _ _ _ _ hne).trans h.blk⟩
set_option maxHeartbeats 4000000 in
set_option maxRecDepth 100000 in
theorem brk_any (cap a b : Nat) (h : SR w0 w g pf sp d) (hab : a + 12 < b) (hb : b ≤ d.size) (hsz : d.size ≤ 100000) :
    Calls Tryz.prog 109 #[.slice (some ⟨g, pf.length, none⟩) d.size cap, .int .i64 a, .int .i64 b] w fun e w' => e = .returned (.tuple #[]) ∧ ∃ d', PermIn a b d d' ∧ SR w0 w' g pf sp d' := by
  obtain ⟨n, hn⟩ : ∃ n, n = d.size := ⟨_, rfl⟩
  obtain ⟨off, hoff⟩ : ∃ off, off = pf.length := ⟨_, rfl⟩
  rw [← hn, ← hoff]
  rw [← hn] at hb hsz
  have HN := Lib.hid hn
  have HF := Lib.hid hoff
  have hB0 := h.mv.size
  have hgB := h.lt
  obtain ⟨wA, hwA⟩ : ∃ x, x = w.alloc (.cells #[.int .u64 ((b - a : Nat) : Int)] 187) := ⟨_, rfl⟩
  have hBA : Bk wA w.heap.size [.int .u64 ((b - a : Nat) : Int)] 187 := by rw [hwA]; exact ⟨heap_alloc_new w _⟩
  have hRA : SR w0 wA g pf sp d := h.grow (by rw [hwA]; exact (Below.refl _ w).alloc (Nat.le_refl _) _)
  obtain ⟨B, hBe⟩ : ∃ B, B = w.heap.size := ⟨_, rfl⟩
  rw [← hBe] at hB0 hgB hBA
  obtain ⟨l, hl⟩ : ∃ l, l = b - a := ⟨_, rfl⟩
  have hlI : (b : Int) - a = l := by omega
  have hlN : b - a = l := hl.symm
  rw [hlN] at hBA hwA
  have hl8 : (8 : Int) ≤ l := by omega
  obtain ⟨q4, hq4⟩ : ∃ q, q = l / 4 := ⟨_, rfl⟩
  have hq4I : (l : Int) / 4 = q4 := by omega
  obtain ⟨s, hs⟩ : ∃ s, s = a + q4 * 2 - 1 := ⟨_, rfl⟩
  have hsI : (a : Int) + q4 * 2 - 1 = s := by omega
  have hsJ : (a : Int) + q4 * 2 + 1 = ((s + 2 : Nat) : Int) := by omega
  have hsa : a ≤ s ∧ s + 2 < b := by omega
  obtain ⟨hsa1, hsa2⟩ := hsa
  have hal : a + l = b := by omega
  have hl13 : 13 ≤ l := by omega
  have HBA := Lib.hid hBA
  have HRA := Lib.hid hRA
  have HH := Lib.hid (And.intro hB0 hgB)
  clear hn hoff h hl hq4 hs hBA hRA hB0 hgB
  go_enter Tryz.func109, Tryz.ntmps109
  go_wp2_with (go_at_call 139; refine (pow_any l _ (by omega) (by omega)).mono ?_; rintro e w' ⟨m, rfl, hm1, hm2, rfl⟩)
  rw [← hBe, ← hwA]
  clear hwA hBe
  go_loopw [9] (fun vi wr => ∃ (i : Nat) (r : Int) (dk : Array Int), vi = .int .i64 i ∧ s ≤ i ∧ i ≤ s + 3 ∧ Hid (dk.size = n ∧ PermIn a b d dk) ∧ Hid (SR w0 wr g pf sp dk) ∧ Hid (Bk wr B [.int .u64 r] 187)) (fun vi _ => s + 3 - (intOf vi).toNat)
  case atStart => exact ⟨s, l, d, rfl, Nat.le_refl _, by omega, Lib.hid ⟨HN.out.symm, permIn_refl _ _ _⟩, HRA, HBA⟩
  case round =>
    obtain ⟨i, r, dk, rfl, hsi, his, HP, HS, HB⟩ := hrel
    by_cases hlt : i ≤ s + 2
    · have hltI : (i : Int) ≤ ((s + 2 : Nat) : Int) := by omega
      obtain ⟨m1, hm1e⟩ : ∃ m1, m1 = m - 1 := ⟨_, rfl⟩
      have hm1I : (m : Int) - 1 = m1 := by omega
      have hm1l : m1 < 2 * l := by omega
      clear hm1e
      go_wp2_with (go_at_call 140; refine (next_any _ _ _ HB.out).mono ?_; rintro e w' ⟨r', rfl, hB', hM'⟩; obtain ⟨q, hq, hqm⟩ := and_bound r' m1 (by omega))
      · have hql : l ≤ q := by omega
        obtain ⟨p, hp⟩ : ∃ p, p = q - l := ⟨_, rfl⟩
        have hpI : (q : Int) - l = p := by omega
        have hpl : p < l := by omega
        have hpN : q - l = p := hp.symm
        clear hp
        have HS2 := Lib.hid (HS.out.other hM' HH.out.1 (by have := HH.out.2; omega))
        have HB2 := Lib.hid hB'
        clear hB' hM'
        obtain ⟨x, hx⟩ : ∃ x, x = a + p := ⟨_, rfl⟩
        have hxI : (a : Int) + p = x := by omega
        have hxn : x < n := by omega
        have hax : a ≤ x ∧ x < b := by omega
        clear hx
        have hin : i < n := by omega
        obtain ⟨G, hG⟩ : ∃ G : Nat → Int, ∀ t, G t = dk[t]! := ⟨fun t => dk[t]!, fun _ => rfl⟩
        have hcw : ∀ t, t < n → w'.cell? ⟨g, off + t, none⟩ = some (.int .i32 (G t)) := fun t ht => by rw [hG, HF.out]; exact HS2.out.cell t (by rw [HP.out.1]; exact ht)
        have hfw : ∀ t, t < n → w'.frozen? ⟨g, off + t, none⟩ = false := fun t ht => by rw [HF.out]; exact HS2.out.fr t (by rw [HP.out.1]; exact ht)
        have HG := Lib.hid hG
        clear hG
        obtain ⟨U, hU⟩ := set_some (q := off + x) (hcw x hxn) (off + i) (.int .i32 (G x))
        have HPM : Hid (PermIn a b d (swp dk i x)) := Lib.hid (permIn_trans _ _ _ _ _ HP.out.2 (swp_permIn _ _ _ _ _ (by omega) (by omega) hax.1 hax.2 (by rw [HP.out.1]; exact hb)))
        have hBg : B ≠ g := by have := HH.out.2; omega
        go_wp2_with fail
        go_region
        all_goals
          go_wp2_with fail
          go_roundw
          case measure => simp [intOf]; omega
          case rel => exact ⟨i + 1, r', swp dk i x, by go_num, by omega, by omega, Lib.hid ⟨by rw [size_swp]; exact HP.out.1, HPM.out⟩, HS2.out.swapG _ HF.out HP.out.1 hin hxn HG.out, Lib.hid (Bk.oth (Bk.oth (HB2.out.drew _) hBg _) hBg _)⟩
      · have hql : q < l := by omega
        have HS2 := Lib.hid (HS.out.other hM' HH.out.1 (by have := HH.out.2; omega))
        have HB2 := Lib.hid hB'
        clear hB' hM'
        obtain ⟨x, hx⟩ : ∃ x, x = a + q := ⟨_, rfl⟩
        have hxI : (a : Int) + q = x := by omega
        have hxn : x < n := by omega
        have hax : a ≤ x ∧ x < b := by omega
        clear hx
        have hin : i < n := by omega
        obtain ⟨G, hG⟩ : ∃ G : Nat → Int, ∀ t, G t = dk[t]! := ⟨fun t => dk[t]!, fun _ => rfl⟩
        have hcw : ∀ t, t < n → w'.cell? ⟨g, off + t, none⟩ = some (.int .i32 (G t)) := fun t ht => by rw [hG, HF.out]; exact HS2.out.cell t (by rw [HP.out.1]; exact ht)
        have hfw : ∀ t, t < n → w'.frozen? ⟨g, off + t, none⟩ = false := fun t ht => by rw [HF.out]; exact HS2.out.fr t (by rw [HP.out.1]; exact ht)
        have HG := Lib.hid hG
        clear hG
        obtain ⟨U, hU⟩ := set_some (q := off + x) (hcw x hxn) (off + i) (.int .i32 (G x))
        have HPM : Hid (PermIn a b d (swp dk i x)) := Lib.hid (permIn_trans _ _ _ _ _ HP.out.2 (swp_permIn _ _ _ _ _ (by omega) (by omega) hax.1 hax.2 (by rw [HP.out.1]; exact hb)))
        have hBg : B ≠ g := by have := HH.out.2; omega
        go_wp2_with fail
        go_region
        all_goals
          go_wp2_with fail
          go_roundw
          case measure => simp [intOf]; omega
          case rel => exact ⟨i + 1, r', swp dk i x, by go_num, by omega, by omega, Lib.hid ⟨by rw [size_swp]; exact HP.out.1, HPM.out⟩, HS2.out.swapG _ HF.out HP.out.1 hin hxn HG.out, Lib.hid (Bk.oth (Bk.oth (HB2.out.drew _) hBg _) hBg _)⟩
    · have hltI : ¬ (i : Int) ≤ ((s + 2 : Nat) : Int) := by omega
      go_wp2_with fail
      go_end0
      exact ⟨rfl, dk, HP.out.2, HS.out⟩

end Go.Proofs.YtagbeioooohbgaaGreatDoor.So
end
section
namespace Go.Proofs.YtagbeioooohbgaaGreatDoor.So
open Go.RowKit Go.Sort Tr

/-! pdqsort, whole. -/
theorem brk_ok : BrkOk := fun _ _ _ _ _ _ cap a b h hab hb hsz => brk_any cap a b h hab hb hsz
theorem pdq_all : ∀ (m : Nat) (w0 w : World) (g : Nat) (pf sp : List Value) (d : Array Int) (cap a b : Nat) (lim : Int), SR w0 w g pf sp d → a ≤ b → b ≤ d.size → d.size ≤ 100000 → Go.Sort.Below ltInt a b d → 0 ≤ lim → lim ≤ 100 → b - a < m →
    Calls Tryz.prog 88 #[.slice (some ⟨g, pf.length, none⟩) d.size cap, .int .i64 a, .int .i64 b, .int .i64 lim] w (PdqE w0 g pf sp a b d)
  | 0 => fun _ _ _ _ _ _ _ _ _ _ _ _ _ _ _ _ _ h => absurd h (by omega)
  | m + 1 => fun _ _ _ _ _ _ cap a b lim h hab hb hsz hB hl0 hl1 hm => pdq_step brk_ok m (pdq_all m) cap a b lim h hab hb hsz hB hl0 hl1 (by omega)

end Go.Proofs.YtagbeioooohbgaaGreatDoor.So
end

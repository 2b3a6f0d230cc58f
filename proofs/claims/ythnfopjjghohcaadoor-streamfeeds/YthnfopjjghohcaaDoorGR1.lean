import Derived.Test.YthnfopjjghohcaaDoorSD
import Derived.Test.YthnfopjjghohcaaDoorWTr
import Derived.Test.YthnfopjjghohcaaDoorGU4
import Derived.Test.YthnfopjjghohcaaDoorGW1
namespace Go.Proofs.YthnfopjjghohcaaDoor.St
open Go.RowKit

/-- A kind's mark, as a string. -/
def mkS (k : Nat) : ByteArray := strB (Dg.mkL k)
theorem mkL_B (k : Nat) : allB (Dg.mkL k) := by
  unfold Dg.mkL allB
  split
  · decide
  split
  · decide
  split
  · decide
  split
  · decide
  split <;> decide
theorem mkS_bs (k : Nat) : bs (mkS k) = Dg.mkL k := bs_strB _ (mkL_B k)
theorem mkS_size (k : Nat) : (mkS k).size ≤ 4 := by
  rw [← bs_len, mkS_bs]
  unfold Dg.mkL
  split
  · decide
  split
  · decide
  split
  · decide
  split
  · decide
  split <;> decide
def ord (i : Nat) : Nat := if i = 0 then 5 else if i = 1 then 3 else if i = 2 then 4 else if i = 3 then 1 else 2
theorem ord_bd (i : Nat) (_h : i < 5) : 1 ≤ ord i ∧ ord i ≤ 5 := by unfold ord; split; omega; split; omega; split; omega; split <;> omega
set_option maxRecDepth 100000 in
set_option maxHeartbeats 1000000 in
theorem mark5 (w : World) : Calls Tryd.prog 35 #[.int .i64 5] w fun e w' => e = .returned (.string (mkS 5)) ∧ Below w.heap.size w w' := by
  have HB := Lib.hid (U8.rbytes_any 65279 w (by decide))
  rw [show strOfNums (U8.byI 65279) = mkS 5 from by unfold mkS strB; congr 1] at HB
  generalize mkS 5 = m at *
  go_enter Tryd.func35, Tryd.ntmps35
  go_wp2_with (go_at_call 48; refine HB.out.mono ?_; rintro e w1 ⟨rfl, hb⟩; have B1 := Lib.hid hb; clear hb)
  go_ret
  exact ⟨rfl, B1.out⟩
set_option maxRecDepth 100000 in
set_option maxHeartbeats 1000000 in
theorem markW (k : Nat) (w : World) (h1 : 1 ≤ k) (h4 : k ≤ 4) : Calls Tryd.prog 35 #[.int .i64 (k : Int)] w fun e w' => e = .returned (.string (mkS k)) ∧ Below w.heap.size w w' := by
  have HB := Lib.hid (Wd.rbytes_any k 65279 w h1 h4 (by decide))
  rw [show Wd.chB k 65279 = Dg.mkL k from by
    have hk : k = 1 ∨ k = 2 ∨ k = 3 ∨ k = 4 := by omega
    rcases hk with rfl | rfl | rfl | rfl <;> decide, show strB (Dg.mkL k) = mkS k from rfl] at HB
  generalize mkS k = m at *
  have hk : ((k : Int) == 5) = false := by simp; omega
  go_enter Tryd.func35, Tryd.ntmps35
  go_wp2_with (go_at_call 49; refine HB.out.mono ?_; rintro e w1 ⟨rfl, hb⟩; have B1 := Lib.hid hb; clear hb)
  go_ret
  exact ⟨rfl, B1.out⟩
theorem mark_r (k : Nat) (w : World) (h1 : 1 ≤ k) (h5 : k ≤ 5) : Calls Tryd.prog 35 #[.int .i64 (k : Int)] w fun e w' => e = .returned (.string (mkS k)) ∧ Below w.heap.size w w' := by
  by_cases h : k = 5
  · subst h; exact mark5 w
  · exact markW k w h1 (by omega)
theorem order_any (i : Nat) (w : World) (h : i < 5) : Calls Tryd.prog 36 #[.int .i64 (i : Int)] w fun e w' => e = .returned (.int .i64 (ord i : Int)) ∧ Below w.heap.size w w' := by
  have hi : i = 0 ∨ i = 1 ∨ i = 2 ∨ i = 3 ∨ i = 4 := by omega
  rcases hi with rfl | rfl | rfl | rfl | rfl
  · go_enter Tryd.func36, Tryd.ntmps36
    go_wp2
    go_ret
    exact ⟨rfl, (Below.refl _ _).alloc (Nat.le_refl _) _⟩
  · go_enter Tryd.func36, Tryd.ntmps36
    go_wp2
    go_ret
    exact ⟨rfl, (Below.refl _ _).alloc (Nat.le_refl _) _⟩
  · go_enter Tryd.func36, Tryd.ntmps36
    go_wp2
    go_ret
    exact ⟨rfl, (Below.refl _ _).alloc (Nat.le_refl _) _⟩
  · go_enter Tryd.func36, Tryd.ntmps36
    go_wp2
    go_ret
    exact ⟨rfl, (Below.refl _ _).alloc (Nat.le_refl _) _⟩
  · go_enter Tryd.func36, Tryd.ntmps36
    go_wp2
    go_ret
    exact ⟨rfl, (Below.refl _ _).alloc (Nat.le_refl _) _⟩
def any5p (f : Nat → Bool) : Bool := f 5 || f 3 || f 4 || f 1 || f 2
theorem any5 (f : Nat → Bool) (j : Nat) (h : j < 5) (hf : f (ord j) = true) : any5p f = true := by
  have hj : j = 0 ∨ j = 1 ∨ j = 2 ∨ j = 3 ∨ j = 4 := by omega
  unfold any5p
  rcases hj with rfl | rfl | rfl | rfl | rfl <;> simp [ord] at hf <;> simp [hf]
theorem none5 (f : Nat → Bool) (h : ∀ q, q < 5 → f (ord q) = false) : any5p f = false := by
  have h0 := h 0 (by omega)
  have h1 := h 1 (by omega)
  have h2 := h 2 (by omega)
  have h3 := h 3 (by omega)
  have h4 := h 4 (by omega)
  simp [ord] at h0 h1 h2 h3 h4
  simp [any5p, h0, h1, h2, h3, h4]
theorem und_any (s : ByteArray) (h : s.size < 4) (hm : s ≠ m8) : Dg.und (bs s) = any5p (fun k => Dg.pf (bs s) (Dg.mkL k)) := by
  rw [und_go s h hm]
  unfold mkP any5p
  dsimp only
  cases Dg.pf (bs s) (Dg.mkL 1) <;> cases Dg.pf (bs s) (Dg.mkL 2) <;> cases Dg.pf (bs s) (Dg.mkL 3) <;> cases Dg.pf (bs s) (Dg.mkL 4) <;> cases Dg.pf (bs s) (Dg.mkL 5) <;> rfl
theorem m8_mk : mkS 5 = m8 := bs_inj (by rw [mkS_bs, m8_bs])
theorem m8_ne {s : ByteArray} (h : s ≠ m8) : (s.toList == m8.toList) = false := by
  simp only [beq_eq_false_iff_ne, ne_eq]
  intro he
  apply h
  apply ByteArray.ext
  apply Array.toList_inj.1
  rw [← Lib.toList_data, ← Lib.toList_data, he]
set_option maxRecDepth 100000 in
set_option maxHeartbeats 1000000 in
theorem und1 (s : ByteArray) (w : World) (h : 4 ≤ s.size) :
    Calls Tryd.prog 24 #[.string s] w fun e w' => e = .returned (.bool (Dg.und (bs s))) ∧ Below w.heap.size w w' := by
  have h' : (4 : Int) ≤ s.size := by omega
  rw [und_big s h]
  go_enter Tryd.func24, Tryd.ntmps24
  go_wp2
  go_ret
  exact ⟨rfl, Below.refl _ _⟩
set_option maxRecDepth 100000 in
set_option maxHeartbeats 1000000 in
theorem und2 (w : World) :
    Calls Tryd.prog 24 #[.string m8] w fun e w' => e = .returned (.bool (Dg.und (bs m8))) ∧ Below w.heap.size w w' := by
  rw [und_m8]
  have hz : m8.size = 3 := rfl
  have HM := Lib.hid (mark5 w)
  rw [m8_mk] at HM
  generalize m8 = m at *
  have h4 : ¬ (4 : Int) ≤ m.size := by omega
  have h3 : ((m.size : Int) == 3) = true := by simp; omega
  have he : (m.toList == m.toList) = true := by simp
  go_enter Tryd.func24, Tryd.ntmps24
  go_wp2_with (go_at_call 35; refine HM.out.mono ?_; rintro e w1 ⟨rfl, hb⟩; have B1 := Lib.hid hb; clear hb)
  go_ret
  exact ⟨rfl, B1.out⟩
set_option maxRecDepth 100000 in
set_option maxHeartbeats 2000000 in
theorem und3 (s : ByteArray) (w : World) (h : s.size < 3) (hm : s ≠ m8) :
    Calls Tryd.prog 24 #[.string s] w fun e w' => e = .returned (.bool (Dg.und (bs s))) ∧ Below w.heap.size w w' := by
  have h4 : ¬ (4 : Int) ≤ s.size := by omega
  have h3 : ((s.size : Int) == 3) = false := by simp; omega
  have HU := Lib.hid (und_any s (by omega) hm)
  clear hm
  go_enter Tryd.func24, Tryd.ntmps24
  go_wp2_with fail
  go_loopw [3] (fun i wr => ∃ j : Nat, i = .int .i64 j ∧ j ≤ 5 ∧ Hid (Below w.heap.size w wr ∧ ∀ q, q < j → Dg.pf (bs s) (Dg.mkL (ord q)) = false)) (fun i _ => 5 - (intOf i).toNat)
  case atStart => exact ⟨0, rfl, by omega, Below.refl _ _, fun q h => by omega⟩
  case round =>
    obtain ⟨j, rfl, h5, HB⟩ := hrel
    have hz := HB.out.1.size
    by_cases h4 : j < 5
    · have h4' : (j : Int) < 5 := by omega
      have HOj := Lib.hid (fun W => order_any j W h4)
      have HMj := Lib.hid (fun W => mark_r (ord j) W (ord_bd j h4).1 (ord_bd j h4).2)
      have hpm := preB_pf (mkS (ord j)) s
      rw [mkS_bs] at hpm
      have hmz := mkS_size (ord j)
      generalize mkS (ord j) = m at *
      by_cases hsz : s.size ≤ m.size
      · have hsz' : (s.size : Int) ≤ m.size := by omega
        have hzz : (0 : Int) ≤ s.size := by omega
        unfold Wd.preB at hpm
        rw [show decide (s.size ≤ m.size) = true by simpa using hsz, Bool.true_and] at hpm
        rcases (Bool.eq_false_or_eq_true ((m.extract 0 s.size).toList == s.toList)).symm with hb | hb
        · rw [hb] at hpm
          have HF := Lib.hid hpm
          clear hpm
          go_wp2_with (first
            | (go_at_call 36; refine (HOj.out _).mono ?_; rintro e w1 ⟨rfl, hb1⟩; have B1 := Lib.hid hb1; have z1 := hb1.size; clear hb1)
            | (go_at_call 35; refine (HMj.out _).mono ?_; rintro e w2 ⟨rfl, hb2⟩; have B2 := Lib.hid hb2; clear hb2))
          go_roundw
          case rel => exact ⟨j + 1, by go_num, by omega, HB.out.1.trans ((B1.out.trans (B2.out.mono z1)).mono hz), fun q g2 => by
            by_cases hq : q = j
            · rw [hq]; exact HF.out.symm
            · exact HB.out.2 q (by omega)⟩
          case measure => simp [intOf]; omega
        · rw [hb] at hpm
          have HF := Lib.hid hpm
          clear hpm
          go_wp2_with (first
            | (go_at_call 36; refine (HOj.out _).mono ?_; rintro e w1 ⟨rfl, hb1⟩; have B1 := Lib.hid hb1; have z1 := hb1.size; clear hb1)
            | (go_at_call 35; refine (HMj.out _).mono ?_; rintro e w2 ⟨rfl, hb2⟩; have B2 := Lib.hid hb2; clear hb2))
          go_ret
          refine ⟨ret_bool ?_, HB.out.1.trans ((B1.out.trans (B2.out.mono z1)).mono hz)⟩
          rw [HU.out]
          exact (any5 _ j h4 HF.out.symm).symm
      · have hsz' : ¬ (s.size : Int) ≤ m.size := by omega
        unfold Wd.preB at hpm
        rw [show decide (s.size ≤ m.size) = false by simpa using hsz, Bool.false_and] at hpm
        have HF := Lib.hid hpm
        clear hpm
        go_wp2_with (first
          | (go_at_call 36; refine (HOj.out _).mono ?_; rintro e w1 ⟨rfl, hb1⟩; have B1 := Lib.hid hb1; have z1 := hb1.size; clear hb1)
          | (go_at_call 35; refine (HMj.out _).mono ?_; rintro e w2 ⟨rfl, hb2⟩; have B2 := Lib.hid hb2; clear hb2))
        go_roundw
        case rel => exact ⟨j + 1, by go_num, by omega, HB.out.1.trans ((B1.out.trans (B2.out.mono z1)).mono hz), fun q g2 => by
          by_cases hq : q = j
          · rw [hq]; exact HF.out.symm
          · exact HB.out.2 q (by omega)⟩
        case measure => simp [intOf]; omega
    · have h4' : ¬ (j : Int) < 5 := by omega
      go_wp2
      go_ret
      refine ⟨ret_bool ?_, HB.out.1⟩
      rw [HU.out]
      exact (none5 _ (fun q hq => HB.out.2 q (by omega))).symm
set_option maxRecDepth 100000 in
set_option maxHeartbeats 2000000 in
theorem und4 (s : ByteArray) (w : World) (h : s.size = 3) (hm : s ≠ m8) :
    Calls Tryd.prog 24 #[.string s] w fun e w' => e = .returned (.bool (Dg.und (bs s))) ∧ Below w.heap.size w w' := by
  have h4 : ¬ (4 : Int) ≤ s.size := by omega
  have h3 : ((s.size : Int) == 3) = true := by simp; omega
  have HU := Lib.hid (und_any s (by omega) hm)
  have HM := Lib.hid (mark5 w)
  rw [m8_mk] at HM
  have hne := m8_ne hm
  clear hm
  generalize m8 = m0 at *
  go_enter Tryd.func24, Tryd.ntmps24
  go_wp2_with (go_at_call 35; refine HM.out.mono ?_; rintro e w0 ⟨rfl, hb⟩; have B0 := Lib.hid hb; clear hb)
  go_loopw [3] (fun i wr => ∃ j : Nat, i = .int .i64 j ∧ j ≤ 5 ∧ Hid (Below w.heap.size w wr ∧ ∀ q, q < j → Dg.pf (bs s) (Dg.mkL (ord q)) = false)) (fun i _ => 5 - (intOf i).toNat)
  case atStart => exact ⟨0, rfl, by omega, B0.out, fun q h => by omega⟩
  case round =>
    obtain ⟨j, rfl, h5, HB⟩ := hrel
    have hz := HB.out.1.size
    by_cases h4 : j < 5
    · have h4' : (j : Int) < 5 := by omega
      have HOj := Lib.hid (fun W => order_any j W h4)
      have HMj := Lib.hid (fun W => mark_r (ord j) W (ord_bd j h4).1 (ord_bd j h4).2)
      have hpm := preB_pf (mkS (ord j)) s
      rw [mkS_bs] at hpm
      have hmz := mkS_size (ord j)
      generalize mkS (ord j) = m at *
      by_cases hsz : 3 ≤ m.size
      · have hsz' : (3 : Int) ≤ m.size := by omega
        have hzz : (0 : Int) ≤ 3 := by omega
        unfold Wd.preB at hpm; rw [h] at hpm
        rw [show decide (3 ≤ m.size) = true by simpa using hsz, Bool.true_and] at hpm
        rcases (Bool.eq_false_or_eq_true ((m.extract 0 3).toList == s.toList)).symm with hb | hb
        · rw [hb] at hpm
          have HF := Lib.hid hpm
          clear hpm
          go_wp2_with (first
            | (go_at_call 36; refine (HOj.out _).mono ?_; rintro e w1 ⟨rfl, hb1⟩; have B1 := Lib.hid hb1; have z1 := hb1.size; clear hb1)
            | (go_at_call 35; refine (HMj.out _).mono ?_; rintro e w2 ⟨rfl, hb2⟩; have B2 := Lib.hid hb2; clear hb2))
          go_roundw
          case rel => exact ⟨j + 1, by go_num, by omega, HB.out.1.trans ((B1.out.trans (B2.out.mono z1)).mono hz), fun q g2 => by
            by_cases hq : q = j
            · rw [hq]; exact HF.out.symm
            · exact HB.out.2 q (by omega)⟩
          case measure => simp [intOf]; omega
        · rw [hb] at hpm
          have HF := Lib.hid hpm
          clear hpm
          go_wp2_with (first
            | (go_at_call 36; refine (HOj.out _).mono ?_; rintro e w1 ⟨rfl, hb1⟩; have B1 := Lib.hid hb1; have z1 := hb1.size; clear hb1)
            | (go_at_call 35; refine (HMj.out _).mono ?_; rintro e w2 ⟨rfl, hb2⟩; have B2 := Lib.hid hb2; clear hb2))
          go_ret
          refine ⟨ret_bool ?_, HB.out.1.trans ((B1.out.trans (B2.out.mono z1)).mono hz)⟩
          rw [HU.out]
          exact (any5 _ j h4 HF.out.symm).symm
      · have hsz' : ¬ (3 : Int) ≤ m.size := by omega
        unfold Wd.preB at hpm; rw [h] at hpm
        rw [show decide (3 ≤ m.size) = false by simpa using hsz, Bool.false_and] at hpm
        have HF := Lib.hid hpm
        clear hpm
        go_wp2_with (first
          | (go_at_call 36; refine (HOj.out _).mono ?_; rintro e w1 ⟨rfl, hb1⟩; have B1 := Lib.hid hb1; have z1 := hb1.size; clear hb1)
          | (go_at_call 35; refine (HMj.out _).mono ?_; rintro e w2 ⟨rfl, hb2⟩; have B2 := Lib.hid hb2; clear hb2))
        go_roundw
        case rel => exact ⟨j + 1, by go_num, by omega, HB.out.1.trans ((B1.out.trans (B2.out.mono z1)).mono hz), fun q g2 => by
          by_cases hq : q = j
          · rw [hq]; exact HF.out.symm
          · exact HB.out.2 q (by omega)⟩
        case measure => simp [intOf]; omega
    · have h4' : ¬ (j : Int) < 5 := by omega
      go_wp2
      go_ret
      refine ⟨ret_bool ?_, HB.out.1⟩
      rw [HU.out]
      exact (none5 _ (fun q hq => HB.out.2 q (by omega))).symm
theorem undecided_any (s : ByteArray) (w : World) :
    Calls Tryd.prog 24 #[.string s] w fun e w' => e = .returned (.bool (Dg.und (bs s))) ∧ Below w.heap.size w w' := by
  by_cases h : 4 ≤ s.size
  · exact und1 s w h
  · by_cases hm : s = m8
    · subst hm
      exact und2 w
    · by_cases h3 : s.size = 3
      · exact und4 s w h3 hm
      · exact und3 s w (by omega) hm
end Go.Proofs.YthnfopjjghohcaaDoor.St
namespace Go.Proofs.YthnfopjjghohcaaDoor.St
open Go.RowKit

theorem gs5_hit (l : List Nat) (j : Nat) (h : j < 5) (hf : Dg.pf (Dg.mkL (ord j)) l = true) (hn : ∀ q, q < j → Dg.pf (Dg.mkL (ord q)) l = false) : Dg.gs5 l = (ord j, (Dg.mkL (ord j)).length) := by
  unfold Dg.gs5
  have hj : j = 0 ∨ j = 1 ∨ j = 2 ∨ j = 3 ∨ j = 4 := by omega
  rcases hj with rfl | rfl | rfl | rfl | rfl
  · rw [if_pos (by simpa [ord] using hf)]; rfl
  · have n0 := hn 0 (by omega)
    simp only [ord] at n0 hf
    simp at n0 hf
    rw [if_neg (by rw [n0]; decide), if_pos hf]
    rfl
  · have n0 := hn 0 (by omega)
    have n1 := hn 1 (by omega)
    simp only [ord] at n0 n1 hf
    simp at n0 n1 hf
    rw [if_neg (by rw [n0]; decide), if_neg (by rw [n1]; decide), if_pos hf]
    rfl
  · have n0 := hn 0 (by omega)
    have n1 := hn 1 (by omega)
    have n2 := hn 2 (by omega)
    simp only [ord] at n0 n1 n2 hf
    simp at n0 n1 n2 hf
    rw [if_neg (by rw [n0]; decide), if_neg (by rw [n1]; decide), if_neg (by rw [n2]; decide), if_pos hf]
    rfl
  · have n0 := hn 0 (by omega)
    have n1 := hn 1 (by omega)
    have n2 := hn 2 (by omega)
    have n3 := hn 3 (by omega)
    simp only [ord] at n0 n1 n2 n3 hf
    simp at n0 n1 n2 n3 hf
    rw [if_neg (by rw [n0]; decide), if_neg (by rw [n1]; decide), if_neg (by rw [n2]; decide), if_neg (by rw [n3]; decide), if_pos hf]
    rfl
theorem gs5_none (l : List Nat) (hn : ∀ q, q < 5 → Dg.pf (Dg.mkL (ord q)) l = false) : Dg.gs5 l = (0, 0) := by
  have n0 := hn 0 (by omega)
  have n1 := hn 1 (by omega)
  have n2 := hn 2 (by omega)
  have n3 := hn 3 (by omega)
  have n4 := hn 4 (by omega)
  simp only [ord] at n0 n1 n2 n3 n4
  simp at n0 n1 n2 n3 n4
  unfold Dg.gs5
  simp [n0, n1, n2, n3, n4]
theorem ret2i {a b c d : Int} (h : a = b) (h' : c = d) : Ending.returned (.tuple #[.int .i64 a, .int .i64 c]) = .returned (.tuple #[.int .i64 b, .int .i64 d]) := by rw [h, h']
set_option maxRecDepth 100000 in
set_option maxHeartbeats 2000000 in
theorem rguess_any (s : ByteArray) (w : World) (_hs : s.size ≤ 100000) :
    Calls Tryd.prog 25 #[.string s] w fun e w' => e = .returned (.tuple #[.int .i64 ((Dg.gs5 (bs s)).1 : Int), .int .i64 ((Dg.gs5 (bs s)).2 : Int)]) ∧ Below w.heap.size w w' := by
  go_enter Tryd.func25, Tryd.ntmps25
  go_wp2_with fail
  go_loopw [4] (fun i wr => ∃ j : Nat, i = .int .i64 j ∧ j ≤ 5 ∧ Hid (Below w.heap.size w wr ∧ ∀ q, q < j → Dg.pf (Dg.mkL (ord q)) (bs s) = false)) (fun i _ => 5 - (intOf i).toNat)
  case atStart => exact ⟨0, rfl, by omega, Below.refl _ _, fun q h => by omega⟩
  case round =>
    obtain ⟨j, rfl, h5, HB⟩ := hrel
    have hz := HB.out.1.size
    by_cases h4 : j < 5
    · have h4' : (j : Int) < 5 := by omega
      have HOj := Lib.hid (fun W => order_any j W h4)
      have HMj := Lib.hid (fun W => mark_r (ord j) W (ord_bd j h4).1 (ord_bd j h4).2)
      have hpm := preB_pf s (mkS (ord j))
      rw [mkS_bs] at hpm
      have hmz := mkS_size (ord j)
      have HLM := Lib.hid (show (mkS (ord j)).size = (Dg.mkL (ord j)).length by rw [← bs_len, mkS_bs])
      generalize mkS (ord j) = m at *
      by_cases hsz : m.size ≤ s.size
      · have hsz' : (m.size : Int) ≤ s.size := by omega
        have hzz : (0 : Int) ≤ m.size := by omega
        unfold Wd.preB at hpm
        rw [show decide (m.size ≤ s.size) = true by simpa using hsz, Bool.true_and] at hpm
        rcases (Bool.eq_false_or_eq_true ((s.extract 0 m.size).toList == m.toList)).symm with hb | hb
        · rw [hb] at hpm
          have HF := Lib.hid hpm
          clear hpm
          go_wp2_with (first
            | (go_at_call 36; refine (HOj.out _).mono ?_; rintro e w1 ⟨rfl, hb1⟩; have B1 := Lib.hid hb1; have z1 := hb1.size; clear hb1)
            | (go_at_call 35; refine (HMj.out _).mono ?_; rintro e w2 ⟨rfl, hb2⟩; have B2 := Lib.hid hb2; clear hb2))
          go_roundw
          case rel => exact ⟨j + 1, by go_num, by omega, HB.out.1.trans ((B1.out.trans (B2.out.mono z1)).mono hz), fun q g2 => by
            by_cases hq : q = j
            · rw [hq]; exact HF.out.symm
            · exact HB.out.2 q (by omega)⟩
          case measure => simp [intOf]; omega
        · rw [hb] at hpm
          have HF := Lib.hid hpm
          clear hpm
          go_wp2_with (first
            | (go_at_call 35; refine (HMj.out _).mono ?_; rintro e w2 ⟨rfl, hb2⟩; have B2 := Lib.hid (B1.out.trans (hb2.mono z1)); have z2 := hb2.size; clear hb2)
            | (go_at_call 36; refine (HOj.out _).mono ?_; rintro e w1 ⟨rfl, hb1⟩; have B1 := Lib.hid (HB.out.1.trans (hb1.mono hz)); have z1 := B1.out.size; clear hb1)
            | (go_at_call 36; refine (HOj.out _).mono ?_; rintro e w3 ⟨rfl, hb3⟩; have B3 := Lib.hid (B2.out.trans (hb3.mono B2.out.size)); clear hb3))
          go_ret2
          have hh := gs5_hit (bs s) j h4 HF.out.symm HB.out.2
          refine ⟨ret2i (by rw [hh]) (by rw [hh, HLM.out]), B3.out⟩
      · have hsz' : ¬ (m.size : Int) ≤ s.size := by omega
        unfold Wd.preB at hpm
        rw [show decide (m.size ≤ s.size) = false by simpa using hsz, Bool.false_and] at hpm
        have HF := Lib.hid hpm
        clear hpm
        go_wp2_with (first
          | (go_at_call 36; refine (HOj.out _).mono ?_; rintro e w1 ⟨rfl, hb1⟩; have B1 := Lib.hid hb1; have z1 := hb1.size; clear hb1)
          | (go_at_call 35; refine (HMj.out _).mono ?_; rintro e w2 ⟨rfl, hb2⟩; have B2 := Lib.hid hb2; clear hb2))
        go_roundw
        case rel => exact ⟨j + 1, by go_num, by omega, HB.out.1.trans ((B1.out.trans (B2.out.mono z1)).mono hz), fun q g2 => by
          by_cases hq : q = j
          · rw [hq]; exact HF.out.symm
          · exact HB.out.2 q (by omega)⟩
        case measure => simp [intOf]; omega
    · have h4' : ¬ (j : Int) < 5 := by omega
      go_wp2
      go_ret2
      have hh := gs5_none (bs s) (fun q hq => HB.out.2 q (by omega))
      exact ⟨ret2i (by rw [hh]; rfl) (by rw [hh]; rfl), HB.out.1⟩
set_option maxRecDepth 100000 in
set_option maxHeartbeats 1000000 in
theorem next_r (k : Nat) (s : ByteArray) (w : World) (h1 : 1 ≤ k) (h5 : k ≤ 5) (hs : s.size ≤ 100000) :
    Calls Tryd.prog 26 #[.int .i64 (k : Int), .string s] w fun e w' => e = .returned (nxV (Dg.nx5 k (bs s))) ∧ w = w' := by
  by_cases h : k = 5
  · subst h
    have HN := Lib.hid (U8.rnext_any s w hs)
    rw [show Dg.nx5 5 (bs s) = U8.nx (bs s) from rfl]
    generalize U8.nx (bs s) = x at *
    go_enter Tryd.func26, Tryd.ntmps26
    go_wp2_with (go_at_call 37; refine HN.out.mono ?_; unfold nxV; rintro e w' ⟨rfl, rfl⟩)
    go_ret3
    exact ⟨rfl, rfl⟩
  · have HN := Lib.hid (Wd.rnext_any k s w h1 (by omega) hs)
    rw [show Dg.nx5 k (bs s) = Wd.nx k (bs s) from by unfold Dg.nx5; rw [if_neg h]]
    generalize Wd.nx k (bs s) = x at *
    have hk : ((k : Int) == 5) = false := by simp; omega
    go_enter Tryd.func26, Tryd.ntmps26
    go_wp2_with (go_at_call 38; refine HN.out.mono ?_; unfold nxV; rintro e w' ⟨rfl, rfl⟩)
    go_ret3
    exact ⟨rfl, rfl⟩
def mayB (k pol : Int) : Bool := decide (1 ≤ k ∧ k ≤ 5 ∧ 1 ≤ pol ∧ pol ≤ 3)
set_option maxHeartbeats 1000000 in
theorem may_r (k pol : Int) (w : World) : Calls Tryd.prog 11 #[.int .i64 k, .int .i64 pol] w fun e w' => e = .returned (.bool (mayB k pol)) ∧ w = w' := by
  unfold mayB
  by_cases h1 : 1 ≤ k
  · by_cases h2 : k ≤ 5
    · by_cases h3 : 1 ≤ pol
      · by_cases h4 : pol ≤ 3
        · go_enter Tryd.func11, Tryd.ntmps11
          go_wp2
          go_ret
          exact ⟨ret_bool (by simp; omega), rfl⟩
        · go_enter Tryd.func11, Tryd.ntmps11
          go_wp2
          go_ret
          exact ⟨ret_bool (by simp; omega), rfl⟩
      · go_enter Tryd.func11, Tryd.ntmps11
        go_wp2
        go_ret
        exact ⟨ret_bool (by simp; omega), rfl⟩
    · go_enter Tryd.func11, Tryd.ntmps11
      go_wp2
      go_ret
      exact ⟨ret_bool (by simp; omega), rfl⟩
  · go_enter Tryd.func11, Tryd.ntmps11
    go_wp2
    go_ret
    exact ⟨ret_bool (by simp; omega), rfl⟩
end Go.Proofs.YthnfopjjghohcaaDoor.St
namespace Go.Proofs.YthnfopjjghohcaaDoor.St
open Go.RowKit

/-- All bytes, or what is sure of them. -/
def X (nx : List Nat → Int × Int × Int) (pb : Bool) (pol : Int) (p : Nat) (l : List Nat) : List Int × List (Nat × Nat) × Int := if pb then Dg.sur nx pol p l else Dg.dec nx pol p l
section
variable {nx : List Nat → Int × Int × Int}
theorem X_nil (pb : Bool) (pol : Int) (p : Nat) : X nx pb pol p [] = ([], [], 0) := by unfold X; split <;> rfl
theorem X_ok (H : Dg.Nx nx) (pb : Bool) (pol : Int) (p : Nat) (l : List Nat) (hl : l ≠ []) (r : Int) (n : Nat) (hx : nx l = (r, (n : Int), 0)) (h1 : 1 ≤ n) : X nx pb pol p l = (r :: (X nx pb pol (p + n) (l.drop n)).1, (X nx pb pol (p + n) (l.drop n)).2) := by
  cases pb
  · exact Dg.dec_ok H pol p l hl r n hx h1
  · exact Dg.sur_ok H pol p l hl r n hx h1
theorem X_bad1 (pb : Bool) (p : Nat) (l : List Nat) (hl : l ≠ []) (r e : Int) (n : Nat) (hx : nx l = (r, (n : Int), e)) (he : e ≠ 0) (h8 : pb = true → e ≠ 18) : X nx pb 1 p l = ([], [(p, n)], 17) := by
  cases pb
  · exact Dg.dec_bad1 p l hl r e n hx he
  · exact Dg.sur_bad1 p l hl r e n hx he (h8 rfl)
theorem X_bad (H : Dg.Nx nx) (pb : Bool) (pol : Int) (hpol : pol ≠ 1) (p : Nat) (l : List Nat) (hl : l ≠ []) (r e : Int) (n : Nat) (hx : nx l = (r, (n : Int), e)) (he : e ≠ 0) (h8 : pb = true → e ≠ 18) (h1 : 1 ≤ n) :
    X nx pb pol p l = ((if pol = 2 then [65533] else []) ++ (X nx pb pol (p + n) (l.drop n)).1, (p, n) :: (X nx pb pol (p + n) (l.drop n)).2.1, (X nx pb pol (p + n) (l.drop n)).2.2) := by
  cases pb
  · exact Dg.dec_bad H pol hpol p l hl r e n hx he h1
  · exact Dg.sur_bad H pol hpol p l hl r e n hx he (h8 rfl) h1
end
/-- What the loop of the reference knows at place k. -/
structure WRel (w wr : World) (out flt : Value) (nx : List Nat → Int × Int × Int) (pb : Bool) (pol : Int) (k ct : Nat) (l : List Nat) (tot : List Int × List (Nat × Nat) × Int) (os : List Int) (fs : List (Nat × Nat)) : Prop where
  bel : Below w.heap.size w wr
  o : wr.ownsRow w.heap.size 21 1 out os.length (i32s os)
  f : wr.ownsRow w.heap.size 50 2 flt fs.length (flts fs)
  lo : os.length ≤ k
  lf : fs.length ≤ k
  tot : tot = (os ++ (X nx pb pol k l).1, fs ++ (X nx pb pol k l).2.1, (X nx pb pol k l).2.2)
  ct : pb = true → ct = k + Dg.scan nx l
theorem WRel.ok {w wr w2 : World} {out flt v2 : Value} {nx : List Nat → Int × Int × Int} {pb : Bool} {pol : Int} {k ct : Nat} {l : List Nat} {tot : List Int × List (Nat × Nat) × Int} {os : List Int} {fs : List (Nat × Nat)} {o : Obj} (H : Dg.Nx nx) (h : WRel w wr out flt nx pb pol k ct l tot os fs)
    (hl : l ≠ []) {r : Int} {n : Nat} (hx : nx l = (r, (n : Int), 0)) (h1 : 1 ≤ n) (ho : w2.ownsRow w.heap.size 21 1 v2 (os.length + 1) (i32s os ++ [.int .i32 r])) (hg : (wr.alloc o).grownBy w2 out.ownBlock) :
    WRel w w2 v2 flt nx pb pol (k + n) ct (l.drop n) tot (os ++ [r]) fs := by
  have ha := h.o.alloc o
  have hbl := h.bel.size
  refine ⟨h.bel.trans (((Below.refl _ _).alloc hbl _).trans (below_grown ha hg (by simp; omega))), by simpa [i32s] using ho, (h.f.alloc o).kept hg (own_apart (h.f.alloc o) ha (by decide)), by simp; have := h.lo; omega, by have := h.lf; omega, ?_, fun hp => ?_⟩
  · rw [h.tot, X_ok H pb pol k l hl r n hx h1]
    simp
  · rw [h.ct hp, Dg.scan_step H l hl r 0 n hx (by decide) h1]
    omega
theorem WRel.flt1 {w wr w2 : World} {out flt v2 : Value} {nx : List Nat → Int × Int × Int} {pb : Bool} {k ct : Nat} {l : List Nat} {tot : List Int × List (Nat × Nat) × Int} {os : List Int} {fs : List (Nat × Nat)} {o : Obj} (h : WRel w wr out flt nx pb 1 k ct l tot os fs)
    (hl : l ≠ []) {r e : Int} {n : Nat} (hx : nx l = (r, (n : Int), e)) (he : e ≠ 0) (h8 : pb = true → e ≠ 18) (ho : w2.ownsRow w.heap.size 50 2 v2 (fs.length + 1) (flts fs ++ [.int .i64 k, .int .i64 n])) (hg : (wr.alloc o).grownBy w2 flt.ownBlock) :
    Below w.heap.size w w2 ∧ w2.ownsRow w.heap.size 21 1 out tot.1.length (i32s tot.1) ∧ w2.ownsRow w.heap.size 50 2 v2 tot.2.1.length (flts tot.2.1) ∧ tot.2.2 = 17 := by
  have ha := h.f.alloc o
  have hbl := h.bel.size
  have ht := h.tot
  rw [X_bad1 pb k l hl r e n hx he h8] at ht
  subst ht
  refine ⟨h.bel.trans (((Below.refl _ _).alloc hbl _).trans (below_grown ha hg (by simp; omega))), ?_, ?_, rfl⟩
  · have := (h.o.alloc o).kept hg (own_apart (h.o.alloc o) ha (by decide))
    simpa using this
  · simpa [flts_app, flts] using ho
theorem WRel.bad3 {w wr w2 : World} {out flt v2 : Value} {nx : List Nat → Int × Int × Int} {pb : Bool} {k ct : Nat} {l : List Nat} {tot : List Int × List (Nat × Nat) × Int} {os : List Int} {fs : List (Nat × Nat)} {o : Obj} (H : Dg.Nx nx) (h : WRel w wr out flt nx pb 3 k ct l tot os fs)
    (hl : l ≠ []) {r e : Int} {n : Nat} (hx : nx l = (r, (n : Int), e)) (he : e ≠ 0) (h8 : pb = true → e ≠ 18) (h1 : 1 ≤ n) (ho : w2.ownsRow w.heap.size 50 2 v2 (fs.length + 1) (flts fs ++ [.int .i64 k, .int .i64 n])) (hg : (wr.alloc o).grownBy w2 flt.ownBlock) :
    WRel w w2 out v2 nx pb 3 (k + n) ct (l.drop n) tot os (fs ++ [(k, n)]) := by
  have ha := h.f.alloc o
  have hbl := h.bel.size
  refine ⟨h.bel.trans (((Below.refl _ _).alloc hbl _).trans (below_grown ha hg (by simp; omega))), (h.o.alloc o).kept hg (own_apart (h.o.alloc o) ha (by decide)), by simpa [flts_app, flts] using ho, by have := h.lo; omega, by simp; have := h.lf; omega, ?_, fun hp => ?_⟩
  · rw [h.tot, X_bad H pb 3 (by decide) k l hl r e n hx he h8 h1]
    simp
  · rw [h.ct hp, Dg.scan_step H l hl r e n hx (h8 hp) h1]
    omega
theorem WRel.bad2 {w wr w2 : World} {out flt v2 : Value} {nx : List Nat → Int × Int × Int} {pb : Bool} {k ct : Nat} {l : List Nat} {tot : List Int × List (Nat × Nat) × Int} {os : List Int} {fs : List (Nat × Nat)} {o : Obj} {w3 : World} {v3 : Value} {o' : Obj} (H : Dg.Nx nx) (h : WRel w wr out flt nx pb 2 k ct l tot os fs)
    (hl : l ≠ []) {r e : Int} {n : Nat} (hx : nx l = (r, (n : Int), e)) (he : e ≠ 0) (h8 : pb = true → e ≠ 18) (h1 : 1 ≤ n) (ho : w2.ownsRow w.heap.size 50 2 v2 (fs.length + 1) (flts fs ++ [.int .i64 k, .int .i64 n])) (hg : (wr.alloc o).grownBy w2 flt.ownBlock)
    (ho3 : w3.ownsRow w.heap.size 21 1 v3 (os.length + 1) (i32s os ++ [.int .i32 65533])) (hg3 : (w2.alloc o').grownBy w3 out.ownBlock) :
    WRel w w3 v3 v2 nx pb 2 (k + n) ct (l.drop n) tot (os ++ [65533]) (fs ++ [(k, n)]) := by
  have ha := h.f.alloc o
  have hbl := h.bel.size
  have hb2 := h.bel.trans (((Below.refl _ _).alloc hbl _).trans (below_grown ha hg (by simp; omega)))
  have ho2 := (h.o.alloc o).kept hg (own_apart (h.o.alloc o) ha (by decide))
  have hbl2 := hb2.size
  refine ⟨hb2.trans (((Below.refl _ _).alloc hbl2 _).trans (below_grown (ho2.alloc o') hg3 (by simp; omega))), by simpa [i32s] using ho3, ?_, by simp; have := h.lo; omega, by simp; have := h.lf; omega, ?_, fun hp => ?_⟩
  · have := (ho.alloc o').kept hg3 (own_apart (ho.alloc o') (ho2.alloc o') (by decide))
    simpa [flts_app, flts] using this
  · rw [h.tot, X_bad H pb 2 (by decide) k l hl r e n hx he h8 h1]
    simp
  · rw [h.ct hp, Dg.scan_step H l hl r e n hx (h8 hp) h1]
    omega
theorem WRel.keepO {w wr w2 : World} {out flt : Value} {nx : List Nat → Int × Int × Int} {pb : Bool} {pol : Int} {k ct : Nat} {l : List Nat} {tot : List Int × List (Nat × Nat) × Int} {os : List Int} {fs : List (Nat × Nat)} {o : Obj} (h : WRel w wr out flt nx pb pol k ct l tot os fs) (hg : (wr.alloc o).grownBy w2 flt.ownBlock) :
    w2.ownsRow w.heap.size 21 1 out os.length (i32s os) ∧ w.heap.size ≤ w2.heap.size := by
  refine ⟨(h.o.alloc o).kept hg (own_apart (h.o.alloc o) (h.f.alloc o) (by decide)), ?_⟩
  have h1 := h.bel.size
  have h2 := hg.size
  simp at h2
  omega
/-- What the reference answers. -/
def RefP (w : World) (kd : Int) (ws : ByteArray) (d : List Int × List (Nat × Nat) × Int) (e : Ending) (w' : World) : Prop :=
  ∃ A c A2 c2, e = .returned (.tuple #[.slice A d.1.length c, .slice A2 d.2.1.length c2, .int .i64 kd, .string ws, .int .i64 d.2.2]) ∧ Ints .i32 w' A d.1 ∧ Flts w' A2 d.2.1 ∧ Below w.heap.size w w'
theorem RefP.mk {w w' : World} {kd : Int} {ws : ByteArray} {d : List Int × List (Nat × Nat) × Int} {v1 v2 : Value} {e : Ending} (he : e = .returned (.tuple #[v1, v2, .int .i64 kd, .string ws, .int .i64 d.2.2])) (h1 : w'.ownsRow w.heap.size 21 1 v1 d.1.length (i32s d.1)) (h2 : w'.ownsRow w.heap.size 50 2 v2 d.2.1.length (flts d.2.1)) (hb : Below w.heap.size w w') : RefP w kd ws d e w' := by
  obtain ⟨A, c, rfl, hi⟩ := own_ints h1
  obtain ⟨A2, c2, rfl, hf⟩ := own_flts h2
  exact ⟨A, c, A2, c2, he, hi, hf, hb⟩
end Go.Proofs.YthnfopjjghohcaaDoor.St

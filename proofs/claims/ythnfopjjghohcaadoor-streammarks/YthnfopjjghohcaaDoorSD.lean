import Derived.Test.YthnfopjjghohcaaDoorWT
import Derived.Test.YthnfopjjghohcaaDoorGS1
namespace Go.Proofs.YthnfopjjghohcaaDoor.St
open Go.RowKit

theorem map_inj : ∀ (a b : List UInt8) (_ : a.map UInt8.toNat = b.map UInt8.toNat), a = b
  | [], [], _ => rfl
  | [], _ :: _, h => by simp at h
  | _ :: _, [], h => by simp at h
  | x :: a, y :: b, h => by
    simp only [List.map_cons, List.cons.injEq] at h
    rw [UInt8.toNat_inj.1 h.1, map_inj a b h.2]
theorem preB_pf (s p : ByteArray) : Wd.preB s p = Dg.pf (bs p) (bs s) := by
  unfold Wd.preB
  rw [Dg.pf_take, bs_len, bs_len, Lib.extract_toList, Lib.toList_data, Bool.eq_iff_iff]
  simp only [List.drop_zero, Nat.sub_zero, Bool.and_eq_true, decide_eq_true_eq, beq_iff_eq]
  constructor
  · rintro ⟨h1, h2⟩
    refine ⟨h1, ?_⟩
    unfold bs
    rw [← List.map_take, h2]
  · rintro ⟨h1, h2⟩
    refine ⟨h1, ?_⟩
    unfold bs at h2
    rw [← List.map_take] at h2
    exact map_inj _ _ h2
theorem mk_bs1 : bs (Wd.mk 1) = Dg.mkL 1 := by unfold Wd.mk; rw [bs_strB _ (by unfold allB; decide)]; decide
theorem mk_bs2 : bs (Wd.mk 2) = Dg.mkL 2 := by unfold Wd.mk; rw [bs_strB _ (by unfold allB; decide)]; decide
theorem mk_bs3 : bs (Wd.mk 3) = Dg.mkL 3 := by unfold Wd.mk; rw [bs_strB _ (by unfold allB; decide)]; decide
theorem mk_bs4 : bs (Wd.mk 4) = Dg.mkL 4 := by unfold Wd.mk; rw [bs_strB _ (by unfold allB; decide)]; decide
def m8 : ByteArray := ⟨#[239, 187, 191]⟩
theorem m8_bs : bs m8 = Dg.mkL 5 := by decide
theorem gs5_eq (s : ByteArray) : ((Dg.gs5 (bs s)).1 : Int) = (if Wd.preB s m8 then 5 else (Wd.gss s).1) ∧ ((Dg.gs5 (bs s)).2 : Int) = (if Wd.preB s m8 then 3 else (Wd.gss s).2) := by
  unfold Wd.gss Dg.gs5
  rw [preB_pf, preB_pf, preB_pf, preB_pf, preB_pf, mk_bs1, mk_bs2, mk_bs3, mk_bs4, m8_bs]
  split
  · exact ⟨rfl, rfl⟩
  split
  · exact ⟨rfl, rfl⟩
  split
  · exact ⟨rfl, rfl⟩
  split
  · exact ⟨rfl, rfl⟩
  split <;> exact ⟨rfl, rfl⟩
set_option maxRecDepth 100000 in
set_option maxHeartbeats 1000000 in
theorem markOf_any (s : ByteArray) (w : World) (hT : Wd.Tab w) (hs : s.size ≤ 100000) :
    Calls Tryd.prog 45 #[.string s] w fun e w' => e = .returned (.tuple #[.int .i64 ((Dg.gs5 (bs s)).1 : Int), .int .i64 ((Dg.gs5 (bs s)).2 : Int)]) ∧ Below w.heap.size w w' := by
  obtain ⟨e1, e2⟩ := gs5_eq s
  have HG := Lib.hid (Wd.guess_any s w hT hs)
  have HP := Lib.hid (Wd.hasPre s m8 w hs (by decide))
  rw [e1, e2]
  clear e1 e2 hT
  cases hb : Wd.preB s m8
  · rw [hb] at HP
    generalize Wd.gss s = g at *
    rw [if_neg (by decide), if_neg (by decide)]
    clear hb
    go_enter Tryd.func45, Tryd.ntmps45
    go_wp2_with (first | (go_at_call 58; refine HP.out.mono ?_; rintro e w' ⟨rfl, rfl⟩) | (go_at_call 61; refine HG.out.mono ?_; rintro e w' ⟨rfl, hb⟩; have HB := Lib.hid hb; clear hb))
    go_ret2
    exact ⟨rfl, HB.out⟩
  · rw [hb] at HP
    rw [if_pos rfl, if_pos rfl]
    clear hb
    go_enter Tryd.func45, Tryd.ntmps45
    go_wp2_with (go_at_call 58; refine HP.out.mono ?_; rintro e w' ⟨rfl, rfl⟩)
    go_ret2
    exact ⟨rfl, Below.refl _ _⟩
theorem und_big (s : ByteArray) (h : 4 ≤ s.size) : Dg.und (bs s) = false := Dg.und_four _ (by rw [bs_len]; exact h)
theorem und_m8 : Dg.und (bs m8) = false := by decide
theorem bs_inj {s t : ByteArray} (h : bs s = bs t) : s = t := by
  apply ByteArray.ext
  apply Array.toList_inj.1
  exact map_inj _ _ h
def mkP (l : List Nat) (j : Nat) : Bool := Dg.pf l (Dg.mkL j)
theorem und_go (s : ByteArray) (h : s.size < 4) (hm : s ≠ m8) : Dg.und (bs s) = (mkP (bs s) 1 || mkP (bs s) 2 || mkP (bs s) 3 || mkP (bs s) 4 || mkP (bs s) 5) := by
  have h1 : decide ((bs s).length < 4) = true := by rw [bs_len]; simpa using h
  have h2 : (bs s == Dg.mkL 5) = false := by
    simp only [beq_eq_false_iff_ne, ne_eq]
    intro he
    exact hm (bs_inj (he.trans m8_bs.symm))
  unfold Dg.und mkP
  rw [h1, h2]
  cases Dg.pf (bs s) (Dg.mkL 1) <;> cases Dg.pf (bs s) (Dg.mkL 2) <;> cases Dg.pf (bs s) (Dg.mkL 3) <;> cases Dg.pf (bs s) (Dg.mkL 4) <;> cases Dg.pf (bs s) (Dg.mkL 5) <;> rfl

set_option maxRecDepth 100000 in
set_option maxHeartbeats 1000000 in
theorem may1 (s : ByteArray) (w : World) (h : 4 ≤ s.size) :
    Calls Tryd.prog 43 #[.string s] w fun e w' => e = .returned (.bool (Dg.und (bs s))) ∧ Below w.heap.size w w' := by
  have h' : (4 : Int) ≤ s.size := by omega
  rw [und_big s h]
  go_enter Tryd.func43, Tryd.ntmps43
  go_wp2
  go_ret
  exact ⟨rfl, Below.refl _ _⟩
set_option maxRecDepth 100000 in
set_option maxHeartbeats 1000000 in
theorem may2 (w : World) :
    Calls Tryd.prog 43 #[.string m8] w fun e w' => e = .returned (.bool (Dg.und (bs m8))) ∧ Below w.heap.size w w' := by
  rw [und_m8]
  unfold m8
  go_enter Tryd.func43, Tryd.ntmps43
  go_wp2
  go_ret
  exact ⟨rfl, Below.refl _ _⟩
theorem mk_pf (s : ByteArray) (j : Nat) (h1 : 1 ≤ j) (h4 : j ≤ 4) : Wd.preB (Wd.mk j) s = mkP (bs s) j := by
  rw [preB_pf]
  have hj : j = 1 ∨ j = 2 ∨ j = 3 ∨ j = 4 := by omega
  rcases hj with rfl | rfl | rfl | rfl
  · rw [mk_bs1]; rfl
  · rw [mk_bs2]; rfl
  · rw [mk_bs3]; rfl
  · rw [mk_bs4]; rfl
set_option maxRecDepth 100000 in
set_option maxHeartbeats 2000000 in
theorem may3 (s : ByteArray) (w : World) (hT : Wd.Tab w) (h : s.size < 4) (hm : s ≠ m8) :
    Calls Tryd.prog 43 #[.string s] w fun e w' => e = .returned (.bool (Dg.und (bs s))) ∧ Below w.heap.size w w' := by
  have h' : ¬ (4 : Int) ≤ s.size := by omega
  have hpos := hT.pos
  have HT := Lib.hid hT
  have HU := Lib.hid (und_go s h hm)
  have HM := Lib.hid (fun (j : Nat) W hW h1 h4 => Wd.mark_any j W hW h1 h4)
  have HP := Lib.hid (fun (j : Nat) (W : World) (h1 : 1 ≤ j) (h4 : j ≤ 4) => by
    have := Wd.hasPre (Wd.mk j) s W (by rw [Wd.mk_size]; have := Wd.szK_bd j; omega) (by omega)
    rw [mk_pf s j h1 h4] at this
    exact this)
  have HP5 := Lib.hid (fun (W : World) => by
    have := Wd.hasPre m8 s W (by decide) (by omega)
    rw [preB_pf, m8_bs] at this
    exact this)
  have e9 : (s.toList == [239, 187, 191]) = false := by
    simp only [beq_eq_false_iff_ne, ne_eq]
    intro he
    refine hm (bs_inj ?_)
    unfold bs
    rw [← Lib.toList_data, he]
    rfl
  clear hT hm
  go_enter Tryd.func43, Tryd.ntmps43
  go_wp2_with fail
  go_loopw [3] (fun i wr => ∃ j : Nat, i = .int .i64 j ∧ 1 ≤ j ∧ j ≤ 5 ∧ Hid (Below w.heap.size w wr ∧ ∀ q, 1 ≤ q → q < j → mkP (bs s) q = false)) (fun i _ => 5 - (intOf i).toNat)
  case atStart => exact ⟨1, rfl, by omega, by omega, Below.refl _ _, fun q h1 h2 => by omega⟩
  case round =>
    obtain ⟨j, rfl, h1, h5, HB⟩ := hrel
    have hz := HB.out.1.size
    by_cases h4 : j ≤ 4
    · have h4' : (j : Int) ≤ 4 := by omega
      rcases (Bool.eq_false_or_eq_true (mkP (bs s) j)).symm with hb | hb
      · have HPj := Lib.hid (fun W => HP.out j W h1 h4)
        rw [hb] at HPj
        have HF := Lib.hid hb
        clear hb
        go_wp2_with (first
          | (go_at_call 59; refine (HM.out j _ (HT.out.below HB.out.1 hpos) h1 h4).mono ?_; rintro e w1 ⟨rfl, hb1⟩; have B1 := Lib.hid hb1; clear hb1)
          | (go_at_call 58; refine (HPj.out _).mono ?_; rintro e w' ⟨rfl, rfl⟩))
        go_roundw
        case rel => exact ⟨j + 1, by go_num, by omega, by omega, HB.out.1.trans (B1.out.mono hz), fun q g1 g2 => by
          by_cases hq : q = j
          · rw [hq]; exact HF.out
          · exact HB.out.2 q g1 (by omega)⟩
        case measure => simp [intOf]; omega
      · have HPj := Lib.hid (fun W => HP.out j W h1 h4)
        rw [hb] at HPj
        have HF := Lib.hid hb
        clear hb
        go_wp2_with (first
          | (go_at_call 59; refine (HM.out j _ (HT.out.below HB.out.1 hpos) h1 h4).mono ?_; rintro e w1 ⟨rfl, hb1⟩; have B1 := Lib.hid hb1; clear hb1)
          | (go_at_call 58; refine (HPj.out _).mono ?_; rintro e w' ⟨rfl, rfl⟩))
        go_ret
        refine ⟨ret_bool ?_, HB.out.1.trans (B1.out.mono hz)⟩
        rw [HU.out]
        have hf := HF.out
        have hj : j = 1 ∨ j = 2 ∨ j = 3 ∨ j = 4 := by omega
        rcases hj with rfl | rfl | rfl | rfl <;> rw [hf] <;> simp
    · have h4' : ¬ (j : Int) ≤ 4 := by omega
      go_wp2_with (go_at_call 58; refine (HP5.out _).mono ?_; rintro e w' ⟨rfl, rfl⟩)
      go_ret
      refine ⟨ret_bool ?_, HB.out.1⟩
      rw [HU.out, HB.out.2 1 (by omega) (by omega), HB.out.2 2 (by omega) (by omega), HB.out.2 3 (by omega) (by omega), HB.out.2 4 (by omega) (by omega)]
      rfl
theorem mayMark_any (s : ByteArray) (w : World) (hT : Wd.Tab w) :
    Calls Tryd.prog 43 #[.string s] w fun e w' => e = .returned (.bool (Dg.und (bs s))) ∧ Below w.heap.size w w' := by
  by_cases h : 4 ≤ s.size
  · exact may1 s w h
  · by_cases hm : s = m8
    · subst hm
      exact may2 w
    · exact may3 s w hT (by omega) hm
end Go.Proofs.YthnfopjjghohcaaDoor.St

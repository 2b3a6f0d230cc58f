/- HangulFull: for every input the law returns true and it reads as before: Full is Split again and again, and it is told by the syllable alone. Conditions: the program's table of places as the program's text lays it (tied). -/
import Derived.Test.YtimjggcfkkibbaaDoorJM
import Derived.Test.YtimjggcfkkibbaaDoorJT
import Derived.Test.YtimjggcfkkibbaaDoorCards
import Derived.ShutString
import Derived.ChangeOld
namespace Go.Proofs.YtimjggcfkkibbaaDoor
open Go.ChangeShapes Go.WideShapes Go.ChangeAt Go.WideMaps Go.WideElems Go.RowKit
open Go.ChangeMaps (open_string shut_string)
open Ha
set_option maxRecDepth 100000 in
set_option maxHeartbeats 4000000 in
theorem hangulFull0 (r s : Int) (w : World) (hT : Tab w) (h : isS r = false) : Calls Tryd.prog 7 #[.int .i32 r, .int .i32 s] w fun e w' => e = .returned (.bool true) ∧ Below w.heap.size w w' := by
  have HA := Lib.hid hT.all
  have D0 := Lib.hid (Below.refl w.heap.size w)
  clear hT
  have hx := split_no h
  have HS := Lib.hid (fun W hW => split_call hx W hW)
  have hf := fun W hW => full_call r W hW
  rw [full_no h] at hf
  have HF := Lib.hid hf
  clear hx h hf
  go_enter Tryd.func7, Tryd.ntmps7
  go_wp2_with fail
  refine (HF.out _ (HA.out _ D0.out)).mono ?_
  rintro e w1 ⟨A, cA, rfl, hi, hb⟩
  have D1 := Lib.hid (D0.out.trans (hb.mono D0.out.size))
  have IA := Lib.hid hi
  clear hb hi
  go_wp2_with fail
  refine (HS.out _ (HA.out _ D1.out)).mono ?_
  rintro e w2 ⟨rfl, hb⟩
  have D2 := Lib.hid (D1.out.trans (hb.mono D1.out.size))
  have IA' := Lib.hid (IA.out.below hb)
  clear IA
  have IA := Lib.hid IA'.out
  clear IA'
  clear hb
  go_wp2_with fail
  refine (awake_any _ (HA.out _ D2.out)).mono ?_
  rintro e w3 ⟨rfl, hb⟩
  have D3 := Lib.hid (D2.out.trans (hb.mono D2.out.size))
  have IA' := Lib.hid (IA.out.below hb)
  clear IA
  have IA := Lib.hid IA'.out
  clear IA'
  clear hb
  go_wp2_with fail
  go_ret
  exact ⟨rfl, D3.out⟩
set_option maxRecDepth 100000 in
set_option maxHeartbeats 4000000 in
theorem hangulFull100 (r s : Int) (w : World) (hT : Tab w) (h : isS r = true) (hm : (splE (splE r).1).2.2 = false) (he : ¬ r = s) : Calls Tryd.prog 7 #[.int .i32 r, .int .i32 s] w fun e w' => e = .returned (.bool true) ∧ Below w.heap.size w w' := by
  have HA := Lib.hid hT.all
  have D0 := Lib.hid (Below.refl w.heap.size w)
  clear hT
  obtain ⟨x, y, hx⟩ : ∃ x y, splE r = (x, y, true) := ⟨(splE r).1, (splE r).2.1, by rw [← h, ← split_is]⟩
  have hfs := full_split h
  rw [hx] at hfs
  simp only at hfs
  rw [hx] at hm
  simp only at hm
  have hp : splE x = (0, 0, false) := split_no (by rw [← split_is]; exact hm)
  rw [hm] at hfs
  simp only [Bool.false_eq_true, if_false] at hfs
  have HC := Lib.hid (fun W hW => split_call hp W hW)
  have HS := Lib.hid (fun W hW => split_call hx W hW)
  have hf := fun W hW => full_call r W hW
  have hsy := syl_full h
  rw [hfs] at hf hsy
  have HF := Lib.hid hf
  have HSY := Lib.hid hsy
  have er : (r == s) = false := by simp [he]
  have HF2 := Lib.hid (fun W hW => full_call s W hW)
  have HE2 := Lib.hid (show decide ([x, y] = fullL s) = false from decide_eq_false fun e => he (full_inj h (hfs.trans e)))
  have HZ := Lib.hid (full_len s)
  clear hx hf hsy hfs hp hm h he
  go_enter Tryd.func7, Tryd.ntmps7
  go_wp2_with fail
  refine (HF.out _ (HA.out _ D0.out)).mono ?_
  rintro e w1 ⟨A, cA, rfl, hi, hb⟩
  have D1 := Lib.hid (D0.out.trans (hb.mono D0.out.size))
  have IA := Lib.hid hi
  clear hb hi
  go_wp2_with fail
  refine (HS.out _ (HA.out _ D1.out)).mono ?_
  rintro e w2 ⟨rfl, hb⟩
  have D2 := Lib.hid (D1.out.trans (hb.mono D1.out.size))
  have IA' := Lib.hid (IA.out.below hb)
  clear IA
  have IA := Lib.hid IA'.out
  clear IA'
  clear hb
  go_wp2_with fail
  refine (HC.out _ (HA.out _ D2.out)).mono ?_
  rintro e w3 ⟨rfl, hb⟩
  have D3 := Lib.hid (D2.out.trans (hb.mono D2.out.size))
  have IA' := Lib.hid (IA.out.below hb)
  clear IA
  have IA := Lib.hid IA'.out
  clear IA'
  clear hb
  go_wp2_with fail
  refine (eq_same (l := [x, y]) A _ cA 2 _ (IA.out.below (bel_new _ _)) (ints_new [x, y] _ _) (by simp)).mono ?_
  rintro e w9 ⟨rfl, hb⟩
  have BN := Lib.hid (show Below w3.heap.size w3 w9 from (bel_new _ _).trans (hb.mono (bel_new _ _).size))
  clear hb
  have D9 := Lib.hid (D3.out.trans (BN.out.mono D3.out.size))
  have IA9 := Lib.hid (IA.out.below BN.out)
  go_wp2_with fail
  refine (HF2.out _ (HA.out _ D9.out)).mono ?_
  rintro e w10 ⟨B, cB, rfl, hi, hb⟩
  have D10 := Lib.hid (D9.out.trans (hb.mono D9.out.size))
  have IA9' := Lib.hid (IA9.out.below hb)
  clear IA9
  have IA9 := Lib.hid IA9'.out
  clear IA9'
  have IB := Lib.hid hi
  clear hb hi
  go_wp2_with fail
  refine (eq_call HE2.out A B cA cB _ IA9.out IB.out (by simp) (by have := HZ.out; omega)).mono ?_
  rintro e w11 ⟨rfl, hb⟩
  have D11 := Lib.hid (D10.out.trans (hb.mono D10.out.size))
  have IA9' := Lib.hid (IA9.out.below hb)
  clear IA9
  have IA9 := Lib.hid IA9'.out
  clear IA9'
  have IB' := Lib.hid (IB.out.below hb)
  clear IB
  have IB := Lib.hid IB'.out
  clear IB'
  clear hb
  go_wp2_with fail
  refine (syl_call A cA [x, y] _ (HA.out _ D11.out) IA9.out (by simp)).mono ?_
  rw [HSY.out]
  rintro e w12 ⟨G, cG, rfl, hi, hb⟩
  have D12 := Lib.hid (D11.out.trans (hb.mono D11.out.size))
  have IA9' := Lib.hid (IA9.out.below hb)
  clear IA9
  have IA9 := Lib.hid IA9'.out
  clear IA9'
  have IB' := Lib.hid (IB.out.below hb)
  clear IB
  have IB := Lib.hid IB'.out
  clear IB'
  have IG := Lib.hid hi
  clear hb hi
  go_wp2_with fail
  refine (eq_same (l := [r]) G _ cG 1 _ (IG.out.below (bel_new _ _)) (ints_new [r] _ _) (by simp)).mono ?_
  rintro e w13 ⟨rfl, hb⟩
  have D13 := Lib.hid (D12.out.trans (((bel_new _ _).trans (hb.mono (bel_new _ _).size)).mono D12.out.size))
  clear hb
  go_wp2_with fail
  refine (awake_any _ (HA.out _ D13.out)).mono ?_
  rintro e w14 ⟨rfl, hb⟩
  have D14 := Lib.hid (D13.out.trans (hb.mono D13.out.size))
  clear hb
  go_wp2_with fail
  go_ret
  exact ⟨rfl, D14.out⟩
set_option maxRecDepth 100000 in
set_option maxHeartbeats 4000000 in
theorem hangulFull101 (r s : Int) (w : World) (hT : Tab w) (h : isS r = true) (hm : (splE (splE r).1).2.2 = false) (he : r = s) : Calls Tryd.prog 7 #[.int .i32 r, .int .i32 s] w fun e w' => e = .returned (.bool true) ∧ Below w.heap.size w w' := by
  have HA := Lib.hid hT.all
  have D0 := Lib.hid (Below.refl w.heap.size w)
  clear hT
  obtain ⟨x, y, hx⟩ : ∃ x y, splE r = (x, y, true) := ⟨(splE r).1, (splE r).2.1, by rw [← h, ← split_is]⟩
  have hfs := full_split h
  rw [hx] at hfs
  simp only at hfs
  rw [hx] at hm
  simp only at hm
  have hp : splE x = (0, 0, false) := split_no (by rw [← split_is]; exact hm)
  rw [hm] at hfs
  simp only [Bool.false_eq_true, if_false] at hfs
  have HC := Lib.hid (fun W hW => split_call hp W hW)
  have HS := Lib.hid (fun W hW => split_call hx W hW)
  have hf := fun W hW => full_call r W hW
  have hsy := syl_full h
  rw [hfs] at hf hsy
  have HF := Lib.hid hf
  have HSY := Lib.hid hsy
  have er : (r == s) = true := by simp [he]
  clear hx hf hsy hfs hp hm h he
  go_enter Tryd.func7, Tryd.ntmps7
  go_wp2_with fail
  refine (HF.out _ (HA.out _ D0.out)).mono ?_
  rintro e w1 ⟨A, cA, rfl, hi, hb⟩
  have D1 := Lib.hid (D0.out.trans (hb.mono D0.out.size))
  have IA := Lib.hid hi
  clear hb hi
  go_wp2_with fail
  refine (HS.out _ (HA.out _ D1.out)).mono ?_
  rintro e w2 ⟨rfl, hb⟩
  have D2 := Lib.hid (D1.out.trans (hb.mono D1.out.size))
  have IA' := Lib.hid (IA.out.below hb)
  clear IA
  have IA := Lib.hid IA'.out
  clear IA'
  clear hb
  go_wp2_with fail
  refine (HC.out _ (HA.out _ D2.out)).mono ?_
  rintro e w3 ⟨rfl, hb⟩
  have D3 := Lib.hid (D2.out.trans (hb.mono D2.out.size))
  have IA' := Lib.hid (IA.out.below hb)
  clear IA
  have IA := Lib.hid IA'.out
  clear IA'
  clear hb
  go_wp2_with fail
  refine (eq_same (l := [x, y]) A _ cA 2 _ (IA.out.below (bel_new _ _)) (ints_new [x, y] _ _) (by simp)).mono ?_
  rintro e w9 ⟨rfl, hb⟩
  have BN := Lib.hid (show Below w3.heap.size w3 w9 from (bel_new _ _).trans (hb.mono (bel_new _ _).size))
  clear hb
  have D9 := Lib.hid (D3.out.trans (BN.out.mono D3.out.size))
  have IA9 := Lib.hid (IA.out.below BN.out)
  go_wp2_with fail
  refine (syl_call A cA [x, y] _ (HA.out _ D9.out) IA9.out (by simp)).mono ?_
  rw [HSY.out]
  rintro e w10 ⟨G, cG, rfl, hi, hb⟩
  have D10 := Lib.hid (D9.out.trans (hb.mono D9.out.size))
  have IA9' := Lib.hid (IA9.out.below hb)
  clear IA9
  have IA9 := Lib.hid IA9'.out
  clear IA9'
  have IG := Lib.hid hi
  clear hb hi
  go_wp2_with fail
  refine (eq_same (l := [r]) G _ cG 1 _ (IG.out.below (bel_new _ _)) (ints_new [r] _ _) (by simp)).mono ?_
  rintro e w11 ⟨rfl, hb⟩
  have D11 := Lib.hid (D10.out.trans (((bel_new _ _).trans (hb.mono (bel_new _ _).size)).mono D10.out.size))
  clear hb
  go_wp2_with fail
  refine (awake_any _ (HA.out _ D11.out)).mono ?_
  rintro e w12 ⟨rfl, hb⟩
  have D12 := Lib.hid (D11.out.trans (hb.mono D11.out.size))
  clear hb
  go_wp2_with fail
  go_ret
  exact ⟨rfl, D12.out⟩
set_option maxRecDepth 100000 in
set_option maxHeartbeats 4000000 in
theorem hangulFull110 (r s : Int) (w : World) (hT : Tab w) (h : isS r = true) (hm : (splE (splE r).1).2.2 = true) (he : ¬ r = s) : Calls Tryd.prog 7 #[.int .i32 r, .int .i32 s] w fun e w' => e = .returned (.bool true) ∧ Below w.heap.size w w' := by
  have HA := Lib.hid hT.all
  have D0 := Lib.hid (Below.refl w.heap.size w)
  clear hT
  obtain ⟨x, y, hx⟩ : ∃ x y, splE r = (x, y, true) := ⟨(splE r).1, (splE r).2.1, by rw [← h, ← split_is]⟩
  have hfs := full_split h
  rw [hx] at hfs
  simp only at hfs
  obtain ⟨p, q, hp⟩ : ∃ p q, splE x = (p, q, true) := ⟨(splE x).1, (splE x).2.1, by rw [hx] at hm; rw [← hm]⟩
  rw [hp] at hfs
  simp only [if_true] at hfs
  obtain ⟨LL, hLL⟩ : ∃ LL, LL = [p, q, y] := ⟨_, rfl⟩
  have HC := Lib.hid (fun W hW => split_call hp W hW)
  have HS := Lib.hid (fun W hW => split_call hx W hW)
  have hf := fun W hW => full_call r W hW
  have hsy := syl_full h
  rw [hfs] at hf hsy
  have HF := Lib.hid hf
  have HSY := Lib.hid hsy
  have er : (r == s) = false := by simp [he]
  have HF2 := Lib.hid (fun W hW => full_call s W hW)
  have HE2 := Lib.hid (show decide ([p, q, y] = fullL s) = false from decide_eq_false fun e => he (full_inj h (hfs.trans e)))
  have HZ := Lib.hid (full_len s)
  clear hx hf hsy hfs hp hm h he
  clear hLL
  go_enter Tryd.func7, Tryd.ntmps7
  go_wp2_with fail
  refine (HF.out _ (HA.out _ D0.out)).mono ?_
  rintro e w1 ⟨A, cA, rfl, hi, hb⟩
  have D1 := Lib.hid (D0.out.trans (hb.mono D0.out.size))
  have IA := Lib.hid hi
  clear hb hi
  go_wp2_with fail
  refine (HS.out _ (HA.out _ D1.out)).mono ?_
  rintro e w2 ⟨rfl, hb⟩
  have D2 := Lib.hid (D1.out.trans (hb.mono D1.out.size))
  have IA' := Lib.hid (IA.out.below hb)
  clear IA
  have IA := Lib.hid IA'.out
  clear IA'
  clear hb
  go_wp2_with fail
  refine (HC.out _ (HA.out _ D2.out)).mono ?_
  rintro e w3 ⟨rfl, hb⟩
  have D3 := Lib.hid (D2.out.trans (hb.mono D2.out.size))
  have IA' := Lib.hid (IA.out.below hb)
  clear IA
  have IA := Lib.hid IA'.out
  clear IA'
  clear hb
  have iw := ints_new [p, q, y] 21 (w3.alloc (.cells #[.int .i32 x, .int .i32 y] 21))
  rw [World.size_alloc] at iw
  have IW := Lib.hid iw
  have BB := Lib.hid (show Below w3.heap.size w3 ((w3.alloc (.cells #[.int .i32 x, .int .i32 y] 21)).alloc (.cells #[.int .i32 p, .int .i32 q, .int .i32 y] 21)) from ((Below.refl _ _).alloc (Nat.le_refl _) _).alloc (by simp) _)
  clear iw
  go_wp2_with fail
  refine (eq_same (l := [p, q, y]) A _ cA 3 _ (IA.out.below BB.out) IW.out (by simp)).mono ?_
  rintro e w9 ⟨rfl, hb⟩
  have BN := Lib.hid (show Below w3.heap.size w3 w9 from BB.out.trans (hb.mono BB.out.size))
  clear hb
  have D9 := Lib.hid (D3.out.trans (BN.out.mono D3.out.size))
  have IA9 := Lib.hid (IA.out.below BN.out)
  go_wp2_with fail
  refine (HF2.out _ (HA.out _ D9.out)).mono ?_
  rintro e w10 ⟨B, cB, rfl, hi, hb⟩
  have D10 := Lib.hid (D9.out.trans (hb.mono D9.out.size))
  have IA9' := Lib.hid (IA9.out.below hb)
  clear IA9
  have IA9 := Lib.hid IA9'.out
  clear IA9'
  have IB := Lib.hid hi
  clear hb hi
  go_wp2_with fail
  refine (eq_call HE2.out A B cA cB _ IA9.out IB.out (by simp) (by have := HZ.out; omega)).mono ?_
  rintro e w11 ⟨rfl, hb⟩
  have D11 := Lib.hid (D10.out.trans (hb.mono D10.out.size))
  have IA9' := Lib.hid (IA9.out.below hb)
  clear IA9
  have IA9 := Lib.hid IA9'.out
  clear IA9'
  have IB' := Lib.hid (IB.out.below hb)
  clear IB
  have IB := Lib.hid IB'.out
  clear IB'
  clear hb
  go_wp2_with fail
  refine (syl_call A cA [p, q, y] _ (HA.out _ D11.out) IA9.out (by simp)).mono ?_
  rw [HSY.out]
  rintro e w12 ⟨G, cG, rfl, hi, hb⟩
  have D12 := Lib.hid (D11.out.trans (hb.mono D11.out.size))
  have IA9' := Lib.hid (IA9.out.below hb)
  clear IA9
  have IA9 := Lib.hid IA9'.out
  clear IA9'
  have IB' := Lib.hid (IB.out.below hb)
  clear IB
  have IB := Lib.hid IB'.out
  clear IB'
  have IG := Lib.hid hi
  clear hb hi
  go_wp2_with fail
  refine (eq_same (l := [r]) G _ cG 1 _ (IG.out.below (bel_new _ _)) (ints_new [r] _ _) (by simp)).mono ?_
  rintro e w13 ⟨rfl, hb⟩
  have D13 := Lib.hid (D12.out.trans (((bel_new _ _).trans (hb.mono (bel_new _ _).size)).mono D12.out.size))
  clear hb
  go_wp2_with fail
  refine (awake_any _ (HA.out _ D13.out)).mono ?_
  rintro e w14 ⟨rfl, hb⟩
  have D14 := Lib.hid (D13.out.trans (hb.mono D13.out.size))
  clear hb
  go_wp2_with fail
  go_ret
  exact ⟨rfl, D14.out⟩
set_option maxRecDepth 100000 in
set_option maxHeartbeats 4000000 in
theorem hangulFull111 (r s : Int) (w : World) (hT : Tab w) (h : isS r = true) (hm : (splE (splE r).1).2.2 = true) (he : r = s) : Calls Tryd.prog 7 #[.int .i32 r, .int .i32 s] w fun e w' => e = .returned (.bool true) ∧ Below w.heap.size w w' := by
  have HA := Lib.hid hT.all
  have D0 := Lib.hid (Below.refl w.heap.size w)
  clear hT
  obtain ⟨x, y, hx⟩ : ∃ x y, splE r = (x, y, true) := ⟨(splE r).1, (splE r).2.1, by rw [← h, ← split_is]⟩
  have hfs := full_split h
  rw [hx] at hfs
  simp only at hfs
  obtain ⟨p, q, hp⟩ : ∃ p q, splE x = (p, q, true) := ⟨(splE x).1, (splE x).2.1, by rw [hx] at hm; rw [← hm]⟩
  rw [hp] at hfs
  simp only [if_true] at hfs
  obtain ⟨LL, hLL⟩ : ∃ LL, LL = [p, q, y] := ⟨_, rfl⟩
  have HC := Lib.hid (fun W hW => split_call hp W hW)
  have HS := Lib.hid (fun W hW => split_call hx W hW)
  have hf := fun W hW => full_call r W hW
  have hsy := syl_full h
  rw [hfs] at hf hsy
  have HF := Lib.hid hf
  have HSY := Lib.hid hsy
  have er : (r == s) = true := by simp [he]
  clear hx hf hsy hfs hp hm h he
  clear hLL
  go_enter Tryd.func7, Tryd.ntmps7
  go_wp2_with fail
  refine (HF.out _ (HA.out _ D0.out)).mono ?_
  rintro e w1 ⟨A, cA, rfl, hi, hb⟩
  have D1 := Lib.hid (D0.out.trans (hb.mono D0.out.size))
  have IA := Lib.hid hi
  clear hb hi
  go_wp2_with fail
  refine (HS.out _ (HA.out _ D1.out)).mono ?_
  rintro e w2 ⟨rfl, hb⟩
  have D2 := Lib.hid (D1.out.trans (hb.mono D1.out.size))
  have IA' := Lib.hid (IA.out.below hb)
  clear IA
  have IA := Lib.hid IA'.out
  clear IA'
  clear hb
  go_wp2_with fail
  refine (HC.out _ (HA.out _ D2.out)).mono ?_
  rintro e w3 ⟨rfl, hb⟩
  have D3 := Lib.hid (D2.out.trans (hb.mono D2.out.size))
  have IA' := Lib.hid (IA.out.below hb)
  clear IA
  have IA := Lib.hid IA'.out
  clear IA'
  clear hb
  have iw := ints_new [p, q, y] 21 (w3.alloc (.cells #[.int .i32 x, .int .i32 y] 21))
  rw [World.size_alloc] at iw
  have IW := Lib.hid iw
  have BB := Lib.hid (show Below w3.heap.size w3 ((w3.alloc (.cells #[.int .i32 x, .int .i32 y] 21)).alloc (.cells #[.int .i32 p, .int .i32 q, .int .i32 y] 21)) from ((Below.refl _ _).alloc (Nat.le_refl _) _).alloc (by simp) _)
  clear iw
  go_wp2_with fail
  refine (eq_same (l := [p, q, y]) A _ cA 3 _ (IA.out.below BB.out) IW.out (by simp)).mono ?_
  rintro e w9 ⟨rfl, hb⟩
  have BN := Lib.hid (show Below w3.heap.size w3 w9 from BB.out.trans (hb.mono BB.out.size))
  clear hb
  have D9 := Lib.hid (D3.out.trans (BN.out.mono D3.out.size))
  have IA9 := Lib.hid (IA.out.below BN.out)
  go_wp2_with fail
  refine (syl_call A cA [p, q, y] _ (HA.out _ D9.out) IA9.out (by simp)).mono ?_
  rw [HSY.out]
  rintro e w10 ⟨G, cG, rfl, hi, hb⟩
  have D10 := Lib.hid (D9.out.trans (hb.mono D9.out.size))
  have IA9' := Lib.hid (IA9.out.below hb)
  clear IA9
  have IA9 := Lib.hid IA9'.out
  clear IA9'
  have IG := Lib.hid hi
  clear hb hi
  go_wp2_with fail
  refine (eq_same (l := [r]) G _ cG 1 _ (IG.out.below (bel_new _ _)) (ints_new [r] _ _) (by simp)).mono ?_
  rintro e w11 ⟨rfl, hb⟩
  have D11 := Lib.hid (D10.out.trans (((bel_new _ _).trans (hb.mono (bel_new _ _).size)).mono D10.out.size))
  clear hb
  go_wp2_with fail
  refine (awake_any _ (HA.out _ D11.out)).mono ?_
  rintro e w12 ⟨rfl, hb⟩
  have D12 := Lib.hid (D11.out.trans (hb.mono D11.out.size))
  clear hb
  go_wp2_with fail
  go_ret
  exact ⟨rfl, D12.out⟩
theorem hangulFull_walk (r s : Int) (w : World) (_ : (Lit.int .i32 r).wf = true) (_ : (Lit.int .i32 s).wf = true) (hT : Tab w) : Calls Tryd.prog 7 #[.int .i32 r, .int .i32 s] w fun e w' => e = .returned (.bool true) ∧ Below w.heap.size w w' := by
  cases h : isS r with
  | false => exact hangulFull0 r s w hT h
  | true =>
    cases hm : (splE (splE r).1).2.2 with
    | false =>
      by_cases he : r = s
      · exact hangulFull101 r s w hT h hm he
      · exact hangulFull100 r s w hT h hm he
    | true =>
      by_cases he : r = s
      · exact hangulFull111 r s w hT h hm he
      · exact hangulFull110 r s w hT h hm he

set_option maxRecDepth 100000 in
theorem hangulFull_lifted (os : Os) (started : os.Started) (H : Type) (enc : TypeId × Value → H) :
    ReturnsInHanded {} Tryd.checked os 7 .any (fun w args => (Rows.hangulFullSpec.pre enc Tryd.prog Tryd.f7 [] false w args ∧ laidMetH Tryd.prog laid1 w) ∧ sizedMet enc Tryd.prog Tryd.f7 (OpenSpec.ofChange Rows.hangulFullSpec) false w args)
      (Rows.hangulFullSpec.post enc Tryd.prog Tryd.f7 false true false false) := by
  refine change_shaped (C := Tryd.checked) (X := fun w _ => laidMetH Tryd.prog laid1 w) (fun _ _ _ hh h => h.of_heap hh) own started (by kernel_rfl) Tryd.func7
    (ChangeSpec.witness_shaped (enc := enc) (C := Tryd.checked) (os := os) (X := fun w _ => laidMetH Tryd.prog laid1 w) false (World.laidAll Tryd.prog os laid1) #[.int .i32 0, .int .i32 0] 8 (World.laidAll_os _ _ _) (World.shaped_of_ZipB (by kernel_rfl) (by kernel_rfl)) (by kernel_rfl) (by kernel_rfl) (by kernel_rfl) (by rw [MakeChecks.laidMetH_plain _ _ _ (by kernel_rfl)]; exact laidMet_laidAll _ (by kernel_rfl) (by kernel_rfl))) ?_
  intro W base args ds gs before hval0 hW hsz hL hS
  have hval : ∀ (j : Nat) t v, Tryd.f7.params[j]? = some t → args[j]? = some v → Value.okWide Tryd.prog W .any base t v := hval0
  have hW' := hW
  obtain ⟨p, q, hA0, hV, rfl, hfz, hnd⟩ := hW
  have hA : DataW.TrodAll enc Tryd.prog W 0 (fun _ => true) true Tryd.f7.params.toList args.toList ds p := hA0
  rw [Tryd.params7] at hA hval
  obtain ⟨v0, vs0, d0, ds0, p0, q0, hargs, rfl, rfl, h0, r0⟩ := trodAll_cons hA
  obtain ⟨v1, vs1, d1, ds1, p1, q1, rfl, rfl, rfl, h1, r1⟩ := trodAll_cons r0
  obtain ⟨rfl, rfl, rfl⟩ := trodAll_nil r1
  obtain rfl : args = #[v0, v1] := by cases args; simp_all
  obtain ⟨rfl, rfl⟩ := trodVars_none hV
  obtain ⟨a0, rfl, rfl, rfl, m0⟩ := open_int Tryd.underlying21 (hval 0 21 v0 rfl rfl) h0
  obtain ⟨a1, rfl, rfl, rfl, m1⟩ := open_int Tryd.underlying21 (hval 1 21 v1 rfl rfl) h1
  clear hA0 hval0
  refine (hangulFull_walk a0 a1 W m0 m1 (of_laid hL)).mono fun e W' ⟨he, bel⟩ => ?_
  subst he
  exact ⟨_, rfl, _, _, _, [], _, [], hW', trodAll_mk1 (shut_bool Tryd.underlying4 _), (trodAll_cons_mk (shut_int Tryd.underlying21 m0) (trodAll_cons_mk (shut_int Tryd.underlying21 m1) trodAll_mk0)), rfl, bel.frame _, fun h => by cases h⟩

theorem hangulFull_row : Rows.HangulFullSaid :=
  OpenClaim.holds_of_wide 7 Tryd.f7 rfl rfl rfl rfl rfl rfl rfl ⟨rfl, rfl, rfl, rfl, rfl⟩ rfl rfl rfl rfl rfl (by kernel_rfl) Tryd.func7 (by kernel_rfl)
    (of_decide_eq_true (by kernel_rfl)) (by unfold Func.isWrapper; first | (rw [if_pos (by decide +kernel)]; kernel_rfl) | (rw [if_neg (by decide +kernel)]; exact ⟨rfl, rfl⟩))
    (fun os started H enc _ => hangulFull_lifted os started H enc)

theorem hangulFull_holds : Rows.HangulFullCardSaid :=
  Claim7.holds_tied_plain_at .later [] [.data] true Rows.hangulFullCard.stood.harness false
    hangulFull_row (fun _ h => by cases h) (by kernel_rfl) (fun _ h => by cases h) hangulFull_row_tie rfl ⟨rfl, rfl⟩ (by kernel_rfl) rfl
    (fun f fn hf hfn => by
      obtain rfl : f = 7 := Option.some.inj ((show Tryd.prog.funcNamed Rows.hangulFullRow.func = some 7 by kernel_rfl).symm.trans hf) |>.symm
      obtain rfl : fn = Tryd.f7 := (Option.some.inj (Tryd.func7.symm.trans hfn)).symm
      exact ⟨by kernel_rfl, fun j t ht => by
        rw [Tryd.params7] at ht
        have hm : t ∈ [21, 21] := by simpa using Array.mem_of_getElem? ht
        have hall : ([21, 21].all fun u => !Tryd.prog.wantsStandIn u) = true := by kernel_rfl
        exact (show Tryd.prog.wantsStandIn t = false by simpa using List.all_eq_true.1 hall t hm)⟩)
    (by kernel_rfl)
#print axioms hangulFull_holds
end Go.Proofs.YtimjggcfkkibbaaDoor

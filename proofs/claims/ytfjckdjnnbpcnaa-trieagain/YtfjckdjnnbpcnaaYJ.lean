import Derived.Test.YtfjckdjnnbpcnaaYI
namespace Go.Proofs.Ytfjckdjnnbpcnaa.Tr
open Go.RowKit Go.Maps

def gA : Int → Int := updS (updS (fun _ => 0) (5, 600, 1)) (300, 310, 0)
theorem gA_at (r : Int) : gA r = if 300 ≤ r ∧ r ≤ 310 then 0 else if 5 ≤ r ∧ r ≤ 600 then 1 else 0 := by
  unfold gA
  rw [upd_in (by omega) (by omega) (by omega), upd_in (by omega) (by omega) (by omega)]
theorem gA_nz (b : Nat) : nzB gA 0 b = decide (b < 3) := by
  rw [Bool.eq_iff_iff, decide_eq_true_eq]
  unfold nzB
  rw [List.any_eq_true]
  constructor
  · rintro ⟨j, hj, h⟩
    have hj' := List.mem_range.1 hj
    simp only [decide_eq_true_eq, ne_eq] at h
    rw [gA_at] at h
    by_cases hb : b < 3
    · exact hb
    · exfalso
      apply h
      rw [if_neg (by omega), if_neg (by omega)]
  · intro hb
    refine ⟨if b = 0 then 5 else 0, List.mem_range.2 (by split <;> omega), ?_⟩
    simp only [decide_eq_true_eq, ne_eq]
    rw [gA_at]
    split
    · rename_i h; subst h; decide
    · rename_i h
      rw [if_neg (by omega), if_pos (by omega)]
      decide
theorem gA_blk : blkN gA 0 = 3 := by
  unfold blkN
  rw [List.countP_congr (q := fun b => decide (b < 3)) (fun b _ => by rw [gA_nz])]
  decide +kernel
set_option maxHeartbeats 8000000 in
set_option maxRecDepth 100000 in
theorem awake_any (w : World) : Calls Try.prog 11 #[] w fun e w' => e = .returned (.bool true) ∧ Below w.heap.size w w' := by
  go_enter Try.func11, Try.ntmps11
  go_wp2_with fail
  refine (newT_any w 0).mono ?_
  rintro e w1 ⟨X, rfl, ht, hb⟩
  have T1 := Lib.hid ht
  have B1 := Lib.hid hb
  clear ht hb
  go_wp2_with fail
  refine (set_any w1 w.heap.size X 0 (fun _ => 0) 5 600 1 T1.out).mono ?_
  rw [show setE (5, 600, 1) = 0 from by decide]
  rintro e w2 ⟨rfl, ht, hm⟩
  have T2 := Lib.hid ht
  have B2 := Lib.hid (B1.out.trans (hm.below (B := w.heap.size) (fun k hk => (T1.out.fpb hk).1) B1.out.size))
  clear ht hm
  go_wp2_with fail
  refine (set_any w2 w.heap.size X 0 _ 300 310 0 T2.out).mono ?_
  rw [show setE (300, 310, 0) = 0 from by decide]
  rintro e w3 ⟨rfl, ht, hm⟩
  have T3 : Hid (Tab w3 w.heap.size X 0 gA) := Lib.hid ht
  have B3 := Lib.hid (B2.out.trans (hm.below (B := w.heap.size) (fun k hk => (T2.out.fpb hk).1) B2.out.size))
  clear ht hm
  have G := fun (r : Int) => get_any w3 w.heap.size X 0 gA T3.out r
  have g1 := G 5
  have g2 := G 300
  have g3 := G 600
  have g4 := G 601
  rw [show gE gA 0 5 = 1 from by unfold gE; rw [if_pos (by omega), gA_at]; decide] at g1
  rw [show gE gA 0 300 = 0 from by unfold gE; rw [if_pos (by omega), gA_at]; decide] at g2
  rw [show gE gA 0 600 = 1 from by unfold gE; rw [if_pos (by omega), gA_at]; decide] at g3
  rw [show gE gA 0 601 = 0 from by unfold gE; rw [if_pos (by omega), gA_at]; decide] at g4
  have g5 := blocks_any w3 w.heap.size X 0 gA T3.out
  rw [gA_blk] at g5
  have G1 := Lib.hid g1
  have G2 := Lib.hid g2
  have G3 := Lib.hid g3
  have G4 := Lib.hid g4
  have G5 := Lib.hid g5
  clear G g1 g2 g3 g4 g5
  go_wp2_with fail
  refine G1.out.mono ?_
  rintro e w' ⟨rfl, rfl⟩
  go_wp2_with fail
  refine G2.out.mono ?_
  rintro e w' ⟨rfl, rfl⟩
  go_wp2_with fail
  refine G3.out.mono ?_
  rintro e w' ⟨rfl, rfl⟩
  go_wp2_with fail
  refine G4.out.mono ?_
  rintro e w' ⟨rfl, rfl⟩
  go_wp2_with fail
  refine G5.out.mono ?_
  rintro e w' ⟨rfl, rfl⟩
  go_wp2_with fail
  go_ret
  exact ⟨rfl, B3.out⟩

end Go.Proofs.Ytfjckdjnnbpcnaa.Tr

import Derived.Test.YtohjkpdelopknaaDoorM
namespace Go.Proofs.YtohjkpdelopknaaDoor
open Go.RowKit

set_option maxRecDepth 100000 in
set_option maxHeartbeats 2000000 in
theorem rdecode1 (kd : Nat) (h1 : 1 ≤ kd) (h4 : kd ≤ 4) (s : ByteArray) (w : World) (hs : s.size ≤ 100000) :
    Calls Tryd.prog 20 #[.int .i64 (kd : Int), .int .i64 1, .string s] w (DecPost w (dec kd 1 0 (bs s))) := by
  obtain ⟨i0, hi0, hz0, hz1, hz2⟩ := info_parts r_info
  have I0 := Lib.hid hi0
  have I1 := Lib.hid hz0
  have I2 := Lib.hid hz1
  have I3 := Lib.hid hz2
  clear hi0 hz0 hz1 hz2
  obtain ⟨j0, hj0, hz0, hz1, hz2⟩ := info_parts f_info
  have J0 := Lib.hid hj0
  have J1 := Lib.hid hz0
  have J2 := Lib.hid hz1
  have J3 := Lib.hid hz2
  clear hj0 hz0 hz1 hz2
  have HNx := Lib.hid (fun k W r e n hx => rnext_from kd s k W h1 h4 hs r e n hx)
  generalize hdt : dec kd 1 0 (bs s) = tot
  have HDT := Lib.hid hdt
  clear hdt
  go_enter Tryd.func20, Tryd.ntmps20
  go_wp2_with fail
  refine (may_yes kd _ (by omega) (by omega)).mono ?_
  rintro e w' ⟨rfl, rfl⟩
  go_wp2_with fail
  go_loopw [9, 10, 11] (fun out flt i wr => ∃ k : Nat, i = .int .i64 k ∧ k ≤ s.size ∧ ∃ os fs, Hid (DecRel w wr out flt kd 1 k ((bs s).drop k) tot os fs)) (fun _ _ i _ => s.size - (intOf i).toNat)
  case atStart => exact ⟨0, rfl, by omega, [], [], by rw [← HDT.out]; exact DecRel.start w kd 1 (bs s) (Below.refl _ _)⟩
  case round =>
    obtain ⟨k, rfl, hk, os, fs, HD0⟩ := hrel
    have hlo := HD0.out.lo
    have hlf := HD0.out.lf
    have hmo : os.length + 1 ≤ maxLen := by unfold maxLen; omega
    have hmf : fs.length + 1 ≤ maxLen := by unfold maxLen; omega
    by_cases hlt : k < s.size
    · have hne : (bs s).drop k ≠ [] := by
        intro h
        have := congrArg List.length h
        rw [List.length_drop, bs_len] at this
        simp at this
        omega
      obtain ⟨r, e, n, hX, n1, n2, n3, n4, n5⟩ := nx_step kd _ hne
      rw [List.length_drop, bs_len] at n2
      have HX := Lib.hid hX
      have HNE := Lib.hid hne
      have N4 := Lib.hid n4
      clear hX hne n4 n5
      have hlt' : (k : Int) < s.size := by omega
      have hk0 : (0 : Int) ≤ k := by omega
      have hk1 : (k : Int) ≤ s.size := by omega
      by_cases he : e = 0
      · have HX0 := Lib.hid (show nx kd ((bs s).drop k) = (r, (n : Int), 0) by rw [HX.out, he])
        subst he
        go_wp2_with fail
        refine (HNx.out k _ r 0 n HX0.out).mono ?_
        rintro v w' ⟨rfl, rfl⟩
        have HD := Lib.hid HD0.out
        have hsz := HD.out.bel.size
        go_wp2_with (at_builtin; refine wpList_append_own_at _ rfl (.tmp 41) (.tmp 43) _ rfl w.heap.size 21 i0 _ 1 4 Tryd.underlying28 I0.out I1.out I2.out I3.out rfl (by omega) u9 os.length _ rfl (HD.out.o.alloc _) ⟨wr.heap.size, 0, none⟩ 1 1 [_] rfl rfl (cell_one_new _ _ _) (by simp [Value.oneCell']) hmo (by omega) (by simp; omega) ?_; intro v2 w2 ho2 hg2 hn2 ha2; have HO2 := Lib.hid ho2; have HG2 := Lib.hid hg2; clear ho2 hg2 hn2 ha2)
        go_roundw
        case rel => exact ⟨k + n, by go_num, by omega, os ++ [r], fs, by have := HD.out.ok HNE.out HX0.out n1 HO2.out HG2.out; rw [List.drop_drop] at this; exact this⟩
        case measure => simp [intOf]; omega
      · have he1 : (e != 0) = true := by simpa using he
        have he2 : (e == 0) = false := by simpa using he
        have HE := Lib.hid he
        clear he
        go_wp2_with fail
        refine (HNx.out k _ r e n HX.out).mono ?_
        rintro v w' ⟨rfl, rfl⟩
        have HD := Lib.hid HD0.out
        have hsz := HD.out.bel.size
        go_wp2_with (at_builtin; refine wpList_append_own_at _ rfl (.tmp 45) (.tmp 49) _ rfl w.heap.size 49 j0 _ 2 16 Tryd.underlying36 J0.out J1.out J2.out J3.out rfl (by omega) u10 fs.length _ rfl (HD.out.f.alloc _) ⟨wr.heap.size, 0, none⟩ 1 1 [.int .i64 k, .int .i64 n] rfl rfl (World.news_of_block (cs := #[.int .i64 k, .int .i64 n]) (t := 49) (fr := (0, 0)) (heap_alloc_new wr _)) (by simp [Value.oneCell']) hmf (by omega) (by simp; omega) ?_; intro v2 w2 ho2 hg2 hn2 ha2; have HO2 := Lib.hid ho2; have HG2 := Lib.hid hg2; clear ho2 hg2 hn2 ha2)
        go_ret3
        obtain ⟨p1, p2, p3, p4⟩ := HD.out.flt1 HNE.out HX.out HE.out HO2.out HG2.out
        exact ⟨_, _, by rw [p4]; rfl, p2, p3, p1⟩
    · have hlt' : ¬ (k : Int) < s.size := by omega
      have ht := HD0.out.tot
      rw [bs_end s k (by omega), dec_nil] at ht
      have HTT := Lib.hid ht
      clear ht
      go_wp2
      go_ret3
      exact ⟨_, _, by rw [HTT.out]; rfl, by rw [HTT.out]; simpa using HD0.out.o, by rw [HTT.out]; simpa using HD0.out.f, HD0.out.bel⟩
end Go.Proofs.YtohjkpdelopknaaDoor

import Derived.Test.YtohjkpdelopknaaDoorM
namespace Go.Proofs.YtohjkpdelopknaaDoor
open Go.RowKit

set_option maxRecDepth 100000 in
set_option maxHeartbeats 2000000 in
theorem decode2 (kd : Nat) (h1 : 1 ≤ kd) (h4 : kd ≤ 4) (A : Option Addr) (c : Nat) (xs : List ByteArray) (w : World) (hT : Tab w) (hx : Strs w A c xs) (hn : xs.length ≤ 100000) (hs : (catB xs).size ≤ 100000) :
    Calls Tryd.prog 19 #[.int .i64 (kd : Int), .int .i64 2, .slice A xs.length c] w (DecPost w (dec kd 2 0 (bs (catB xs)))) := by
  obtain ⟨i0, hi0, hz0, hz1, hz2⟩ := info_parts r_info
  have I0 := Lib.hid hi0
  have I1 := Lib.hid hz0
  have I2 := Lib.hid hz1
  have I3 := Lib.hid hz2
  clear hi0 hz0 hz1 hz2
  obtain ⟨j0, hj0, hz0, hz1, hz2⟩ := info_parts f_info
  have J0 := Lib.hid hj0
  have J1 := Lib.hid hz0
  have J2 := Lib.hid hz1
  have J3 := Lib.hid hz2
  clear hj0 hz0 hz1 hz2
  have HX := Lib.hid hx
  have HJ := Lib.hid (fun W (hX : Strs W A c xs) => join_any A c xs W hX hn hs)
  generalize catB xs = s at *
  have hpos := hT.pos
  have HT := Lib.hid hT
  have HLay := Lib.hid (layout_any kd w hT h1 h4)
  have HNx := Lib.hid (fun k W r e n hx => snext_from kd s k W h1 h4 hs r e n hx)
  generalize hzk : (szK kd : Int) = z at *
  generalize loK kd = lo at *
  generalize prK kd = pr at *
  clear hT hx hzk
  generalize hdt : dec kd 2 0 (bs s) = tot
  have HDT := Lib.hid hdt
  clear hdt
  go_enter Tryd.func19, Tryd.ntmps19
  go_wp2_with fail
  refine HLay.out.mono ?_
  rintro e w1 ⟨rfl, hb1⟩
  have z1 := hb1.size
  have B1 := Lib.hid (hb1.alloc z1 (.cells #[.int .i64 z, .bool lo, .bool pr] 56))
  clear hb1 HLay
  go_wp2_with fail
  refine (HJ.out _ (HX.out.below B1.out)).mono ?_
  rintro e w5 ⟨rfl, hb5⟩
  have B5 := Lib.hid (B1.out.trans (hb5.mono (by simp; omega)))
  have hz5 : w1.heap.size < w5.heap.size := by have := hb5.size; simp at this; omega
  have L0 := Lib.hid ((hb5.cell (p := ⟨w1.heap.size, 0, none⟩) (by simp)).trans (World.cell?_alloc_new (w := w1) #[.int .i64 z, .bool lo, .bool pr] 56 0))
  have L1 := Lib.hid ((hb5.cell (p := ⟨w1.heap.size, 1, none⟩) (by simp)).trans (World.cell?_alloc_new (w := w1) #[.int .i64 z, .bool lo, .bool pr] 56 1))
  have L2 := Lib.hid ((hb5.cell (p := ⟨w1.heap.size, 2, none⟩) (by simp)).trans (World.cell?_alloc_new (w := w1) #[.int .i64 z, .bool lo, .bool pr] 56 2))
  clear hb5 HJ
  go_wp2_with fail
  go_loopw [11, 12, 14] (fun out flt i wr => ∃ k : Nat, i = .int .i64 k ∧ k ≤ s.size ∧ ∃ os fs, Hid (DecRel w5 wr out flt kd 2 k ((bs s).drop k) tot os fs)) (fun _ _ i _ => s.size - (intOf i).toNat)
  case atStart => exact ⟨0, rfl, by omega, [], [], by rw [← HDT.out]; exact DecRel.start w5 kd 2 (bs s) (Below.refl _ _)⟩
  case round =>
    obtain ⟨k, rfl, hk, os, fs, HD0⟩ := hrel
    have hlo := HD0.out.lo
    have hlf := HD0.out.lf
    have hmo : os.length + 1 ≤ maxLen := by unfold maxLen; omega
    have hmf : fs.length + 1 ≤ maxLen := by unfold maxLen; omega
    by_cases hlt : k < s.size
    · have hne : (bs s).drop k ≠ [] := by
        intro h
        have := congrArg List.length h
        rw [List.length_drop, bs_len] at this
        simp at this
        omega
      obtain ⟨r, e, n, hX, n1, n2, n3, n4, n5⟩ := nx_step kd _ hne
      rw [List.length_drop, bs_len] at n2
      have HX := Lib.hid hX
      have HNE := Lib.hid hne
      have N4 := Lib.hid n4
      clear hX hne n4 n5
      have hlt' : (k : Int) < s.size := by omega
      have hk0 : (0 : Int) ≤ k := by omega
      have hk1 : (k : Int) ≤ s.size := by omega
      by_cases he : e = 0
      · have HX0 := Lib.hid (show nx kd ((bs s).drop k) = (r, (n : Int), 0) by rw [HX.out, he])
        subst he
        go_wp2_with fail
        have q0 : wr.cell? ⟨w1.heap.size, 0, none⟩ = some (.int .i64 z) := (HD0.out.bel.cell (p := ⟨w1.heap.size, 0, none⟩) hz5).trans L0.out
        have q1 : wr.cell? ⟨w1.heap.size, 1, none⟩ = some (.bool lo) := (HD0.out.bel.cell (p := ⟨w1.heap.size, 1, none⟩) hz5).trans L1.out
        have q2 : wr.cell? ⟨w1.heap.size, 2, none⟩ = some (.bool pr) := (HD0.out.bel.cell (p := ⟨w1.heap.size, 2, none⟩) hz5).trans L2.out
        have qz := HD0.out.bel.size
        go_region_held3 (fun w' => w'.cell? ⟨w1.heap.size, 0, none⟩ = some (.int .i64 z) ∧ w'.cell? ⟨w1.heap.size, 1, none⟩ = some (.bool lo) ∧ w'.cell? ⟨w1.heap.size, 2, none⟩ = some (.bool pr))
          (first
            | go_keep
            | (refine ⟨?_, ?_, ?_⟩
               · (rw [hb7.cell (p := ⟨w1.heap.size, 0, none⟩) (by simp; omega)]; simpa using q0)
               · (rw [hb7.cell (p := ⟨w1.heap.size, 1, none⟩) (by simp; omega)]; simpa using q1)
               · (rw [hb7.cell (p := ⟨w1.heap.size, 2, none⟩) (by simp; omega)]; simpa using q2)))
          ((go_at_call 27; refine (HNx.out k _ r 0 n HX0.out).mono ?_; rintro v w7 ⟨rfl, hb7⟩))
        have HD := Lib.hid (HD0.out.step hb7)
        have hsz := HD.out.bel.size
        clear hb7 q0 q1 q2
        go_wp2_with (at_builtin; refine wpList_append_own_at _ rfl (.tmp 71) (.tmp 73) _ rfl w5.heap.size 21 i0 _ 1 4 Tryd.underlying28 I0.out I1.out I2.out I3.out rfl (by omega) u11 os.length _ rfl (HD.out.o.alloc _) ⟨w7.heap.size, 0, none⟩ 1 1 [_] rfl rfl (cell_one_new _ _ _) (by simp [Value.oneCell']) hmo (by omega) (by simp; omega) ?_; intro v2 w2 ho2 hg2 hn2 ha2; have HO2 := Lib.hid ho2; have HG2 := Lib.hid hg2; clear ho2 hg2 hn2 ha2)
        go_roundw
        case rel => exact ⟨k + n, by go_num, by omega, os ++ [r], fs, by have := HD.out.ok HNE.out HX0.out n1 HO2.out HG2.out; rw [List.drop_drop] at this; exact this⟩
        case measure => simp [intOf]; omega
      · have he1 : (e != 0) = true := by simpa using he
        have he2 : (e == 0) = false := by simpa using he
        have HE := Lib.hid he
        clear he
        go_wp2_with fail
        have q0 : wr.cell? ⟨w1.heap.size, 0, none⟩ = some (.int .i64 z) := (HD0.out.bel.cell (p := ⟨w1.heap.size, 0, none⟩) hz5).trans L0.out
        have q1 : wr.cell? ⟨w1.heap.size, 1, none⟩ = some (.bool lo) := (HD0.out.bel.cell (p := ⟨w1.heap.size, 1, none⟩) hz5).trans L1.out
        have q2 : wr.cell? ⟨w1.heap.size, 2, none⟩ = some (.bool pr) := (HD0.out.bel.cell (p := ⟨w1.heap.size, 2, none⟩) hz5).trans L2.out
        have qz := HD0.out.bel.size
        go_region_held3 (fun w' => w'.cell? ⟨w1.heap.size, 0, none⟩ = some (.int .i64 z) ∧ w'.cell? ⟨w1.heap.size, 1, none⟩ = some (.bool lo) ∧ w'.cell? ⟨w1.heap.size, 2, none⟩ = some (.bool pr))
          (first
            | go_keep
            | (refine ⟨?_, ?_, ?_⟩
               · (rw [hb7.cell (p := ⟨w1.heap.size, 0, none⟩) (by simp; omega)]; simpa using q0)
               · (rw [hb7.cell (p := ⟨w1.heap.size, 1, none⟩) (by simp; omega)]; simpa using q1)
               · (rw [hb7.cell (p := ⟨w1.heap.size, 2, none⟩) (by simp; omega)]; simpa using q2)))
          ((go_at_call 27; refine (HNx.out k _ r e n HX.out).mono ?_; rintro v w7 ⟨rfl, hb7⟩))
        have HD := Lib.hid (HD0.out.step hb7)
        have hsz := HD.out.bel.size
        clear hb7 q0 q1 q2
        go_wp2_with (first | (at_builtin; refine wpList_append_own_at _ rfl (.tmp 55) (.tmp 59) _ rfl w5.heap.size 49 j0 _ 2 16 Tryd.underlying36 J0.out J1.out J2.out J3.out rfl (by omega) u12 fs.length _ rfl (HD.out.f.alloc _) ⟨w7.heap.size, 0, none⟩ 1 1 [.int .i64 k, .int .i64 n] rfl rfl (World.news_of_block (cs := #[.int .i64 k, .int .i64 n]) (t := 49) (fr := (0, 0)) (heap_alloc_new w7 _)) (by simp [Value.oneCell']) hmf (by omega) (by simp; omega) ?_; intro v2 w2 ho2 hg2 hn2 ha2; have HO2 := Lib.hid ho2; have HG2 := Lib.hid hg2; clear ho2 hg2 hn2 ha2; have K2 := Lib.hid (HD.out.keepO HG2.out); have k2 := K2.out.2) | (at_builtin; refine wpList_append_own_at _ rfl (.tmp 71) (.tmp 73) _ rfl w5.heap.size 21 i0 _ 1 4 Tryd.underlying28 I0.out I1.out I2.out I3.out rfl (by omega) u11 os.length _ rfl (K2.out.1.alloc _) ⟨w2.heap.size, 0, none⟩ 1 1 [_] rfl rfl (cell_one_new _ _ _) (by simp [Value.oneCell']) hmo (by omega) (by simp; omega) ?_; intro v3 w3 ho3 hg3 hn3 ha3; have HO3 := Lib.hid ho3; have HG3 := Lib.hid hg3; clear ho3 hg3 hn3 ha3))
        go_roundw
        case rel => exact ⟨k + n, by go_num, by omega, os ++ [65533], fs ++ [(k, n)], by have := HD.out.bad2 HNE.out HX.out HE.out n1 HO2.out HG2.out HO3.out HG3.out; rw [List.drop_drop] at this; exact this⟩
        case measure => simp [intOf]; omega
    · have hlt' : ¬ (k : Int) < s.size := by omega
      have ht := HD0.out.tot
      rw [bs_end s k (by omega), dec_nil] at ht
      have HTT := Lib.hid ht
      clear ht
      go_wp2
      go_ret3
      exact DecPost.mono (w2 := w5) (⟨_, _, by rw [HTT.out]; rfl, by rw [HTT.out]; simpa using HD0.out.o, by rw [HTT.out]; simpa using HD0.out.f, HD0.out.bel⟩) B5.out
end Go.Proofs.YtohjkpdelopknaaDoor

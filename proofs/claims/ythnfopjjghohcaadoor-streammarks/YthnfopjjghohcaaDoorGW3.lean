import Derived.Test.YthnfopjjghohcaaDoorGW1
import Derived.Test.YthnfopjjghohcaaDoorGC1
namespace Go.Proofs.YthnfopjjghohcaaDoor.Wd
open Go.RowKit

set_option maxRecDepth 100000 in
set_option maxHeartbeats 2000000 in
theorem decode1 (kd : Nat) (h1 : 1 ≤ kd) (h4 : kd ≤ 4) (A : Option Addr) (c : Nat) (xs : List ByteArray) (w : World) (hT : Tab w) (hx : Strs w A c xs) (hn : xs.length ≤ 100000) (hs : (catB xs).size ≤ 100000) :
    Calls Tryd.prog 56 #[.int .i64 (kd : Int), .int .i64 1, .slice A xs.length c] w (DecPost w (dec kd 1 0 (bs (catB xs)))) := by
  obtain ⟨i0, hi0, hz0, hz1, hz2⟩ := info_parts r_info
  have I0 := Lib.hid hi0
  have I1 := Lib.hid hz0
  have I2 := Lib.hid hz1
  have I3 := Lib.hid hz2
  clear hi0 hz0 hz1 hz2
  obtain ⟨j0, hj0, hz0, hz1, hz2⟩ := info_parts f_info
  have J0 := Lib.hid hj0
  have J1 := Lib.hid hz0
  have J2 := Lib.hid hz1
  have J3 := Lib.hid hz2
  clear hj0 hz0 hz1 hz2
  have HX := Lib.hid hx
  have HJ := Lib.hid (fun W (hX : Strs W A c xs) => join_any A c xs W hX hn hs)
  generalize catB xs = s at *
  have hpos := hT.pos
  have HT := Lib.hid hT
  have HLay := Lib.hid (layout_any kd w hT h1 h4)
  have HNx := Lib.hid (fun k W r e n hx => snext_from kd s k W h1 h4 hs r e n hx)
  generalize hzk : (szK kd : Int) = z at *
  generalize loK kd = lo at *
  generalize prK kd = pr at *
  clear hT hx hzk
  generalize hdt : dec kd 1 0 (bs s) = tot
  have HDT := Lib.hid hdt
  clear hdt
  go_enter Tryd.func56, Tryd.ntmps56
  go_wp2_with fail
  refine HLay.out.mono ?_
  rintro e w1 ⟨rfl, hb1⟩
  have z1 := hb1.size
  have B1 := Lib.hid (hb1.alloc z1 (.cells #[.int .i64 z, .bool lo, .bool pr] 107))
  clear hb1 HLay
  go_wp2_with fail
  refine (HJ.out _ (HX.out.below B1.out)).mono ?_
  rintro e w5 ⟨rfl, hb5⟩
  have B5 := Lib.hid (B1.out.trans (hb5.mono (by simp; omega)))
  have hz5 : w1.heap.size < w5.heap.size := by have := hb5.size; simp at this; omega
  have L0 := Lib.hid ((hb5.cell (p := ⟨w1.heap.size, 0, none⟩) (by simp)).trans (World.cell?_alloc_new (w := w1) #[.int .i64 z, .bool lo, .bool pr] 107 0))
  have L1 := Lib.hid ((hb5.cell (p := ⟨w1.heap.size, 1, none⟩) (by simp)).trans (World.cell?_alloc_new (w := w1) #[.int .i64 z, .bool lo, .bool pr] 107 1))
  have L2 := Lib.hid ((hb5.cell (p := ⟨w1.heap.size, 2, none⟩) (by simp)).trans (World.cell?_alloc_new (w := w1) #[.int .i64 z, .bool lo, .bool pr] 107 2))
  clear hb5 HJ
  go_wp2_with fail
  go_loopw [11, 12, 14] (fun out flt i wr => ∃ k : Nat, i = .int .i64 k ∧ k ≤ s.size ∧ ∃ os fs, Hid (DecRel w5 wr out flt kd 1 k ((bs s).drop k) tot os fs)) (fun _ _ i _ => s.size - (intOf i).toNat)
  case atStart => exact ⟨0, rfl, by omega, [], [], by rw [← HDT.out]; exact DecRel.start w5 kd 1 (bs s) (Below.refl _ _)⟩
  case round =>
    obtain ⟨k, rfl, hk, os, fs, HD0⟩ := hrel
    have hlo := HD0.out.lo
    have hlf := HD0.out.lf
    have hmo : os.length + 1 ≤ maxLen := by unfold maxLen; omega
    have hmf : fs.length + 1 ≤ maxLen := by unfold maxLen; omega
    by_cases hlt : k < s.size
    · have hne : (bs s).drop k ≠ [] := by
        intro h
        have := congrArg List.length h
        rw [List.length_drop, bs_len] at this
        simp at this
        omega
      obtain ⟨r, e, n, hX, n1, n2, n3, n4, n5⟩ := nx_step kd _ hne
      rw [List.length_drop, bs_len] at n2
      have HX := Lib.hid hX
      have HNE := Lib.hid hne
      have N4 := Lib.hid n4
      clear hX hne n4 n5
      have hlt' : (k : Int) < s.size := by omega
      have hk0 : (0 : Int) ≤ k := by omega
      have hk1 : (k : Int) ≤ s.size := by omega
      by_cases he : e = 0
      · have HX0 := Lib.hid (show nx kd ((bs s).drop k) = (r, (n : Int), 0) by rw [HX.out, he])
        subst he
        go_wp2_with fail
        have q0 : wr.cell? ⟨w1.heap.size, 0, none⟩ = some (.int .i64 z) := (HD0.out.bel.cell (p := ⟨w1.heap.size, 0, none⟩) hz5).trans L0.out
        have q1 : wr.cell? ⟨w1.heap.size, 1, none⟩ = some (.bool lo) := (HD0.out.bel.cell (p := ⟨w1.heap.size, 1, none⟩) hz5).trans L1.out
        have q2 : wr.cell? ⟨w1.heap.size, 2, none⟩ = some (.bool pr) := (HD0.out.bel.cell (p := ⟨w1.heap.size, 2, none⟩) hz5).trans L2.out
        have qz := HD0.out.bel.size
        go_region_held3 (fun w' => w'.cell? ⟨w1.heap.size, 0, none⟩ = some (.int .i64 z) ∧ w'.cell? ⟨w1.heap.size, 1, none⟩ = some (.bool lo) ∧ w'.cell? ⟨w1.heap.size, 2, none⟩ = some (.bool pr))
          (first
            | go_keep
            | (refine ⟨?_, ?_, ?_⟩
               · (rw [hb7.cell (p := ⟨w1.heap.size, 0, none⟩) (by simp; omega)]; simpa using q0)
               · (rw [hb7.cell (p := ⟨w1.heap.size, 1, none⟩) (by simp; omega)]; simpa using q1)
               · (rw [hb7.cell (p := ⟨w1.heap.size, 2, none⟩) (by simp; omega)]; simpa using q2)))
          ((go_at_call 69; refine (HNx.out k _ r 0 n HX0.out).mono ?_; rintro v w7 ⟨rfl, hb7⟩))
        have HD := Lib.hid (HD0.out.step hb7)
        have hsz := HD.out.bel.size
        clear hb7 q0 q1 q2
        go_wp2_with (at_builtin; refine wpList_append_own_at _ rfl (.tmp 71) (.tmp 73) _ rfl w5.heap.size 21 i0 _ 1 4 Tryd.underlying25 I0.out I1.out I2.out I3.out rfl (by omega) u11 os.length _ rfl (HD.out.o.alloc _) ⟨w7.heap.size, 0, none⟩ 1 1 [_] rfl rfl (cell_one_new _ _ _) (by simp [Value.oneCell']) hmo (by omega) (by simp; omega) ?_; intro v2 w2 ho2 hg2 hn2 ha2; have HO2 := Lib.hid ho2; have HG2 := Lib.hid hg2; clear ho2 hg2 hn2 ha2)
        go_roundw
        case rel => exact ⟨k + n, by go_num, by omega, os ++ [r], fs, by have := HD.out.ok HNE.out HX0.out n1 HO2.out HG2.out; rw [List.drop_drop] at this; exact this⟩
        case measure => simp [intOf]; omega
      · have he1 : (e != 0) = true := by simpa using he
        have he2 : (e == 0) = false := by simpa using he
        have HE := Lib.hid he
        clear he
        go_wp2_with fail
        have q0 : wr.cell? ⟨w1.heap.size, 0, none⟩ = some (.int .i64 z) := (HD0.out.bel.cell (p := ⟨w1.heap.size, 0, none⟩) hz5).trans L0.out
        have q1 : wr.cell? ⟨w1.heap.size, 1, none⟩ = some (.bool lo) := (HD0.out.bel.cell (p := ⟨w1.heap.size, 1, none⟩) hz5).trans L1.out
        have q2 : wr.cell? ⟨w1.heap.size, 2, none⟩ = some (.bool pr) := (HD0.out.bel.cell (p := ⟨w1.heap.size, 2, none⟩) hz5).trans L2.out
        have qz := HD0.out.bel.size
        go_region_held3 (fun w' => w'.cell? ⟨w1.heap.size, 0, none⟩ = some (.int .i64 z) ∧ w'.cell? ⟨w1.heap.size, 1, none⟩ = some (.bool lo) ∧ w'.cell? ⟨w1.heap.size, 2, none⟩ = some (.bool pr))
          (first
            | go_keep
            | (refine ⟨?_, ?_, ?_⟩
               · (rw [hb7.cell (p := ⟨w1.heap.size, 0, none⟩) (by simp; omega)]; simpa using q0)
               · (rw [hb7.cell (p := ⟨w1.heap.size, 1, none⟩) (by simp; omega)]; simpa using q1)
               · (rw [hb7.cell (p := ⟨w1.heap.size, 2, none⟩) (by simp; omega)]; simpa using q2)))
          ((go_at_call 69; refine (HNx.out k _ r e n HX.out).mono ?_; rintro v w7 ⟨rfl, hb7⟩))
        have HD := Lib.hid (HD0.out.step hb7)
        have hsz := HD.out.bel.size
        clear hb7 q0 q1 q2
        go_wp2_with (at_builtin; refine wpList_append_own_at _ rfl (.tmp 55) (.tmp 59) _ rfl w5.heap.size 50 j0 _ 2 16 Tryd.underlying26 J0.out J1.out J2.out J3.out rfl (by omega) u12 fs.length _ rfl (HD.out.f.alloc _) ⟨w7.heap.size, 0, none⟩ 1 1 [.int .i64 k, .int .i64 n] rfl rfl (World.news_of_block (cs := #[.int .i64 k, .int .i64 n]) (t := 50) (fr := (0, 0)) (heap_alloc_new w7 _)) (by simp [Value.oneCell']) hmf (by omega) (by simp; omega) ?_; intro v2 w2 ho2 hg2 hn2 ha2; have HO2 := Lib.hid ho2; have HG2 := Lib.hid hg2; clear ho2 hg2 hn2 ha2)
        go_ret3
        obtain ⟨p1, p2, p3, p4⟩ := HD.out.flt1 HNE.out HX.out HE.out HO2.out HG2.out
        exact DecPost.mono (w2 := w5) (⟨_, _, by rw [p4]; rfl, p2, p3, p1⟩) B5.out
    · have hlt' : ¬ (k : Int) < s.size := by omega
      have ht := HD0.out.tot
      rw [bs_end s k (by omega), dec_nil] at ht
      have HTT := Lib.hid ht
      clear ht
      go_wp2
      go_ret3
      exact DecPost.mono (w2 := w5) (⟨_, _, by rw [HTT.out]; rfl, by rw [HTT.out]; simpa using HD0.out.o, by rw [HTT.out]; simpa using HD0.out.f, HD0.out.bel⟩) B5.out
end Go.Proofs.YthnfopjjghohcaaDoor.Wd
namespace Go.Proofs.YthnfopjjghohcaaDoor.Wd
open Go.RowKit

set_option maxRecDepth 100000 in
set_option maxHeartbeats 2000000 in
theorem decode2 (kd : Nat) (h1 : 1 ≤ kd) (h4 : kd ≤ 4) (A : Option Addr) (c : Nat) (xs : List ByteArray) (w : World) (hT : Tab w) (hx : Strs w A c xs) (hn : xs.length ≤ 100000) (hs : (catB xs).size ≤ 100000) :
    Calls Tryd.prog 56 #[.int .i64 (kd : Int), .int .i64 2, .slice A xs.length c] w (DecPost w (dec kd 2 0 (bs (catB xs)))) := by
  obtain ⟨i0, hi0, hz0, hz1, hz2⟩ := info_parts r_info
  have I0 := Lib.hid hi0
  have I1 := Lib.hid hz0
  have I2 := Lib.hid hz1
  have I3 := Lib.hid hz2
  clear hi0 hz0 hz1 hz2
  obtain ⟨j0, hj0, hz0, hz1, hz2⟩ := info_parts f_info
  have J0 := Lib.hid hj0
  have J1 := Lib.hid hz0
  have J2 := Lib.hid hz1
  have J3 := Lib.hid hz2
  clear hj0 hz0 hz1 hz2
  have HX := Lib.hid hx
  have HJ := Lib.hid (fun W (hX : Strs W A c xs) => join_any A c xs W hX hn hs)
  generalize catB xs = s at *
  have hpos := hT.pos
  have HT := Lib.hid hT
  have HLay := Lib.hid (layout_any kd w hT h1 h4)
  have HNx := Lib.hid (fun k W r e n hx => snext_from kd s k W h1 h4 hs r e n hx)
  generalize hzk : (szK kd : Int) = z at *
  generalize loK kd = lo at *
  generalize prK kd = pr at *
  clear hT hx hzk
  generalize hdt : dec kd 2 0 (bs s) = tot
  have HDT := Lib.hid hdt
  clear hdt
  go_enter Tryd.func56, Tryd.ntmps56
  go_wp2_with fail
  refine HLay.out.mono ?_
  rintro e w1 ⟨rfl, hb1⟩
  have z1 := hb1.size
  have B1 := Lib.hid (hb1.alloc z1 (.cells #[.int .i64 z, .bool lo, .bool pr] 107))
  clear hb1 HLay
  go_wp2_with fail
  refine (HJ.out _ (HX.out.below B1.out)).mono ?_
  rintro e w5 ⟨rfl, hb5⟩
  have B5 := Lib.hid (B1.out.trans (hb5.mono (by simp; omega)))
  have hz5 : w1.heap.size < w5.heap.size := by have := hb5.size; simp at this; omega
  have L0 := Lib.hid ((hb5.cell (p := ⟨w1.heap.size, 0, none⟩) (by simp)).trans (World.cell?_alloc_new (w := w1) #[.int .i64 z, .bool lo, .bool pr] 107 0))
  have L1 := Lib.hid ((hb5.cell (p := ⟨w1.heap.size, 1, none⟩) (by simp)).trans (World.cell?_alloc_new (w := w1) #[.int .i64 z, .bool lo, .bool pr] 107 1))
  have L2 := Lib.hid ((hb5.cell (p := ⟨w1.heap.size, 2, none⟩) (by simp)).trans (World.cell?_alloc_new (w := w1) #[.int .i64 z, .bool lo, .bool pr] 107 2))
  clear hb5 HJ
  go_wp2_with fail
  go_loopw [11, 12, 14] (fun out flt i wr => ∃ k : Nat, i = .int .i64 k ∧ k ≤ s.size ∧ ∃ os fs, Hid (DecRel w5 wr out flt kd 2 k ((bs s).drop k) tot os fs)) (fun _ _ i _ => s.size - (intOf i).toNat)
  case atStart => exact ⟨0, rfl, by omega, [], [], by rw [← HDT.out]; exact DecRel.start w5 kd 2 (bs s) (Below.refl _ _)⟩
  case round =>
    obtain ⟨k, rfl, hk, os, fs, HD0⟩ := hrel
    have hlo := HD0.out.lo
    have hlf := HD0.out.lf
    have hmo : os.length + 1 ≤ maxLen := by unfold maxLen; omega
    have hmf : fs.length + 1 ≤ maxLen := by unfold maxLen; omega
    by_cases hlt : k < s.size
    · have hne : (bs s).drop k ≠ [] := by
        intro h
        have := congrArg List.length h
        rw [List.length_drop, bs_len] at this
        simp at this
        omega
      obtain ⟨r, e, n, hX, n1, n2, n3, n4, n5⟩ := nx_step kd _ hne
      rw [List.length_drop, bs_len] at n2
      have HX := Lib.hid hX
      have HNE := Lib.hid hne
      have N4 := Lib.hid n4
      clear hX hne n4 n5
      have hlt' : (k : Int) < s.size := by omega
      have hk0 : (0 : Int) ≤ k := by omega
      have hk1 : (k : Int) ≤ s.size := by omega
      by_cases he : e = 0
      · have HX0 := Lib.hid (show nx kd ((bs s).drop k) = (r, (n : Int), 0) by rw [HX.out, he])
        subst he
        go_wp2_with fail
        have q0 : wr.cell? ⟨w1.heap.size, 0, none⟩ = some (.int .i64 z) := (HD0.out.bel.cell (p := ⟨w1.heap.size, 0, none⟩) hz5).trans L0.out
        have q1 : wr.cell? ⟨w1.heap.size, 1, none⟩ = some (.bool lo) := (HD0.out.bel.cell (p := ⟨w1.heap.size, 1, none⟩) hz5).trans L1.out
        have q2 : wr.cell? ⟨w1.heap.size, 2, none⟩ = some (.bool pr) := (HD0.out.bel.cell (p := ⟨w1.heap.size, 2, none⟩) hz5).trans L2.out
        have qz := HD0.out.bel.size
        go_region_held3 (fun w' => w'.cell? ⟨w1.heap.size, 0, none⟩ = some (.int .i64 z) ∧ w'.cell? ⟨w1.heap.size, 1, none⟩ = some (.bool lo) ∧ w'.cell? ⟨w1.heap.size, 2, none⟩ = some (.bool pr))
          (first
            | go_keep
            | (refine ⟨?_, ?_, ?_⟩
               · (rw [hb7.cell (p := ⟨w1.heap.size, 0, none⟩) (by simp; omega)]; simpa using q0)
               · (rw [hb7.cell (p := ⟨w1.heap.size, 1, none⟩) (by simp; omega)]; simpa using q1)
               · (rw [hb7.cell (p := ⟨w1.heap.size, 2, none⟩) (by simp; omega)]; simpa using q2)))
          ((go_at_call 69; refine (HNx.out k _ r 0 n HX0.out).mono ?_; rintro v w7 ⟨rfl, hb7⟩))
        have HD := Lib.hid (HD0.out.step hb7)
        have hsz := HD.out.bel.size
        clear hb7 q0 q1 q2
        go_wp2_with (at_builtin; refine wpList_append_own_at _ rfl (.tmp 71) (.tmp 73) _ rfl w5.heap.size 21 i0 _ 1 4 Tryd.underlying25 I0.out I1.out I2.out I3.out rfl (by omega) u11 os.length _ rfl (HD.out.o.alloc _) ⟨w7.heap.size, 0, none⟩ 1 1 [_] rfl rfl (cell_one_new _ _ _) (by simp [Value.oneCell']) hmo (by omega) (by simp; omega) ?_; intro v2 w2 ho2 hg2 hn2 ha2; have HO2 := Lib.hid ho2; have HG2 := Lib.hid hg2; clear ho2 hg2 hn2 ha2)
        go_roundw
        case rel => exact ⟨k + n, by go_num, by omega, os ++ [r], fs, by have := HD.out.ok HNE.out HX0.out n1 HO2.out HG2.out; rw [List.drop_drop] at this; exact this⟩
        case measure => simp [intOf]; omega
      · have he1 : (e != 0) = true := by simpa using he
        have he2 : (e == 0) = false := by simpa using he
        have HE := Lib.hid he
        clear he
        go_wp2_with fail
        have q0 : wr.cell? ⟨w1.heap.size, 0, none⟩ = some (.int .i64 z) := (HD0.out.bel.cell (p := ⟨w1.heap.size, 0, none⟩) hz5).trans L0.out
        have q1 : wr.cell? ⟨w1.heap.size, 1, none⟩ = some (.bool lo) := (HD0.out.bel.cell (p := ⟨w1.heap.size, 1, none⟩) hz5).trans L1.out
        have q2 : wr.cell? ⟨w1.heap.size, 2, none⟩ = some (.bool pr) := (HD0.out.bel.cell (p := ⟨w1.heap.size, 2, none⟩) hz5).trans L2.out
        have qz := HD0.out.bel.size
        go_region_held3 (fun w' => w'.cell? ⟨w1.heap.size, 0, none⟩ = some (.int .i64 z) ∧ w'.cell? ⟨w1.heap.size, 1, none⟩ = some (.bool lo) ∧ w'.cell? ⟨w1.heap.size, 2, none⟩ = some (.bool pr))
          (first
            | go_keep
            | (refine ⟨?_, ?_, ?_⟩
               · (rw [hb7.cell (p := ⟨w1.heap.size, 0, none⟩) (by simp; omega)]; simpa using q0)
               · (rw [hb7.cell (p := ⟨w1.heap.size, 1, none⟩) (by simp; omega)]; simpa using q1)
               · (rw [hb7.cell (p := ⟨w1.heap.size, 2, none⟩) (by simp; omega)]; simpa using q2)))
          ((go_at_call 69; refine (HNx.out k _ r e n HX.out).mono ?_; rintro v w7 ⟨rfl, hb7⟩))
        have HD := Lib.hid (HD0.out.step hb7)
        have hsz := HD.out.bel.size
        clear hb7 q0 q1 q2
        go_wp2_with (first | (at_builtin; refine wpList_append_own_at _ rfl (.tmp 55) (.tmp 59) _ rfl w5.heap.size 50 j0 _ 2 16 Tryd.underlying26 J0.out J1.out J2.out J3.out rfl (by omega) u12 fs.length _ rfl (HD.out.f.alloc _) ⟨w7.heap.size, 0, none⟩ 1 1 [.int .i64 k, .int .i64 n] rfl rfl (World.news_of_block (cs := #[.int .i64 k, .int .i64 n]) (t := 50) (fr := (0, 0)) (heap_alloc_new w7 _)) (by simp [Value.oneCell']) hmf (by omega) (by simp; omega) ?_; intro v2 w2 ho2 hg2 hn2 ha2; have HO2 := Lib.hid ho2; have HG2 := Lib.hid hg2; clear ho2 hg2 hn2 ha2; have K2 := Lib.hid (HD.out.keepO HG2.out); have k2 := K2.out.2) | (at_builtin; refine wpList_append_own_at _ rfl (.tmp 71) (.tmp 73) _ rfl w5.heap.size 21 i0 _ 1 4 Tryd.underlying25 I0.out I1.out I2.out I3.out rfl (by omega) u11 os.length _ rfl (K2.out.1.alloc _) ⟨w2.heap.size, 0, none⟩ 1 1 [_] rfl rfl (cell_one_new _ _ _) (by simp [Value.oneCell']) hmo (by omega) (by simp; omega) ?_; intro v3 w3 ho3 hg3 hn3 ha3; have HO3 := Lib.hid ho3; have HG3 := Lib.hid hg3; clear ho3 hg3 hn3 ha3))
        go_roundw
        case rel => exact ⟨k + n, by go_num, by omega, os ++ [65533], fs ++ [(k, n)], by have := HD.out.bad2 HNE.out HX.out HE.out n1 HO2.out HG2.out HO3.out HG3.out; rw [List.drop_drop] at this; exact this⟩
        case measure => simp [intOf]; omega
    · have hlt' : ¬ (k : Int) < s.size := by omega
      have ht := HD0.out.tot
      rw [bs_end s k (by omega), dec_nil] at ht
      have HTT := Lib.hid ht
      clear ht
      go_wp2
      go_ret3
      exact DecPost.mono (w2 := w5) (⟨_, _, by rw [HTT.out]; rfl, by rw [HTT.out]; simpa using HD0.out.o, by rw [HTT.out]; simpa using HD0.out.f, HD0.out.bel⟩) B5.out
end Go.Proofs.YthnfopjjghohcaaDoor.Wd
namespace Go.Proofs.YthnfopjjghohcaaDoor.Wd
open Go.RowKit

set_option maxRecDepth 100000 in
set_option maxHeartbeats 2000000 in
theorem decode3 (kd : Nat) (h1 : 1 ≤ kd) (h4 : kd ≤ 4) (A : Option Addr) (c : Nat) (xs : List ByteArray) (w : World) (hT : Tab w) (hx : Strs w A c xs) (hn : xs.length ≤ 100000) (hs : (catB xs).size ≤ 100000) :
    Calls Tryd.prog 56 #[.int .i64 (kd : Int), .int .i64 3, .slice A xs.length c] w (DecPost w (dec kd 3 0 (bs (catB xs)))) := by
  obtain ⟨i0, hi0, hz0, hz1, hz2⟩ := info_parts r_info
  have I0 := Lib.hid hi0
  have I1 := Lib.hid hz0
  have I2 := Lib.hid hz1
  have I3 := Lib.hid hz2
  clear hi0 hz0 hz1 hz2
  obtain ⟨j0, hj0, hz0, hz1, hz2⟩ := info_parts f_info
  have J0 := Lib.hid hj0
  have J1 := Lib.hid hz0
  have J2 := Lib.hid hz1
  have J3 := Lib.hid hz2
  clear hj0 hz0 hz1 hz2
  have HX := Lib.hid hx
  have HJ := Lib.hid (fun W (hX : Strs W A c xs) => join_any A c xs W hX hn hs)
  generalize catB xs = s at *
  have hpos := hT.pos
  have HT := Lib.hid hT
  have HLay := Lib.hid (layout_any kd w hT h1 h4)
  have HNx := Lib.hid (fun k W r e n hx => snext_from kd s k W h1 h4 hs r e n hx)
  generalize hzk : (szK kd : Int) = z at *
  generalize loK kd = lo at *
  generalize prK kd = pr at *
  clear hT hx hzk
  generalize hdt : dec kd 3 0 (bs s) = tot
  have HDT := Lib.hid hdt
  clear hdt
  go_enter Tryd.func56, Tryd.ntmps56
  go_wp2_with fail
  refine HLay.out.mono ?_
  rintro e w1 ⟨rfl, hb1⟩
  have z1 := hb1.size
  have B1 := Lib.hid (hb1.alloc z1 (.cells #[.int .i64 z, .bool lo, .bool pr] 107))
  clear hb1 HLay
  go_wp2_with fail
  refine (HJ.out _ (HX.out.below B1.out)).mono ?_
  rintro e w5 ⟨rfl, hb5⟩
  have B5 := Lib.hid (B1.out.trans (hb5.mono (by simp; omega)))
  have hz5 : w1.heap.size < w5.heap.size := by have := hb5.size; simp at this; omega
  have L0 := Lib.hid ((hb5.cell (p := ⟨w1.heap.size, 0, none⟩) (by simp)).trans (World.cell?_alloc_new (w := w1) #[.int .i64 z, .bool lo, .bool pr] 107 0))
  have L1 := Lib.hid ((hb5.cell (p := ⟨w1.heap.size, 1, none⟩) (by simp)).trans (World.cell?_alloc_new (w := w1) #[.int .i64 z, .bool lo, .bool pr] 107 1))
  have L2 := Lib.hid ((hb5.cell (p := ⟨w1.heap.size, 2, none⟩) (by simp)).trans (World.cell?_alloc_new (w := w1) #[.int .i64 z, .bool lo, .bool pr] 107 2))
  clear hb5 HJ
  go_wp2_with fail
  go_loopw [11, 12, 14] (fun out flt i wr => ∃ k : Nat, i = .int .i64 k ∧ k ≤ s.size ∧ ∃ os fs, Hid (DecRel w5 wr out flt kd 3 k ((bs s).drop k) tot os fs)) (fun _ _ i _ => s.size - (intOf i).toNat)
  case atStart => exact ⟨0, rfl, by omega, [], [], by rw [← HDT.out]; exact DecRel.start w5 kd 3 (bs s) (Below.refl _ _)⟩
  case round =>
    obtain ⟨k, rfl, hk, os, fs, HD0⟩ := hrel
    have hlo := HD0.out.lo
    have hlf := HD0.out.lf
    have hmo : os.length + 1 ≤ maxLen := by unfold maxLen; omega
    have hmf : fs.length + 1 ≤ maxLen := by unfold maxLen; omega
    by_cases hlt : k < s.size
    · have hne : (bs s).drop k ≠ [] := by
        intro h
        have := congrArg List.length h
        rw [List.length_drop, bs_len] at this
        simp at this
        omega
      obtain ⟨r, e, n, hX, n1, n2, n3, n4, n5⟩ := nx_step kd _ hne
      rw [List.length_drop, bs_len] at n2
      have HX := Lib.hid hX
      have HNE := Lib.hid hne
      have N4 := Lib.hid n4
      clear hX hne n4 n5
      have hlt' : (k : Int) < s.size := by omega
      have hk0 : (0 : Int) ≤ k := by omega
      have hk1 : (k : Int) ≤ s.size := by omega
      by_cases he : e = 0
      · have HX0 := Lib.hid (show nx kd ((bs s).drop k) = (r, (n : Int), 0) by rw [HX.out, he])
        subst he
        go_wp2_with fail
        have q0 : wr.cell? ⟨w1.heap.size, 0, none⟩ = some (.int .i64 z) := (HD0.out.bel.cell (p := ⟨w1.heap.size, 0, none⟩) hz5).trans L0.out
        have q1 : wr.cell? ⟨w1.heap.size, 1, none⟩ = some (.bool lo) := (HD0.out.bel.cell (p := ⟨w1.heap.size, 1, none⟩) hz5).trans L1.out
        have q2 : wr.cell? ⟨w1.heap.size, 2, none⟩ = some (.bool pr) := (HD0.out.bel.cell (p := ⟨w1.heap.size, 2, none⟩) hz5).trans L2.out
        have qz := HD0.out.bel.size
        go_region_held3 (fun w' => w'.cell? ⟨w1.heap.size, 0, none⟩ = some (.int .i64 z) ∧ w'.cell? ⟨w1.heap.size, 1, none⟩ = some (.bool lo) ∧ w'.cell? ⟨w1.heap.size, 2, none⟩ = some (.bool pr))
          (first
            | go_keep
            | (refine ⟨?_, ?_, ?_⟩
               · (rw [hb7.cell (p := ⟨w1.heap.size, 0, none⟩) (by simp; omega)]; simpa using q0)
               · (rw [hb7.cell (p := ⟨w1.heap.size, 1, none⟩) (by simp; omega)]; simpa using q1)
               · (rw [hb7.cell (p := ⟨w1.heap.size, 2, none⟩) (by simp; omega)]; simpa using q2)))
          ((go_at_call 69; refine (HNx.out k _ r 0 n HX0.out).mono ?_; rintro v w7 ⟨rfl, hb7⟩))
        have HD := Lib.hid (HD0.out.step hb7)
        have hsz := HD.out.bel.size
        clear hb7 q0 q1 q2
        go_wp2_with (at_builtin; refine wpList_append_own_at _ rfl (.tmp 71) (.tmp 73) _ rfl w5.heap.size 21 i0 _ 1 4 Tryd.underlying25 I0.out I1.out I2.out I3.out rfl (by omega) u11 os.length _ rfl (HD.out.o.alloc _) ⟨w7.heap.size, 0, none⟩ 1 1 [_] rfl rfl (cell_one_new _ _ _) (by simp [Value.oneCell']) hmo (by omega) (by simp; omega) ?_; intro v2 w2 ho2 hg2 hn2 ha2; have HO2 := Lib.hid ho2; have HG2 := Lib.hid hg2; clear ho2 hg2 hn2 ha2)
        go_roundw
        case rel => exact ⟨k + n, by go_num, by omega, os ++ [r], fs, by have := HD.out.ok HNE.out HX0.out n1 HO2.out HG2.out; rw [List.drop_drop] at this; exact this⟩
        case measure => simp [intOf]; omega
      · have he1 : (e != 0) = true := by simpa using he
        have he2 : (e == 0) = false := by simpa using he
        have HE := Lib.hid he
        clear he
        go_wp2_with fail
        have q0 : wr.cell? ⟨w1.heap.size, 0, none⟩ = some (.int .i64 z) := (HD0.out.bel.cell (p := ⟨w1.heap.size, 0, none⟩) hz5).trans L0.out
        have q1 : wr.cell? ⟨w1.heap.size, 1, none⟩ = some (.bool lo) := (HD0.out.bel.cell (p := ⟨w1.heap.size, 1, none⟩) hz5).trans L1.out
        have q2 : wr.cell? ⟨w1.heap.size, 2, none⟩ = some (.bool pr) := (HD0.out.bel.cell (p := ⟨w1.heap.size, 2, none⟩) hz5).trans L2.out
        have qz := HD0.out.bel.size
        go_region_held3 (fun w' => w'.cell? ⟨w1.heap.size, 0, none⟩ = some (.int .i64 z) ∧ w'.cell? ⟨w1.heap.size, 1, none⟩ = some (.bool lo) ∧ w'.cell? ⟨w1.heap.size, 2, none⟩ = some (.bool pr))
          (first
            | go_keep
            | (refine ⟨?_, ?_, ?_⟩
               · (rw [hb7.cell (p := ⟨w1.heap.size, 0, none⟩) (by simp; omega)]; simpa using q0)
               · (rw [hb7.cell (p := ⟨w1.heap.size, 1, none⟩) (by simp; omega)]; simpa using q1)
               · (rw [hb7.cell (p := ⟨w1.heap.size, 2, none⟩) (by simp; omega)]; simpa using q2)))
          ((go_at_call 69; refine (HNx.out k _ r e n HX.out).mono ?_; rintro v w7 ⟨rfl, hb7⟩))
        have HD := Lib.hid (HD0.out.step hb7)
        have hsz := HD.out.bel.size
        clear hb7 q0 q1 q2
        go_wp2_with (at_builtin; refine wpList_append_own_at _ rfl (.tmp 55) (.tmp 59) _ rfl w5.heap.size 50 j0 _ 2 16 Tryd.underlying26 J0.out J1.out J2.out J3.out rfl (by omega) u12 fs.length _ rfl (HD.out.f.alloc _) ⟨w7.heap.size, 0, none⟩ 1 1 [.int .i64 k, .int .i64 n] rfl rfl (World.news_of_block (cs := #[.int .i64 k, .int .i64 n]) (t := 50) (fr := (0, 0)) (heap_alloc_new w7 _)) (by simp [Value.oneCell']) hmf (by omega) (by simp; omega) ?_; intro v2 w2 ho2 hg2 hn2 ha2; have HO2 := Lib.hid ho2; have HG2 := Lib.hid hg2; clear ho2 hg2 hn2 ha2)
        go_roundw
        case rel => exact ⟨k + n, by go_num, by omega, os, fs ++ [(k, n)], by have := HD.out.bad3 HNE.out HX.out HE.out n1 HO2.out HG2.out; rw [List.drop_drop] at this; exact this⟩
        case measure => simp [intOf]; omega
    · have hlt' : ¬ (k : Int) < s.size := by omega
      have ht := HD0.out.tot
      rw [bs_end s k (by omega), dec_nil] at ht
      have HTT := Lib.hid ht
      clear ht
      go_wp2
      go_ret3
      exact DecPost.mono (w2 := w5) (⟨_, _, by rw [HTT.out]; rfl, by rw [HTT.out]; simpa using HD0.out.o, by rw [HTT.out]; simpa using HD0.out.f, HD0.out.bel⟩) B5.out
end Go.Proofs.YthnfopjjghohcaaDoor.Wd
namespace Go.Proofs.YthnfopjjghohcaaDoor.Wd
open Go.RowKit

set_option maxRecDepth 100000 in
set_option maxHeartbeats 1000000 in
theorem decode_nok (kd pol : Int) (A : Option Addr) (n c : Nat) (w : World) (h : kd < 1 ∨ 4 < kd) :
    Calls Tryd.prog 56 #[.int .i64 kd, .int .i64 pol, .slice A n c] w (DecPost w ([], [], 16)) := by
  go_enter Tryd.func56, Tryd.ntmps56
  go_wp2_with fail
  refine (layout_no kd w h).mono ?_
  rintro e w1 ⟨rfl, hb1⟩
  have z1 := hb1.size
  have B1 := Lib.hid hb1
  clear hb1
  go_wp2_with fail
  go_ret3
  exact ⟨_, _, rfl, World.ownsRow_nil _ _ _ _, World.ownsRow_nil _ _ _ _, B1.out.alloc z1 _⟩
set_option maxRecDepth 100000 in
set_option maxHeartbeats 1000000 in
theorem decode_nop (kd : Nat) (pol : Int) (A : Option Addr) (n c : Nat) (w : World) (hT : Tab w) (g1 : 1 ≤ kd) (g4 : kd ≤ 4) (h1 : pol ≠ 1) (h2 : pol ≠ 2) (h3 : pol ≠ 3) :
    Calls Tryd.prog 56 #[.int .i64 (kd : Int), .int .i64 pol, .slice A n c] w (DecPost w ([], [], 16)) := by
  have e1 : (pol != 1) = true := by simpa using h1
  have e2 : (pol != 2) = true := by simpa using h2
  have e3 : (pol != 3) = true := by simpa using h3
  have HL := Lib.hid (layout_any kd w hT g1 g4)
  generalize hzk : (szK kd : Int) = z at *
  generalize loK kd = lo at *
  generalize prK kd = pr at *
  clear h1 h2 h3 hT hzk
  go_enter Tryd.func56, Tryd.ntmps56
  go_wp2_with fail
  refine HL.out.mono ?_
  rintro e w1 ⟨rfl, hb1⟩
  have z1 := hb1.size
  have B1 := Lib.hid hb1
  clear hb1
  go_wp2_with fail
  go_ret3
  exact ⟨_, _, rfl, World.ownsRow_nil _ _ _ _, World.ownsRow_nil _ _ _ _, B1.out.alloc z1 _⟩
theorem decP_dec (kd : Nat) (pol : Int) (l : List Nat) (g1 : 1 ≤ kd) (g4 : kd ≤ 4) (h : pol = 1 ∨ pol = 2 ∨ pol = 3) : decP (kd : Int) pol l = dec kd pol 0 l := by
  unfold decP
  rw [if_pos ⟨⟨by omega, by omega⟩, h⟩, Int.toNat_natCast]
theorem decode_any (kd pol : Int) (A : Option Addr) (c : Nat) (xs : List ByteArray) (w : World) (hT : Tab w) (hx : Strs w A c xs) (hn : xs.length ≤ 100000) (hs : (catB xs).size ≤ 100000) :
    Calls Tryd.prog 56 #[.int .i64 kd, .int .i64 pol, .slice A xs.length c] w (DecPost w (decP kd pol (bs (catB xs)))) := by
  by_cases hk : 1 ≤ kd ∧ kd ≤ 4
  · obtain ⟨n, rfl⟩ : ∃ n : Nat, kd = n := ⟨kd.toNat, by omega⟩
    have g1 : 1 ≤ n := by omega
    have g4 : n ≤ 4 := by omega
    by_cases h1 : pol = 1
    · subst h1; rw [decP_dec n 1 _ g1 g4 (.inl rfl)]; exact decode1 n g1 g4 A c xs w hT hx hn hs
    by_cases h2 : pol = 2
    · subst h2; rw [decP_dec n 2 _ g1 g4 (.inr (.inl rfl))]; exact decode2 n g1 g4 A c xs w hT hx hn hs
    by_cases h3 : pol = 3
    · subst h3; rw [decP_dec n 3 _ g1 g4 (.inr (.inr rfl))]; exact decode3 n g1 g4 A c xs w hT hx hn hs
    unfold decP
    rw [if_neg (by simp [h1, h2, h3])]
    exact decode_nop n pol A _ c w hT g1 g4 h1 h2 h3
  · unfold decP
    rw [if_neg (fun h => hk h.1)]
    exact decode_nok kd pol A _ c w (by omega)
theorem decP_lens (kd pol : Int) (l : List Nat) : (decP kd pol l).1.length ≤ l.length ∧ (decP kd pol l).2.1.length ≤ l.length := by
  unfold decP
  split
  · exact dec_lens _ pol l.length 0 l (Nat.le_refl _)
  · simp
end Go.Proofs.YthnfopjjghohcaaDoor.Wd
namespace Go.Proofs.YthnfopjjghohcaaDoor.Wd
open Go.RowKit

/-- How many bytes are ahead of a beginning at the end that is not whole. -/
def cutK (k : Nat) (l : List Nat) : Nat :=
  if 0 < l.length - l.length % szK k ∧ k ≤ 2 ∧ 55296 ≤ unN k (l.drop (l.length - l.length % szK k - szK k)) ∧ unN k (l.drop (l.length - l.length % szK k - szK k)) < 56320 then l.length - l.length % szK k - szK k
  else l.length - l.length % szK k

set_option maxRecDepth 100000 in
set_option maxHeartbeats 1000000 in
theorem scut2 (k : Nat) (s : ByteArray) (w : World) (h1 : 1 ≤ k) (h2 : k ≤ 2) (hz : s.size ≤ 100000) :
    Calls Tryd.prog 70 #[.agg #[.int .i64 2, .bool (loK k), .bool true, .string s]] w fun e w' => e = .returned (.int .i64 (cutK k (bs s) : Int)) ∧ Below w.heap.size w w' := by
  have hzk : szK k = 2 := by simp [szK, h2]
  have hpk : prK k = true := by simp [prK, h2]
  have HB0 := Lib.hid (show Below w.heap.size w (w.alloc (.cells #[.int .i64 2, .bool (loK k), .bool true, .string s] 111)) from (Below.refl _ _).alloc (Nat.le_refl _) _)
  have HX0 := Lib.hid (Box.new w 2 (loK k) true s 111)
  obtain ⟨W, hW⟩ : ∃ W : Nat, W = s.size - s.size % 2 := ⟨_, rfl⟩
  have hcut : cutK k (bs s) = if 0 < W ∧ 55296 ≤ unN k ((bs s).drop (W - 2)) ∧ unN k ((bs s).drop (W - 2)) < 56320 then W - 2 else W := by
    unfold cutK
    rw [hzk, bs_len, ← hW]
    by_cases c : 0 < W ∧ 55296 ≤ unN k ((bs s).drop (W - 2)) ∧ unN k ((bs s).drop (W - 2)) < 56320
    · rw [if_pos c, if_pos ⟨c.1, h2, c.2⟩]
    · rw [if_neg c, if_neg (fun h => c ⟨h.1, h.2.2⟩)]
  have w1 : (s.size : Int) - (s.size : Int) % 2 = (W : Int) := by omega
  have w2 : W ≤ s.size := by omega
  by_cases c0 : W = 0
  · rw [if_neg (by omega)] at hcut
    have HC := Lib.hid hcut
    have HW := Lib.hid c0
    have w3 : ¬ (0 : Int) < (W : Int) := by omega
    have w4 : decide (0 < W) = false := by simp; omega
    clear hcut hW hzk hpk c0
    generalize loK k = lo at *
    go_enter Tryd.func70, Tryd.ntmps70
    go_wp2_with fail
    go_quiet (fail)
    go_wp2_with fail
    go_quiet (fail)
    go_wp2
    go_ret
    exact ⟨ret_int (by rw [HC.out]), bel_drewN (bel_drewN HB0.out _) _⟩
  · have HU := Lib.hid (fun V => unit_any k s (W - 2) V (by omega) (by omega) (by rw [hzk]; omega) hz)
    rw [hzk, hpk] at HU
    have hlt := unN_lt32 k ((bs s).drop (W - 2)) (allB_drop (bs_B s) _)
    have c1 : 0 < W := by omega
    have w3 : (0 : Int) < (W : Int) := by omega
    have w4 : decide (0 < W) = true := by simp; omega
    obtain ⟨q, hq⟩ : ∃ q : Nat, q = W - 2 := ⟨_, rfl⟩
    rw [← hq] at HU hlt hcut
    have w5 : IntKind.i64.wrap ((W : Int) - 2) = (q : Int) := by rw [hq]; rw [show ((W - 2 : Nat) : Int) = (W : Int) - 2 by omega]; exact IntWalk.i64_in _ (by omega)
    have w6 : (W : Int) - 2 = (q : Int) := by omega
    have w7 : IntKind.i64.wrap (q : Int) = (q : Int) := IntWalk.i64_in _ (by omega)
    have w8 : (0 : Int) ≤ (q : Int) := by omega
    rw [show ((2 : Nat) : Int) = 2 from rfl] at HU
    generalize unN k ((bs s).drop q) = u at *
    clear hW hzk hpk c0 hq
    generalize cutK k (bs s) = C at *
    generalize loK k = lo at *
    have HL := Lib.hid hlt
    have HZ : Hid (w.heap.size < (w.alloc (.cells #[.int .i64 2, .bool lo, .bool true, .string s] 111)).heap.size) := by show _ < _; simp
    clear hlt
    by_cases c2 : 55296 ≤ u ∧ u < 56320
    · rw [if_pos ⟨c1, c2⟩] at hcut
      have HC := Lib.hid hcut
      have HH := Lib.hid (show hiB true u = true by simp [hiB]; omega)
      clear hcut c2
      go_enter Tryd.func70, Tryd.ntmps70
      go_wp2_with fail
      go_quiet (fail)
      have BV := Lib.hid (bel_drewN HB0.out nq)
      have XV := Lib.hid (HX0.out.below (bel_drewN (Below.refl (w.alloc (.cells #[.int .i64 2, .bool lo, .bool true, .string s] 111)).heap.size (w.alloc (.cells #[.int .i64 2, .bool lo, .bool true, .string s] 111))) nq) HZ.out)
      have hzv : w.heap.size < ((w.alloc (.cells #[.int .i64 2, .bool lo, .bool true, .string s] 111)).drewN nq).heap.size := HZ.out
      generalize (w.alloc (.cells #[.int .i64 2, .bool lo, .bool true, .string s] 111)).drewN nq = V at *
      obtain ⟨k0, k1, k2, k3⟩ := XV.out
      go_wp2_with fail
      go_region_held3 (fun w' => w'.cell? ⟨w.heap.size, 0, none⟩ = some (.int .i64 2) ∧ w'.cell? ⟨w.heap.size, 1, none⟩ = some (.bool lo) ∧ w'.cell? ⟨w.heap.size, 2, none⟩ = some (.bool true) ∧ w'.cell? ⟨w.heap.size, 3, none⟩ = some (.string s))
        (first
          | exact ⟨X9.out.c0, X9.out.c1, X9.out.c2, X9.out.c3⟩
          | exact ⟨X8.out.c0, X8.out.c1, X8.out.c2, X8.out.c3⟩
          | go_keep)
        (first
          | ((go_at_call 76; refine (HU.out _).mono ?_; rintro e w8 ⟨rfl, hb8⟩; have z8 : w.heap.size < w8.heap.size := (by have := hb8.size; simp at this; omega); have X8 := Lib.hid ((XV.out.below (Below.refl V.heap.size V).drew hzv).below hb8 (by simpa using hzv)); have B8 := Lib.hid (BV.out.drew.trans (hb8.mono (by simp; omega))); clear hb8))
          | ((go_at_call 77; refine (isHigh_any 2 lo true u _ HL.out).mono ?_; rw [HH.out]; rintro e w9 ⟨rfl, hb9⟩; have X9 := Lib.hid (X8.out.below hb9 (by omega)); have B9 := Lib.hid (B8.out.trans (hb9.mono (by omega))); clear hb9)))
      obtain ⟨g0, g1, g2, g3⟩ := X9.out
      go_wp2
      go_ret
      exact ⟨ret_int (by rw [HC.out]), B9.out⟩
    · rw [if_neg (fun h => c2 h.2)] at hcut
      have HC := Lib.hid hcut
      have HH := Lib.hid (show hiB true u = false by simp [hiB]; omega)
      clear hcut c2
      go_enter Tryd.func70, Tryd.ntmps70
      go_wp2_with fail
      go_quiet (fail)
      have BV := Lib.hid (bel_drewN HB0.out nq)
      have XV := Lib.hid (HX0.out.below (bel_drewN (Below.refl (w.alloc (.cells #[.int .i64 2, .bool lo, .bool true, .string s] 111)).heap.size (w.alloc (.cells #[.int .i64 2, .bool lo, .bool true, .string s] 111))) nq) HZ.out)
      have hzv : w.heap.size < ((w.alloc (.cells #[.int .i64 2, .bool lo, .bool true, .string s] 111)).drewN nq).heap.size := HZ.out
      generalize (w.alloc (.cells #[.int .i64 2, .bool lo, .bool true, .string s] 111)).drewN nq = V at *
      obtain ⟨k0, k1, k2, k3⟩ := XV.out
      go_wp2_with fail
      go_region_held3 (fun w' => w'.cell? ⟨w.heap.size, 0, none⟩ = some (.int .i64 2) ∧ w'.cell? ⟨w.heap.size, 1, none⟩ = some (.bool lo) ∧ w'.cell? ⟨w.heap.size, 2, none⟩ = some (.bool true) ∧ w'.cell? ⟨w.heap.size, 3, none⟩ = some (.string s))
        (first
          | exact ⟨X9.out.c0, X9.out.c1, X9.out.c2, X9.out.c3⟩
          | exact ⟨X8.out.c0, X8.out.c1, X8.out.c2, X8.out.c3⟩
          | go_keep)
        (first
          | ((go_at_call 76; refine (HU.out _).mono ?_; rintro e w8 ⟨rfl, hb8⟩; have z8 : w.heap.size < w8.heap.size := (by have := hb8.size; simp at this; omega); have X8 := Lib.hid ((XV.out.below (Below.refl V.heap.size V).drew hzv).below hb8 (by simpa using hzv)); have B8 := Lib.hid (BV.out.drew.trans (hb8.mono (by simp; omega))); clear hb8))
          | ((go_at_call 77; refine (isHigh_any 2 lo true u _ HL.out).mono ?_; rw [HH.out]; rintro e w9 ⟨rfl, hb9⟩; have X9 := Lib.hid (X8.out.below hb9 (by omega)); have B9 := Lib.hid (B8.out.trans (hb9.mono (by omega))); clear hb9)))
      obtain ⟨g0, g1, g2, g3⟩ := X9.out
      go_wp2
      go_ret
      exact ⟨ret_int (by rw [HC.out]), B9.out⟩
set_option maxRecDepth 100000 in
set_option maxHeartbeats 1000000 in
theorem scut4 (k : Nat) (s : ByteArray) (w : World) (h2 : 3 ≤ k) (h4 : k ≤ 4) (hz : s.size ≤ 100000) :
    Calls Tryd.prog 70 #[.agg #[.int .i64 4, .bool (loK k), .bool false, .string s]] w fun e w' => e = .returned (.int .i64 (cutK k (bs s) : Int)) ∧ Below w.heap.size w w' := by
  have hzk : szK k = 4 := by unfold szK; rw [if_neg (by omega)]
  have hpk : prK k = false := by simp [prK]; omega
  have HB0 := Lib.hid (show Below w.heap.size w (w.alloc (.cells #[.int .i64 4, .bool (loK k), .bool false, .string s] 111)) from (Below.refl _ _).alloc (Nat.le_refl _) _)
  have HX0 := Lib.hid (Box.new w 4 (loK k) false s 111)
  obtain ⟨W, hW⟩ : ∃ W : Nat, W = s.size - s.size % 4 := ⟨_, rfl⟩
  have hcut : cutK k (bs s) = W := by
    unfold cutK
    rw [hzk, bs_len, ← hW, if_neg (by omega)]
  have w1 : (s.size : Int) - (s.size : Int) % 4 = (W : Int) := by omega
  have w2 : W ≤ s.size := by omega
  by_cases c0 : W = 0
  · skip
    have HC := Lib.hid hcut
    have HW := Lib.hid c0
    have w3 : ¬ (0 : Int) < (W : Int) := by omega
    have w4 : decide (0 < W) = false := by simp; omega
    clear hcut hW hzk hpk c0
    generalize loK k = lo at *
    go_enter Tryd.func70, Tryd.ntmps70
    go_wp2_with fail
    go_quiet (fail)
    go_wp2_with fail
    go_quiet (fail)
    go_wp2
    go_ret
    exact ⟨ret_int (by rw [HC.out]), bel_drewN (bel_drewN HB0.out _) _⟩
  · have HU := Lib.hid (fun V => unit_any k s (W - 4) V (by omega) (by omega) (by rw [hzk]; omega) hz)
    rw [hzk, hpk] at HU
    have hlt := unN_lt32 k ((bs s).drop (W - 4)) (allB_drop (bs_B s) _)
    have c1 : 0 < W := by omega
    have w3 : (0 : Int) < (W : Int) := by omega
    have w4 : decide (0 < W) = true := by simp; omega
    obtain ⟨q, hq⟩ : ∃ q : Nat, q = W - 4 := ⟨_, rfl⟩
    rw [← hq] at HU hlt 
    have w5 : IntKind.i64.wrap ((W : Int) - 4) = (q : Int) := by rw [hq]; rw [show ((W - 4 : Nat) : Int) = (W : Int) - 4 by omega]; exact IntWalk.i64_in _ (by omega)
    have w6 : (W : Int) - 4 = (q : Int) := by omega
    have w7 : IntKind.i64.wrap (q : Int) = (q : Int) := IntWalk.i64_in _ (by omega)
    have w8 : (0 : Int) ≤ (q : Int) := by omega
    rw [show ((4 : Nat) : Int) = 4 from rfl] at HU
    generalize unN k ((bs s).drop q) = u at *
    clear hW hzk hpk c0 hq
    generalize cutK k (bs s) = C at *
    generalize loK k = lo at *
    have HL := Lib.hid hlt
    have HZ : Hid (w.heap.size < (w.alloc (.cells #[.int .i64 4, .bool lo, .bool false, .string s] 111)).heap.size) := by show _ < _; simp
    clear hlt
    have HC := Lib.hid hcut
    have HH := Lib.hid (show hiB false u = false by simp [hiB])
    clear hcut
    go_enter Tryd.func70, Tryd.ntmps70
    go_wp2_with fail
    go_quiet (fail)
    have BV := Lib.hid (bel_drewN HB0.out nq)
    have XV := Lib.hid (HX0.out.below (bel_drewN (Below.refl (w.alloc (.cells #[.int .i64 4, .bool lo, .bool false, .string s] 111)).heap.size (w.alloc (.cells #[.int .i64 4, .bool lo, .bool false, .string s] 111))) nq) HZ.out)
    have hzv : w.heap.size < ((w.alloc (.cells #[.int .i64 4, .bool lo, .bool false, .string s] 111)).drewN nq).heap.size := HZ.out
    generalize (w.alloc (.cells #[.int .i64 4, .bool lo, .bool false, .string s] 111)).drewN nq = V at *
    obtain ⟨k0, k1, k2, k3⟩ := XV.out
    go_wp2_with fail
    go_region_held3 (fun w' => w'.cell? ⟨w.heap.size, 0, none⟩ = some (.int .i64 4) ∧ w'.cell? ⟨w.heap.size, 1, none⟩ = some (.bool lo) ∧ w'.cell? ⟨w.heap.size, 2, none⟩ = some (.bool false) ∧ w'.cell? ⟨w.heap.size, 3, none⟩ = some (.string s))
      (first
        | exact ⟨X9.out.c0, X9.out.c1, X9.out.c2, X9.out.c3⟩
        | exact ⟨X8.out.c0, X8.out.c1, X8.out.c2, X8.out.c3⟩
        | go_keep)
      (first
        | ((go_at_call 76; refine (HU.out _).mono ?_; rintro e w8 ⟨rfl, hb8⟩; have z8 : w.heap.size < w8.heap.size := (by have := hb8.size; simp at this; omega); have X8 := Lib.hid ((XV.out.below (Below.refl V.heap.size V).drew hzv).below hb8 (by simpa using hzv)); have B8 := Lib.hid (BV.out.drew.trans (hb8.mono (by simp; omega))); clear hb8))
        | ((go_at_call 77; refine (isHigh_any 4 lo false u _ HL.out).mono ?_; rw [HH.out]; rintro e w9 ⟨rfl, hb9⟩; have X9 := Lib.hid (X8.out.below hb9 (by omega)); have B9 := Lib.hid (B8.out.trans (hb9.mono (by omega))); clear hb9)))
    obtain ⟨g0, g1, g2, g3⟩ := X9.out
    go_wp2
    go_ret
    exact ⟨ret_int (by rw [HC.out]), B9.out⟩
theorem scut_any (k : Nat) (s : ByteArray) (w : World) (h1 : 1 ≤ k) (h4 : k ≤ 4) (hz : s.size ≤ 100000) :
    Calls Tryd.prog 70 #[.agg #[.int .i64 (szK k : Int), .bool (loK k), .bool (prK k), .string s]] w fun e w' => e = .returned (.int .i64 (cutK k (bs s) : Int)) ∧ Below w.heap.size w w' := by
  by_cases h2 : k ≤ 2
  · have hzk : szK k = 2 := by simp [szK, h2]
    have hpk : prK k = true := by simp [prK, h2]
    rw [hzk, hpk]
    exact scut2 k s w h1 h2 hz
  · have hzk : szK k = 4 := by unfold szK; rw [if_neg (by omega)]
    have hpk : prK k = false := by simp [prK]; omega
    rw [hzk, hpk]
    exact scut4 k s w (by omega) h4 hz
set_option maxRecDepth 100000 in
set_option maxHeartbeats 1000000 in
theorem cut_any (k : Nat) (s : ByteArray) (w : World) (hT : Tab w) (h1 : 1 ≤ k) (h4 : k ≤ 4) (hz : s.size ≤ 100000) :
    Calls Tryd.prog 57 #[.int .i64 (k : Int), .string s] w fun e w' => e = .returned (.tuple #[.int .i64 (cutK k (bs s) : Int), .int .i64 0]) ∧ Below w.heap.size w w' := by
  have HL := Lib.hid (layout_any k w hT h1 h4)
  have HN := Lib.hid (fun W => scut_any k s W h1 h4 hz)
  generalize cutK k (bs s) = N at *
  generalize szK k = z at *
  generalize loK k = lo at *
  generalize prK k = pr at *
  clear hT
  go_enter Tryd.func57, Tryd.ntmps57
  go_wp2_with fail
  refine HL.out.mono ?_
  rintro e w1 ⟨rfl, hb1⟩
  have B1 := Lib.hid hb1
  have z1 := hb1.size
  clear hb1
  go_wp2_with fail
  refine (HN.out _).mono ?_
  rintro e w2 ⟨rfl, hb2⟩
  have B2 := Lib.hid ((B1.out.alloc z1 (.cells #[.int .i64 (z : Int), .bool lo, .bool pr] 107)).trans (hb2.mono (by simp; omega)))
  clear hb2
  go_wp2_with fail
  go_ret2
  exact ⟨rfl, B2.out⟩
set_option maxRecDepth 100000 in
set_option maxHeartbeats 1000000 in
theorem cut_no (k : Int) (s : ByteArray) (w : World) (h : k < 1 ∨ 4 < k) :
    Calls Tryd.prog 57 #[.int .i64 k, .string s] w fun e w' => e = .returned (.tuple #[.int .i64 0, .int .i64 16]) ∧ Below w.heap.size w w' := by
  go_enter Tryd.func57, Tryd.ntmps57
  go_wp2_with fail
  refine (layout_no k w h).mono ?_
  rintro e w1 ⟨rfl, hb1⟩
  have B1 := Lib.hid hb1
  have z1 := hb1.size
  clear hb1
  go_wp2_with fail
  go_ret2
  exact ⟨rfl, B1.out.alloc z1 _⟩
end Go.Proofs.YthnfopjjghohcaaDoor.Wd

import Derived.Test.YthnfopjjghohcaaDoorGU1
import Derived.Test.YthnfopjjghohcaaDoorGC1
namespace Go.Proofs.YthnfopjjghohcaaDoor.U8
open Go.RowKit

set_option maxRecDepth 100000 in
set_option maxHeartbeats 1000000 in
theorem decode1 (A : Option Addr) (c : Nat) (xs : List ByteArray) (w : World) (hT : Tab w) (hx : Strs w A c xs) (hn : xs.length ≤ 100000) (hs : (catB xs).size ≤ 100000) :
    Calls Tryd.prog 39 #[.int .i64 1, .slice A xs.length c] w (DecPost w (dec 1 0 (bs (catB xs)))) := by
  obtain ⟨i0, hi0, hz0, hz1, hz2⟩ := info_parts r_info
  have I0 := Lib.hid hi0
  have I1 := Lib.hid hz0
  have I2 := Lib.hid hz1
  have I3 := Lib.hid hz2
  clear hi0 hz0 hz1 hz2
  obtain ⟨j0, hj0, hz0, hz1, hz2⟩ := info_parts f_info
  have J0 := Lib.hid hj0
  have J1 := Lib.hid hz0
  have J2 := Lib.hid hz1
  have J3 := Lib.hid hz2
  clear hj0 hz0 hz1 hz2
  have HJ := Lib.hid (join_any A c xs w hx hn hs)
  generalize catB xs = s at *
  have hpos := hT.pos
  have HT := Lib.hid hT
  clear hT hx
  generalize hdt : dec 1 0 (bs s) = tot
  have HDT := Lib.hid hdt
  clear hdt
  go_enter Tryd.func39, Tryd.ntmps39
  go_wp2_with fail
  refine HJ.out.mono ?_
  rintro e w0 ⟨rfl, hb0⟩
  have HB0 := Lib.hid hb0
  clear hb0 HJ
  go_wp2_with fail
  go_loopw [7, 8, 10] (fun out flt i wr => ∃ k : Nat, i = .int .i64 k ∧ k ≤ s.size ∧ ∃ os fs, Hid (DecRel w wr out flt 1 k ((bs s).drop k) tot os fs)) (fun _ _ i _ => s.size - (intOf i).toNat)
  case atStart => exact ⟨0, rfl, by omega, [], [], by rw [← HDT.out]; exact DecRel.start w 1 (bs s) HB0.out⟩
  case round =>
    obtain ⟨k, rfl, hk, os, fs, HD⟩ := hrel
    have hlo := HD.out.lo
    have hlf := HD.out.lf
    have hsz := HD.out.bel.size
    have hmo : os.length + 1 ≤ maxLen := by unfold maxLen; omega
    have hmf : fs.length + 1 ≤ maxLen := by unfold maxLen; omega
    by_cases hlt : k < s.size
    · have hne : (bs s).drop k ≠ [] := by
        intro h
        have := congrArg List.length h
        rw [List.length_drop, bs_len] at this
        simp at this
        omega
      obtain ⟨r, e, n, hX, n1, n2, n3, n4, n5⟩ := nx_step _ hne
      rw [List.length_drop, bs_len] at n2
      have HX := Lib.hid hX
      have HNE := Lib.hid hne
      have N4 := Lib.hid n4
      clear hX hne n4 n5
      have hlt' : (k : Int) < s.size := by omega
      by_cases he : e = 0
      · have HX0 := Lib.hid (show nx ((bs s).drop k) = (r, (n : Int), 0) by rw [HX.out, he])
        subst he
        go_wp2_with fail
        refine (next_from s k _ (HT.out.below HD.out.bel hpos) hs r 0 n HX0.out).mono ?_
        rintro v w' ⟨rfl, rfl⟩
        go_wp2_with (at_builtin; refine wpList_append_own_at _ rfl (.tmp 56) (.tmp 58) _ rfl w.heap.size 21 i0 _ 1 4 Tryd.underlying25 I0.out I1.out I2.out I3.out rfl (by omega) u7 os.length _ rfl (HD.out.o.alloc _) ⟨wr.heap.size, 0, none⟩ 1 1 [_] rfl rfl (cell_one_new _ _ _) (by simp [Value.oneCell']) hmo (by omega) (by simp; omega) ?_; intro v2 w2 ho2 hg2 hn2 ha2; have HO2 := Lib.hid ho2; have HG2 := Lib.hid hg2; clear ho2 hg2 hn2 ha2)
        go_roundw
        case rel => exact ⟨k + n, by go_num, by omega, os ++ [r], fs, by have := HD.out.ok HNE.out HX0.out n1 HO2.out HG2.out; rw [List.drop_drop] at this; exact this⟩
        case measure => simp [intOf]; omega
      · have he1 : (e != 0) = true := by simpa using he
        have he2 : (e == 0) = false := by simpa using he
        have HE := Lib.hid he
        clear he
        go_wp2_with fail
        refine (next_from s k _ (HT.out.below HD.out.bel hpos) hs r e n HX.out).mono ?_
        rintro v w' ⟨rfl, rfl⟩
        go_wp2_with (at_builtin; refine wpList_append_own_at _ rfl (.tmp 40) (.tmp 44) _ rfl w.heap.size 50 j0 _ 2 16 Tryd.underlying26 J0.out J1.out J2.out J3.out rfl (by omega) u8 fs.length _ rfl (HD.out.f.alloc _) ⟨wr.heap.size, 0, none⟩ 1 1 [.int .i64 k, .int .i64 n] rfl rfl (World.news_of_block (cs := #[.int .i64 k, .int .i64 n]) (t := 50) (fr := (0, 0)) (heap_alloc_new wr _)) (by simp [Value.oneCell']) hmf (by omega) (by simp; omega) ?_; intro v2 w2 ho2 hg2 hn2 ha2; have HO2 := Lib.hid ho2; have HG2 := Lib.hid hg2; clear ho2 hg2 hn2 ha2)
        go_ret3
        obtain ⟨p1, p2, p3, p4⟩ := HD.out.flt1 HNE.out HX.out HE.out HO2.out HG2.out
        exact ⟨_, _, by rw [p4]; rfl, p2, p3, p1⟩
    · have hlt' : ¬ (k : Int) < s.size := by omega
      have ht := HD.out.tot
      rw [bs_end s k (by omega), dec_nil] at ht
      have HTT := Lib.hid ht
      clear ht
      go_wp2
      go_ret3
      exact ⟨_, _, by rw [HTT.out]; rfl, by rw [HTT.out]; simpa using HD.out.o, by rw [HTT.out]; simpa using HD.out.f, HD.out.bel⟩

set_option maxRecDepth 100000 in
set_option maxHeartbeats 1000000 in
theorem decode2 (A : Option Addr) (c : Nat) (xs : List ByteArray) (w : World) (hT : Tab w) (hx : Strs w A c xs) (hn : xs.length ≤ 100000) (hs : (catB xs).size ≤ 100000) :
    Calls Tryd.prog 39 #[.int .i64 2, .slice A xs.length c] w (DecPost w (dec 2 0 (bs (catB xs)))) := by
  obtain ⟨i0, hi0, hz0, hz1, hz2⟩ := info_parts r_info
  have I0 := Lib.hid hi0
  have I1 := Lib.hid hz0
  have I2 := Lib.hid hz1
  have I3 := Lib.hid hz2
  clear hi0 hz0 hz1 hz2
  obtain ⟨j0, hj0, hz0, hz1, hz2⟩ := info_parts f_info
  have J0 := Lib.hid hj0
  have J1 := Lib.hid hz0
  have J2 := Lib.hid hz1
  have J3 := Lib.hid hz2
  clear hj0 hz0 hz1 hz2
  have HJ := Lib.hid (join_any A c xs w hx hn hs)
  generalize catB xs = s at *
  have hpos := hT.pos
  have HT := Lib.hid hT
  clear hT hx
  generalize hdt : dec 2 0 (bs s) = tot
  have HDT := Lib.hid hdt
  clear hdt
  go_enter Tryd.func39, Tryd.ntmps39
  go_wp2_with fail
  refine HJ.out.mono ?_
  rintro e w0 ⟨rfl, hb0⟩
  have HB0 := Lib.hid hb0
  clear hb0 HJ
  go_wp2_with fail
  go_loopw [7, 8, 10] (fun out flt i wr => ∃ k : Nat, i = .int .i64 k ∧ k ≤ s.size ∧ ∃ os fs, Hid (DecRel w wr out flt 2 k ((bs s).drop k) tot os fs)) (fun _ _ i _ => s.size - (intOf i).toNat)
  case atStart => exact ⟨0, rfl, by omega, [], [], by rw [← HDT.out]; exact DecRel.start w 2 (bs s) HB0.out⟩
  case round =>
    obtain ⟨k, rfl, hk, os, fs, HD⟩ := hrel
    have hlo := HD.out.lo
    have hlf := HD.out.lf
    have hsz := HD.out.bel.size
    have hmo : os.length + 1 ≤ maxLen := by unfold maxLen; omega
    have hmf : fs.length + 1 ≤ maxLen := by unfold maxLen; omega
    by_cases hlt : k < s.size
    · have hne : (bs s).drop k ≠ [] := by
        intro h
        have := congrArg List.length h
        rw [List.length_drop, bs_len] at this
        simp at this
        omega
      obtain ⟨r, e, n, hX, n1, n2, n3, n4, n5⟩ := nx_step _ hne
      rw [List.length_drop, bs_len] at n2
      have HX := Lib.hid hX
      have HNE := Lib.hid hne
      have N4 := Lib.hid n4
      clear hX hne n4 n5
      have hlt' : (k : Int) < s.size := by omega
      by_cases he : e = 0
      · have HX0 := Lib.hid (show nx ((bs s).drop k) = (r, (n : Int), 0) by rw [HX.out, he])
        subst he
        go_wp2_with fail
        refine (next_from s k _ (HT.out.below HD.out.bel hpos) hs r 0 n HX0.out).mono ?_
        rintro v w' ⟨rfl, rfl⟩
        go_wp2_with (at_builtin; refine wpList_append_own_at _ rfl (.tmp 56) (.tmp 58) _ rfl w.heap.size 21 i0 _ 1 4 Tryd.underlying25 I0.out I1.out I2.out I3.out rfl (by omega) u7 os.length _ rfl (HD.out.o.alloc _) ⟨wr.heap.size, 0, none⟩ 1 1 [_] rfl rfl (cell_one_new _ _ _) (by simp [Value.oneCell']) hmo (by omega) (by simp; omega) ?_; intro v2 w2 ho2 hg2 hn2 ha2; have HO2 := Lib.hid ho2; have HG2 := Lib.hid hg2; clear ho2 hg2 hn2 ha2)
        go_roundw
        case rel => exact ⟨k + n, by go_num, by omega, os ++ [r], fs, by have := HD.out.ok HNE.out HX0.out n1 HO2.out HG2.out; rw [List.drop_drop] at this; exact this⟩
        case measure => simp [intOf]; omega
      · have he1 : (e != 0) = true := by simpa using he
        have he2 : (e == 0) = false := by simpa using he
        have HE := Lib.hid he
        clear he
        go_wp2_with fail
        refine (next_from s k _ (HT.out.below HD.out.bel hpos) hs r e n HX.out).mono ?_
        rintro v w' ⟨rfl, rfl⟩
        go_wp2_with (first | (at_builtin; refine wpList_append_own_at _ rfl (.tmp 40) (.tmp 44) _ rfl w.heap.size 50 j0 _ 2 16 Tryd.underlying26 J0.out J1.out J2.out J3.out rfl (by omega) u8 fs.length _ rfl (HD.out.f.alloc _) ⟨wr.heap.size, 0, none⟩ 1 1 [.int .i64 k, .int .i64 n] rfl rfl (World.news_of_block (cs := #[.int .i64 k, .int .i64 n]) (t := 50) (fr := (0, 0)) (heap_alloc_new wr _)) (by simp [Value.oneCell']) hmf (by omega) (by simp; omega) ?_; intro v2 w2 ho2 hg2 hn2 ha2; have HO2 := Lib.hid ho2; have HG2 := Lib.hid hg2; clear ho2 hg2 hn2 ha2; have K2 := Lib.hid (HD.out.keepO HG2.out); have k2 := K2.out.2) | (at_builtin; refine wpList_append_own_at _ rfl (.tmp 56) (.tmp 58) _ rfl w.heap.size 21 i0 _ 1 4 Tryd.underlying25 I0.out I1.out I2.out I3.out rfl (by omega) u7 os.length _ rfl (K2.out.1.alloc _) ⟨w2.heap.size, 0, none⟩ 1 1 [_] rfl rfl (cell_one_new _ _ _) (by simp [Value.oneCell']) hmo (by omega) (by simp; omega) ?_; intro v3 w3 ho3 hg3 hn3 ha3; have HO3 := Lib.hid ho3; have HG3 := Lib.hid hg3; clear ho3 hg3 hn3 ha3))
        go_roundw
        case rel => exact ⟨k + n, by go_num, by omega, os ++ [65533], fs ++ [(k, n)], by have := HD.out.bad2 HNE.out HX.out HE.out n1 HO2.out HG2.out HO3.out HG3.out; rw [List.drop_drop] at this; exact this⟩
        case measure => simp [intOf]; omega
    · have hlt' : ¬ (k : Int) < s.size := by omega
      have ht := HD.out.tot
      rw [bs_end s k (by omega), dec_nil] at ht
      have HTT := Lib.hid ht
      clear ht
      go_wp2
      go_ret3
      exact ⟨_, _, by rw [HTT.out]; rfl, by rw [HTT.out]; simpa using HD.out.o, by rw [HTT.out]; simpa using HD.out.f, HD.out.bel⟩

set_option maxRecDepth 100000 in
set_option maxHeartbeats 1000000 in
theorem decode3 (A : Option Addr) (c : Nat) (xs : List ByteArray) (w : World) (hT : Tab w) (hx : Strs w A c xs) (hn : xs.length ≤ 100000) (hs : (catB xs).size ≤ 100000) :
    Calls Tryd.prog 39 #[.int .i64 3, .slice A xs.length c] w (DecPost w (dec 3 0 (bs (catB xs)))) := by
  obtain ⟨i0, hi0, hz0, hz1, hz2⟩ := info_parts r_info
  have I0 := Lib.hid hi0
  have I1 := Lib.hid hz0
  have I2 := Lib.hid hz1
  have I3 := Lib.hid hz2
  clear hi0 hz0 hz1 hz2
  obtain ⟨j0, hj0, hz0, hz1, hz2⟩ := info_parts f_info
  have J0 := Lib.hid hj0
  have J1 := Lib.hid hz0
  have J2 := Lib.hid hz1
  have J3 := Lib.hid hz2
  clear hj0 hz0 hz1 hz2
  have HJ := Lib.hid (join_any A c xs w hx hn hs)
  generalize catB xs = s at *
  have hpos := hT.pos
  have HT := Lib.hid hT
  clear hT hx
  generalize hdt : dec 3 0 (bs s) = tot
  have HDT := Lib.hid hdt
  clear hdt
  go_enter Tryd.func39, Tryd.ntmps39
  go_wp2_with fail
  refine HJ.out.mono ?_
  rintro e w0 ⟨rfl, hb0⟩
  have HB0 := Lib.hid hb0
  clear hb0 HJ
  go_wp2_with fail
  go_loopw [7, 8, 10] (fun out flt i wr => ∃ k : Nat, i = .int .i64 k ∧ k ≤ s.size ∧ ∃ os fs, Hid (DecRel w wr out flt 3 k ((bs s).drop k) tot os fs)) (fun _ _ i _ => s.size - (intOf i).toNat)
  case atStart => exact ⟨0, rfl, by omega, [], [], by rw [← HDT.out]; exact DecRel.start w 3 (bs s) HB0.out⟩
  case round =>
    obtain ⟨k, rfl, hk, os, fs, HD⟩ := hrel
    have hlo := HD.out.lo
    have hlf := HD.out.lf
    have hsz := HD.out.bel.size
    have hmo : os.length + 1 ≤ maxLen := by unfold maxLen; omega
    have hmf : fs.length + 1 ≤ maxLen := by unfold maxLen; omega
    by_cases hlt : k < s.size
    · have hne : (bs s).drop k ≠ [] := by
        intro h
        have := congrArg List.length h
        rw [List.length_drop, bs_len] at this
        simp at this
        omega
      obtain ⟨r, e, n, hX, n1, n2, n3, n4, n5⟩ := nx_step _ hne
      rw [List.length_drop, bs_len] at n2
      have HX := Lib.hid hX
      have HNE := Lib.hid hne
      have N4 := Lib.hid n4
      clear hX hne n4 n5
      have hlt' : (k : Int) < s.size := by omega
      by_cases he : e = 0
      · have HX0 := Lib.hid (show nx ((bs s).drop k) = (r, (n : Int), 0) by rw [HX.out, he])
        subst he
        go_wp2_with fail
        refine (next_from s k _ (HT.out.below HD.out.bel hpos) hs r 0 n HX0.out).mono ?_
        rintro v w' ⟨rfl, rfl⟩
        go_wp2_with (at_builtin; refine wpList_append_own_at _ rfl (.tmp 56) (.tmp 58) _ rfl w.heap.size 21 i0 _ 1 4 Tryd.underlying25 I0.out I1.out I2.out I3.out rfl (by omega) u7 os.length _ rfl (HD.out.o.alloc _) ⟨wr.heap.size, 0, none⟩ 1 1 [_] rfl rfl (cell_one_new _ _ _) (by simp [Value.oneCell']) hmo (by omega) (by simp; omega) ?_; intro v2 w2 ho2 hg2 hn2 ha2; have HO2 := Lib.hid ho2; have HG2 := Lib.hid hg2; clear ho2 hg2 hn2 ha2)
        go_roundw
        case rel => exact ⟨k + n, by go_num, by omega, os ++ [r], fs, by have := HD.out.ok HNE.out HX0.out n1 HO2.out HG2.out; rw [List.drop_drop] at this; exact this⟩
        case measure => simp [intOf]; omega
      · have he1 : (e != 0) = true := by simpa using he
        have he2 : (e == 0) = false := by simpa using he
        have HE := Lib.hid he
        clear he
        go_wp2_with fail
        refine (next_from s k _ (HT.out.below HD.out.bel hpos) hs r e n HX.out).mono ?_
        rintro v w' ⟨rfl, rfl⟩
        go_wp2_with (at_builtin; refine wpList_append_own_at _ rfl (.tmp 40) (.tmp 44) _ rfl w.heap.size 50 j0 _ 2 16 Tryd.underlying26 J0.out J1.out J2.out J3.out rfl (by omega) u8 fs.length _ rfl (HD.out.f.alloc _) ⟨wr.heap.size, 0, none⟩ 1 1 [.int .i64 k, .int .i64 n] rfl rfl (World.news_of_block (cs := #[.int .i64 k, .int .i64 n]) (t := 50) (fr := (0, 0)) (heap_alloc_new wr _)) (by simp [Value.oneCell']) hmf (by omega) (by simp; omega) ?_; intro v2 w2 ho2 hg2 hn2 ha2; have HO2 := Lib.hid ho2; have HG2 := Lib.hid hg2; clear ho2 hg2 hn2 ha2)
        go_roundw
        case rel => exact ⟨k + n, by go_num, by omega, os, fs ++ [(k, n)], by have := HD.out.bad3 HNE.out HX.out HE.out n1 HO2.out HG2.out; rw [List.drop_drop] at this; exact this⟩
        case measure => simp [intOf]; omega
    · have hlt' : ¬ (k : Int) < s.size := by omega
      have ht := HD.out.tot
      rw [bs_end s k (by omega), dec_nil] at ht
      have HTT := Lib.hid ht
      clear ht
      go_wp2
      go_ret3
      exact ⟨_, _, by rw [HTT.out]; rfl, by rw [HTT.out]; simpa using HD.out.o, by rw [HTT.out]; simpa using HD.out.f, HD.out.bel⟩

end Go.Proofs.YthnfopjjghohcaaDoor.U8
namespace Go.Proofs.YthnfopjjghohcaaDoor.U8
open Go.RowKit

set_option maxRecDepth 100000 in
set_option maxHeartbeats 1000000 in
theorem decode_no (pol : Int) (A : Option Addr) (n c : Nat) (w : World) (h1 : pol ≠ 1) (h2 : pol ≠ 2) (h3 : pol ≠ 3) :
    Calls Tryd.prog 39 #[.int .i64 pol, .slice A n c] w (DecPost w ([], [], 16)) := by
  have e1 : (pol != 1) = true := by simpa using h1
  have e2 : (pol != 2) = true := by simpa using h2
  have e3 : (pol != 3) = true := by simpa using h3
  clear h1 h2 h3
  go_enter Tryd.func39, Tryd.ntmps39
  go_wp2
  go_ret3
  exact ⟨_, _, rfl, World.ownsRow_nil _ _ _ _, World.ownsRow_nil _ _ _ _, Below.refl _ _⟩
theorem decode_any (pol : Int) (A : Option Addr) (c : Nat) (xs : List ByteArray) (w : World) (hT : Tab w) (hx : Strs w A c xs) (hn : xs.length ≤ 100000) (hs : (catB xs).size ≤ 100000) :
    Calls Tryd.prog 39 #[.int .i64 pol, .slice A xs.length c] w (DecPost w (decP pol (bs (catB xs)))) := by
  unfold decP
  by_cases h1 : pol = 1
  · subst h1; rw [if_pos (.inl rfl)]; exact decode1 A c xs w hT hx hn hs
  by_cases h2 : pol = 2
  · subst h2; rw [if_pos (.inr (.inl rfl))]; exact decode2 A c xs w hT hx hn hs
  by_cases h3 : pol = 3
  · subst h3; rw [if_pos (.inr (.inr rfl))]; exact decode3 A c xs w hT hx hn hs
  rw [if_neg (by simp [h1, h2, h3])]
  exact decode_no pol A _ c w h1 h2 h3
end Go.Proofs.YthnfopjjghohcaaDoor.U8
namespace Go.Proofs.YthnfopjjghohcaaDoor.U8
open Go.RowKit

def Inc (l : List Nat) (k : Nat) : Prop := k < l.length ∧ (nx (l.drop k)).2.2 = 18

theorem ex_cont (b : Nat) (t : List Nat) (h : 128 ≤ b ∧ b < 192) : ex (b :: t) = (0, 1, 17) := by
  simp [ex, (fsz_0 b (by omega)).1]
theorem okr (b0 b1 : Nat) (h : lo1 b0 ≤ b1 ∧ b1 < hi1 b0) : 128 ≤ b1 ∧ b1 < 192 := by
  unfold lo1 hi1 at h; (repeat' split at h) <;> omega

set_option maxRecDepth 20000 in
/-- Behind a unit's first byte its bytes are later ones. -/
theorem tail_cont (l : List Nat) (k : Nat) (hk : 0 < k) (hn : (k : Int) < (ex l).2.1) : ex (l.drop k) = (0, 1, 17) := by
  match l with
  | [] => simp [ex] at hn; omega
  | [b0] =>
    simp only [ex] at hn
    (repeat' split at hn) <;> simp at hn <;> omega
  | [b0, b1] =>
    simp only [ex] at hn
    by_cases c1 : fsz b0 = 0
    · simp [c1] at hn; omega
    by_cases c2 : fsz b0 = 1
    · simp [c2] at hn; omega
    by_cases c3 : lo1 b0 ≤ b1 ∧ b1 < hi1 b0
    · have hb := okr b0 b1 c3
      simp [c1, c2, c3] at hn
      have : k = 1 := by split at hn <;> simp at hn <;> omega
      subst this
      exact ex_cont b1 [] hb
    · simp [c1, c2, c3] at hn; omega
  | [b0, b1, b2] =>
    simp only [ex] at hn
    by_cases c1 : fsz b0 = 0
    · simp [c1] at hn; omega
    by_cases c2 : fsz b0 = 1
    · simp [c2] at hn; omega
    by_cases c3 : lo1 b0 ≤ b1 ∧ b1 < hi1 b0
    · have hb := okr b0 b1 c3
      by_cases c4 : fsz b0 = 2
      · simp [c3, c4] at hn
        obtain rfl : k = 1 := by omega
        exact ex_cont b1 _ hb
      by_cases c5 : 128 ≤ b2 ∧ b2 < 192
      · have : k = 1 ∨ k = 2 := by simp [c1, c2, c3, c4, c5] at hn; (split at hn) <;> simp at hn <;> omega
        rcases this with rfl | rfl
        · exact ex_cont b1 _ hb
        · exact ex_cont b2 _ c5
      · simp [c1, c2, c3, c4, c5] at hn
        obtain rfl : k = 1 := by omega
        exact ex_cont b1 _ hb
    · simp [c1, c2, c3] at hn; omega
  | b0 :: b1 :: b2 :: b3 :: t =>
    simp only [ex] at hn
    by_cases c1 : fsz b0 = 0
    · simp [c1] at hn; omega
    by_cases c2 : fsz b0 = 1
    · simp [c2] at hn; omega
    by_cases c3 : lo1 b0 ≤ b1 ∧ b1 < hi1 b0
    · have hb := okr b0 b1 c3
      by_cases c4 : fsz b0 = 2
      · simp [c3, c4] at hn
        obtain rfl : k = 1 := by omega
        exact ex_cont b1 _ hb
      by_cases c5 : 128 ≤ b2 ∧ b2 < 192
      · by_cases c6 : fsz b0 = 3
        · simp [c3, c5, c6] at hn
          have : k = 1 ∨ k = 2 := by omega
          rcases this with rfl | rfl
          · exact ex_cont b1 _ hb
          · exact ex_cont b2 _ c5
        by_cases c7 : 128 ≤ b3 ∧ b3 < 192
        · simp [c1, c2, c3, c4, c5, c6, c7] at hn
          have : k = 1 ∨ k = 2 ∨ k = 3 := by omega
          rcases this with rfl | rfl | rfl
          · exact ex_cont b1 _ hb
          · exact ex_cont b2 _ c5
          · exact ex_cont b3 _ c7
        · simp [c1, c2, c3, c4, c5, c6, c7] at hn
          have : k = 1 ∨ k = 2 := by omega
          rcases this with rfl | rfl
          · exact ex_cont b1 _ hb
          · exact ex_cont b2 _ c5
      · simp [c1, c2, c3, c4, c5] at hn
        obtain rfl : k = 1 := by omega
        exact ex_cont b1 _ hb
    · simp [c1, c2, c3] at hn; omega

theorem inc_len {l : List Nat} {k : Nat} (h : Inc l k) : l.length - k ≤ 3 ∧ k < l.length := by
  have hne : l.drop k ≠ [] := by
    intro e
    have := congrArg List.length e
    rw [List.length_drop] at this
    have := h.1
    simp at *
    omega
  obtain ⟨r, e, n, hx, h1, h2, h3, h4, h5, h6⟩ := nx_step _ hne
  have he := h.2
  rw [hx] at he
  have := h5 he
  have := h6 (by intro hz; rw [hz] at he; simp at he)
  rw [List.length_drop] at *
  exact ⟨by omega, h.1⟩
/-- In a unit that begins at k only its first place may be such a beginning. -/
theorem inc_in {l : List Nat} {k n j : Nat} {r e : Int} (hx : nx (l.drop k) = (r, (n : Int), e)) (hj : k < j) (hj' : j < k + n) : ¬ Inc l j := by
  intro h
  rw [nx_ex] at hx
  have := tail_cont (l.drop k) (j - k) (by omega) (by rw [hx]; simp; omega)
  rw [List.drop_drop, show k + (j - k) = j by omega] at this
  have h2 := h.2
  rw [nx_ex, this] at h2
  simp at h2
theorem inc_one {l : List Nat} {i j : Nat} (hi : Inc l i) (hj : Inc l j) : i = j := by
  have aux : ∀ {i j : Nat}, Inc l i → Inc l j → ¬ i < j := by
    intro i j hi hj hlt
    have hne : l.drop i ≠ [] := by
      intro e
      have := congrArg List.length e
      rw [List.length_drop] at this
      have := hi.1
      simp at *
      omega
    obtain ⟨r, e, n, hx, h1, h2, h3, h4, h5, h6⟩ := nx_step _ hne
    have he := hi.2
    rw [hx] at he
    have hn := h5 he
    rw [List.length_drop] at hn
    exact inc_in hx hlt (by have := hj.1; omega) hj
  rcases Nat.lt_trichotomy i j with h | h | h
  · exact absurd h (aux hi hj)
  · exact h
  · exact absurd h (aux hj hi)

/-- Where bytes may be cut: three places are looked at. -/
def cutN (l : List Nat) : Nat :=
  if 1 ≤ l.length ∧ (nx (l.drop (l.length - 1))).2.2 = 18 then l.length - 1
  else if 2 ≤ l.length ∧ (nx (l.drop (l.length - 2))).2.2 = 18 then l.length - 2
  else if 3 ≤ l.length ∧ (nx (l.drop (l.length - 3))).2.2 = 18 then l.length - 3
  else l.length
theorem cutN_form (l : List Nat) : (cutN l = l.length ∧ ∀ j, ¬ Inc l j) ∨ Inc l (cutN l) := by
  unfold cutN
  by_cases c1 : 1 ≤ l.length ∧ (nx (l.drop (l.length - 1))).2.2 = 18
  · rw [if_pos c1]; exact .inr ⟨by omega, c1.2⟩
  rw [if_neg c1]
  by_cases c2 : 2 ≤ l.length ∧ (nx (l.drop (l.length - 2))).2.2 = 18
  · rw [if_pos c2]; exact .inr ⟨by omega, c2.2⟩
  rw [if_neg c2]
  by_cases c3 : 3 ≤ l.length ∧ (nx (l.drop (l.length - 3))).2.2 = 18
  · rw [if_pos c3]; exact .inr ⟨by omega, c3.2⟩
  rw [if_neg c3]
  refine .inl ⟨rfl, fun j hj => ?_⟩
  obtain ⟨h1, h2⟩ := inc_len hj
  have : (j = l.length - 1 ∧ 1 ≤ l.length) ∨ (j = l.length - 2 ∧ 2 ≤ l.length) ∨ (j = l.length - 3 ∧ 3 ≤ l.length) := by omega
  rcases this with ⟨rfl, h⟩ | ⟨rfl, h⟩ | ⟨rfl, h⟩
  · exact c1 ⟨h, hj.2⟩
  · exact c2 ⟨h, hj.2⟩
  · exact c3 ⟨h, hj.2⟩
theorem cutN_le (l : List Nat) : cutN l ≤ l.length ∧ l.length - cutN l ≤ 3 := by
  rcases cutN_form l with ⟨h, _⟩ | h
  · omega
  · have := inc_len h; omega
theorem cutN_eq (l : List Nat) (W : Nat) (h1 : ∀ j, j < l.length → ¬ Inc l j ∨ j = W) (h2 : W = l.length ∨ Inc l W) : cutN l = W := by
  rcases cutN_form l with ⟨h, hn⟩ | h
  · rcases h2 with h2 | h2
    · omega
    · exact absurd h2 (hn _)
  · rcases h1 _ h.1 with h3 | h3
    · exact absurd h h3
    · exact h3
end Go.Proofs.YthnfopjjghohcaaDoor.U8
namespace Go.Proofs.YthnfopjjghohcaaDoor.U8
open Go.RowKit

theorem cut_hit1 {l : List Nat} {z : Nat} (hl : l.length = z) (h : 1 ≤ z) (h1 : (nx (l.drop (z - 1))).2.2 = 18) : cutN l = z - 1 := by
  unfold cutN; rw [hl, if_pos ⟨h, h1⟩]
theorem cut_hit2 {l : List Nat} {z : Nat} (hl : l.length = z) (h : 2 ≤ z) (h1 : ¬ (nx (l.drop (z - 1))).2.2 = 18) (h2 : (nx (l.drop (z - 2))).2.2 = 18) : cutN l = z - 2 := by
  unfold cutN; rw [hl, if_neg (fun c => h1 c.2), if_pos ⟨h, h2⟩]
theorem cut_hit3 {l : List Nat} {z : Nat} (hl : l.length = z) (h : 3 ≤ z) (h1 : ¬ (nx (l.drop (z - 1))).2.2 = 18) (h2 : ¬ (nx (l.drop (z - 2))).2.2 = 18) (h3 : (nx (l.drop (z - 3))).2.2 = 18) : cutN l = z - 3 := by
  unfold cutN; rw [hl, if_neg (fun c => h1 c.2), if_neg (fun c => h2 c.2), if_pos ⟨h, h3⟩]
theorem cut_none {l : List Nat} {z : Nat} (hl : l.length = z) (h1 : 1 ≤ z → ¬ (nx (l.drop (z - 1))).2.2 = 18) (h2 : 2 ≤ z → ¬ (nx (l.drop (z - 2))).2.2 = 18) (h3 : 3 ≤ z → ¬ (nx (l.drop (z - 3))).2.2 = 18) : cutN l = z := by
  unfold cutN; rw [hl, if_neg (fun c => h1 c.1 c.2), if_neg (fun c => h2 c.1 c.2), if_neg (fun c => h3 c.1 c.2)]

set_option maxRecDepth 100000 in
set_option maxHeartbeats 1000000 in
theorem cut_any (s : ByteArray) (w : World) (hT : Tab w) (hs : s.size ≤ 100000) : Calls Tryd.prog 40 #[.string s] w fun e w' => e = .returned (.int .i64 (cutN (bs s))) ∧ w = w' := by
  have HT := Lib.hid hT
  have HL := Lib.hid (bs_len s)
  clear hT
  go_enter Tryd.func40, Tryd.ntmps40
  go_wp2_with fail
  go_loop [3] (fun u => ∃ j : Nat, u = .int .i64 ((s.size : Int) - j) ∧ 1 ≤ j ∧ j ≤ 4 ∧ j ≤ s.size + 1 ∧ Hid (∀ i, 1 ≤ i → i < j → i ≤ s.size → ¬ (nx ((bs s).drop (s.size - i))).2.2 = 18)) (fun u => (intOf u + 1).toNat)
  case atStart => exact ⟨1, rfl, by omega, by omega, by omega, fun i h1 h2 => by omega⟩
  case round =>
    obtain ⟨j, rfl, j1, j4, js, HJ⟩ := hrel
    by_cases hc : j ≤ s.size ∧ j < 4
    · obtain ⟨c1, c2⟩ := hc
      obtain ⟨k, hk⟩ : ∃ k : Nat, s.size = k + j := ⟨s.size - j, by omega⟩
      have hk' : (s.size : Int) - j = k := by omega
      have hne : (bs s).drop k ≠ [] := by
        intro h
        have := congrArg List.length h
        rw [List.length_drop, bs_len] at this
        simp at this
        omega
      obtain ⟨r, e, n, hx, n1, n2, n3, n4, n5, n6⟩ := nx_step _ hne
      have HX := Lib.hid hx
      rw [hk']
      have g0 : (0 : Int) ≤ k := by omega
      have g1 : (s.size : Int) - k < 4 := by omega
      have g2 : (k : Int) ≤ s.size := by omega
      have HK := Lib.hid hk
      have hkj : s.size - j = k := by omega
      have HKJ := Lib.hid hkj
      clear hx hne n4 n5 n6 hk hk' hkj n2
      by_cases hz : e = 18
      · have HC : Hid (cutN (bs s) = k) := by
          have h18 : (nx ((bs s).drop (s.size - j))).2.2 = 18 := by rw [HKJ.out, HX.out]; exact hz
          have : j = 1 ∨ j = 2 ∨ j = 3 := by omega
          rcases this with rfl | rfl | rfl
          · exact (cut_hit1 HL.out c1 h18).trans HKJ.out
          · exact (cut_hit2 HL.out c1 (HJ.out 1 (by omega) (by omega) (by omega)) h18).trans HKJ.out
          · exact (cut_hit3 HL.out c1 (HJ.out 1 (by omega) (by omega) (by omega)) (HJ.out 2 (by omega) (by omega) (by omega)) h18).trans HKJ.out
        subst hz
        go_wp2_with fail
        refine (next_from s k _ HT.out hs r 18 n HX.out).mono ?_
        rintro v w' ⟨rfl, rfl⟩
        go_wp2_with fail
        go_ret
        exact ⟨ret_int (by rw [HC.out]), rfl⟩
      · have hq : (e == 18) = false := by simpa using hz
        have HZ := Lib.hid hz
        clear hz
        go_wp2_with fail
        refine (next_from s k _ HT.out hs r e n HX.out).mono ?_
        rintro v w' ⟨rfl, rfl⟩
        go_wp2_with fail
        go_round
        case rel =>
          refine ⟨j + 1, by have := HK.out; go_num, by omega, by omega, by omega, fun i h1 h2 h3 => ?_⟩
          rcases Nat.lt_or_ge i j with h4 | h4
          · exact HJ.out i h1 h4 h3
          · obtain rfl : i = j := by omega
            rw [HKJ.out, HX.out]
            exact HZ.out
        case measure => simp [intOf]
    · have HC : Hid (cutN (bs s) = s.size) := cut_none HL.out (fun h => HJ.out 1 (by omega) (by omega) h) (fun h => HJ.out 2 (by omega) (by omega) h) (fun h => HJ.out 3 (by omega) (by omega) h)
      have hor : s.size < j ∨ (j ≤ s.size ∧ 4 ≤ j) := by omega
      clear hc
      rcases hor with h | ⟨h, h'⟩
      · have g0 : (s.size : Int) - j < 0 := by omega
        go_wp2
        go_ret
        exact ⟨ret_int (by rw [HC.out]), rfl⟩
      · have g0 : (0 : Int) ≤ (s.size : Int) - j := by omega
        have g1 : ¬ (s.size : Int) - ((s.size : Int) - j) < 4 := by omega
        go_wp2
        go_ret
        exact ⟨ret_int (by rw [HC.out]), rfl⟩

end Go.Proofs.YthnfopjjghohcaaDoor.U8

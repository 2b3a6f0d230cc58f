import Derived.Test.YtoiedhkhmdgipaaDoorL
namespace Go.Proofs.YtoiedhkhmdgipaaDoor
open Go.RowKit

theorem r_info : (Tryd.prog.info? 21).map (fun i => (i.zero, i.size, i.bytes)) = some (some (.int .i32 0), 1, 4) := by kernel_rfl
theorem f_info : (Tryd.prog.info? 44).map (fun i => (i.zero, i.size, i.bytes)) = some (some (.agg #[.int .i64 0, .int .i64 0]), 2, 16) := by kernel_rfl

/-- What the loop of a decoder knows at place k. -/
structure DecRel (w wr : World) (out flt : Value) (pol : Int) (k : Nat) (l : List Nat) (tot : List Int × List (Nat × Nat) × Int) (os : List Int) (fs : List (Nat × Nat)) : Prop where
  bel : Below w.heap.size w wr
  o : wr.ownsRow w.heap.size 21 1 out os.length (i32s os)
  f : wr.ownsRow w.heap.size 44 2 flt fs.length (flts fs)
  lo : os.length ≤ k
  lf : fs.length ≤ k
  tot : tot = (os ++ (dec pol k l).1, fs ++ (dec pol k l).2.1, (dec pol k l).2.2)

theorem DecRel.start (w : World) (pol : Int) (l : List Nat) {wr : World} (hb : Below w.heap.size w wr) : DecRel w wr (.slice none 0 0) (.slice none 0 0) pol 0 l (dec pol 0 l) [] [] :=
  ⟨hb, World.ownsRow_nil _ _ _ _, World.ownsRow_nil _ _ _ _, by simp, by simp, by simp⟩
theorem DecRel.ok {w wr w2 : World} {out flt v2 : Value} {pol : Int} {k : Nat} {l : List Nat} {tot : List Int × List (Nat × Nat) × Int} {os : List Int} {fs : List (Nat × Nat)} {o : Obj} (h : DecRel w wr out flt pol k l tot os fs)
    (hl : l ≠ []) {r : Int} {n : Nat} (hx : nx l = (r, (n : Int), 0)) (h1 : 1 ≤ n) (ho : w2.ownsRow w.heap.size 21 1 v2 (os.length + 1) (i32s os ++ [.int .i32 r])) (hg : (wr.alloc o).grownBy w2 out.ownBlock) :
    DecRel w w2 v2 flt pol (k + n) (l.drop n) tot (os ++ [r]) fs := by
  have ha := h.o.alloc o
  have hbl := h.bel.size
  refine ⟨h.bel.trans (((Below.refl _ _).alloc hbl _).trans (below_grown ha hg (by simp; omega))), by simpa [i32s] using ho, (h.f.alloc o).kept hg (own_apart (h.f.alloc o) ha (by decide)), by simp; have := h.lo; omega, by have := h.lf; omega, ?_⟩
  rw [h.tot, dec_ok pol k l hl r n hx h1]
  simp
theorem DecRel.flt1 {w wr w2 : World} {out flt v2 : Value} {k : Nat} {l : List Nat} {tot : List Int × List (Nat × Nat) × Int} {os : List Int} {fs : List (Nat × Nat)} {o : Obj} (h : DecRel w wr out flt 1 k l tot os fs)
    (hl : l ≠ []) {r e : Int} {n : Nat} (hx : nx l = (r, (n : Int), e)) (he : e ≠ 0) (ho : w2.ownsRow w.heap.size 44 2 v2 (fs.length + 1) (flts fs ++ [.int .i64 k, .int .i64 n])) (hg : (wr.alloc o).grownBy w2 flt.ownBlock) :
    Below w.heap.size w w2 ∧ w2.ownsRow w.heap.size 21 1 out tot.1.length (i32s tot.1) ∧ w2.ownsRow w.heap.size 44 2 v2 tot.2.1.length (flts tot.2.1) ∧ tot.2.2 = 17 := by
  have ha := h.f.alloc o
  have hbl := h.bel.size
  have ht := h.tot
  rw [dec_bad1 k l hl r e n hx he] at ht
  subst ht
  refine ⟨h.bel.trans (((Below.refl _ _).alloc hbl _).trans (below_grown ha hg (by simp; omega))), ?_, ?_, rfl⟩
  · have := (h.o.alloc o).kept hg (own_apart (h.o.alloc o) ha (by decide))
    simpa using this
  · simpa [flts_app, flts] using ho
theorem DecRel.bad3 {w wr w2 : World} {out flt v2 : Value} {k : Nat} {l : List Nat} {tot : List Int × List (Nat × Nat) × Int} {os : List Int} {fs : List (Nat × Nat)} {o : Obj} (h : DecRel w wr out flt 3 k l tot os fs)
    (hl : l ≠ []) {r e : Int} {n : Nat} (hx : nx l = (r, (n : Int), e)) (he : e ≠ 0) (h1 : 1 ≤ n) (ho : w2.ownsRow w.heap.size 44 2 v2 (fs.length + 1) (flts fs ++ [.int .i64 k, .int .i64 n])) (hg : (wr.alloc o).grownBy w2 flt.ownBlock) :
    DecRel w w2 out v2 3 (k + n) (l.drop n) tot os (fs ++ [(k, n)]) := by
  have ha := h.f.alloc o
  have hbl := h.bel.size
  refine ⟨h.bel.trans (((Below.refl _ _).alloc hbl _).trans (below_grown ha hg (by simp; omega))), (h.o.alloc o).kept hg (own_apart (h.o.alloc o) ha (by decide)), by simpa [flts_app, flts] using ho, by have := h.lo; omega, by simp; have := h.lf; omega, ?_⟩
  rw [h.tot, dec_bad 3 (by decide) k l hl r e n hx he h1]
  simp
theorem DecRel.bad2 {w wr w2 w3 : World} {out flt v2 v3 : Value} {k : Nat} {l : List Nat} {tot : List Int × List (Nat × Nat) × Int} {os : List Int} {fs : List (Nat × Nat)} {o o' : Obj} (h : DecRel w wr out flt 2 k l tot os fs)
    (hl : l ≠ []) {r e : Int} {n : Nat} (hx : nx l = (r, (n : Int), e)) (he : e ≠ 0) (h1 : 1 ≤ n) (ho : w2.ownsRow w.heap.size 44 2 v2 (fs.length + 1) (flts fs ++ [.int .i64 k, .int .i64 n])) (hg : (wr.alloc o).grownBy w2 flt.ownBlock)
    (ho3 : w3.ownsRow w.heap.size 21 1 v3 (os.length + 1) (i32s os ++ [.int .i32 65533])) (hg3 : (w2.alloc o').grownBy w3 out.ownBlock) :
    DecRel w w3 v3 v2 2 (k + n) (l.drop n) tot (os ++ [65533]) (fs ++ [(k, n)]) := by
  have ha := h.f.alloc o
  have hbl := h.bel.size
  have hb2 := h.bel.trans (((Below.refl _ _).alloc hbl _).trans (below_grown ha hg (by simp; omega)))
  have ho2 := (h.o.alloc o).kept hg (own_apart (h.o.alloc o) ha (by decide))
  have hbl2 := hb2.size
  refine ⟨hb2.trans (((Below.refl _ _).alloc hbl2 _).trans (below_grown (ho2.alloc o') hg3 (by simp; omega))), by simpa [i32s] using ho3, ?_, by simp; have := h.lo; omega, by simp; have := h.lf; omega, ?_⟩
  · have := (ho.alloc o').kept hg3 (own_apart (ho.alloc o') (ho2.alloc o') (by decide))
    simpa [flts_app, flts] using this
  · rw [h.tot, dec_bad 2 (by decide) k l hl r e n hx he h1]
    simp
theorem DecRel.keepO {w wr w2 : World} {out flt : Value} {pol : Int} {k : Nat} {l : List Nat} {tot : List Int × List (Nat × Nat) × Int} {os : List Int} {fs : List (Nat × Nat)} {o : Obj} (h : DecRel w wr out flt pol k l tot os fs) (hg : (wr.alloc o).grownBy w2 flt.ownBlock) :
    w2.ownsRow w.heap.size 21 1 out os.length (i32s os) ∧ w.heap.size ≤ w2.heap.size := by
  refine ⟨(h.o.alloc o).kept hg (own_apart (h.o.alloc o) (h.f.alloc o) (by decide)), ?_⟩
  have h1 := h.bel.size
  have h2 := hg.size
  simp at h2
  omega

/-- What a decoder answers. -/
def DecPost (w : World) (d : List Int × List (Nat × Nat) × Int) (e : Ending) (w' : World) : Prop :=
  ∃ v1 v2, e = .returned (.tuple #[v1, v2, .int .i64 d.2.2]) ∧ w'.ownsRow w.heap.size 21 1 v1 d.1.length (i32s d.1) ∧ w'.ownsRow w.heap.size 44 2 v2 d.2.1.length (flts d.2.1) ∧ Below w.heap.size w w'
def decP (pol : Int) (l : List Nat) : List Int × List (Nat × Nat) × Int := if pol = 1 ∨ pol = 2 ∨ pol = 3 then dec pol 0 l else ([], [], 16)

set_option maxRecDepth 100000 in
set_option maxHeartbeats 1000000 in
theorem decode1 (A : Option Addr) (c : Nat) (xs : List ByteArray) (w : World) (hT : Tab w) (hx : Strs w A c xs) (hn : xs.length ≤ 100000) (hs : (catB xs).size ≤ 100000) :
    Calls Tryd.prog 18 #[.int .i64 1, .slice A xs.length c] w (DecPost w (dec 1 0 (bs (catB xs)))) := by
  obtain ⟨i0, hi0, hz0, hz1, hz2⟩ := info_parts r_info
  have I0 := Lib.hid hi0
  have I1 := Lib.hid hz0
  have I2 := Lib.hid hz1
  have I3 := Lib.hid hz2
  clear hi0 hz0 hz1 hz2
  obtain ⟨j0, hj0, hz0, hz1, hz2⟩ := info_parts f_info
  have J0 := Lib.hid hj0
  have J1 := Lib.hid hz0
  have J2 := Lib.hid hz1
  have J3 := Lib.hid hz2
  clear hj0 hz0 hz1 hz2
  have HJ := Lib.hid (join_any A c xs w hx hn hs)
  generalize catB xs = s at *
  have hpos := hT.pos
  have HT := Lib.hid hT
  clear hT hx
  generalize hdt : dec 1 0 (bs s) = tot
  have HDT := Lib.hid hdt
  clear hdt
  go_enter Tryd.func18, Tryd.ntmps18
  go_wp2_with fail
  refine HJ.out.mono ?_
  rintro e w0 ⟨rfl, hb0⟩
  have HB0 := Lib.hid hb0
  clear hb0 HJ
  go_wp2_with fail
  go_loopw [7, 8, 10] (fun out flt i wr => ∃ k : Nat, i = .int .i64 k ∧ k ≤ s.size ∧ ∃ os fs, Hid (DecRel w wr out flt 1 k ((bs s).drop k) tot os fs)) (fun _ _ i _ => s.size - (intOf i).toNat)
  case atStart => exact ⟨0, rfl, by omega, [], [], by rw [← HDT.out]; exact DecRel.start w 1 (bs s) HB0.out⟩
  case round =>
    obtain ⟨k, rfl, hk, os, fs, HD⟩ := hrel
    have hlo := HD.out.lo
    have hlf := HD.out.lf
    have hsz := HD.out.bel.size
    have hmo : os.length + 1 ≤ maxLen := by unfold maxLen; omega
    have hmf : fs.length + 1 ≤ maxLen := by unfold maxLen; omega
    by_cases hlt : k < s.size
    · have hne : (bs s).drop k ≠ [] := by
        intro h
        have := congrArg List.length h
        rw [List.length_drop, bs_len] at this
        simp at this
        omega
      obtain ⟨r, e, n, hX, n1, n2, n3, n4, n5⟩ := nx_step _ hne
      rw [List.length_drop, bs_len] at n2
      have HX := Lib.hid hX
      have HNE := Lib.hid hne
      have N4 := Lib.hid n4
      clear hX hne n4 n5
      have hlt' : (k : Int) < s.size := by omega
      by_cases he : e = 0
      · have HX0 := Lib.hid (show nx ((bs s).drop k) = (r, (n : Int), 0) by rw [HX.out, he])
        subst he
        go_wp2_with fail
        refine (next_from s k _ (HT.out.below HD.out.bel hpos) hs r 0 n HX0.out).mono ?_
        rintro v w' ⟨rfl, rfl⟩
        go_wp2_with (at_builtin; refine wpList_append_own_at _ rfl (.tmp 56) (.tmp 58) _ rfl w.heap.size 21 i0 _ 1 4 Tryd.underlying27 I0.out I1.out I2.out I3.out rfl (by omega) u7 os.length _ rfl (HD.out.o.alloc _) ⟨wr.heap.size, 0, none⟩ 1 1 [_] rfl rfl (cell_one_new _ _ _) (by simp [Value.oneCell']) hmo (by omega) (by simp; omega) ?_; intro v2 w2 ho2 hg2 hn2 ha2; have HO2 := Lib.hid ho2; have HG2 := Lib.hid hg2; clear ho2 hg2 hn2 ha2)
        go_roundw
        case rel => exact ⟨k + n, by go_num, by omega, os ++ [r], fs, by have := HD.out.ok HNE.out HX0.out n1 HO2.out HG2.out; rw [List.drop_drop] at this; exact this⟩
        case measure => simp [intOf]; omega
      · have he1 : (e != 0) = true := by simpa using he
        have he2 : (e == 0) = false := by simpa using he
        have HE := Lib.hid he
        clear he
        go_wp2_with fail
        refine (next_from s k _ (HT.out.below HD.out.bel hpos) hs r e n HX.out).mono ?_
        rintro v w' ⟨rfl, rfl⟩
        go_wp2_with (at_builtin; refine wpList_append_own_at _ rfl (.tmp 40) (.tmp 44) _ rfl w.heap.size 44 j0 _ 2 16 Tryd.underlying35 J0.out J1.out J2.out J3.out rfl (by omega) u8 fs.length _ rfl (HD.out.f.alloc _) ⟨wr.heap.size, 0, none⟩ 1 1 [.int .i64 k, .int .i64 n] rfl rfl (World.news_of_block (cs := #[.int .i64 k, .int .i64 n]) (t := 44) (fr := (0, 0)) (heap_alloc_new wr _)) (by simp [Value.oneCell']) hmf (by omega) (by simp; omega) ?_; intro v2 w2 ho2 hg2 hn2 ha2; have HO2 := Lib.hid ho2; have HG2 := Lib.hid hg2; clear ho2 hg2 hn2 ha2)
        go_ret3
        obtain ⟨p1, p2, p3, p4⟩ := HD.out.flt1 HNE.out HX.out HE.out HO2.out HG2.out
        exact ⟨_, _, by rw [p4]; rfl, p2, p3, p1⟩
    · have hlt' : ¬ (k : Int) < s.size := by omega
      have ht := HD.out.tot
      rw [bs_end s k (by omega), dec_nil] at ht
      have HTT := Lib.hid ht
      clear ht
      go_wp2
      go_ret3
      exact ⟨_, _, by rw [HTT.out]; rfl, by rw [HTT.out]; simpa using HD.out.o, by rw [HTT.out]; simpa using HD.out.f, HD.out.bel⟩

set_option maxRecDepth 100000 in
set_option maxHeartbeats 1000000 in
theorem decode2 (A : Option Addr) (c : Nat) (xs : List ByteArray) (w : World) (hT : Tab w) (hx : Strs w A c xs) (hn : xs.length ≤ 100000) (hs : (catB xs).size ≤ 100000) :
    Calls Tryd.prog 18 #[.int .i64 2, .slice A xs.length c] w (DecPost w (dec 2 0 (bs (catB xs)))) := by
  obtain ⟨i0, hi0, hz0, hz1, hz2⟩ := info_parts r_info
  have I0 := Lib.hid hi0
  have I1 := Lib.hid hz0
  have I2 := Lib.hid hz1
  have I3 := Lib.hid hz2
  clear hi0 hz0 hz1 hz2
  obtain ⟨j0, hj0, hz0, hz1, hz2⟩ := info_parts f_info
  have J0 := Lib.hid hj0
  have J1 := Lib.hid hz0
  have J2 := Lib.hid hz1
  have J3 := Lib.hid hz2
  clear hj0 hz0 hz1 hz2
  have HJ := Lib.hid (join_any A c xs w hx hn hs)
  generalize catB xs = s at *
  have hpos := hT.pos
  have HT := Lib.hid hT
  clear hT hx
  generalize hdt : dec 2 0 (bs s) = tot
  have HDT := Lib.hid hdt
  clear hdt
  go_enter Tryd.func18, Tryd.ntmps18
  go_wp2_with fail
  refine HJ.out.mono ?_
  rintro e w0 ⟨rfl, hb0⟩
  have HB0 := Lib.hid hb0
  clear hb0 HJ
  go_wp2_with fail
  go_loopw [7, 8, 10] (fun out flt i wr => ∃ k : Nat, i = .int .i64 k ∧ k ≤ s.size ∧ ∃ os fs, Hid (DecRel w wr out flt 2 k ((bs s).drop k) tot os fs)) (fun _ _ i _ => s.size - (intOf i).toNat)
  case atStart => exact ⟨0, rfl, by omega, [], [], by rw [← HDT.out]; exact DecRel.start w 2 (bs s) HB0.out⟩
  case round =>
    obtain ⟨k, rfl, hk, os, fs, HD⟩ := hrel
    have hlo := HD.out.lo
    have hlf := HD.out.lf
    have hsz := HD.out.bel.size
    have hmo : os.length + 1 ≤ maxLen := by unfold maxLen; omega
    have hmf : fs.length + 1 ≤ maxLen := by unfold maxLen; omega
    by_cases hlt : k < s.size
    · have hne : (bs s).drop k ≠ [] := by
        intro h
        have := congrArg List.length h
        rw [List.length_drop, bs_len] at this
        simp at this
        omega
      obtain ⟨r, e, n, hX, n1, n2, n3, n4, n5⟩ := nx_step _ hne
      rw [List.length_drop, bs_len] at n2
      have HX := Lib.hid hX
      have HNE := Lib.hid hne
      have N4 := Lib.hid n4
      clear hX hne n4 n5
      have hlt' : (k : Int) < s.size := by omega
      by_cases he : e = 0
      · have HX0 := Lib.hid (show nx ((bs s).drop k) = (r, (n : Int), 0) by rw [HX.out, he])
        subst he
        go_wp2_with fail
        refine (next_from s k _ (HT.out.below HD.out.bel hpos) hs r 0 n HX0.out).mono ?_
        rintro v w' ⟨rfl, rfl⟩
        go_wp2_with (at_builtin; refine wpList_append_own_at _ rfl (.tmp 56) (.tmp 58) _ rfl w.heap.size 21 i0 _ 1 4 Tryd.underlying27 I0.out I1.out I2.out I3.out rfl (by omega) u7 os.length _ rfl (HD.out.o.alloc _) ⟨wr.heap.size, 0, none⟩ 1 1 [_] rfl rfl (cell_one_new _ _ _) (by simp [Value.oneCell']) hmo (by omega) (by simp; omega) ?_; intro v2 w2 ho2 hg2 hn2 ha2; have HO2 := Lib.hid ho2; have HG2 := Lib.hid hg2; clear ho2 hg2 hn2 ha2)
        go_roundw
        case rel => exact ⟨k + n, by go_num, by omega, os ++ [r], fs, by have := HD.out.ok HNE.out HX0.out n1 HO2.out HG2.out; rw [List.drop_drop] at this; exact this⟩
        case measure => simp [intOf]; omega
      · have he1 : (e != 0) = true := by simpa using he
        have he2 : (e == 0) = false := by simpa using he
        have HE := Lib.hid he
        clear he
        go_wp2_with fail
        refine (next_from s k _ (HT.out.below HD.out.bel hpos) hs r e n HX.out).mono ?_
        rintro v w' ⟨rfl, rfl⟩
        go_wp2_with (first | (at_builtin; refine wpList_append_own_at _ rfl (.tmp 40) (.tmp 44) _ rfl w.heap.size 44 j0 _ 2 16 Tryd.underlying35 J0.out J1.out J2.out J3.out rfl (by omega) u8 fs.length _ rfl (HD.out.f.alloc _) ⟨wr.heap.size, 0, none⟩ 1 1 [.int .i64 k, .int .i64 n] rfl rfl (World.news_of_block (cs := #[.int .i64 k, .int .i64 n]) (t := 44) (fr := (0, 0)) (heap_alloc_new wr _)) (by simp [Value.oneCell']) hmf (by omega) (by simp; omega) ?_; intro v2 w2 ho2 hg2 hn2 ha2; have HO2 := Lib.hid ho2; have HG2 := Lib.hid hg2; clear ho2 hg2 hn2 ha2; have K2 := Lib.hid (HD.out.keepO HG2.out); have k2 := K2.out.2) | (at_builtin; refine wpList_append_own_at _ rfl (.tmp 56) (.tmp 58) _ rfl w.heap.size 21 i0 _ 1 4 Tryd.underlying27 I0.out I1.out I2.out I3.out rfl (by omega) u7 os.length _ rfl (K2.out.1.alloc _) ⟨w2.heap.size, 0, none⟩ 1 1 [_] rfl rfl (cell_one_new _ _ _) (by simp [Value.oneCell']) hmo (by omega) (by simp; omega) ?_; intro v3 w3 ho3 hg3 hn3 ha3; have HO3 := Lib.hid ho3; have HG3 := Lib.hid hg3; clear ho3 hg3 hn3 ha3))
        go_roundw
        case rel => exact ⟨k + n, by go_num, by omega, os ++ [65533], fs ++ [(k, n)], by have := HD.out.bad2 HNE.out HX.out HE.out n1 HO2.out HG2.out HO3.out HG3.out; rw [List.drop_drop] at this; exact this⟩
        case measure => simp [intOf]; omega
    · have hlt' : ¬ (k : Int) < s.size := by omega
      have ht := HD.out.tot
      rw [bs_end s k (by omega), dec_nil] at ht
      have HTT := Lib.hid ht
      clear ht
      go_wp2
      go_ret3
      exact ⟨_, _, by rw [HTT.out]; rfl, by rw [HTT.out]; simpa using HD.out.o, by rw [HTT.out]; simpa using HD.out.f, HD.out.bel⟩

set_option maxRecDepth 100000 in
set_option maxHeartbeats 1000000 in
theorem decode3 (A : Option Addr) (c : Nat) (xs : List ByteArray) (w : World) (hT : Tab w) (hx : Strs w A c xs) (hn : xs.length ≤ 100000) (hs : (catB xs).size ≤ 100000) :
    Calls Tryd.prog 18 #[.int .i64 3, .slice A xs.length c] w (DecPost w (dec 3 0 (bs (catB xs)))) := by
  obtain ⟨i0, hi0, hz0, hz1, hz2⟩ := info_parts r_info
  have I0 := Lib.hid hi0
  have I1 := Lib.hid hz0
  have I2 := Lib.hid hz1
  have I3 := Lib.hid hz2
  clear hi0 hz0 hz1 hz2
  obtain ⟨j0, hj0, hz0, hz1, hz2⟩ := info_parts f_info
  have J0 := Lib.hid hj0
  have J1 := Lib.hid hz0
  have J2 := Lib.hid hz1
  have J3 := Lib.hid hz2
  clear hj0 hz0 hz1 hz2
  have HJ := Lib.hid (join_any A c xs w hx hn hs)
  generalize catB xs = s at *
  have hpos := hT.pos
  have HT := Lib.hid hT
  clear hT hx
  generalize hdt : dec 3 0 (bs s) = tot
  have HDT := Lib.hid hdt
  clear hdt
  go_enter Tryd.func18, Tryd.ntmps18
  go_wp2_with fail
  refine HJ.out.mono ?_
  rintro e w0 ⟨rfl, hb0⟩
  have HB0 := Lib.hid hb0
  clear hb0 HJ
  go_wp2_with fail
  go_loopw [7, 8, 10] (fun out flt i wr => ∃ k : Nat, i = .int .i64 k ∧ k ≤ s.size ∧ ∃ os fs, Hid (DecRel w wr out flt 3 k ((bs s).drop k) tot os fs)) (fun _ _ i _ => s.size - (intOf i).toNat)
  case atStart => exact ⟨0, rfl, by omega, [], [], by rw [← HDT.out]; exact DecRel.start w 3 (bs s) HB0.out⟩
  case round =>
    obtain ⟨k, rfl, hk, os, fs, HD⟩ := hrel
    have hlo := HD.out.lo
    have hlf := HD.out.lf
    have hsz := HD.out.bel.size
    have hmo : os.length + 1 ≤ maxLen := by unfold maxLen; omega
    have hmf : fs.length + 1 ≤ maxLen := by unfold maxLen; omega
    by_cases hlt : k < s.size
    · have hne : (bs s).drop k ≠ [] := by
        intro h
        have := congrArg List.length h
        rw [List.length_drop, bs_len] at this
        simp at this
        omega
      obtain ⟨r, e, n, hX, n1, n2, n3, n4, n5⟩ := nx_step _ hne
      rw [List.length_drop, bs_len] at n2
      have HX := Lib.hid hX
      have HNE := Lib.hid hne
      have N4 := Lib.hid n4
      clear hX hne n4 n5
      have hlt' : (k : Int) < s.size := by omega
      by_cases he : e = 0
      · have HX0 := Lib.hid (show nx ((bs s).drop k) = (r, (n : Int), 0) by rw [HX.out, he])
        subst he
        go_wp2_with fail
        refine (next_from s k _ (HT.out.below HD.out.bel hpos) hs r 0 n HX0.out).mono ?_
        rintro v w' ⟨rfl, rfl⟩
        go_wp2_with (at_builtin; refine wpList_append_own_at _ rfl (.tmp 56) (.tmp 58) _ rfl w.heap.size 21 i0 _ 1 4 Tryd.underlying27 I0.out I1.out I2.out I3.out rfl (by omega) u7 os.length _ rfl (HD.out.o.alloc _) ⟨wr.heap.size, 0, none⟩ 1 1 [_] rfl rfl (cell_one_new _ _ _) (by simp [Value.oneCell']) hmo (by omega) (by simp; omega) ?_; intro v2 w2 ho2 hg2 hn2 ha2; have HO2 := Lib.hid ho2; have HG2 := Lib.hid hg2; clear ho2 hg2 hn2 ha2)
        go_roundw
        case rel => exact ⟨k + n, by go_num, by omega, os ++ [r], fs, by have := HD.out.ok HNE.out HX0.out n1 HO2.out HG2.out; rw [List.drop_drop] at this; exact this⟩
        case measure => simp [intOf]; omega
      · have he1 : (e != 0) = true := by simpa using he
        have he2 : (e == 0) = false := by simpa using he
        have HE := Lib.hid he
        clear he
        go_wp2_with fail
        refine (next_from s k _ (HT.out.below HD.out.bel hpos) hs r e n HX.out).mono ?_
        rintro v w' ⟨rfl, rfl⟩
        go_wp2_with (at_builtin; refine wpList_append_own_at _ rfl (.tmp 40) (.tmp 44) _ rfl w.heap.size 44 j0 _ 2 16 Tryd.underlying35 J0.out J1.out J2.out J3.out rfl (by omega) u8 fs.length _ rfl (HD.out.f.alloc _) ⟨wr.heap.size, 0, none⟩ 1 1 [.int .i64 k, .int .i64 n] rfl rfl (World.news_of_block (cs := #[.int .i64 k, .int .i64 n]) (t := 44) (fr := (0, 0)) (heap_alloc_new wr _)) (by simp [Value.oneCell']) hmf (by omega) (by simp; omega) ?_; intro v2 w2 ho2 hg2 hn2 ha2; have HO2 := Lib.hid ho2; have HG2 := Lib.hid hg2; clear ho2 hg2 hn2 ha2)
        go_roundw
        case rel => exact ⟨k + n, by go_num, by omega, os, fs ++ [(k, n)], by have := HD.out.bad3 HNE.out HX.out HE.out n1 HO2.out HG2.out; rw [List.drop_drop] at this; exact this⟩
        case measure => simp [intOf]; omega
    · have hlt' : ¬ (k : Int) < s.size := by omega
      have ht := HD.out.tot
      rw [bs_end s k (by omega), dec_nil] at ht
      have HTT := Lib.hid ht
      clear ht
      go_wp2
      go_ret3
      exact ⟨_, _, by rw [HTT.out]; rfl, by rw [HTT.out]; simpa using HD.out.o, by rw [HTT.out]; simpa using HD.out.f, HD.out.bel⟩

set_option maxRecDepth 100000 in
set_option maxHeartbeats 1000000 in
theorem rdecode1 (s : ByteArray) (w : World) (hs : s.size ≤ 100000) :
    Calls Tryd.prog 19 #[.int .i64 1, .string s] w (DecPost w (dec 1 0 (bs s))) := by
  obtain ⟨i0, hi0, hz0, hz1, hz2⟩ := info_parts r_info
  have I0 := Lib.hid hi0
  have I1 := Lib.hid hz0
  have I2 := Lib.hid hz1
  have I3 := Lib.hid hz2
  clear hi0 hz0 hz1 hz2
  obtain ⟨j0, hj0, hz0, hz1, hz2⟩ := info_parts f_info
  have J0 := Lib.hid hj0
  have J1 := Lib.hid hz0
  have J2 := Lib.hid hz1
  have J3 := Lib.hid hz2
  clear hj0 hz0 hz1 hz2
  generalize hdt : dec 1 0 (bs s) = tot
  have HDT := Lib.hid hdt
  clear hdt
  go_enter Tryd.func19, Tryd.ntmps19
  go_wp2_with fail
  have HB0 := Lib.hid (Below.refl w.heap.size w)
  go_loopw [7, 8, 9] (fun out flt i wr => ∃ k : Nat, i = .int .i64 k ∧ k ≤ s.size ∧ ∃ os fs, Hid (DecRel w wr out flt 1 k ((bs s).drop k) tot os fs)) (fun _ _ i _ => s.size - (intOf i).toNat)
  case atStart => exact ⟨0, rfl, by omega, [], [], by rw [← HDT.out]; exact DecRel.start w 1 (bs s) HB0.out⟩
  case round =>
    obtain ⟨k, rfl, hk, os, fs, HD⟩ := hrel
    have hlo := HD.out.lo
    have hlf := HD.out.lf
    have hsz := HD.out.bel.size
    have hmo : os.length + 1 ≤ maxLen := by unfold maxLen; omega
    have hmf : fs.length + 1 ≤ maxLen := by unfold maxLen; omega
    by_cases hlt : k < s.size
    · have hne : (bs s).drop k ≠ [] := by
        intro h
        have := congrArg List.length h
        rw [List.length_drop, bs_len] at this
        simp at this
        omega
      obtain ⟨r, e, n, hX, n1, n2, n3, n4, n5⟩ := nx_step _ hne
      rw [List.length_drop, bs_len] at n2
      have HX := Lib.hid hX
      have HNE := Lib.hid hne
      have N4 := Lib.hid n4
      clear hX hne n4 n5
      have hlt' : (k : Int) < s.size := by omega
      by_cases he : e = 0
      · have HX0 := Lib.hid (show nx ((bs s).drop k) = (r, (n : Int), 0) by rw [HX.out, he])
        subst he
        go_wp2_with fail
        refine (rnext_from s k _ hs r 0 n HX0.out).mono ?_
        rintro v w' ⟨rfl, rfl⟩
        go_wp2_with (at_builtin; refine wpList_append_own_at _ rfl (.tmp 33) (.tmp 35) _ rfl w.heap.size 21 i0 _ 1 4 Tryd.underlying27 I0.out I1.out I2.out I3.out rfl (by omega) u7 os.length _ rfl (HD.out.o.alloc _) ⟨wr.heap.size, 0, none⟩ 1 1 [_] rfl rfl (cell_one_new _ _ _) (by simp [Value.oneCell']) hmo (by omega) (by simp; omega) ?_; intro v2 w2 ho2 hg2 hn2 ha2; have HO2 := Lib.hid ho2; have HG2 := Lib.hid hg2; clear ho2 hg2 hn2 ha2)
        go_roundw
        case rel => exact ⟨k + n, by go_num, by omega, os ++ [r], fs, by have := HD.out.ok HNE.out HX0.out n1 HO2.out HG2.out; rw [List.drop_drop] at this; exact this⟩
        case measure => simp [intOf]; omega
      · have he1 : (e != 0) = true := by simpa using he
        have he2 : (e == 0) = false := by simpa using he
        have HE := Lib.hid he
        clear he
        go_wp2_with fail
        refine (rnext_from s k _ hs r e n HX.out).mono ?_
        rintro v w' ⟨rfl, rfl⟩
        go_wp2_with (at_builtin; refine wpList_append_own_at _ rfl (.tmp 37) (.tmp 41) _ rfl w.heap.size 44 j0 _ 2 16 Tryd.underlying35 J0.out J1.out J2.out J3.out rfl (by omega) u8 fs.length _ rfl (HD.out.f.alloc _) ⟨wr.heap.size, 0, none⟩ 1 1 [.int .i64 k, .int .i64 n] rfl rfl (World.news_of_block (cs := #[.int .i64 k, .int .i64 n]) (t := 44) (fr := (0, 0)) (heap_alloc_new wr _)) (by simp [Value.oneCell']) hmf (by omega) (by simp; omega) ?_; intro v2 w2 ho2 hg2 hn2 ha2; have HO2 := Lib.hid ho2; have HG2 := Lib.hid hg2; clear ho2 hg2 hn2 ha2)
        go_ret3
        obtain ⟨p1, p2, p3, p4⟩ := HD.out.flt1 HNE.out HX.out HE.out HO2.out HG2.out
        exact ⟨_, _, by rw [p4]; rfl, p2, p3, p1⟩
    · have hlt' : ¬ (k : Int) < s.size := by omega
      have ht := HD.out.tot
      rw [bs_end s k (by omega), dec_nil] at ht
      have HTT := Lib.hid ht
      clear ht
      go_wp2
      go_ret3
      exact ⟨_, _, by rw [HTT.out]; rfl, by rw [HTT.out]; simpa using HD.out.o, by rw [HTT.out]; simpa using HD.out.f, HD.out.bel⟩

set_option maxRecDepth 100000 in
set_option maxHeartbeats 1000000 in
theorem rdecode2 (s : ByteArray) (w : World) (hs : s.size ≤ 100000) :
    Calls Tryd.prog 19 #[.int .i64 2, .string s] w (DecPost w (dec 2 0 (bs s))) := by
  obtain ⟨i0, hi0, hz0, hz1, hz2⟩ := info_parts r_info
  have I0 := Lib.hid hi0
  have I1 := Lib.hid hz0
  have I2 := Lib.hid hz1
  have I3 := Lib.hid hz2
  clear hi0 hz0 hz1 hz2
  obtain ⟨j0, hj0, hz0, hz1, hz2⟩ := info_parts f_info
  have J0 := Lib.hid hj0
  have J1 := Lib.hid hz0
  have J2 := Lib.hid hz1
  have J3 := Lib.hid hz2
  clear hj0 hz0 hz1 hz2
  generalize hdt : dec 2 0 (bs s) = tot
  have HDT := Lib.hid hdt
  clear hdt
  go_enter Tryd.func19, Tryd.ntmps19
  go_wp2_with fail
  have HB0 := Lib.hid (Below.refl w.heap.size w)
  go_loopw [7, 8, 9] (fun out flt i wr => ∃ k : Nat, i = .int .i64 k ∧ k ≤ s.size ∧ ∃ os fs, Hid (DecRel w wr out flt 2 k ((bs s).drop k) tot os fs)) (fun _ _ i _ => s.size - (intOf i).toNat)
  case atStart => exact ⟨0, rfl, by omega, [], [], by rw [← HDT.out]; exact DecRel.start w 2 (bs s) HB0.out⟩
  case round =>
    obtain ⟨k, rfl, hk, os, fs, HD⟩ := hrel
    have hlo := HD.out.lo
    have hlf := HD.out.lf
    have hsz := HD.out.bel.size
    have hmo : os.length + 1 ≤ maxLen := by unfold maxLen; omega
    have hmf : fs.length + 1 ≤ maxLen := by unfold maxLen; omega
    by_cases hlt : k < s.size
    · have hne : (bs s).drop k ≠ [] := by
        intro h
        have := congrArg List.length h
        rw [List.length_drop, bs_len] at this
        simp at this
        omega
      obtain ⟨r, e, n, hX, n1, n2, n3, n4, n5⟩ := nx_step _ hne
      rw [List.length_drop, bs_len] at n2
      have HX := Lib.hid hX
      have HNE := Lib.hid hne
      have N4 := Lib.hid n4
      clear hX hne n4 n5
      have hlt' : (k : Int) < s.size := by omega
      by_cases he : e = 0
      · have HX0 := Lib.hid (show nx ((bs s).drop k) = (r, (n : Int), 0) by rw [HX.out, he])
        subst he
        go_wp2_with fail
        refine (rnext_from s k _ hs r 0 n HX0.out).mono ?_
        rintro v w' ⟨rfl, rfl⟩
        go_wp2_with (at_builtin; refine wpList_append_own_at _ rfl (.tmp 33) (.tmp 35) _ rfl w.heap.size 21 i0 _ 1 4 Tryd.underlying27 I0.out I1.out I2.out I3.out rfl (by omega) u7 os.length _ rfl (HD.out.o.alloc _) ⟨wr.heap.size, 0, none⟩ 1 1 [_] rfl rfl (cell_one_new _ _ _) (by simp [Value.oneCell']) hmo (by omega) (by simp; omega) ?_; intro v2 w2 ho2 hg2 hn2 ha2; have HO2 := Lib.hid ho2; have HG2 := Lib.hid hg2; clear ho2 hg2 hn2 ha2)
        go_roundw
        case rel => exact ⟨k + n, by go_num, by omega, os ++ [r], fs, by have := HD.out.ok HNE.out HX0.out n1 HO2.out HG2.out; rw [List.drop_drop] at this; exact this⟩
        case measure => simp [intOf]; omega
      · have he1 : (e != 0) = true := by simpa using he
        have he2 : (e == 0) = false := by simpa using he
        have HE := Lib.hid he
        clear he
        go_wp2_with fail
        refine (rnext_from s k _ hs r e n HX.out).mono ?_
        rintro v w' ⟨rfl, rfl⟩
        go_wp2_with (first | (at_builtin; refine wpList_append_own_at _ rfl (.tmp 37) (.tmp 41) _ rfl w.heap.size 44 j0 _ 2 16 Tryd.underlying35 J0.out J1.out J2.out J3.out rfl (by omega) u8 fs.length _ rfl (HD.out.f.alloc _) ⟨wr.heap.size, 0, none⟩ 1 1 [.int .i64 k, .int .i64 n] rfl rfl (World.news_of_block (cs := #[.int .i64 k, .int .i64 n]) (t := 44) (fr := (0, 0)) (heap_alloc_new wr _)) (by simp [Value.oneCell']) hmf (by omega) (by simp; omega) ?_; intro v2 w2 ho2 hg2 hn2 ha2; have HO2 := Lib.hid ho2; have HG2 := Lib.hid hg2; clear ho2 hg2 hn2 ha2; have K2 := Lib.hid (HD.out.keepO HG2.out); have k2 := K2.out.2) | (at_builtin; refine wpList_append_own_at _ rfl (.tmp 49) (.tmp 50) _ rfl w.heap.size 21 i0 _ 1 4 Tryd.underlying27 I0.out I1.out I2.out I3.out rfl (by omega) u7 os.length _ rfl (K2.out.1.alloc _) ⟨w2.heap.size, 0, none⟩ 1 1 [_] rfl rfl (cell_one_new _ _ _) (by simp [Value.oneCell']) hmo (by omega) (by simp; omega) ?_; intro v3 w3 ho3 hg3 hn3 ha3; have HO3 := Lib.hid ho3; have HG3 := Lib.hid hg3; clear ho3 hg3 hn3 ha3))
        go_roundw
        case rel => exact ⟨k + n, by go_num, by omega, os ++ [65533], fs ++ [(k, n)], by have := HD.out.bad2 HNE.out HX.out HE.out n1 HO2.out HG2.out HO3.out HG3.out; rw [List.drop_drop] at this; exact this⟩
        case measure => simp [intOf]; omega
    · have hlt' : ¬ (k : Int) < s.size := by omega
      have ht := HD.out.tot
      rw [bs_end s k (by omega), dec_nil] at ht
      have HTT := Lib.hid ht
      clear ht
      go_wp2
      go_ret3
      exact ⟨_, _, by rw [HTT.out]; rfl, by rw [HTT.out]; simpa using HD.out.o, by rw [HTT.out]; simpa using HD.out.f, HD.out.bel⟩

set_option maxRecDepth 100000 in
set_option maxHeartbeats 1000000 in
theorem rdecode3 (s : ByteArray) (w : World) (hs : s.size ≤ 100000) :
    Calls Tryd.prog 19 #[.int .i64 3, .string s] w (DecPost w (dec 3 0 (bs s))) := by
  obtain ⟨i0, hi0, hz0, hz1, hz2⟩ := info_parts r_info
  have I0 := Lib.hid hi0
  have I1 := Lib.hid hz0
  have I2 := Lib.hid hz1
  have I3 := Lib.hid hz2
  clear hi0 hz0 hz1 hz2
  obtain ⟨j0, hj0, hz0, hz1, hz2⟩ := info_parts f_info
  have J0 := Lib.hid hj0
  have J1 := Lib.hid hz0
  have J2 := Lib.hid hz1
  have J3 := Lib.hid hz2
  clear hj0 hz0 hz1 hz2
  generalize hdt : dec 3 0 (bs s) = tot
  have HDT := Lib.hid hdt
  clear hdt
  go_enter Tryd.func19, Tryd.ntmps19
  go_wp2_with fail
  have HB0 := Lib.hid (Below.refl w.heap.size w)
  go_loopw [7, 8, 9] (fun out flt i wr => ∃ k : Nat, i = .int .i64 k ∧ k ≤ s.size ∧ ∃ os fs, Hid (DecRel w wr out flt 3 k ((bs s).drop k) tot os fs)) (fun _ _ i _ => s.size - (intOf i).toNat)
  case atStart => exact ⟨0, rfl, by omega, [], [], by rw [← HDT.out]; exact DecRel.start w 3 (bs s) HB0.out⟩
  case round =>
    obtain ⟨k, rfl, hk, os, fs, HD⟩ := hrel
    have hlo := HD.out.lo
    have hlf := HD.out.lf
    have hsz := HD.out.bel.size
    have hmo : os.length + 1 ≤ maxLen := by unfold maxLen; omega
    have hmf : fs.length + 1 ≤ maxLen := by unfold maxLen; omega
    by_cases hlt : k < s.size
    · have hne : (bs s).drop k ≠ [] := by
        intro h
        have := congrArg List.length h
        rw [List.length_drop, bs_len] at this
        simp at this
        omega
      obtain ⟨r, e, n, hX, n1, n2, n3, n4, n5⟩ := nx_step _ hne
      rw [List.length_drop, bs_len] at n2
      have HX := Lib.hid hX
      have HNE := Lib.hid hne
      have N4 := Lib.hid n4
      clear hX hne n4 n5
      have hlt' : (k : Int) < s.size := by omega
      by_cases he : e = 0
      · have HX0 := Lib.hid (show nx ((bs s).drop k) = (r, (n : Int), 0) by rw [HX.out, he])
        subst he
        go_wp2_with fail
        refine (rnext_from s k _ hs r 0 n HX0.out).mono ?_
        rintro v w' ⟨rfl, rfl⟩
        go_wp2_with (at_builtin; refine wpList_append_own_at _ rfl (.tmp 33) (.tmp 35) _ rfl w.heap.size 21 i0 _ 1 4 Tryd.underlying27 I0.out I1.out I2.out I3.out rfl (by omega) u7 os.length _ rfl (HD.out.o.alloc _) ⟨wr.heap.size, 0, none⟩ 1 1 [_] rfl rfl (cell_one_new _ _ _) (by simp [Value.oneCell']) hmo (by omega) (by simp; omega) ?_; intro v2 w2 ho2 hg2 hn2 ha2; have HO2 := Lib.hid ho2; have HG2 := Lib.hid hg2; clear ho2 hg2 hn2 ha2)
        go_roundw
        case rel => exact ⟨k + n, by go_num, by omega, os ++ [r], fs, by have := HD.out.ok HNE.out HX0.out n1 HO2.out HG2.out; rw [List.drop_drop] at this; exact this⟩
        case measure => simp [intOf]; omega
      · have he1 : (e != 0) = true := by simpa using he
        have he2 : (e == 0) = false := by simpa using he
        have HE := Lib.hid he
        clear he
        go_wp2_with fail
        refine (rnext_from s k _ hs r e n HX.out).mono ?_
        rintro v w' ⟨rfl, rfl⟩
        go_wp2_with (at_builtin; refine wpList_append_own_at _ rfl (.tmp 37) (.tmp 41) _ rfl w.heap.size 44 j0 _ 2 16 Tryd.underlying35 J0.out J1.out J2.out J3.out rfl (by omega) u8 fs.length _ rfl (HD.out.f.alloc _) ⟨wr.heap.size, 0, none⟩ 1 1 [.int .i64 k, .int .i64 n] rfl rfl (World.news_of_block (cs := #[.int .i64 k, .int .i64 n]) (t := 44) (fr := (0, 0)) (heap_alloc_new wr _)) (by simp [Value.oneCell']) hmf (by omega) (by simp; omega) ?_; intro v2 w2 ho2 hg2 hn2 ha2; have HO2 := Lib.hid ho2; have HG2 := Lib.hid hg2; clear ho2 hg2 hn2 ha2)
        go_roundw
        case rel => exact ⟨k + n, by go_num, by omega, os, fs ++ [(k, n)], by have := HD.out.bad3 HNE.out HX.out HE.out n1 HO2.out HG2.out; rw [List.drop_drop] at this; exact this⟩
        case measure => simp [intOf]; omega
    · have hlt' : ¬ (k : Int) < s.size := by omega
      have ht := HD.out.tot
      rw [bs_end s k (by omega), dec_nil] at ht
      have HTT := Lib.hid ht
      clear ht
      go_wp2
      go_ret3
      exact ⟨_, _, by rw [HTT.out]; rfl, by rw [HTT.out]; simpa using HD.out.o, by rw [HTT.out]; simpa using HD.out.f, HD.out.bel⟩
end Go.Proofs.YtoiedhkhmdgipaaDoor

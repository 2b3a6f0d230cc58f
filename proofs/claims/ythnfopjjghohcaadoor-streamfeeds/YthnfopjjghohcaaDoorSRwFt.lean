import Derived.Test.YthnfopjjghohcaaDoorGR1
namespace Go.Proofs.YthnfopjjghohcaaDoor.St
open Go.RowKit

set_option maxRecDepth 100000 in
set_option maxHeartbeats 4000000 in
theorem rwFt (k0 kd at0 : Nat) (pol : Int) (s : ByteArray) (w : World) (h1 : 1 ≤ kd) (h5 : kd ≤ 5) (hq : pol = 1 ∨ pol = 2 ∨ pol = 3) (hs : s.size ≤ 100000) (hat : at0 ≤ s.size) (hk : kd = k0) (ha : at0 = 0) (ct : Nat) (hct : true = true → ct = at0 + Dg.scan (Dg.nx5 kd) ((bs s).drop at0))
    (tot : List Int × List (Nat × Nat) × Int) (htot : X (Dg.nx5 kd) true pol at0 ((bs s).drop at0) = tot) (ws : ByteArray) (hws : ws = if tot.2.2 = 0 then s.extract ct s.size else ⟨#[]⟩) :
    Calls Tryd.prog 12 #[.int .i64 (k0 : Int), .int .i64 pol, .bool false, .string s, .bool true] w (RefP w kd ws tot) := by
  obtain ⟨i0, hi0, hz0, hz1, hz2⟩ := info_parts r_info
  have I0 := Lib.hid hi0
  have I1 := Lib.hid hz0
  have I2 := Lib.hid hz1
  have I3 := Lib.hid hz2
  clear hi0 hz0 hz1 hz2
  obtain ⟨j0, hj0, hz0, hz1, hz2⟩ := info_parts f_info
  have J0 := Lib.hid hj0
  have J1 := Lib.hid hz0
  have J2 := Lib.hid hz1
  have J3 := Lib.hid hz2
  clear hj0 hz0 hz1 hz2
  have WS17 : tot.2.2 = 17 → ws = ⟨#[]⟩ := fun h => by rw [hws, if_neg (by rw [h]; decide)]
  subst hk ha
  have HCT := Lib.hid (hct rfl)
  have HNx := Lib.hid (fun k W r e n (hx : Dg.nx5 kd ((bs s).drop k) = (r, (n : Int), e)) => (show Calls Tryd.prog 26 #[.int .i64 (kd : Int), .string (s.extract k s.size)] W (fun v w' => v = .returned (.tuple #[.int .i32 r, .int .i64 n, .int .i64 e]) ∧ W = w') from by
    have := next_r kd (s.extract k s.size) W h1 h5 (by rw [ext_from]; omega)
    rw [bs_from, hx] at this
    exact this))
  have HDT := Lib.hid htot
  have HW := Lib.hid hws
  clear htot hws hct
  go_enter Tryd.func12, Tryd.ntmps12
  go_wp2_with fail
  go_loopw [15, 18, 19] (fun i out flt wr => ∃ k : Nat, i = .int .i64 k ∧ k ≤ s.size ∧ ∃ os fs, Hid (WRel w wr out flt (Dg.nx5 kd) true pol k ct ((bs s).drop k) tot os fs)) (fun i _ _ _ => s.size - (intOf i).toNat)
  case atStart => exact ⟨0, rfl, by omega, [], [], Below.refl _ _, World.ownsRow_nil _ _ _ _, World.ownsRow_nil _ _ _ _, Nat.zero_le _, Nat.zero_le _, by rw [← HDT.out]; rfl, fun _ => HCT.out⟩
  case round =>
    obtain ⟨k, rfl, hk, os, fs, HD⟩ := hrel
    have hlo := HD.out.lo
    have hlf := HD.out.lf
    have hmo : os.length + 1 ≤ maxLen := by unfold maxLen; omega
    have hmf : fs.length + 1 ≤ maxLen := by unfold maxLen; omega
    have hsz := HD.out.bel.size
    by_cases hlt : k < s.size
    · have hne : (bs s).drop k ≠ [] := by
        intro h
        have := congrArg List.length h
        rw [List.length_drop, bs_len] at this
        simp at this
        omega
      obtain ⟨r, e, n, hX, n1, n2, n3, n4, n5⟩ := (Dg.nxOk kd).step _ hne
      rw [List.length_drop, bs_len] at n2
      have HX := Lib.hid hX
      have HNE := Lib.hid hne
      clear hX hne n5
      have hlt' : (k : Int) < s.size := by omega
      have hk0 : (0 : Int) ≤ k := by omega
      have hk1 : (k : Int) ≤ s.size := by omega
      rcases n4 with rfl | rfl | rfl
      · go_wp2_with (first | (go_at_call 26; refine (HNx.out k _ r 0 n HX.out).mono ?_; rintro v w' ⟨rfl, rfl⟩) | (at_builtin; refine wpList_append_own_at _ rfl (.tmp 66) (.tmp 68) _ rfl w.heap.size 21 i0 _ 1 4 Tryd.underlying25 I0.out I1.out I2.out I3.out rfl (by omega) u18 os.length _ rfl (HD.out.o.alloc _) ⟨wr.heap.size, 0, none⟩ 1 1 [_] rfl rfl (cell_one_new _ _ _) (by simp [Value.oneCell']) hmo (by omega) (by simp; omega) ?_; intro v2 w2 ho2 hg2 hn2 ha2; have HO2 := Lib.hid ho2; have HG2 := Lib.hid hg2; clear ho2 hg2 hn2 ha2))
        go_roundw
        case rel => exact ⟨k + n, by go_num, by omega, os ++ [r], fs, by have := HD.out.ok (Dg.nxOk kd) HNE.out HX.out n1 HO2.out HG2.out; rw [List.drop_drop] at this; exact this⟩
        case measure => simp [intOf]; omega
      · rcases hq with rfl | rfl | rfl
        · have HDx := Lib.hid (show WRel w wr u18 u19 (Dg.nx5 kd) true 1 k ct ((bs s).drop k) tot os fs from HD.out)
          go_wp2_with (first | (go_at_call 26; refine (HNx.out k _ r 17 n HX.out).mono ?_; rintro v w' ⟨rfl, rfl⟩) | (at_builtin; refine wpList_append_own_at _ rfl (.tmp 70) (.tmp 74) _ rfl w.heap.size 50 j0 _ 2 16 Tryd.underlying26 J0.out J1.out J2.out J3.out rfl (by omega) u19 fs.length _ rfl (HD.out.f.alloc _) ⟨wr.heap.size, 0, none⟩ 1 1 [.int .i64 k, .int .i64 n] rfl rfl (World.news_of_block (cs := #[.int .i64 k, .int .i64 n]) (t := 50) (fr := (0, 0)) (heap_alloc_new wr _)) (by simp [Value.oneCell']) hmf (by omega) (by simp; omega) ?_; intro v2 w2 ho2 hg2 hn2 ha2; have HO2 := Lib.hid ho2; have HG2 := Lib.hid hg2; have HK := Lib.hid (HD.out.keepO hg2); have z2 := HK.out.2; clear ho2 hg2 hn2 ha2))
          obtain ⟨p1, p2, p3, p4⟩ := HDx.out.flt1 HNE.out HX.out (by decide) (by decide) HO2.out HG2.out
          refine bodyPost_ret (v := .tuple #[u18, v2, .int .i64 (kd : Int), .string ⟨#[]⟩, .int .i64 17]) (by simp [results, Tryd.results12, go_sem]) rfl ?_
          rw [WS17 p4]
          exact RefP.mk (by rw [p4]) p2 p3 p1
        · have HDx := Lib.hid (show WRel w wr u18 u19 (Dg.nx5 kd) true 2 k ct ((bs s).drop k) tot os fs from HD.out)
          go_wp2_with (first | (go_at_call 26; refine (HNx.out k _ r 17 n HX.out).mono ?_; rintro v w' ⟨rfl, rfl⟩) | (at_builtin; refine wpList_append_own_at _ rfl (.tmp 70) (.tmp 74) _ rfl w.heap.size 50 j0 _ 2 16 Tryd.underlying26 J0.out J1.out J2.out J3.out rfl (by omega) u19 fs.length _ rfl (HD.out.f.alloc _) ⟨wr.heap.size, 0, none⟩ 1 1 [.int .i64 k, .int .i64 n] rfl rfl (World.news_of_block (cs := #[.int .i64 k, .int .i64 n]) (t := 50) (fr := (0, 0)) (heap_alloc_new wr _)) (by simp [Value.oneCell']) hmf (by omega) (by simp; omega) ?_; intro v2 w2 ho2 hg2 hn2 ha2; have HO2 := Lib.hid ho2; have HG2 := Lib.hid hg2; have HK := Lib.hid (HD.out.keepO hg2); have z2 := HK.out.2; clear ho2 hg2 hn2 ha2) | (at_builtin; refine wpList_append_own_at _ rfl (.tmp 83) (.tmp 84) _ rfl w.heap.size 21 i0 _ 1 4 Tryd.underlying25 I0.out I1.out I2.out I3.out rfl (by omega) u18 os.length _ rfl (HK.out.1.alloc _) ⟨w2.heap.size, 0, none⟩ 1 1 [_] rfl rfl (cell_one_new _ _ _) (by simp [Value.oneCell']) hmo (by omega) (by simp; omega) ?_; intro v3 w3 ho3 hg3 hn3 ha3; have HO3 := Lib.hid ho3; have HG3 := Lib.hid hg3; clear ho3 hg3 hn3 ha3))
          go_roundw
          case rel => exact ⟨k + n, by go_num, by omega, os ++ [65533], fs ++ [(k, n)], by have := HDx.out.bad2 (Dg.nxOk kd) HNE.out HX.out (by decide) (by decide) n1 HO2.out HG2.out HO3.out HG3.out; rw [List.drop_drop] at this; exact this⟩
          case measure => simp [intOf]; omega
        · have HDx := Lib.hid (show WRel w wr u18 u19 (Dg.nx5 kd) true 3 k ct ((bs s).drop k) tot os fs from HD.out)
          go_wp2_with (first | (go_at_call 26; refine (HNx.out k _ r 17 n HX.out).mono ?_; rintro v w' ⟨rfl, rfl⟩) | (at_builtin; refine wpList_append_own_at _ rfl (.tmp 70) (.tmp 74) _ rfl w.heap.size 50 j0 _ 2 16 Tryd.underlying26 J0.out J1.out J2.out J3.out rfl (by omega) u19 fs.length _ rfl (HD.out.f.alloc _) ⟨wr.heap.size, 0, none⟩ 1 1 [.int .i64 k, .int .i64 n] rfl rfl (World.news_of_block (cs := #[.int .i64 k, .int .i64 n]) (t := 50) (fr := (0, 0)) (heap_alloc_new wr _)) (by simp [Value.oneCell']) hmf (by omega) (by simp; omega) ?_; intro v2 w2 ho2 hg2 hn2 ha2; have HO2 := Lib.hid ho2; have HG2 := Lib.hid hg2; have HK := Lib.hid (HD.out.keepO hg2); have z2 := HK.out.2; clear ho2 hg2 hn2 ha2))
          go_roundw
          case rel => exact ⟨k + n, by go_num, by omega, os, fs ++ [(k, n)], by have := HDx.out.bad3 (Dg.nxOk kd) HNE.out HX.out (by decide) (by decide) n1 HO2.out HG2.out; rw [List.drop_drop] at this; exact this⟩
          case measure => simp [intOf]; omega
      · have hct := HD.out.ct rfl
        have htt := HD.out.tot
        rw [Dg.scan_more _ HNE.out r n HX.out, Nat.add_zero] at hct
        rw [show X (Dg.nx5 kd) true pol k ((bs s).drop k) = ([], [], 0) from Dg.sur_more pol k _ HNE.out r n HX.out] at htt
        simp only [List.append_nil] at htt
        have HTT := Lib.hid htt
        have HWS := Lib.hid (show ws = s.extract k s.size by rw [HW.out, if_pos (by rw [htt]), hct])
        clear hct htt
        go_wp2_with (first | (go_at_call 26; refine (HNx.out k _ r 18 n HX.out).mono ?_; rintro v w' ⟨rfl, rfl⟩))
        go_quiet (fail)
        go_wp2
        refine bodyPost_ret (v := .tuple #[u18, u19, .int .i64 (kd : Int), .string (s.extract k s.size), .int .i64 0]) (by simp [results, Tryd.results12, go_sem]) rfl ?_
        rw [HWS.out]
        exact RefP.mk (by rw [HTT.out]) (by rw [HTT.out]; exact HD.out.o) (by rw [HTT.out]; exact HD.out.f) (bel_drewN HD.out.bel _)
    · have hlt' : ¬ (k : Int) < s.size := by omega
      have htt := HD.out.tot
      rw [bs_end s k (by omega), X_nil] at htt
      simp only [List.append_nil] at htt
      have HTT := Lib.hid htt
      have HWS := Lib.hid (show ws = ⟨#[]⟩ from by rw [HW.out, if_pos (by rw [htt]), HD.out.ct rfl, bs_end s k (by omega)]; exact bs_inj (by rw [bs_from, List.drop_of_length_le (by rw [bs_len]; omega)]; rfl))
      clear htt
      go_wp2
      refine bodyPost_ret (v := .tuple #[u18, u19, .int .i64 (kd : Int), .string ⟨#[]⟩, .int .i64 0]) (by simp [results, Tryd.results12, go_sem]) rfl ?_
      rw [HWS.out]
      exact RefP.mk (by rw [HTT.out]) (by rw [HTT.out]; exact HD.out.o) (by rw [HTT.out]; exact HD.out.f) HD.out.bel
end Go.Proofs.YthnfopjjghohcaaDoor.St

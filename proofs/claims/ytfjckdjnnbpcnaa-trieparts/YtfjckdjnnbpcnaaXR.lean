import Derived.Test.YtfjckdjnnbpcnaaXE
namespace Go.Proofs.Ytfjckdjnnbpcnaa.Tr
open Go.RowKit Go.Shelf

attribute [local go_sem] Oper.semAt_some
attribute [local go_sem] encS

set_option maxHeartbeats 16000000 in
set_option maxRecDepth 100000 in
theorem parts_walk (T : Tbl) (hA : ∀ W, Calls Try.prog 11 #[] W fun e w' => e = .returned (.bool true) ∧ Below W.heap.size W w') (A : Option Addr) (c : Nat) (l : List Sp) (f t v r : Int) (w : World) (hl : Sps w A l) (hll : l.length ≤ 140737488355328) :
    Calls Try.prog 8 #[.slice A l.length c, .agg #[.int .i32 f, .int .i32 t, .int .i64 v], .int .i32 r] w fun e w' => e = .returned (.bool true) ∧ Below w.heap.size w w' := by
  have HA := Lib.hid hA
  obtain ⟨w1, hw1⟩ : ∃ x, x = (w.alloc (.cells #[.int .i32 f, .int .i32 t, .int .i64 v] 33)).alloc (.cells #[.bool false] 4) := ⟨_, rfl⟩
  have hz0 : (w.alloc (.cells #[.int .i32 f, .int .i32 t, .int .i64 v] 33)).heap.size = w.heap.size + 1 := by simp
  have hbx : Bk w1 w.heap.size [.int .i32 f, .int .i32 t, .int .i64 v] 33 := by
    have h9 : Bk (w.alloc (.cells #[.int .i32 f, .int .i32 t, .int .i64 v] 33)) w.heap.size [.int .i32 f, .int .i32 t, .int .i64 v] 33 := ⟨heap_alloc_new w _⟩
    rw [hw1]; exact h9.below ((Below.refl _ _).alloc (Nat.le_refl _) _)
  have hbr : Bk w1 (w.heap.size + 1) [.bool false] 4 := ⟨by rw [hw1]; have h9 := heap_alloc_new (w.alloc (.cells #[.int .i32 f, .int .i32 t, .int .i64 v] 33)) (.cells #[.bool false] 4); rwa [hz0] at h9⟩
  have hd1 : Below w.heap.size w w1 := by rw [hw1]; exact ((Below.refl _ w).alloc (Nat.le_refl _) _).alloc (by simp) _
  have HL := Lib.hid (hl.below hd1)
  have HX := Lib.hid hbx
  have HR := Lib.hid hbr
  have D0 := Lib.hid hd1
  have HN := Lib.hid (T.new w1 0)
  clear hA hl hbx hd1 hbr
  refine calls_marks Try.func8 rfl ?_
  simp only [Try.ntmps8, List.size_toArray, List.length_cons, List.length_nil, Nat.reduceAdd, Nat.reduceSub, Array.replicate_succ, Array.replicate_zero, List.push_toArray, List.append_toArray, List.nil_append, List.cons_append]
  go_upto_region 1 with fail
  rw [← hw1]
  clear hw1 hz0
  go_wp2_with fail
  refine HN.out.mono ?_
  rintro e w2 ⟨X, rfl, ht, hb⟩
  have S2 := Lib.hid (show Solo T w1 w2 X 0 (fun _ => 0) from ⟨hb, ht⟩)
  have hW := wide_any w2 A c l (HL.out.below hb) hll
  clear ht hb HN
  cases hw : wideB l with
  | true =>
    rw [hw] at hW
    have HW := Lib.hid hW
    clear hW
    go_wp2_with fail
    refine HW.out.mono ?_
    rintro e w3 ⟨rfl, m, rfl⟩
    have D3 := Lib.hid (bel_drewN S2.out.bel m)
    go_wp2_with fail
    refine (HA.out _).mono ?_
    rintro e w9 ⟨rfl, hb9⟩
    have B9 := Lib.hid (D3.out.trans (hb9.mono D3.out.size))
    have HR9 := Lib.hid (HR.out.below B9.out)
    have c9 := HR9.out.c (i := 0) rfl
    have f9 := HR9.out.fr 0
    clear hb9
    go_wp2_with fail
    have h9 := (HR9.out.set 0 (.bool true)).c (i := 0) rfl
    exact leave_nil (v := .bool true) (by simp [results, Try.results8, go_sem, h9]) ⟨rfl, (D0.out.trans (B9.out.mono D0.out.size)).setCell (p := ⟨w.heap.size + 1, 0, none⟩) (by show w.heap.size ≤ w.heap.size + 1; omega) _⟩
  | false =>
    rw [hw] at hW
    have HW := Lib.hid hW
    have h40 := wide_no hw
    clear hW hll hw
    have cx0 := (HX.out.below (S2.out.bel)).c (i := 0) rfl
    have cx1 := (HX.out.below (S2.out.bel)).c (i := 1) rfl
    have cx2 := (HX.out.below (S2.out.bel)).c (i := 2) rfl
    go_wp2_with fail
    refine HW.out.mono ?_
    rintro e w3 ⟨rfl, m, rfl⟩
    have S3 := Lib.hid (S2.out.on (bel_drewN (Below.refl _ w2) m))
    have HX3 := Lib.hid (HX.out.below S3.out.bel)
    clear cx0 cx1 cx2 S2 HW
    generalize w2.drewN m = w3 at *
    have cx0 := HX3.out.c (i := 0) rfl
    have cx1 := HX3.out.c (i := 1) rfl
    have cx2 := HX3.out.c (i := 2) rfl
    obtain ⟨w4, hw4⟩ : ∃ x, x = w3.alloc (.cells #[.int .i32 f, .int .i32 t, .int .i64 v] 33) := ⟨_, rfl⟩
    have hb4 : Bk w4 w3.heap.size [.int .i32 f, .int .i32 t, .int .i64 v] 33 := by rw [hw4]; exact ⟨heap_alloc_new w3 _⟩
    have hd4 : Below w3.heap.size w3 w4 := by rw [hw4]; exact (Below.refl _ w3).alloc (Nat.le_refl _) _
    have hW4 := wide_any w4 (some ⟨w3.heap.size, 0, none⟩) 1 [(f, t, v)] (fun i hi => by
      obtain rfl : i = 0 := by simpa using hi
      exact ⟨w3.heap.size, 0, rfl, hb4.lt, hb4.c (i := 0) rfl, hb4.c (i := 1) rfl, hb4.c (i := 2) rfl⟩) (by simp)
    rw [hw4] at hW4
    have S4 := Lib.hid (S3.out.on hd4)
    have HW4 := Lib.hid hW4
    go_wp2_with fail
    rw [← hw4] at HW4 ⊢
    clear hW4 hb4 hd4 hw4
    refine HW4.out.mono ?_
    rintro e w5 ⟨rfl, m2, rfl⟩
    have S5 := Lib.hid (S4.out.on (bel_drewN (Below.refl _ w4) m2))
    have D5 := Lib.hid S5.out.bel
    clear HW4 S4 S3 HX3 cx0 cx1 cx2
    generalize w4.drewN m2 = w5 at *
    cases hw5 : wideB [(f, t, v)] with
    | true =>
      go_wp2_with fail
      refine (HA.out _).mono ?_
      rintro e w9 ⟨rfl, hb9⟩
      have B9 := Lib.hid (D5.out.trans (hb9.mono D5.out.size))
      have HR9 := Lib.hid (HR.out.below B9.out)
      have c9 := HR9.out.c (i := 0) rfl
      have f9 := HR9.out.fr 0
      clear hb9
      go_wp2_with fail
      have h9 := (HR9.out.set 0 (.bool true)).c (i := 0) rfl
      exact leave_nil (v := .bool true) (by simp [results, Try.results8, go_sem, h9]) ⟨rfl, (D0.out.trans (B9.out.mono D0.out.size)).setCell (p := ⟨w.heap.size + 1, 0, none⟩) (by show w.heap.size ≤ w.heap.size + 1; omega) _⟩
    | false =>
      clear hw5 D5
      go_wp2_with fail
      go_loopw [8] (fun i wr => ∃ k : Nat, i = .int .i64 k ∧ k ≤ l.length ∧ Hid (Solo T w1 wr X 0 (setG (fun _ => 0) (l.take k)))) (fun i _ => l.length - (intOf i).toNat)
      case atStart => exact ⟨0, rfl, by omega, S5.out⟩
      case round =>
        obtain ⟨k, rfl, hk, HP⟩ := hrel
        by_cases hlt : k < l.length
        · obtain ⟨b, off, rfl, hbl, p0, p1, p2⟩ := (HL.out.below HP.out.bel) k hlt
          have hst := setG_take (g := fun _ => 0) hlt
          have hcel : ∀ W : World, (∀ j, j < w1.heap.size → W.heap[j]? = w1.heap[j]?) → (W.cell? ⟨b, off + k * 3, none⟩ = some (.int .i32 (l[k]).1) ∧ W.cell? ⟨b, off + k * 3 + 1, none⟩ = some (.int .i32 (l[k]).2.1) ∧ W.cell? ⟨b, off + k * 3 + 2, none⟩ = some (.int .i64 (l[k]).2.2)) := fun W hW => by
            obtain ⟨b', off', e', hb', q0, q1, q2⟩ := HL.out k hlt
            simp only [Option.some.injEq, Addr.mk.injEq] at e'
            obtain ⟨rfl, rfl, _⟩ := e'
            have hk9 : ∀ j, W.cell? ⟨b, off + k * 3 + j, none⟩ = w1.cell? ⟨b, off + k * 3 + j, none⟩ := fun j => by unfold World.cell?; simp only [hW b hb']
            exact ⟨(hk9 0).trans q0, (hk9 1).trans q1, (hk9 2).trans q2⟩
          generalize l[k] = s at *
          obtain ⟨f1, t1, u1⟩ := s
          simp only at p0 p1 p2 hcel
          have HCL := Lib.hid hcel
          have HST := Lib.hid hst
          have g2 : (k : Int) < l.length := by omega
          clear hst hcel
          have HPd := Lib.hid (HP.out.on (Below.refl _ wr).drew)
          go_upto_region 7 with fail
          go_region_held3 (fun W => (W.cell? ⟨b, off + k * 3, none⟩ = some (.int .i32 f1) ∧ W.cell? ⟨b, off + k * 3 + 1, none⟩ = some (.int .i32 t1) ∧ W.cell? ⟨b, off + k * 3 + 2, none⟩ = some (.int .i64 u1)))
            (first
              | go_keep
              | exact HCL.out _ C5.out)
            (first
              | (go_at_call 12; refine (T.set f1 t1 u1 HPd.out.tb).mono ?_; rintro e w5 ⟨rfl, ht5, m5⟩; have Q5 := Lib.hid (HPd.out.set ht5 m5); have C5 := Lib.hid (show ∀ j, j < w1.heap.size → w5.heap[j]? = w1.heap[j]? from fun j hj => Q5.out.bel.block j hj); clear ht5 m5))
          all_goals
            go_wp2_with fail
            go_roundw
            case measure => simp [intOf] <;> omega
            case rel =>
              refine ⟨k + 1, by go_num, by omega, ?_⟩
              rw [HST.out]
              exact Q5.out
        · obtain rfl : k = l.length := by omega
          have g2 : ¬ (l.length : Int) < l.length := by omega
          have hP := HP.out
          rw [List.take_length] at hP
          generalize setG (fun _ => 0) l = g at hP
          have S6 := Lib.hid hP
          clear hP HP
          go_wp2_with fail
          refine (T.copy S6.out.tb).mono ?_
          rintro e w7 ⟨Y, rfl, ht, hb⟩
          have DU := Lib.hid (S6.out.duo ht hb)
          obtain ⟨bb, hbb⟩ : ∃ x, x = wr.heap.size := ⟨_, rfl⟩
          rw [← hbb] at DU
          have D7 := Lib.hid DU.out.bel
          have HX7 := Lib.hid (HX.out.below D7.out)
          have cx0 := HX7.out.c (i := 0) rfl
          have cx1 := HX7.out.c (i := 1) rfl
          have cx2 := HX7.out.c (i := 2) rfl
          clear ht hb S6 hbb
          by_cases b1 : f < 0
          · go_wp2_with fail
            refine (HA.out _).mono ?_
            rintro e w9 ⟨rfl, hb9⟩
            have B9 := Lib.hid (D7.out.trans (hb9.mono D7.out.size))
            have HR9 := Lib.hid (HR.out.below B9.out)
            have c9 := HR9.out.c (i := 0) rfl
            have f9 := HR9.out.fr 0
            clear hb9
            go_wp2_with fail
            have h9 := (HR9.out.set 0 (.bool true)).c (i := 0) rfl
            exact leave_nil (v := .bool true) (by simp [results, Try.results8, go_sem, h9]) ⟨rfl, (D0.out.trans (B9.out.mono D0.out.size)).setCell (p := ⟨w.heap.size + 1, 0, none⟩) (by show w.heap.size ≤ w.heap.size + 1; omega) _⟩
          · by_cases b2 : 1114111 < t
            · go_wp2_with fail
              refine (HA.out _).mono ?_
              rintro e w9 ⟨rfl, hb9⟩
              have B9 := Lib.hid (D7.out.trans (hb9.mono D7.out.size))
              have HR9 := Lib.hid (HR.out.below B9.out)
              have c9 := HR9.out.c (i := 0) rfl
              have f9 := HR9.out.fr 0
              clear hb9
              go_wp2_with fail
              have h9 := (HR9.out.set 0 (.bool true)).c (i := 0) rfl
              exact leave_nil (v := .bool true) (by simp [results, Try.results8, go_sem, h9]) ⟨rfl, (D0.out.trans (B9.out.mono D0.out.size)).setCell (p := ⟨w.heap.size + 1, 0, none⟩) (by show w.heap.size ≤ w.heap.size + 1; omega) _⟩
            · by_cases b3 : t < f
              · go_wp2_with fail
                refine (HA.out _).mono ?_
                rintro e w9 ⟨rfl, hb9⟩
                have B9 := Lib.hid (D7.out.trans (hb9.mono D7.out.size))
                have HR9 := Lib.hid (HR.out.below B9.out)
                have c9 := HR9.out.c (i := 0) rfl
                have f9 := HR9.out.fr 0
                clear hb9
                go_wp2_with fail
                have h9 := (HR9.out.set 0 (.bool true)).c (i := 0) rfl
                exact leave_nil (v := .bool true) (by simp [results, Try.results8, go_sem, h9]) ⟨rfl, (D0.out.trans (B9.out.mono D0.out.size)).setCell (p := ⟨w.heap.size + 1, 0, none⟩) (by show w.heap.size ≤ w.heap.size + 1; omega) _⟩
              · by_cases b4 : r < f
                · go_wp2_with fail
                  refine (HA.out _).mono ?_
                  rintro e w9 ⟨rfl, hb9⟩
                  have B9 := Lib.hid (D7.out.trans (hb9.mono D7.out.size))
                  have HR9 := Lib.hid (HR.out.below B9.out)
                  have c9 := HR9.out.c (i := 0) rfl
                  have f9 := HR9.out.fr 0
                  clear hb9
                  go_wp2_with fail
                  have h9 := (HR9.out.set 0 (.bool true)).c (i := 0) rfl
                  exact leave_nil (v := .bool true) (by simp [results, Try.results8, go_sem, h9]) ⟨rfl, (D0.out.trans (B9.out.mono D0.out.size)).setCell (p := ⟨w.heap.size + 1, 0, none⟩) (by show w.heap.size ≤ w.heap.size + 1; omega) _⟩
                · by_cases b5 : t ≤ r
                  · go_wp2_with fail
                    refine (HA.out _).mono ?_
                    rintro e w9 ⟨rfl, hb9⟩
                    have B9 := Lib.hid (D7.out.trans (hb9.mono D7.out.size))
                    have HR9 := Lib.hid (HR.out.below B9.out)
                    have c9 := HR9.out.c (i := 0) rfl
                    have f9 := HR9.out.fr 0
                    clear hb9
                    go_wp2_with fail
                    have h9 := (HR9.out.set 0 (.bool true)).c (i := 0) rfl
                    exact leave_nil (v := .bool true) (by simp [results, Try.results8, go_sem, h9]) ⟨rfl, (D0.out.trans (B9.out.mono D0.out.size)).setCell (p := ⟨w.heap.size + 1, 0, none⟩) (by show w.heap.size ≤ w.heap.size + 1; omega) _⟩
                  · have hok : okS (f, t, v) = true := by simp [okS]; omega
                    obtain ⟨ok1, ok2⟩ := parts_ok (a := r) hok (by omega) (by omega)
                    have hup := upd_parts (g := g) (a := r) hok (by omega) (by omega)
                    have hs1 := T.set f t v DU.out.tx
                    rw [setE_ok hok] at hs1
                    have HS1 := Lib.hid hs1
                    have HUP := Lib.hid hup
                    have OK1 := Lib.hid ok1
                    have OK2 := Lib.hid ok2
                    have n1 : IntKind.i32.wrap (r + 1) = r + 1 := by rw [IntKind.wrap_i32]; omega
                    clear hs1 hok ok1 ok2 hup D7
                    go_wp2_with fail
                    refine HS1.out.mono ?_
                    rintro e w8 ⟨rfl, ht, m8⟩
                    have DU8 := Lib.hid (DU.out.setX ht m8)
                    have HX8 := Lib.hid (HX.out.below DU8.out.bel)
                    have hs2 := T.set (r + 1) t v DU8.out.ty
                    rw [setE_ok OK1.out] at hs2
                    have HS2 := Lib.hid hs2
                    clear ht m8 hs2 HS1 DU HX7 cx0 cx1 cx2
                    have cx0 := HX8.out.c (i := 0) rfl
                    have cx1 := HX8.out.c (i := 1) rfl
                    have cx2 := HX8.out.c (i := 2) rfl
                    go_wp2_with fail
                    refine HS2.out.mono ?_
                    rintro e w10 ⟨rfl, ht, m8⟩
                    have DU9 := Lib.hid (DU8.out.setY ht m8)
                    have HX9 := Lib.hid (HX.out.below DU9.out.bel)
                    have hs2 := T.set f r v DU9.out.ty
                    rw [setE_ok OK2.out] at hs2
                    have HS3 := Lib.hid hs2
                    clear ht m8 hs2 HS2 DU8 HX8 cx0 cx1 cx2
                    have cx0 := HX9.out.c (i := 0) rfl
                    have cx1 := HX9.out.c (i := 1) rfl
                    have cx2 := HX9.out.c (i := 2) rfl
                    go_wp2_with fail
                    refine HS3.out.mono ?_
                    rintro e w11 ⟨rfl, ht, m8⟩
                    have DA := DU9.out.setY ht m8
                    rw [HUP.out] at DA
                    generalize updS g (f, t, v) = G1 at DA
                    have DUA := Lib.hid DA
                    clear ht m8 DA HS3 DU9 HX9 cx0 cx1 cx2 HUP OK1 OK2 HX
                    have hnf : ∀ (G : Nat) (cap : Array Value) (W : World), (binOp BinOp.eql 38 (.func (.func G) #[] cap) .nilFunc).run Try.prog W = .ok (.bool false) W := fun _ _ _ => by kernel_rfl
                    go_wp2_with fail
                    refine ((T.trk DUA.out.tx).all w11 (Below.refl _ w11)).mono ?_
                    rintro e w12 ⟨G, lb, rfl, hen, hsq, hb⟩
                    have EN := Lib.hid hen
                    have SQ := Lib.hid hsq
                    have DUB := Lib.hid (DUA.out.on hb)
                    clear hen hsq hb DUA
                    go_wp2_with fail
                    refine ((T.trk DUB.out.ty).all w12 (Below.refl _ w12)).mono ?_
                    rintro e w13 ⟨G', lb', rfl, hen, hsq, hb⟩
                    have EN' := Lib.hid hen
                    have SQ' := Lib.hid hsq
                    have DUC := Lib.hid (DUB.out.on hb)
                    have B13 := Lib.hid hb
                    clear hen hsq hb DUB
                    obtain ⟨L1, hL1⟩ : ∃ L1, L1 = allG G1 0 := ⟨_, rfl⟩
                    have HL1 : Hid (L1.length ≤ 1114112) := Lib.hid (by rw [hL1]; exact scan_len _ _ _)
                    rw [← hL1] at SQ SQ'
                    clear hL1
                    go_wp2_with fail
                    obtain ⟨w14, hw14⟩ : ∃ x, x = w13.alloc (.cells #[.slice none 0 0] 22) := ⟨_, rfl⟩
                    have hB0 : Boxed w14 w13.heap.size 22 (.slice none 0 0) := by rw [hw14]; exact Boxed.new w13 _ _
                    have d14 : Below w13.heap.size w13 w14 := by rw [hw14]; exact (Below.refl _ w13).alloc (Nat.le_refl _) _
                    have hz14 : w14.heap.size = w13.heap.size + 1 := by rw [hw14]; simp
                    rw [← hw14]
                    clear hw14
                    have D14 := Lib.hid d14
                    have hz13 := B13.out.size
                    obtain ⟨i0, hi0, hz0, hz1, hz2⟩ := info_parts sp_info
                    have I0 := Lib.hid hi0
                    have I1 := Lib.hid hz0
                    have I2 := Lib.hid hz1
                    have I3 := Lib.hid hz2
                    clear hi0 hz0 hz1 hz2
                    refine rangeH rfl EN.out SQ.out (B13.out.trans (d14.mono (by omega))) (fun _ => rfl)
                      (fun pre W => (∃ v, Boxed W w13.heap.size 22 v ∧ W.ownsRow w13.heap.size 33 3 v pre.length (spC pre) ∧ True) ∧ Below w13.heap.size w13 W)
                      (fun _ _ _ => False)
                      (OwnFrom.and (Own.from (holdsRow_own w13.heap.size w13.heap.size 22 33 3 (fun pre : List Sp => pre.length) (fun pre => spC pre) (fun _ _ => True)) _) (ownFrom_below (Nat.le_refl _) (by omega)))
                      (fun _ _ _ _ _ hs _ _ => hs)
                      ⟨⟨_, hB0, World.ownsRow_nil _ _ _ _, trivial⟩, D14.out⟩
                      (fun tm Bs x => (((tm.setIfInBounds 131 (.agg #[.int .i32 x.1, .int .i32 x.2.1])).setIfInBounds 132 (.int .i64 x.2.2)).setIfInBounds 13 (.pointer (some ⟨Bs, 0, none⟩))).setIfInBounds 14 (.int .i64 x.2.2))
                      ?assign ?body ?done ?stop
                    case stop =>
                      rintro D c pre W _ _ h _
                      exact h.elim
                    case assign =>
                      rintro l pre ⟨f2, t2, u2⟩ W K ⟨⟨v9, hv, hrow, _⟩, hB⟩ hz hK
                      gi_wp2
                      have ha : Below w13.heap.size W (W.alloc (.cells #[.int .i32 f2, .int .i32 t2] 42)) := (Below.refl _ _).alloc (by omega) _
                      refine hK _ _ ?_ ?_ ?_ ?_ ?_
                      · exact (KeepsOthers.alloc _ _).from _
                      · exact (Below.refl _ W).alloc (by omega) _
                      · exact ⟨⟨v9, (Below.heap_alloc _ _ _ hv.lt).trans hv, hrow.alloc _, trivial⟩, hB.trans ha⟩
                      · simp; omega
                      · exact ⟨W.heap.size, hz, ⟨heap_alloc_new W _⟩, by simp⟩
                    case body =>
                      rintro l pre ⟨f2, t2, u2⟩ W Bs ⟨⟨v9, hv, hrow, _⟩, hB⟩ hzW hBs hbx hlen
                      have hvc := hv.cell
                      have hle := hB.size
                      have hln : pre.length < 1114112 := by have := HL1.out; omega
                      obtain ⟨A9, c9, rfl, _⟩ := own_slice hrow
                      have y3 := hbx.c (i := 0) rfl
                      have y4 := hbx.c (i := 1) rfl
                      have HV := Lib.hid hv
                      have HN9 := Lib.hid hrow
                      clear hv hrow hbx hlen
                      gi_wp2_with (gi_at_builtin; refine wpListIn_append_own _ rfl _ _ 22 rfl w13.heap.size 33 i0 _ 3 16 Try.underlying22 I0.out I1.out I2.out I3.out rfl (by decide) _ _ _ rfl (HN9.out.alloc _) ⟨W.heap.size, 0, none⟩ 1 1 [.int .i32 f2, .int .i32 t2, .int .i64 u2] rfl rfl (World.news_of_block (cs := #[.int .i32 f2, .int .i32 t2, .int .i64 u2]) (t := 33) (fr := (0, 0)) (heap_alloc_new W _)) (by simp [Value.oneCell']) (by unfold maxLen; omega) (by omega) (by simp; omega) ?_; intro v' w1 hown' hgrow _; obtain ⟨g', cap', rfl⟩ := ownsRow_succ hown'; obtain ⟨hv1, hv2, hr2, hk2, hb2⟩ := HV.out.appended (by decide) HN9.out hle (Nat.le_refl _) hown' hgrow; have hvc1 := hv1.cell; have hvf1 := hv1.frozen; have hbz2 := hb2.size; have HH2 := Lib.hid (And.intro hk2 (And.intro hv2 (And.intro hr2 hb2))); clear hk2 hv2 hr2 hb2 hv1 hown' hgrow)
                      refine ⟨HH2.out.1.from _, HH2.out.2.2.2.mono (by omega), ⟨⟨_, HH2.out.2.1, by rw [List.length_append, spC_app]; exact HH2.out.2.2.1⟩, hB.trans HH2.out.2.2.2⟩, by omega⟩
                    case done =>
                      rintro D ys W hD hys ⟨⟨v9, hv, hrow, _⟩, hB⟩ hzW hK
                      subst hys
                      obtain ⟨A9, c9, rfl, hs9⟩ := own_sps hrow
                      have hk12 : Bk W w13.heap.size [.slice A9 ys.length c9] 22 := ⟨hv⟩
                      have HS9 := Lib.hid hs9
                      have HK := Lib.hid hK
                      have HB := Lib.hid hB
                      have H12 := Lib.hid hk12
                      have hDl : D < W.heap.size := (Array.getElem?_eq_some_iff.1 HK.out).1
                      clear hv hrow hs9 hK hB hk12 SQ EN hB0
                      go_wp2_with fail
                      obtain ⟨w15, hw15⟩ : ∃ x, x = W.alloc (.cells #[.int .i64 0] 3) := ⟨_, rfl⟩
                      have kn : Bk w15 W.heap.size [.int .i64 0] 3 := by rw [hw15]; exact ⟨heap_alloc_new W _⟩
                      have d15 : Below W.heap.size W w15 := by rw [hw15]; exact (Below.refl _ W).alloc (Nat.le_refl _) _
                      have hz15 : w15.heap.size = W.heap.size + 1 := by rw [hw15]; simp
                      rw [← hw15]
                      clear hw15
                      have D15 := Lib.hid d15
                      refine rangeH rfl EN'.out SQ'.out (HB.out.trans (d15.mono (by omega))) (fun _ => rfl)
                        (fun pre W2 => pre <+: ys ∧ Bk W2 W.heap.size [.int .i64 pre.length] 3 ∧ Below W.heap.size W W2)
                        (fun _ pre _ => ¬ pre <+: ys)
                        (fun s A B row hs hg hr => ⟨hs.1, bk_row hs.2.1 hg hr, hs.2.2.grown hg hs.2.2.size (fun k e => by have := (hr k e).1; omega)⟩)
                        (fun _ _ _ _ _ hs _ _ => hs)
                        ⟨List.nil_prefix, kn, d15⟩
                        (fun tm Bs x => (((tm.setIfInBounds 143 (.agg #[.int .i32 x.1, .int .i32 x.2.1])).setIfInBounds 144 (.int .i64 x.2.2)).setIfInBounds 16 (.pointer (some ⟨Bs, 0, none⟩))).setIfInBounds 17 (.int .i64 x.2.2))
                        ?assign2 ?body2 ?done2 ?stop2
                      case stop2 =>
                        rintro D2 c2 pre W2 _ h1 h2 _
                        exact absurd h1 h2
                      case assign2 =>
                        rintro l2 pre ⟨f2, t2, u2⟩ W2 K ⟨hp, h9, hB2⟩ hz hK
                        gi_wp2
                        refine hK _ _ ?_ ?_ ?_ ?_ ?_
                        · exact (KeepsOthers.alloc _ _).from _
                        · exact (Below.refl _ W2).alloc (by omega) _
                        · exact ⟨hp, h9.below ((Below.refl _ W2).alloc (Nat.le_refl _) _), hB2.alloc hB2.size _⟩
                        · simp; omega
                        · exact ⟨W2.heap.size, hz, ⟨heap_alloc_new W2 _⟩, by simp⟩
                      case body2 =>
                        rintro l2 pre ⟨f2, t2, u2⟩ W2 Bs ⟨hp, h9, hB2⟩ hzW2 hBs hbx hlt
                        obtain ⟨b, off, rfl, hbl, p0, p1, p2⟩ := (HS9.out.below hB2) pre.length hlt
                        have hpx : pre ++ [(f2, t2, u2)] <+: ys ↔ (f2, t2, u2) = ys[pre.length] := prefix_more hp hlt
                        have HPX := Lib.hid hpx
                        generalize ys[pre.length] = s at *
                        obtain ⟨f1, t1, u1⟩ := s
                        simp only at p0 p1 p2
                        have h8 := H12.out.below hB2
                        have y1 := Bel.cell (h9.c (i := 0) rfl) h9.lt
                        have y2 := Bel.cell (h8.c (i := 0) rfl) h8.lt
                        have y3 := Bel.cell (hbx.c (i := 0) rfl) hbx.lt
                        have y4 := Bel.cell (hbx.c (i := 1) rfl) hbx.lt
                        have y5 := Bel.cell p0 (by show b < _; exact hbl)
                        have y6 := Bel.cell p1 (by show b < _; exact hbl)
                        have y7 := Bel.cell p2 (by show b < _; exact hbl)
                        have H6 := Lib.hid (HR.out.below (DUC.out.bel.trans ((HB.out.trans (hB2.mono (by omega))).mono DUC.out.bel.size)))
                        have H9 := Lib.hid h9
                        have HBB := Lib.hid hB2
                        have g2 : (pre.length : Int) < (ys.length : Int) := by omega
                        have g3 : decide (ys.length ≤ pre.length) = false := by simpa using hlt
                        clear hpx p0 p1 p2 h8 h9 hB2 hbx hlt
                        by_cases e1 : f1 = f2
                        · have q1 : (f1 != f2) = false := by simpa using e1
                          by_cases e2 : t1 = t2
                          · have q2 : (t1 != t2) = false := by simpa using e2
                            by_cases e3 : u1 = u2
                            · have q3 : (u1 != u2) = false := by simpa using e3
                              have HX := Lib.hid (HPX.out.2 (by rw [e1, e2, e3]))
                              clear e1 e2 e3
                              have hw64 : wrap64 ((pre.length : Int) + 1) = (pre.length : Int) + 1 := by have := HL1.out; unfold wrap64; omega
                              gi_wp2
                              refine wpIn_round_bel (by kernel_rfl) (by kernel_rfl) (by kernel_rfl) ?_
                              repeat (go_big_quiet_step (fail))
                              refine wpQuiet_nil ?_
                              intro y
                              have y9 := y1 y
                              have f9 := (H9.out.below y.b).fr 0
                              gi_wp2
                              have hyz := y.b.size
                              refine ⟨((keeps_below y.b).trans (KeepsOthers.setCell _ _ _)).from _, (y.b.mono (by omega)).setCell (p := ⟨W.heap.size, 0, none⟩) (by show w13.heap.size ≤ W.heap.size; omega) _, ⟨HX.out, ?_, ?_⟩, ?_⟩
                              · have h9 := (H9.out.below y.b).set 0 (.int .i64 ((pre.length : Int) + 1))
                                rw [show (pre ++ [(f2, t2, u2)]).length = pre.length + 1 by simp]
                                try rw [hw64]
                                exact h9
                              · exact (HBB.out.trans (y.b.mono HBB.out.size)).setCell (p := ⟨W.heap.size, 0, none⟩) (by show W.heap.size ≤ W.heap.size; omega) _
                              · simp [World.setCell]; omega
                            · have q3 : (u1 != u2) = true := by simpa using e3
                              have HX := Lib.hid (fun h => e3 (by have h8 := HPX.out.1 h; simp only [Prod.mk.injEq] at h8; exact h8.2.2.symm))
                              clear e1 e2 e3
                              gi_wp2
                              refine wpIn_round_bel (by kernel_rfl) (by kernel_rfl) (by kernel_rfl) ?_
                              repeat (go_big_quiet_step (fail))
                              refine wpQuiet_nil ?_
                              intro y
                              have y9 := (H6.out.below y.b).c (i := 0) rfl
                              have f9 := (H6.out.below y.b).fr 0
                              gi_wp2
                              exact ⟨((keeps_below y.b).trans (KeepsOthers.setCell _ _ _)).from _, HX.out⟩
                          · have q2 : (t1 != t2) = true := by simpa using e2
                            have HX := Lib.hid (fun h => e2 (by have h8 := HPX.out.1 h; simp only [Prod.mk.injEq] at h8; exact h8.2.1.symm))
                            clear e1 e2
                            gi_wp2
                            refine wpIn_round_bel (by kernel_rfl) (by kernel_rfl) (by kernel_rfl) ?_
                            repeat (go_big_quiet_step (fail))
                            refine wpQuiet_nil ?_
                            intro y
                            have y9 := (H6.out.below y.b).c (i := 0) rfl
                            have f9 := (H6.out.below y.b).fr 0
                            gi_wp2
                            exact ⟨((keeps_below y.b).trans (KeepsOthers.setCell _ _ _)).from _, HX.out⟩
                        · have q1 : (f1 != f2) = true := by simpa using e1
                          have HX := Lib.hid (fun h => e1 (by have h8 := HPX.out.1 h; simp only [Prod.mk.injEq] at h8; exact h8.1.symm))
                          clear e1
                          gi_wp2
                          refine wpIn_round_bel (by kernel_rfl) (by kernel_rfl) (by kernel_rfl) ?_
                          repeat (go_big_quiet_step (fail))
                          refine wpQuiet_nil ?_
                          intro y
                          have y9 := (H6.out.below y.b).c (i := 0) rfl
                          have f9 := (H6.out.below y.b).fr 0
                          gi_wp2
                          exact ⟨((keeps_below y.b).trans (KeepsOthers.setCell _ _ _)).from _, HX.out⟩
                      case done2 =>
                        rintro D2 zs W2 hD2 hzs ⟨_, h9, hB2⟩ hzW2 hK2
                        subst hzs
                        have h8 := H12.out.below hB2
                        have eb : ((zs.length : Int) == (zs.length : Int)) = true := by simp
                        have EB := Lib.hid (HB.out.trans (hB2.mono (by omega)))
                        have H6 := Lib.hid (HR.out.below (DUC.out.bel.trans (EB.out.mono DUC.out.bel.size)))
                        have K1 := Lib.hid ((hB2.block D hDl).trans HK.out)
                        have K2 := Lib.hid hK2
                        have c9 := h9.c (i := 0) rfl
                        have c8 := h8.c (i := 0) rfl
                        have hD2l : D2 < W2.heap.size := (Array.getElem?_eq_some_iff.1 hK2).1
                        have hDl2 : D < W2.heap.size := (Array.getElem?_eq_some_iff.1 K1.out).1
                        have hne : D2 ≠ D := by omega
                        have BX := Lib.hid (T.trk DUC.out.tx).blocks
                        have BY := Lib.hid (T.trk DUC.out.ty).blocks
                        clear h9 h8 hB2 hK2 HK
                        go_wp2_with fail
                        refine (BX.out W2 EB.out).mono ?_
                        rintro e w16 ⟨rfl, hb⟩
                        have EB2 := Lib.hid (EB.out.trans (hb.mono EB.out.size))
                        have H62 := Lib.hid (H6.out.below hb)
                        have K12 := Lib.hid ((hb.block D hDl2).trans K1.out)
                        have K22 := Lib.hid ((hb.block D2 hD2l).trans K2.out)
                        have hz16 := hb.size
                        clear hb c9 c8
                        go_wp2_with fail
                        refine (BY.out w16 EB2.out).mono ?_
                        rintro e w17 ⟨rfl, hb⟩
                        have EB3 := Lib.hid (EB2.out.trans (hb.mono EB2.out.size))
                        have H63 := Lib.hid (H62.out.below hb)
                        have K13 := Lib.hid ((hb.block D (by omega)).trans K12.out)
                        have K23 := Lib.hid ((hb.block D2 (by omega)).trans K22.out)
                        have hz17 := hb.size
                        clear hb
                        have ebm : (((blkN G1 0 : Nat) : Int) == ((blkN G1 0 : Nat) : Int)) = true := by simp
                        go_wp2_with fail
                        refine (HA.out _).mono ?_
                        rintro e w18 ⟨rfl, hb⟩
                        have EB4 := Lib.hid (EB3.out.trans (hb.mono EB3.out.size))
                        have H64 := Lib.hid (H63.out.below hb)
                        have K14 := Lib.hid ((hb.block D (by omega)).trans K13.out)
                        have K24 := Lib.hid ((hb.block D2 (by omega)).trans K23.out)
                        have hz18 := hb.size
                        have c6 := H64.out.c (i := 0) rfl
                        have f6 := H64.out.fr 0
                        clear hb
                        have hzd := DUC.out.bel.size
                        have hzw := D0.out.size
                        have hRl : w.heap.size + 1 < w1.heap.size := HR.out.lt
                        go_wp2_with fail
                        have H6t := H64.out.set 0 (.bool true)
                        refine leave_mark (D := D2) ((Below.heap_setCell _ _ _ _ (by show D2 ≠ w.heap.size + 1; omega)).trans K24.out) (leave_mark (D := D) ((heap_put _ _ hne).trans ((Below.heap_setCell _ _ _ _ (by show D ≠ w.heap.size + 1; omega)).trans K14.out)) (leave_nil (v := .bool true) ?_ ⟨rfl, ?_⟩))
                        · have h9 := cell_put (D := D) (o := .deferred none) (cell_put (D := D2) (o := .deferred none) (H6t.c (i := 0) rfl) (by show w.heap.size + 1 ≠ D2; omega)) (by show w.heap.size + 1 ≠ D; omega)
                          simp [results, Try.results8, go_sem, h9]
                        · exact below_put (below_put ((D0.out.trans ((DUC.out.bel.trans (EB4.out.mono DUC.out.bel.size)).mono D0.out.size)).setCell (p := ⟨w.heap.size + 1, 0, none⟩) (by show w.heap.size ≤ w.heap.size + 1; omega) _) (by omega)) (by omega)

end Go.Proofs.Ytfjckdjnnbpcnaa.Tr

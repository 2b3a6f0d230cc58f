import Derived.Test.YtfjckdjnnbpcnaaXP
namespace Go.Proofs.Ytfjckdjnnbpcnaa.Tr
open Go.RowKit Go.Shelf

attribute [local go_sem] Oper.semAt_some

/-- A table of the program alone. -/
structure Solo (T : Tbl) (w0 w : World) (X : Nat) (nn : Int) (g : Int → Int) : Prop where
  bel : Below w0.heap.size w0 w
  tb : T.Tb w w0.heap.size X nn g
theorem Solo.on {T : Tbl} {w0 w w' : World} {X : Nat} {nn : Int} {g : Int → Int} (h : Solo T w0 w X nn g) (hb : Below w.heap.size w w') : Solo T w0 w' X nn g :=
  ⟨h.bel.trans (hb.mono h.bel.size), T.on h.tb (fun k hk _ => hb.block k hk)⟩
theorem Solo.set {T : Tbl} {w0 w w' : World} {X : Nat} {nn : Int} {g g' : Int → Int} (h : Solo T w0 w X nn g) (h1 : T.Tb w' w0.heap.size X nn g') (m : Mv (T.fp w X) (T.fp w' X) w w') : Solo T w0 w' X nn g' :=
  ⟨h.bel.trans (m.below (fun _ hk => (T.fpb h.tb hk).1) h.bel.size), h1⟩
def setG (g : Int → Int) (l : List Sp) : Int → Int := l.foldl updS g
theorem setG_take {g : Int → Int} {l : List Sp} {j : Nat} (h : j < l.length) : setG g (l.take (j + 1)) = updS (setG g (l.take j)) l[j] := by
  rw [List.take_succ_eq_append_getElem h]
  unfold setG
  rw [List.foldl_append]
  rfl
theorem updS_in {g : Int → Int} {s : Sp} {r : Int} (h : okS s = true) (hr : inS s r = true) : updS g s r = s.2.2 := by unfold updS; rw [if_pos h]; simp [hr]
theorem updS_out {g : Int → Int} {s : Sp} {r : Int} (hr : inS s r = false) : updS g s r = g r := by unfold updS; split <;> simp [hr]
theorem updS_no {g : Int → Int} {s : Sp} (h : okS s = false) : updS g s = g := by unfold updS; rw [h]; rfl

theorem setE_ok {s : Sp} (h : okS s = true) : setE s = 0 := by unfold setE; rw [if_pos h]
theorem upd_zero (f t v : Int) : updS (updS (fun _ => 0) (f, t, v)) (f, t, 0) = fun _ => 0 := by
  unfold updS
  have e : okS (f, t, 0) = okS (f, t, v) := rfl
  rw [e]
  cases okS (f, t, v) with
  | true =>
    funext r
    simp only [if_true]
    have e2 : inS (f, t, 0) r = inS (f, t, v) r := rfl
    rw [e2]
    cases inS (f, t, v) r <;> rfl
  | false => rfl
theorem scan_zero (n : Nat) : scan (fun _ => 0) 0 n = [] := by
  have h := @scan_none (fun _ => 0) 0 0 n (Nat.zero_le _) (fun _ _ _ => rfl)
  rw [h]
  rfl
theorem all_zero : allG (fun _ => 0) 0 = [] := by unfold allG; exact scan_zero _
theorem blk_zero : blkN (fun _ => 0) 0 = 0 := by
  unfold blkN
  rw [List.countP_eq_zero]
  intro b _
  simp [nzB]
set_option maxHeartbeats 16000000 in
set_option maxRecDepth 100000 in
theorem last_walk (T : Tbl) (hA : ∀ W, Calls Try.prog 11 #[] W fun e w' => e = .returned (.bool true) ∧ Below W.heap.size W w') (A : Option Addr) (c : Nat) (l : List Sp) (f t v r : Int) (w : World) (hl : Sps w A l) (hll : l.length ≤ 140737488355328) :
    Calls Try.prog 6 #[.slice A l.length c, .agg #[.int .i32 f, .int .i32 t, .int .i64 v], .int .i32 r] w fun e w' => e = .returned (.bool true) ∧ Below w.heap.size w w' := by
  have HA := Lib.hid hA
  obtain ⟨w1, hw1⟩ : ∃ x, x = w.alloc (.cells #[.int .i32 f, .int .i32 t, .int .i64 v] 33) := ⟨_, rfl⟩
  have hbx : Bk w1 w.heap.size [.int .i32 f, .int .i32 t, .int .i64 v] 33 := by rw [hw1]; exact ⟨heap_alloc_new w _⟩
  have hd1 : Below w.heap.size w w1 := by rw [hw1]; exact (Below.refl _ w).alloc (Nat.le_refl _) _
  have HL := Lib.hid (hl.below hd1)
  have HX := Lib.hid hbx
  have D0 := Lib.hid hd1
  have HN := Lib.hid (T.new w1 0)
  clear hA hl hbx hd1
  refine calls_marks Try.func6 rfl ?_
  simp only [Try.ntmps6, List.size_toArray, List.length_cons, List.length_nil, Nat.reduceAdd, Nat.reduceSub, Array.replicate_succ, Array.replicate_zero, List.push_toArray, List.append_toArray, List.nil_append, List.cons_append]
  go_upto_region 1 with fail
  rw [← hw1]
  clear hw1
  go_wp2_with fail
  refine HN.out.mono ?_
  rintro e w2 ⟨X, rfl, ht, hb⟩
  have S2 := Lib.hid (show Solo T w1 w2 X 0 (fun _ => 0) from ⟨hb, ht⟩)
  have hW := wide_any w2 A c l (HL.out.below hb) hll
  clear ht hb HN
  cases hw : wideB l with
  | true =>
    rw [hw] at hW
    have HW := Lib.hid hW
    clear hW
    go_wp2_with fail
    refine HW.out.mono ?_
    rintro e w3 ⟨rfl, m, rfl⟩
    go_wp2_with fail
    refine (HA.out _).mono ?_
    rintro e w9 ⟨rfl, hb9⟩
    have B9 := Lib.hid (D0.out.trans (((bel_drewN S2.out.bel m).trans (hb9.mono (bel_drewN S2.out.bel m).size)).mono D0.out.size))
    clear hb9
    go_wp2_with fail
    exact leave_nil (results_tmp rfl _ _ _) ⟨rfl, B9.out⟩
  | false =>
    rw [hw] at hW
    have HW := Lib.hid hW
    have h40 := wide_no hw
    clear hW hll hw
    have cx0 := (HX.out.below (S2.out.bel)).c (i := 0) rfl
    have cx1 := (HX.out.below (S2.out.bel)).c (i := 1) rfl
    have cx2 := (HX.out.below (S2.out.bel)).c (i := 2) rfl
    go_wp2_with fail
    refine HW.out.mono ?_
    rintro e w3 ⟨rfl, m, rfl⟩
    have S3 := Lib.hid (S2.out.on (bel_drewN (Below.refl _ w2) m))
    have HX3 := Lib.hid (HX.out.below S3.out.bel)
    clear cx0 cx1 cx2 S2 HW
    generalize w2.drewN m = w3 at *
    have cx0 := HX3.out.c (i := 0) rfl
    have cx1 := HX3.out.c (i := 1) rfl
    have cx2 := HX3.out.c (i := 2) rfl
    obtain ⟨w4, hw4⟩ : ∃ x, x = w3.alloc (.cells #[.int .i32 f, .int .i32 t, .int .i64 v] 33) := ⟨_, rfl⟩
    have hb4 : Bk w4 w3.heap.size [.int .i32 f, .int .i32 t, .int .i64 v] 33 := by rw [hw4]; exact ⟨heap_alloc_new w3 _⟩
    have hd4 : Below w3.heap.size w3 w4 := by rw [hw4]; exact (Below.refl _ w3).alloc (Nat.le_refl _) _
    have hW4 := wide_any w4 (some ⟨w3.heap.size, 0, none⟩) 1 [(f, t, v)] (fun i hi => by
      obtain rfl : i = 0 := by simpa using hi
      exact ⟨w3.heap.size, 0, rfl, hb4.lt, hb4.c (i := 0) rfl, hb4.c (i := 1) rfl, hb4.c (i := 2) rfl⟩) (by simp)
    rw [hw4] at hW4
    have S4 := Lib.hid (S3.out.on hd4)
    have HW4 := Lib.hid hW4
    go_wp2_with fail
    rw [← hw4] at HW4 ⊢
    clear hW4 hb4 hd4 hw4
    refine HW4.out.mono ?_
    rintro e w5 ⟨rfl, m2, rfl⟩
    have S5 := Lib.hid (S4.out.on (bel_drewN (Below.refl _ w4) m2))
    clear HW4 S4 S3 HX3 cx0 cx1 cx2
    generalize w4.drewN m2 = w5 at *
    cases hw5 : wideB [(f, t, v)] with
    | true =>
      go_wp2_with fail
      refine (HA.out _).mono ?_
      rintro e w9 ⟨rfl, hb9⟩
      have B9 := Lib.hid (D0.out.trans ((S5.out.bel.trans (hb9.mono S5.out.bel.size)).mono D0.out.size))
      clear hb9
      go_wp2_with fail
      exact leave_nil (results_tmp rfl _ _ _) ⟨rfl, B9.out⟩
    | false =>
      clear hw5
      go_wp2_with fail
      go_loopw [8] (fun i wr => ∃ k : Nat, i = .int .i64 k ∧ k ≤ l.length ∧ Hid (Solo T w1 wr X 0 (setG (fun _ => 0) (l.take k)))) (fun i _ => l.length - (intOf i).toNat)
      case atStart => exact ⟨0, rfl, by omega, S5.out⟩
      case round =>
        obtain ⟨k, rfl, hk, HP⟩ := hrel
        by_cases hlt : k < l.length
        · obtain ⟨b, off, rfl, hbl, p0, p1, p2⟩ := (HL.out.below HP.out.bel) k hlt
          have hst := setG_take (g := fun _ => 0) hlt
          have hcel : ∀ W : World, (∀ j, j < w1.heap.size → W.heap[j]? = w1.heap[j]?) → (W.cell? ⟨b, off + k * 3, none⟩ = some (.int .i32 (l[k]).1) ∧ W.cell? ⟨b, off + k * 3 + 1, none⟩ = some (.int .i32 (l[k]).2.1) ∧ W.cell? ⟨b, off + k * 3 + 2, none⟩ = some (.int .i64 (l[k]).2.2)) := fun W hW => by
            obtain ⟨b', off', e', hb', q0, q1, q2⟩ := HL.out k hlt
            simp only [Option.some.injEq, Addr.mk.injEq] at e'
            obtain ⟨rfl, rfl, _⟩ := e'
            have hk9 : ∀ j, W.cell? ⟨b, off + k * 3 + j, none⟩ = w1.cell? ⟨b, off + k * 3 + j, none⟩ := fun j => by unfold World.cell?; simp only [hW b hb']
            exact ⟨(hk9 0).trans q0, (hk9 1).trans q1, (hk9 2).trans q2⟩
          generalize l[k] = s at *
          obtain ⟨f1, t1, u1⟩ := s
          simp only at p0 p1 p2 hcel
          have HCL := Lib.hid hcel
          have HST := Lib.hid hst
          have g2 : (k : Int) < l.length := by omega
          clear hst hcel
          have HPd := Lib.hid (HP.out.on (Below.refl _ wr).drew)
          go_upto_region 7 with fail
          go_region_held3 (fun W => (W.cell? ⟨b, off + k * 3, none⟩ = some (.int .i32 f1) ∧ W.cell? ⟨b, off + k * 3 + 1, none⟩ = some (.int .i32 t1) ∧ W.cell? ⟨b, off + k * 3 + 2, none⟩ = some (.int .i64 u1)))
            (first
              | go_keep
              | exact HCL.out _ C5.out)
            (first
              | (go_at_call 12; refine (T.set f1 t1 u1 HPd.out.tb).mono ?_; rintro e w5 ⟨rfl, ht5, m5⟩; have Q5 := Lib.hid (HPd.out.set ht5 m5); have C5 := Lib.hid (show ∀ j, j < w1.heap.size → w5.heap[j]? = w1.heap[j]? from fun j hj => Q5.out.bel.block j hj); clear ht5 m5))
          all_goals
            go_wp2_with fail
            go_roundw
            case measure => simp [intOf] <;> omega
            case rel =>
              refine ⟨k + 1, by go_num, by omega, ?_⟩
              rw [HST.out]
              exact Q5.out
        · obtain rfl : k = l.length := by omega
          have g2 : ¬ (l.length : Int) < l.length := by omega
          have hP := HP.out
          rw [List.take_length] at hP
          generalize setG (fun _ => 0) l = g at hP
          have S6 := Lib.hid hP
          clear hP HP
          go_wp2_with fail
          refine ((T.trk S6.out.tb).get wr (Below.refl _ wr) r).mono ?_
          rintro e w7 ⟨rfl, hb7⟩
          have S7 := Lib.hid (S6.out.on hb7)
          have HX7 := Lib.hid (HX.out.below S7.out.bel)
          have HSt := Lib.hid (T.set f t v S7.out.tb)
          obtain ⟨was, hwas⟩ : ∃ x, x = (if 0 ≤ r ∧ r ≤ 1114111 then g r else 0) := ⟨_, rfl⟩
          rw [← hwas]
          have HWAS := Lib.hid hwas
          clear hb7 hwas S6
          have cx0 := HX7.out.c (i := 0) rfl
          have cx1 := HX7.out.c (i := 1) rfl
          have cx2 := HX7.out.c (i := 2) rfl
          go_wp2_with fail
          refine HSt.out.mono ?_
          rintro e w8 ⟨rfl, ht8, m8⟩
          have S8 := Lib.hid (S7.out.set ht8 m8)
          have HX8 := Lib.hid (HX.out.below S8.out.bel)
          clear ht8 m8 HSt S7 HX7 cx0 cx1 cx2
          have cx0 := HX8.out.c (i := 0) rfl
          have cx1 := HX8.out.c (i := 1) rfl
          have cx2 := HX8.out.c (i := 2) rfl
          have hGet := (T.trk S8.out.tb).get
          cases hok : okS (f, t, v) with
          | false =>
            have hE : setE (f, t, v) = 11 := by unfold setE; rw [hok]; rfl
            rw [hE]
            rw [updS_no hok] at hGet
            have hGr := fun W hb => hGet W hb r
            rw [← HWAS.out] at hGr
            have HGR := Lib.hid hGr
            have hbad : f < 0 ∨ 1114111 < t ∨ t < f := by
              simp only [okS, Bool.not_eq_false', Bool.or_eq_true, decide_eq_true_eq] at hok
              exact hok
            clear hGet hGr hok hE
            by_cases b1 : f < 0
            · go_wp2_with fail
              refine (HGR.out _ (Below.refl _ w8)).mono ?_
              rintro e w9 ⟨rfl, hb9⟩
              have D9 := Lib.hid (S8.out.bel.trans (hb9.mono S8.out.bel.size))
              clear hb9
              go_wp2_with fail
              refine (HA.out _).mono ?_
              rintro e w10 ⟨rfl, hb10⟩
              have B10 := Lib.hid (D0.out.trans ((D9.out.trans (hb10.mono D9.out.size)).mono D0.out.size))
              clear hb10
              go_wp2_with fail
              exact leave_nil (results_tmp rfl _ _ _) ⟨rfl, B10.out⟩
            · by_cases b2 : 1114111 < t
              · go_wp2_with fail
                refine (HGR.out _ (Below.refl _ w8)).mono ?_
                rintro e w9 ⟨rfl, hb9⟩
                have D9 := Lib.hid (S8.out.bel.trans (hb9.mono S8.out.bel.size))
                clear hb9
                go_wp2_with fail
                refine (HA.out _).mono ?_
                rintro e w10 ⟨rfl, hb10⟩
                have B10 := Lib.hid (D0.out.trans ((D9.out.trans (hb10.mono D9.out.size)).mono D0.out.size))
                clear hb10
                go_wp2_with fail
                exact leave_nil (results_tmp rfl _ _ _) ⟨rfl, B10.out⟩
              · have b3 : t < f := by omega
                go_wp2_with fail
                refine (HGR.out _ (Below.refl _ w8)).mono ?_
                rintro e w9 ⟨rfl, hb9⟩
                have D9 := Lib.hid (S8.out.bel.trans (hb9.mono S8.out.bel.size))
                clear hb9
                go_wp2_with fail
                refine (HA.out _).mono ?_
                rintro e w10 ⟨rfl, hb10⟩
                have B10 := Lib.hid (D0.out.trans ((D9.out.trans (hb10.mono D9.out.size)).mono D0.out.size))
                clear hb10
                go_wp2_with fail
                exact leave_nil (results_tmp rfl _ _ _) ⟨rfl, B10.out⟩
          | true =>
            have hE : setE (f, t, v) = 0 := by unfold setE; rw [hok]; rfl
            rw [hE]
            have hok2 := hok
            simp only [okS, Bool.not_eq_true', Bool.or_eq_false_iff, decide_eq_false_iff_not] at hok2
            obtain ⟨n1, n2, n3⟩ := hok2
            have hGf := fun W hb => hGet W hb f
            have hGt := fun W hb => hGet W hb t
            have hGr := fun W hb => hGet W hb r
            rw [if_pos ⟨by omega, by omega⟩, updS_in hok (by simp [inS]; omega)] at hGf hGt
            have HGF := Lib.hid hGf
            have HGT := Lib.hid hGt
            have HNU := Lib.hid T.new
            have HOK := Lib.hid hok
            clear hGf hGt hGet hE hok
            by_cases r1 : f ≤ r
            · by_cases r2 : r ≤ t
              · rw [if_pos ⟨by omega, by omega⟩, updS_in HOK.out (by simp [inS, r1, r2])] at hGr
                have HGR := Lib.hid hGr
                clear hGr
                have y0 := Bel.cell cx0 HX8.out.lt
                have y1 := Bel.cell cx1 HX8.out.lt
                have y2 := Bel.cell cx2 HX8.out.lt
                have eb : ∀ z : Int, (z != z) = false := fun z => by simp
                go_upto_region 13 with fail
                clear cx0 cx1 cx2
                refine wp_region_bel (by kernel_rfl) (by kernel_rfl) ?_
                repeat (go_big_quiet_step (first
                  | (go_at_call 20; first | (with_reducible exact bel_call (HGF.out _ (Bel.b _))) | (with_reducible exact bel_call (HGT.out _ (Bel.b _))) | (with_reducible exact bel_call (HGR.out _ (Bel.b _))))))
                refine wpQuiet_nil ?_
                intro y
                have D9 := Lib.hid (S8.out.bel.trans (y.b.mono S8.out.bel.size))
                have HX9 := Lib.hid (HX8.out.below y.b)
                clear y0 y1 y2
                generalize y.w = wy at *
                go_wp2_with fail
                refine (HNU.out wy 0).mono ?_
                rintro e wn ⟨Z, rfl, ht, hb⟩
                have U1 := Lib.hid (show Solo T wy wn Z 0 (fun _ => 0) from ⟨hb, ht⟩)
                have HXa := Lib.hid (HX9.out.below hb)
                have hset1 := T.set f t v ht
                rw [setE_ok HOK.out] at hset1
                have HS1 := Lib.hid hset1
                clear ht hb hset1
                have cx0 := HXa.out.c (i := 0) rfl
                have cx1 := HXa.out.c (i := 1) rfl
                have cx2 := HXa.out.c (i := 2) rfl
                go_wp2_with fail
                refine HS1.out.mono ?_
                rintro e wp ⟨rfl, ht, m1⟩
                have U2 := Lib.hid (U1.out.set ht m1)
                have HXb := Lib.hid (HX9.out.below U2.out.bel)
                have hset2 := T.set f t 0 U2.out.tb
                rw [setE_ok (show okS (f, t, 0) = true from HOK.out), upd_zero] at hset2
                have HS2 := Lib.hid hset2
                clear ht m1 hset2 cx0 cx1 cx2 HS1 HXa
                have cx0 := HXb.out.c (i := 0) rfl
                have cx1 := HXb.out.c (i := 1) rfl
                go_wp2_with fail
                refine HS2.out.mono ?_
                rintro e wq ⟨rfl, ht, m1⟩
                have U3 := Lib.hid (U2.out.set ht m1)
                have KU := Lib.hid (T.trk U3.out.tb)
                have hAL := (T.trk U3.out.tb).all wq (Below.refl _ wq)
                rw [all_zero] at hAL
                have HAL := Lib.hid hAL
                clear ht m1 hAL cx0 cx1 HS2 HXb
                have hnf : ∀ (G : Nat) (cap : Array Value) (W : World), (binOp BinOp.eql 38 (.func (.func G) #[] cap) .nilFunc).run Try.prog W = .ok (.bool false) W := fun _ _ _ => by kernel_rfl
                go_wp2_with fail
                refine HAL.out.mono ?_
                rintro e ws ⟨G, lb, rfl, hen, hsq, hb⟩
                have EN := Lib.hid hen
                have SQ := Lib.hid hsq
                have BS := Lib.hid hb
                clear hen hsq hb
                go_wp2_with fail
                obtain ⟨w0, hw0⟩ : ∃ x, x = ws.alloc (.cells #[.int .i64 0] 3) := ⟨_, rfl⟩
                have kn : Bk w0 ws.heap.size [.int .i64 0] 3 := by rw [hw0]; exact ⟨heap_alloc_new ws _⟩
                have dn : Below ws.heap.size ws w0 := by rw [hw0]; exact (Below.refl _ ws).alloc (Nat.le_refl _) _
                have zn : w0.heap.size = ws.heap.size + 1 := by rw [hw0]; simp
                rw [← hw0]
                clear hw0
                have KN := Lib.hid kn
                have DN := Lib.hid dn
                clear kn dn
                have HBL := Lib.hid (fun W hb => KU.out.blocks W hb)
                have hGz := fun W hb => KU.out.get W hb r
                simp only [ite_self] at hGz
                have HGZ := Lib.hid hGz
                clear hGz
                refine wp_of_wide (wpIn_rangeFunc_ownF (α := Sp) rfl (by omega) (gf := G) (lb := lb) rfl trivial EN.out SQ.out belowK_t (belowK_b (by omega)) DN.out (fun _ => rfl)
                  (fun pre W => Bk W ws.heap.size [.int .i64 0] 3 ∧ Below w0.heap.size w0 W)
                  (fun _ _ _ => False)
                  (fun s A B row hs hg hr => ⟨bk_row hs.1 hg hr, hs.2.grown hg hs.2.size (fun k e => (hr k e).1)⟩)
                  (fun _ _ _ _ _ hs _ _ => hs)
                  ⟨KN.out, Below.refl _ _⟩
                  _ (fun l x W K hK => wpIn_skip hK) (fun l pre x W _ h => absurd h (Nat.not_lt_zero _)) ?done ?stop)
                case stop =>
                  rintro D c pre W _ _ h _
                  exact h.elim
                case done =>
                  rintro D ys W hD rfl ⟨hkn, hB⟩ hK
                  have HK := Lib.hid hK
                  have cn := hkn.c (i := 0) rfl
                  have hDl : D < W.heap.size := (Array.getElem?_eq_some_iff.1 HK.out).1
                  have DQ := Lib.hid (show Below wq.heap.size wq W from BS.out.trans ((DN.out.trans (hB.mono DN.out.size)).mono BS.out.size))
                  have DT := Lib.hid (show Below w.heap.size w W from D0.out.trans ((D9.out.trans (((show Below wy.heap.size wy W from U3.out.bel.trans (DQ.out.mono U3.out.bel.size))).mono D9.out.size)).mono D0.out.size))
                  have hbz := blk_zero
                  clear hK hkn hB
                  go_wp2_with fail
                  refine (HBL.out _ DQ.out).mono ?_
                  rintro e wa ⟨rfl, hb1⟩
                  have DQ2 := Lib.hid (DQ.out.trans (hb1.mono DQ.out.size))
                  have DT2 := Lib.hid (DT.out.trans (hb1.mono DT.out.size))
                  have HK2 := Lib.hid ((hb1.block D hDl).trans HK.out)
                  have hz1 := hb1.size
                  rw [hbz]
                  clear hb1
                  go_wp2_with fail
                  refine (HGZ.out _ DQ2.out).mono ?_
                  rintro e wb ⟨rfl, hb2⟩
                  have DT3 := Lib.hid (DT2.out.trans (hb2.mono DT2.out.size))
                  have HK3 := Lib.hid ((hb2.block D (by omega)).trans HK2.out)
                  have hz2 := hb2.size
                  clear hb2
                  go_wp2_with fail
                  refine (HA.out _).mono ?_
                  rintro e wc ⟨rfl, hb3⟩
                  have DT4 := Lib.hid (DT3.out.trans (hb3.mono DT3.out.size))
                  have HK4 := Lib.hid ((hb3.block D (by omega)).trans HK3.out)
                  clear hb3
                  go_wp2_with fail
                  refine leave_mark HK4.out (leave_nil (results_tmp rfl _ _ _) ⟨rfl, ?_⟩)
                  exact below_put DT4.out (by have := D0.out.size; have := D9.out.size; have := U3.out.bel.size; have := BS.out.size; have := DN.out.size; omega)
              · have d9 : decide (r ≤ t) = false := by simpa using r2
                rw [updS_out (by simp [inS, r2]), ← HWAS.out] at hGr
                have HGR := Lib.hid hGr
                clear hGr
                have y0 := Bel.cell cx0 HX8.out.lt
                have y1 := Bel.cell cx1 HX8.out.lt
                have y2 := Bel.cell cx2 HX8.out.lt
                have eb : ∀ z : Int, (z != z) = false := fun z => by simp
                go_upto_region 13 with fail
                clear cx0 cx1 cx2
                refine wp_region_bel (by kernel_rfl) (by kernel_rfl) ?_
                repeat (go_big_quiet_step (first
                  | (go_at_call 20; first | (with_reducible exact bel_call (HGF.out _ (Bel.b _))) | (with_reducible exact bel_call (HGT.out _ (Bel.b _))) | (with_reducible exact bel_call (HGR.out _ (Bel.b _))))))
                refine wpQuiet_nil ?_
                intro y
                have D9 := Lib.hid (S8.out.bel.trans (y.b.mono S8.out.bel.size))
                have HX9 := Lib.hid (HX8.out.below y.b)
                clear y0 y1 y2
                generalize y.w = wy at *
                go_wp2_with fail
                refine (HNU.out wy 0).mono ?_
                rintro e wn ⟨Z, rfl, ht, hb⟩
                have U1 := Lib.hid (show Solo T wy wn Z 0 (fun _ => 0) from ⟨hb, ht⟩)
                have HXa := Lib.hid (HX9.out.below hb)
                have hset1 := T.set f t v ht
                rw [setE_ok HOK.out] at hset1
                have HS1 := Lib.hid hset1
                clear ht hb hset1
                have cx0 := HXa.out.c (i := 0) rfl
                have cx1 := HXa.out.c (i := 1) rfl
                have cx2 := HXa.out.c (i := 2) rfl
                go_wp2_with fail
                refine HS1.out.mono ?_
                rintro e wp ⟨rfl, ht, m1⟩
                have U2 := Lib.hid (U1.out.set ht m1)
                have HXb := Lib.hid (HX9.out.below U2.out.bel)
                have hset2 := T.set f t 0 U2.out.tb
                rw [setE_ok (show okS (f, t, 0) = true from HOK.out), upd_zero] at hset2
                have HS2 := Lib.hid hset2
                clear ht m1 hset2 cx0 cx1 cx2 HS1 HXa
                have cx0 := HXb.out.c (i := 0) rfl
                have cx1 := HXb.out.c (i := 1) rfl
                go_wp2_with fail
                refine HS2.out.mono ?_
                rintro e wq ⟨rfl, ht, m1⟩
                have U3 := Lib.hid (U2.out.set ht m1)
                have KU := Lib.hid (T.trk U3.out.tb)
                have hAL := (T.trk U3.out.tb).all wq (Below.refl _ wq)
                rw [all_zero] at hAL
                have HAL := Lib.hid hAL
                clear ht m1 hAL cx0 cx1 HS2 HXb
                have hnf : ∀ (G : Nat) (cap : Array Value) (W : World), (binOp BinOp.eql 38 (.func (.func G) #[] cap) .nilFunc).run Try.prog W = .ok (.bool false) W := fun _ _ _ => by kernel_rfl
                go_wp2_with fail
                refine HAL.out.mono ?_
                rintro e ws ⟨G, lb, rfl, hen, hsq, hb⟩
                have EN := Lib.hid hen
                have SQ := Lib.hid hsq
                have BS := Lib.hid hb
                clear hen hsq hb
                go_wp2_with fail
                obtain ⟨w0, hw0⟩ : ∃ x, x = ws.alloc (.cells #[.int .i64 0] 3) := ⟨_, rfl⟩
                have kn : Bk w0 ws.heap.size [.int .i64 0] 3 := by rw [hw0]; exact ⟨heap_alloc_new ws _⟩
                have dn : Below ws.heap.size ws w0 := by rw [hw0]; exact (Below.refl _ ws).alloc (Nat.le_refl _) _
                have zn : w0.heap.size = ws.heap.size + 1 := by rw [hw0]; simp
                rw [← hw0]
                clear hw0
                have KN := Lib.hid kn
                have DN := Lib.hid dn
                clear kn dn
                have HBL := Lib.hid (fun W hb => KU.out.blocks W hb)
                have hGz := fun W hb => KU.out.get W hb r
                simp only [ite_self] at hGz
                have HGZ := Lib.hid hGz
                clear hGz
                refine wp_of_wide (wpIn_rangeFunc_ownF (α := Sp) rfl (by omega) (gf := G) (lb := lb) rfl trivial EN.out SQ.out belowK_t (belowK_b (by omega)) DN.out (fun _ => rfl)
                  (fun pre W => Bk W ws.heap.size [.int .i64 0] 3 ∧ Below w0.heap.size w0 W)
                  (fun _ _ _ => False)
                  (fun s A B row hs hg hr => ⟨bk_row hs.1 hg hr, hs.2.grown hg hs.2.size (fun k e => (hr k e).1)⟩)
                  (fun _ _ _ _ _ hs _ _ => hs)
                  ⟨KN.out, Below.refl _ _⟩
                  _ (fun l x W K hK => wpIn_skip hK) (fun l pre x W _ h => absurd h (Nat.not_lt_zero _)) ?done ?stop)
                case stop =>
                  rintro D c pre W _ _ h _
                  exact h.elim
                case done =>
                  rintro D ys W hD rfl ⟨hkn, hB⟩ hK
                  have HK := Lib.hid hK
                  have cn := hkn.c (i := 0) rfl
                  have hDl : D < W.heap.size := (Array.getElem?_eq_some_iff.1 HK.out).1
                  have DQ := Lib.hid (show Below wq.heap.size wq W from BS.out.trans ((DN.out.trans (hB.mono DN.out.size)).mono BS.out.size))
                  have DT := Lib.hid (show Below w.heap.size w W from D0.out.trans ((D9.out.trans (((show Below wy.heap.size wy W from U3.out.bel.trans (DQ.out.mono U3.out.bel.size))).mono D9.out.size)).mono D0.out.size))
                  have hbz := blk_zero
                  clear hK hkn hB
                  go_wp2_with fail
                  refine (HBL.out _ DQ.out).mono ?_
                  rintro e wa ⟨rfl, hb1⟩
                  have DQ2 := Lib.hid (DQ.out.trans (hb1.mono DQ.out.size))
                  have DT2 := Lib.hid (DT.out.trans (hb1.mono DT.out.size))
                  have HK2 := Lib.hid ((hb1.block D hDl).trans HK.out)
                  have hz1 := hb1.size
                  rw [hbz]
                  clear hb1
                  go_wp2_with fail
                  refine (HGZ.out _ DQ2.out).mono ?_
                  rintro e wb ⟨rfl, hb2⟩
                  have DT3 := Lib.hid (DT2.out.trans (hb2.mono DT2.out.size))
                  have HK3 := Lib.hid ((hb2.block D (by omega)).trans HK2.out)
                  have hz2 := hb2.size
                  clear hb2
                  go_wp2_with fail
                  refine (HA.out _).mono ?_
                  rintro e wc ⟨rfl, hb3⟩
                  have DT4 := Lib.hid (DT3.out.trans (hb3.mono DT3.out.size))
                  have HK4 := Lib.hid ((hb3.block D (by omega)).trans HK3.out)
                  clear hb3
                  go_wp2_with fail
                  refine leave_mark HK4.out (leave_nil (results_tmp rfl _ _ _) ⟨rfl, ?_⟩)
                  exact below_put DT4.out (by have := D0.out.size; have := D9.out.size; have := U3.out.bel.size; have := BS.out.size; have := DN.out.size; omega)
            · have d9 : decide (f ≤ r) = false := by simpa using r1
              rw [updS_out (by simp [inS, r1]), ← HWAS.out] at hGr
              have HGR := Lib.hid hGr
              clear hGr
              have y0 := Bel.cell cx0 HX8.out.lt
              have y1 := Bel.cell cx1 HX8.out.lt
              have y2 := Bel.cell cx2 HX8.out.lt
              have eb : ∀ z : Int, (z != z) = false := fun z => by simp
              go_upto_region 13 with fail
              clear cx0 cx1 cx2
              refine wp_region_bel (by kernel_rfl) (by kernel_rfl) ?_
              repeat (go_big_quiet_step (first
                | (go_at_call 20; first | (with_reducible exact bel_call (HGF.out _ (Bel.b _))) | (with_reducible exact bel_call (HGT.out _ (Bel.b _))) | (with_reducible exact bel_call (HGR.out _ (Bel.b _))))))
              refine wpQuiet_nil ?_
              intro y
              have D9 := Lib.hid (S8.out.bel.trans (y.b.mono S8.out.bel.size))
              have HX9 := Lib.hid (HX8.out.below y.b)
              clear y0 y1 y2
              generalize y.w = wy at *
              go_wp2_with fail
              refine (HNU.out wy 0).mono ?_
              rintro e wn ⟨Z, rfl, ht, hb⟩
              have U1 := Lib.hid (show Solo T wy wn Z 0 (fun _ => 0) from ⟨hb, ht⟩)
              have HXa := Lib.hid (HX9.out.below hb)
              have hset1 := T.set f t v ht
              rw [setE_ok HOK.out] at hset1
              have HS1 := Lib.hid hset1
              clear ht hb hset1
              have cx0 := HXa.out.c (i := 0) rfl
              have cx1 := HXa.out.c (i := 1) rfl
              have cx2 := HXa.out.c (i := 2) rfl
              go_wp2_with fail
              refine HS1.out.mono ?_
              rintro e wp ⟨rfl, ht, m1⟩
              have U2 := Lib.hid (U1.out.set ht m1)
              have HXb := Lib.hid (HX9.out.below U2.out.bel)
              have hset2 := T.set f t 0 U2.out.tb
              rw [setE_ok (show okS (f, t, 0) = true from HOK.out), upd_zero] at hset2
              have HS2 := Lib.hid hset2
              clear ht m1 hset2 cx0 cx1 cx2 HS1 HXa
              have cx0 := HXb.out.c (i := 0) rfl
              have cx1 := HXb.out.c (i := 1) rfl
              go_wp2_with fail
              refine HS2.out.mono ?_
              rintro e wq ⟨rfl, ht, m1⟩
              have U3 := Lib.hid (U2.out.set ht m1)
              have KU := Lib.hid (T.trk U3.out.tb)
              have hAL := (T.trk U3.out.tb).all wq (Below.refl _ wq)
              rw [all_zero] at hAL
              have HAL := Lib.hid hAL
              clear ht m1 hAL cx0 cx1 HS2 HXb
              have hnf : ∀ (G : Nat) (cap : Array Value) (W : World), (binOp BinOp.eql 38 (.func (.func G) #[] cap) .nilFunc).run Try.prog W = .ok (.bool false) W := fun _ _ _ => by kernel_rfl
              go_wp2_with fail
              refine HAL.out.mono ?_
              rintro e ws ⟨G, lb, rfl, hen, hsq, hb⟩
              have EN := Lib.hid hen
              have SQ := Lib.hid hsq
              have BS := Lib.hid hb
              clear hen hsq hb
              go_wp2_with fail
              obtain ⟨w0, hw0⟩ : ∃ x, x = ws.alloc (.cells #[.int .i64 0] 3) := ⟨_, rfl⟩
              have kn : Bk w0 ws.heap.size [.int .i64 0] 3 := by rw [hw0]; exact ⟨heap_alloc_new ws _⟩
              have dn : Below ws.heap.size ws w0 := by rw [hw0]; exact (Below.refl _ ws).alloc (Nat.le_refl _) _
              have zn : w0.heap.size = ws.heap.size + 1 := by rw [hw0]; simp
              rw [← hw0]
              clear hw0
              have KN := Lib.hid kn
              have DN := Lib.hid dn
              clear kn dn
              have HBL := Lib.hid (fun W hb => KU.out.blocks W hb)
              have hGz := fun W hb => KU.out.get W hb r
              simp only [ite_self] at hGz
              have HGZ := Lib.hid hGz
              clear hGz
              refine wp_of_wide (wpIn_rangeFunc_ownF (α := Sp) rfl (by omega) (gf := G) (lb := lb) rfl trivial EN.out SQ.out belowK_t (belowK_b (by omega)) DN.out (fun _ => rfl)
                (fun pre W => Bk W ws.heap.size [.int .i64 0] 3 ∧ Below w0.heap.size w0 W)
                (fun _ _ _ => False)
                (fun s A B row hs hg hr => ⟨bk_row hs.1 hg hr, hs.2.grown hg hs.2.size (fun k e => (hr k e).1)⟩)
                (fun _ _ _ _ _ hs _ _ => hs)
                ⟨KN.out, Below.refl _ _⟩
                _ (fun l x W K hK => wpIn_skip hK) (fun l pre x W _ h => absurd h (Nat.not_lt_zero _)) ?done ?stop)
              case stop =>
                rintro D c pre W _ _ h _
                exact h.elim
              case done =>
                rintro D ys W hD rfl ⟨hkn, hB⟩ hK
                have HK := Lib.hid hK
                have cn := hkn.c (i := 0) rfl
                have hDl : D < W.heap.size := (Array.getElem?_eq_some_iff.1 HK.out).1
                have DQ := Lib.hid (show Below wq.heap.size wq W from BS.out.trans ((DN.out.trans (hB.mono DN.out.size)).mono BS.out.size))
                have DT := Lib.hid (show Below w.heap.size w W from D0.out.trans ((D9.out.trans (((show Below wy.heap.size wy W from U3.out.bel.trans (DQ.out.mono U3.out.bel.size))).mono D9.out.size)).mono D0.out.size))
                have hbz := blk_zero
                clear hK hkn hB
                go_wp2_with fail
                refine (HBL.out _ DQ.out).mono ?_
                rintro e wa ⟨rfl, hb1⟩
                have DQ2 := Lib.hid (DQ.out.trans (hb1.mono DQ.out.size))
                have DT2 := Lib.hid (DT.out.trans (hb1.mono DT.out.size))
                have HK2 := Lib.hid ((hb1.block D hDl).trans HK.out)
                have hz1 := hb1.size
                rw [hbz]
                clear hb1
                go_wp2_with fail
                refine (HGZ.out _ DQ2.out).mono ?_
                rintro e wb ⟨rfl, hb2⟩
                have DT3 := Lib.hid (DT2.out.trans (hb2.mono DT2.out.size))
                have HK3 := Lib.hid ((hb2.block D (by omega)).trans HK2.out)
                have hz2 := hb2.size
                clear hb2
                go_wp2_with fail
                refine (HA.out _).mono ?_
                rintro e wc ⟨rfl, hb3⟩
                have DT4 := Lib.hid (DT3.out.trans (hb3.mono DT3.out.size))
                have HK4 := Lib.hid ((hb3.block D (by omega)).trans HK3.out)
                clear hb3
                go_wp2_with fail
                refine leave_mark HK4.out (leave_nil (results_tmp rfl _ _ _) ⟨rfl, ?_⟩)
                exact below_put DT4.out (by have := D0.out.size; have := D9.out.size; have := U3.out.bel.size; have := BS.out.size; have := DN.out.size; omega)

end Go.Proofs.Ytfjckdjnnbpcnaa.Tr

import Derived.Test.YtfjckdjnnbpcnaaXG
namespace Go.Proofs.Ytfjckdjnnbpcnaa.Tr
open Go.RowKit Go.Shelf

attribute [local go_sem] Oper.semAt_some
attribute [local go_sem] encS

set_option maxHeartbeats 16000000 in
set_option maxRecDepth 100000 in
theorem again_walk (T : Tbl) (hA : ∀ W, Calls Try.prog 11 #[] W fun e w' => e = .returned (.bool true) ∧ Below W.heap.size W w')
    (A : Option Addr) (c : Nat) (l : List Sp) (fr : Int) (w : World) (hl : Sps w A l) (hll : l.length ≤ 140737488355328) :
    Calls Try.prog 5 #[.slice A l.length c, .int .i64 fr] w fun e w' => e = .returned (.bool true) ∧ Below w.heap.size w w' := by
  have HA := Lib.hid hA
  obtain ⟨w1, hw1⟩ : ∃ x, x = w.alloc (.cells #[.bool false] 4) := ⟨_, rfl⟩
  have hbr : Bk w1 w.heap.size [.bool false] 4 := by rw [hw1]; exact ⟨heap_alloc_new w _⟩
  have hd1 : Below w.heap.size w w1 := by rw [hw1]; exact (Below.refl _ w).alloc (Nat.le_refl _) _
  have HL := Lib.hid (hl.below hd1)
  have HR := Lib.hid hbr
  have D0 := Lib.hid hd1
  have HN := Lib.hid (T.new w1 0)
  clear hA hl hd1 hbr
  refine calls_marks Try.func5 rfl ?_
  simp only [Try.ntmps5, List.size_toArray, List.length_cons, List.length_nil, Nat.reduceAdd, Nat.reduceSub, Array.replicate_succ, Array.replicate_zero, List.push_toArray, List.append_toArray, List.nil_append, List.cons_append]
  go_upto_region 1 with fail
  rw [← hw1]
  clear hw1
  go_wp2_with fail
  refine HN.out.mono ?_
  rintro e w2 ⟨X, rfl, ht, hb⟩
  have S2 := Lib.hid (show Solo T w1 w2 X 0 (fun _ => 0) from ⟨hb, ht⟩)
  clear ht hb HN
  go_wp2_with fail
  refine (T.new w2 0).mono ?_
  rintro e w3 ⟨Y, rfl, ht, hb⟩
  have DU3 := Lib.hid (S2.out.duo ht hb)
  have hW := wide_any w3 A c l (HL.out.below DU3.out.bel) hll
  clear ht hb S2
  cases hw : wideB l with
  | true =>
    rw [hw] at hW
    have HW := Lib.hid hW
    clear hW
    go_wp2_with fail
    refine HW.out.mono ?_
    rintro e w4 ⟨rfl, m3, rfl⟩
    have D3 := Lib.hid (bel_drewN DU3.out.bel m3)
    go_wp2_with fail
    refine (HA.out _).mono ?_
    rintro e w9 ⟨rfl, hb9⟩
    have B9 := Lib.hid (D3.out.trans (hb9.mono D3.out.size))
    have HR9 := Lib.hid (HR.out.below B9.out)
    have c9 := HR9.out.c (i := 0) rfl
    have f9 := HR9.out.fr 0
    clear hb9
    go_wp2_with fail
    have h9 := (HR9.out.set 0 (.bool true)).c (i := 0) rfl
    exact leave_nil (v := .bool true) (by simp [results, Try.results5, go_sem, h9]) ⟨rfl, (D0.out.trans (B9.out.mono D0.out.size)).setCell (p := ⟨w.heap.size, 0, none⟩) (by show w.heap.size ≤ w.heap.size; omega) _⟩
  | false =>
    rw [hw] at hW
    have HW := Lib.hid hW
    have h40 := wide_no hw
    clear hW hll hw
    go_wp2_with fail
    refine HW.out.mono ?_
    rintro e w4 ⟨rfl, m3, rfl⟩
    have DU4 := Lib.hid (DU3.out.on (bel_drewN (Below.refl _ w3) m3))
    clear DU3 HW
    generalize w3.drewN m3 = w4 at *
    go_wp2_with fail
    go_loopw [7] (fun i wr => ∃ k : Nat, i = .int .i64 k ∧ k ≤ l.length ∧ Hid (Duo T w1 w2.heap.size wr X Y 0 (setG (fun _ => 0) (l.take k)) (fun _ => 0))) (fun i _ => l.length - (intOf i).toNat)
    case atStart => exact ⟨0, rfl, by omega, DU4.out⟩
    case round =>
      obtain ⟨k, rfl, hk, HP⟩ := hrel
      by_cases hlt : k < l.length
      · obtain ⟨b, off, rfl, hbl, p0, p1, p2⟩ := (HL.out.below HP.out.bel) k hlt
        have hst := setG_take (g := fun _ => 0) hlt
        have hcel : ∀ W : World, (∀ j, j < w1.heap.size → W.heap[j]? = w1.heap[j]?) → (W.cell? ⟨b, off + k * 3, none⟩ = some (.int .i32 (l[k]).1) ∧ W.cell? ⟨b, off + k * 3 + 1, none⟩ = some (.int .i32 (l[k]).2.1) ∧ W.cell? ⟨b, off + k * 3 + 2, none⟩ = some (.int .i64 (l[k]).2.2)) := fun W hW => by
          obtain ⟨b', off', e', hb', q0, q1, q2⟩ := HL.out k hlt
          simp only [Option.some.injEq, Addr.mk.injEq] at e'
          obtain ⟨rfl, rfl, _⟩ := e'
          have hk9 : ∀ j, W.cell? ⟨b, off + k * 3 + j, none⟩ = w1.cell? ⟨b, off + k * 3 + j, none⟩ := fun j => by unfold World.cell?; simp only [hW b hb']
          exact ⟨(hk9 0).trans q0, (hk9 1).trans q1, (hk9 2).trans q2⟩
        generalize l[k] = s at *
        obtain ⟨f1, t1, u1⟩ := s
        simp only at p0 p1 p2 hcel
        have HCL := Lib.hid hcel
        have HST := Lib.hid hst
        have g2 : (k : Int) < l.length := by omega
        clear hst hcel
        have HPd := Lib.hid (HP.out.on (Below.refl _ wr).drew)
        go_upto_region 8 with fail
        go_region_held3 (fun W => (W.cell? ⟨b, off + k * 3, none⟩ = some (.int .i32 f1) ∧ W.cell? ⟨b, off + k * 3 + 1, none⟩ = some (.int .i32 t1) ∧ W.cell? ⟨b, off + k * 3 + 2, none⟩ = some (.int .i64 u1)))
          (first
            | go_keep
            | exact HCL.out _ C5.out)
          (first
            | (go_at_call 12; refine (T.set f1 t1 u1 HPd.out.tx).mono ?_; rintro e w5 ⟨rfl, ht5, m5⟩; have Q5 := Lib.hid (HPd.out.setX ht5 m5); have C5 := Lib.hid (show ∀ j, j < w1.heap.size → w5.heap[j]? = w1.heap[j]? from fun j hj => Q5.out.bel.block j hj); clear ht5 m5))
        all_goals
          go_wp2_with fail
          go_roundw
          case measure => simp [intOf] <;> omega
          case rel =>
            refine ⟨k + 1, by go_num, by omega, ?_⟩
            rw [HST.out]
            exact Q5.out
      · obtain rfl : k = l.length := by omega
        have g2 : ¬ (l.length : Int) < l.length := by omega
        have hP := HP.out
        rw [List.take_length] at hP
        generalize setG (fun _ => 0) l = g at hP
        have DU6 := Lib.hid hP
        clear hP HP DU4
        have hnf : ∀ (G : Nat) (cap : Array Value) (W : World), (binOp BinOp.eql 38 (.func (.func G) #[] cap) .nilFunc).run Try.prog W = .ok (.bool false) W := fun _ _ _ => by kernel_rfl
        go_wp2_with fail
        refine ((T.trk DU6.out.tx).all wr (Below.refl _ wr)).mono ?_
        rintro e w7 ⟨G, lb, rfl, hen, hsq, hb⟩
        have EN := Lib.hid hen
        have SQ := Lib.hid hsq
        have DU7 := Lib.hid (DU6.out.on hb)
        have B7 := Lib.hid hb
        have z7 := hb.size
        have hYl : ∀ k, T.fp w7 Y k → k < wr.heap.size := fun k hk => (T.fpb DU6.out.ty ((T.fpon DU6.out.ty (fun k hk _ => hb.block k hk) k).1 hk)).2
        have HYL := Lib.hid hYl
        obtain ⟨wo, hwo⟩ : ∃ x, x = wr := ⟨_, rfl⟩
        subst hwo
        clear hen hsq hb DU6 hYl
        obtain ⟨L1, hL1⟩ : ∃ L1, L1 = allG g 0 := ⟨_, rfl⟩
        have HL1 : Hid (L1.length ≤ 1114112) := Lib.hid (by rw [hL1]; exact scan_len _ _ _)
        have HCH : Hid (∀ i (hi : i + 1 < L1.length), nbr L1[i] L1[i + 1]) := Lib.hid (by rw [hL1]; exact scan_chain g 0 1114112)
        have HME : Hid (∀ s ∈ L1, 0 ≤ s.1 ∧ s.1 ≤ s.2.1 ∧ s.2.1 < 1114112 ∧ s.2.2 ≠ 0) := Lib.hid (by rw [hL1]; exact scan_last g 0 1114112)
        rw [← hL1] at SQ
        have HAG := Lib.hid hL1
        clear hL1
        obtain ⟨i0, hi0, hz0, hz1, hz2⟩ := info_parts sp_info
        have I0 := Lib.hid hi0
        have I1 := Lib.hid hz0
        have I2 := Lib.hid hz1
        have I3 := Lib.hid hz2
        clear hi0 hz0 hz1 hz2
        go_wp2_with fail
        obtain ⟨w8, hw8⟩ : ∃ x, x = w7.alloc (.cells #[.slice none 0 0] 22) := ⟨_, rfl⟩
        have hB0 : Boxed w8 w7.heap.size 22 (.slice none 0 0) := by rw [hw8]; exact Boxed.new w7 _ _
        have d8 : Below w7.heap.size w7 w8 := by rw [hw8]; exact (Below.refl _ w7).alloc (Nat.le_refl _) _
        have hz8 : w8.heap.size = w7.heap.size + 1 := by rw [hw8]; simp
        rw [← hw8]
        clear hw8
        have D8 := Lib.hid d8
        refine rangeH rfl EN.out SQ.out d8 (fun _ => rfl)
          (fun pre W => (∃ v, Boxed W w7.heap.size 22 v ∧ W.ownsRow w7.heap.size 33 3 v pre.length (spC pre) ∧ True) ∧ Below w7.heap.size w7 W)
          (fun _ pre _ => ¬ pre <+: L1)
          (OwnFrom.and (Own.from (holdsRow_own w7.heap.size w7.heap.size 22 33 3 (fun pre : List Sp => pre.length) (fun pre => spC pre) (fun _ _ => True)) _) (ownFrom_below (Nat.le_refl _) (by omega)))
          (fun _ _ _ _ _ hs _ _ => hs)
          ⟨⟨_, hB0, World.ownsRow_nil _ _ _ _, trivial⟩, d8⟩
          (fun tm Bs x => (((tm.setIfInBounds 65 (.agg #[.int .i32 x.1, .int .i32 x.2.1])).setIfInBounds 66 (.int .i64 x.2.2)).setIfInBounds 10 (.pointer (some ⟨Bs, 0, none⟩))).setIfInBounds 11 (.int .i64 x.2.2))
          ?assign ?body ?done ?stop
        case stop =>
          rintro D c2 pre W _ h1 h2 _
          exact absurd h1 h2
        case assign =>
          rintro l2 pre ⟨f2, t2, u2⟩ W K ⟨⟨v9, hv, hrow, _⟩, hB⟩ hz hK
          gi_wp2
          have ha : Below w7.heap.size W (W.alloc (.cells #[.int .i32 f2, .int .i32 t2] 42)) := (Below.refl _ _).alloc (by omega) _
          refine hK _ _ ?_ ?_ ?_ ?_ ?_
          · exact (KeepsOthers.alloc _ _).from _
          · exact (Below.refl _ W).alloc (by omega) _
          · exact ⟨⟨v9, (Below.heap_alloc _ _ _ hv.lt).trans hv, hrow.alloc _, trivial⟩, hB.trans ha⟩
          · simp; omega
          · exact ⟨W.heap.size, hz, ⟨heap_alloc_new W _⟩, by simp⟩
        case body =>
          rintro l2 pre ⟨f2, t2, u2⟩ W Bs ⟨⟨v9, hv, hrow, _⟩, hB⟩ hzW hBs hbx hlen
          obtain ⟨A9, c9, rfl, hs9⟩ := own_sps hrow
          have hle := hB.size
          have hln : pre.length < 1114112 := by have := HL1.out; omega
          have y2 := Bel.cell hv.cell hv.lt
          have y3 := Bel.cell (hbx.c (i := 0) rfl) hbx.lt
          have y4 := Bel.cell (hbx.c (i := 1) rfl) hbx.lt
          have HV := Lib.hid hv
          have HN9 := Lib.hid hrow
          have HS9 := Lib.hid hs9
          have HBB := Lib.hid hB
          have H6 := Lib.hid (HR.out.below (DU7.out.bel.trans (hB.mono DU7.out.bel.size)))
          have hmem := fun h : pre ++ [(f2, t2, u2)] <+: L1 => HME.out _ (prefix_mem h)
          have hch := fun (k : Nat) (h : pre ++ [(f2, t2, u2)] <+: L1) (hk : k + 1 = pre.length) => chain_prefix HCH.out h hk
          have HMM := Lib.hid hmem
          have HCC := Lib.hid hch
          have hvc := hv.cell
          clear hv hrow hbx hlen hs9 hB hmem hch
          obtain ⟨q, hq⟩ : ∃ q, q = IntKind.i32.wrap (f2 - 1) := ⟨_, rfl⟩
          have HQ := Lib.hid hq
          have hqw : IntKind.i32.wrap (f2 - 1) = q := hq.symm
          clear hq
          by_cases c0 : u2 = 0
          · have g0 : (u2 == 0) = true := by simpa using c0
            have HX : Hid (¬ pre ++ [(f2, t2, u2)] <+: L1) := Lib.hid (fun h => (HMM.out h).2.2.2 c0)
            clear c0
            gi_wp2
            refine wpIn_round_bel (by kernel_rfl) (by kernel_rfl) (by kernel_rfl) ?_
            repeat (go_big_quiet_step (fail))
            refine wpQuiet_nil ?_
            intro y
            have y9 := (H6.out.below y.b).c (i := 0) rfl
            have f9 := (H6.out.below y.b).fr 0
            gi_wp2
            exact ⟨((keeps_below y.b).trans (KeepsOthers.setCell _ _ _)).from _, HX.out⟩
          · have g0 : (u2 == 0) = false := by simpa using c0
            clear c0
            by_cases c1 : t2 < f2
            · have HX : Hid (¬ pre ++ [(f2, t2, u2)] <+: L1) := Lib.hid (fun h => by have := (HMM.out h).2.1; simp only at this; omega)
              have g1 : decide (t2 < f2) = true := by simpa using c1
              clear HMM HCC
              gi_wp2
              refine wpIn_round_bel (by kernel_rfl) (by kernel_rfl) (by kernel_rfl) ?_
              repeat (go_big_quiet_step (fail))
              refine wpQuiet_nil ?_
              intro y
              have y9 := (H6.out.below y.b).c (i := 0) rfl
              have f9 := (H6.out.below y.b).fr 0
              gi_wp2
              exact ⟨((keeps_below y.b).trans (KeepsOthers.setCell _ _ _)).from _, HX.out⟩
            · have g1 : decide (t2 < f2) = false := by simpa using c1
              clear c1
              by_cases c2 : pre.length = 0
              · have g2 : decide (0 < pre.length) = false := by simp [c2]
                have g3 : ¬ (0 : Int) < (pre.length : Int) := by omega
                clear c2
                gi_wp2
                refine wpIn_round_bel (by kernel_rfl) (by kernel_rfl) (by kernel_rfl) ?_
                repeat (go_big_quiet_step (fail))
                refine wpQuiet_nil ?_
                intro y
                have hyz := y.b.size
                have hv9 := y2 y
                have hs0 := y3 y
                have hs1 := y4 y
                have HVy : Hid (Boxed y.w w7.heap.size 22 _) := Lib.hid ((y.b.block _ HV.out.lt).trans HV.out)
                have HNy := Lib.hid (own_below HN9.out y.b)
                have hley : w7.heap.size ≤ y.w.heap.size := by omega
                gi_wp2_with (gi_at_builtin; refine wpListIn_append_own _ rfl _ _ 22 rfl w7.heap.size 33 i0 _ 3 16 Try.underlying22 I0.out I1.out I2.out I3.out rfl (by decide) _ _ _ rfl (HNy.out.alloc _) ⟨y.w.heap.size, 0, none⟩ 1 1 [.int .i32 f2, .int .i32 t2, .int .i64 u2] rfl rfl (World.news_of_block (cs := #[.int .i32 f2, .int .i32 t2, .int .i64 u2]) (t := 33) (fr := (0, 0)) (heap_alloc_new y.w _)) (by simp [Value.oneCell']) (by unfold maxLen; omega) (by omega) (by simp; omega) ?_; intro v' w1 hown' hgrow _; obtain ⟨g', cap', rfl⟩ := ownsRow_succ hown'; obtain ⟨hv1, hv2, hr2, hk2, hb2⟩ := HVy.out.appended (by decide) HNy.out hley (Nat.le_refl _) hown' hgrow; have hvc1 := hv1.cell; have hvf1 := hv1.frozen; have hbz2 := hb2.size; have HH2 := Lib.hid (And.intro hk2 (And.intro hv2 (And.intro hr2 hb2))); clear hk2 hv2 hr2 hb2 hv1 hown' hgrow)
                refine ⟨((keeps_below y.b).trans HH2.out.1).from _, (y.b.mono (by omega)).trans (HH2.out.2.2.2.mono (by omega)), ⟨⟨_, HH2.out.2.1, by first | (rw [List.length_append, spC_app]; exact HH2.out.2.2.1) | exact ⟨by rw [List.length_append, spC_app]; exact HH2.out.2.2.1, trivial⟩⟩, HBB.out.trans ((y.b.mono (by omega)).trans HH2.out.2.2.2)⟩, by omega⟩
              · obtain ⟨k, hk⟩ : ∃ k, k + 1 = pre.length := ⟨pre.length - 1, by omega⟩
                have g2 : decide (0 < pre.length) = true := by simp; omega
                have g3 : (0 : Int) < (pre.length : Int) := by omega
                have g4 : wrap64 ((pre.length : Int) - 1) = (k : Int) := by unfold wrap64; omega
                have g4b : (pre.length : Int) - 1 = (k : Int) := by omega
                have g4c : ((pre.length : Int) - 1).toNat = k := by omega
                have g4d : pre.length - 1 = k := by omega
                have g5 : (k : Int) < (pre.length : Int) := by omega
                have g6 : (0 : Int) ≤ (k : Int) := by omega
                obtain ⟨b, off, rfl, hbl, p0, p1, p2⟩ := HS9.out k (by omega)
                have hcc := fun h => HCC.out k h hk
                generalize pre[k]'(by omega) = s at p0 p1 p2 hcc
                obtain ⟨f1, t1, u1⟩ := s
                simp only at p0 p1 p2
                simp only [nbr] at hcc
                have HC2 := Lib.hid hcc
                have y5 := Bel.cell p1 (by show b < _; exact hbl)
                have y6 := Bel.cell p2 (by show b < _; exact hbl)
                clear c2 hk p0 p1 p2 hcc HCC
                by_cases c3 : f2 ≤ t1
                · have HX : Hid (¬ pre ++ [(f2, t2, u2)] <+: L1) := Lib.hid (fun h => by have := (HC2.out h).1; omega)
                  have g7 : decide (f2 ≤ t1) = true := by simpa using c3
                  gi_wp2
                  refine wpIn_round_bel (by kernel_rfl) (by kernel_rfl) (by kernel_rfl) ?_
                  repeat (go_big_quiet_step (fail))
                  refine wpQuiet_nil ?_
                  intro y
                  have y9 := (H6.out.below y.b).c (i := 0) rfl
                  have f9 := (H6.out.below y.b).fr 0
                  gi_wp2
                  exact ⟨((keeps_below y.b).trans (KeepsOthers.setCell _ _ _)).from _, HX.out⟩
                · have g7 : decide (f2 ≤ t1) = false := by simpa using c3
                  by_cases c4 : t1 = q
                  · have g8 : (t1 == q) = true := by simpa using c4
                    by_cases c5 : u1 = u2
                    · have g9 : (u1 == u2) = true := by simpa using c5
                      have HX : Hid (¬ pre ++ [(f2, t2, u2)] <+: L1) := Lib.hid (fun h => (HC2.out h).2 ⟨by
                        have h1 := HMM.out h
                        have h2 := HQ.out
                        rw [IntKind.wrap_i32] at h2
                        simp only at h1
                        omega, c5⟩)
                      clear c3 c4 c5
                      gi_wp2
                      refine wpIn_round_bel (by kernel_rfl) (by kernel_rfl) (by kernel_rfl) ?_
                      repeat (go_big_quiet_step (fail))
                      refine wpQuiet_nil ?_
                      intro y
                      have y9 := (H6.out.below y.b).c (i := 0) rfl
                      have f9 := (H6.out.below y.b).fr 0
                      gi_wp2
                      exact ⟨((keeps_below y.b).trans (KeepsOthers.setCell _ _ _)).from _, HX.out⟩
                    · have g9 : (u1 == u2) = false := by simpa using c5
                      clear c3 c4 c5
                      gi_wp2
                      refine wpIn_round_bel (by kernel_rfl) (by kernel_rfl) (by kernel_rfl) ?_
                      repeat (go_big_quiet_step (fail))
                      refine wpQuiet_nil ?_
                      intro y
                      have hyz := y.b.size
                      have hv9 := y2 y
                      have hs0 := y3 y
                      have hs1 := y4 y
                      have HVy : Hid (Boxed y.w w7.heap.size 22 _) := Lib.hid ((y.b.block _ HV.out.lt).trans HV.out)
                      have HNy := Lib.hid (own_below HN9.out y.b)
                      have hley : w7.heap.size ≤ y.w.heap.size := by omega
                      gi_wp2_with (gi_at_builtin; refine wpListIn_append_own _ rfl _ _ 22 rfl w7.heap.size 33 i0 _ 3 16 Try.underlying22 I0.out I1.out I2.out I3.out rfl (by decide) _ _ _ rfl (HNy.out.alloc _) ⟨y.w.heap.size, 0, none⟩ 1 1 [.int .i32 f2, .int .i32 t2, .int .i64 u2] rfl rfl (World.news_of_block (cs := #[.int .i32 f2, .int .i32 t2, .int .i64 u2]) (t := 33) (fr := (0, 0)) (heap_alloc_new y.w _)) (by simp [Value.oneCell']) (by unfold maxLen; omega) (by omega) (by simp; omega) ?_; intro v' w1 hown' hgrow _; obtain ⟨g', cap', rfl⟩ := ownsRow_succ hown'; obtain ⟨hv1, hv2, hr2, hk2, hb2⟩ := HVy.out.appended (by decide) HNy.out hley (Nat.le_refl _) hown' hgrow; have hvc1 := hv1.cell; have hvf1 := hv1.frozen; have hbz2 := hb2.size; have HH2 := Lib.hid (And.intro hk2 (And.intro hv2 (And.intro hr2 hb2))); clear hk2 hv2 hr2 hb2 hv1 hown' hgrow)
                      refine ⟨((keeps_below y.b).trans HH2.out.1).from _, (y.b.mono (by omega)).trans (HH2.out.2.2.2.mono (by omega)), ⟨⟨_, HH2.out.2.1, by first | (rw [List.length_append, spC_app]; exact HH2.out.2.2.1) | exact ⟨by rw [List.length_append, spC_app]; exact HH2.out.2.2.1, trivial⟩⟩, HBB.out.trans ((y.b.mono (by omega)).trans HH2.out.2.2.2)⟩, by omega⟩
                  · have g8 : (t1 == q) = false := by simpa using c4
                    clear c3 c4
                    gi_wp2
                    refine wpIn_round_bel (by kernel_rfl) (by kernel_rfl) (by kernel_rfl) ?_
                    repeat (go_big_quiet_step (fail))
                    refine wpQuiet_nil ?_
                    intro y
                    have hyz := y.b.size
                    have hv9 := y2 y
                    have hs0 := y3 y
                    have hs1 := y4 y
                    have HVy : Hid (Boxed y.w w7.heap.size 22 _) := Lib.hid ((y.b.block _ HV.out.lt).trans HV.out)
                    have HNy := Lib.hid (own_below HN9.out y.b)
                    have hley : w7.heap.size ≤ y.w.heap.size := by omega
                    gi_wp2_with (gi_at_builtin; refine wpListIn_append_own _ rfl _ _ 22 rfl w7.heap.size 33 i0 _ 3 16 Try.underlying22 I0.out I1.out I2.out I3.out rfl (by decide) _ _ _ rfl (HNy.out.alloc _) ⟨y.w.heap.size, 0, none⟩ 1 1 [.int .i32 f2, .int .i32 t2, .int .i64 u2] rfl rfl (World.news_of_block (cs := #[.int .i32 f2, .int .i32 t2, .int .i64 u2]) (t := 33) (fr := (0, 0)) (heap_alloc_new y.w _)) (by simp [Value.oneCell']) (by unfold maxLen; omega) (by omega) (by simp; omega) ?_; intro v' w1 hown' hgrow _; obtain ⟨g', cap', rfl⟩ := ownsRow_succ hown'; obtain ⟨hv1, hv2, hr2, hk2, hb2⟩ := HVy.out.appended (by decide) HNy.out hley (Nat.le_refl _) hown' hgrow; have hvc1 := hv1.cell; have hvf1 := hv1.frozen; have hbz2 := hb2.size; have HH2 := Lib.hid (And.intro hk2 (And.intro hv2 (And.intro hr2 hb2))); clear hk2 hv2 hr2 hb2 hv1 hown' hgrow)
                    refine ⟨((keeps_below y.b).trans HH2.out.1).from _, (y.b.mono (by omega)).trans (HH2.out.2.2.2.mono (by omega)), ⟨⟨_, HH2.out.2.1, by first | (rw [List.length_append, spC_app]; exact HH2.out.2.2.1) | exact ⟨by rw [List.length_append, spC_app]; exact HH2.out.2.2.1, trivial⟩⟩, HBB.out.trans ((y.b.mono (by omega)).trans HH2.out.2.2.2)⟩, by omega⟩
        case done =>
          rintro D ys W hD hys ⟨⟨v9, hv, hrow, _⟩, hB⟩ hzW hK
          subst hys
          have hlow0 : ∀ k, v9.ownBlock = some k → w7.heap.size ≤ k := fun k hk => (hrow.lt k hk).1
          obtain ⟨A9, c9', rfl, hs9⟩ := own_sps hrow
          have hlow : ∀ b off, A9 = some ⟨b, off, none⟩ → w7.heap.size ≤ b := fun b off e => hlow0 b (by rw [e]; rfl)
          have hk9 : Bk W w7.heap.size [.slice A9 ys.length c9'] 22 := ⟨hv⟩
          have hDl : D < W.heap.size := (Array.getElem?_eq_some_iff.1 hK).1
          have hvc := hk9.c (i := 0) rfl
          have HV0 := Lib.hid (And.intro hs9 (And.intro hk9 (And.intro hK hB)))
          have HLO := Lib.hid hlow
          clear hv hrow hs9 hk9 hK hlow0 hlow SQ EN hB0
          go_wp2_with fail
          obtain ⟨wL, hwL⟩ : ∃ x, x = W.alloc (.cells #[.int .i64 (ys.length : Int)] 3) := ⟨_, rfl⟩
          have kn : Bk wL W.heap.size [.int .i64 (ys.length : Int)] 3 := by rw [hwL]; exact ⟨heap_alloc_new W _⟩
          have dL : Below W.heap.size W wL := by rw [hwL]; exact (Below.refl _ W).alloc (Nat.le_refl _) _
          have zL : wL.heap.size = W.heap.size + 1 := by rw [hwL]; simp
          rw [← hwL]
          clear hwL hvc
          obtain ⟨hs9, hk9, hK, hB⟩ := HV0.out
          have hBL : Below w7.heap.size w7 wL := hB.trans (dL.mono (by omega))
          have DL := Lib.hid (DU7.out.on hBL)
          have hYL : ∀ k, T.fp wL Y k → k < w7.heap.size := fun k hk => by
            have := HYL.out k ((T.fpon DU7.out.ty (fun k hk _ => hBL.block k hk) k).1 hk)
            omega
          have HS9 := Lib.hid (hs9.below dL)
          have H9 := Lib.hid (hk9.below dL)
          have HNn := Lib.hid kn
          have HYW := Lib.hid hYL
          have KD := Lib.hid ((dL.block D hDl).trans hK)
          have BL := Lib.hid hBL
          obtain ⟨q1, q, hq⟩ : ∃ (q1 : Int) (q : Nat), 0 < ys.length → (fr.tmod ys.length = q1 ∧ -(ys.length : Int) < q1 ∧ q1 < ys.length ∧ (q1 + ys.length).tmod ys.length = (q : Int) ∧ q < ys.length) := by
            by_cases h : 0 < ys.length
            · obtain ⟨q1, q, h1⟩ := round_at fr h
              exact ⟨q1, q, fun _ => h1⟩
            · exact ⟨0, 0, fun h2 => absurd h2 h⟩
          have HQQ := Lib.hid hq
          have HYZ : Hid (w1.heap.size ≤ w7.heap.size) := Lib.hid DU7.out.bel.size
          clear hq hs9 hk9 hK hB hBL hYL kn dL HV0 HYL DU7
          go_wp2_with fail
          go_loopw [14] (fun i wr => ∃ k : Nat, i = .int .i64 k ∧ k ≤ ys.length ∧ Hid (Duo T w1 w2.heap.size wr X Y 0 g (setG (fun _ => 0) (rot ys q k))) ∧ Hid (Mv (T.fp wL Y) (T.fp wr Y) wL wr)) (fun i _ => ys.length - (intOf i).toNat)
          case atStart => exact ⟨0, rfl, by omega, DL.out, Mv.of_below (Below.refl _ _)⟩
          case round =>
            obtain ⟨k, rfl, hk, HP, HV⟩ := hrel
            have hKP : ∀ j, w7.heap.size ≤ j → j < wL.heap.size → wr.heap[j]? = wL.heap[j]? := fun j h1 h2 => HV.out.keep j h2 (fun hy => by have := HYW.out j hy; omega)
            have h9 := H9.out.on (hKP _ (Nat.le_refl _) H9.out.lt)
            have hn := HNn.out.on (hKP _ (by omega) HNn.out.lt)
            have c9 := h9.c (i := 0) rfl
            have cn := hn.c (i := 0) rfl
            by_cases hlt : k < ys.length
            · have hlI : (k : Int) < ys.length := by omega
              obtain ⟨e1, q1l, q1h, e2, hqN⟩ := HQQ.out (by omega)
              obtain ⟨j, hj, hjl, e3, m1, m2, m3, m4, m5, jI, j0, k1, k2, k3, k4, k5⟩ := round_all (q := q) (k := k) HL1.out hlt q1l q1h hqN
              have hne : ¬ ys = [] := fun e => by rw [e] at hlt; exact absurd hlt (Nat.not_lt_zero _)
              have hrs := rot_succ ys q k
              rw [← hj, getD_at hjl] at hrs
              obtain ⟨b, off, rfl, hbl, p0, p1, p2⟩ := HS9.out j hjl
              have hbb : wr.heap[b]? = wL.heap[b]? := hKP b (HLO.out b off rfl) hbl
              have hcc : ∀ o, wr.cell? ⟨b, o, none⟩ = wL.cell? ⟨b, o, none⟩ := fun o => by unfold World.cell?; simp only [hbb]
              have p0' := (hcc _).trans p0
              have p1' := (hcc _).trans p1
              have p2' := (hcc _).trans p2
              have hok : okS ys[j] = true := all_ok (g := g) (nn := 0) _ (by rw [← HAG.out]; exact List.getElem_mem hjl)
              generalize ys[j] = s at *
              obtain ⟨f1, t1, u1⟩ := s
              simp only at p0' p1' p2'
              have x0 := World.new_ne wr _ c9
              have x1 := World.new_ne wr _ cn
              have x2 := World.new_ne wr _ p0'
              have x3 := World.new_ne wr _ p1'
              have x4 := World.new_ne wr _ p2'
              have HST := Lib.hid hrs
              have HOK := Lib.hid hok
              clear hrs hok hbb hcc p0 p1 p2 h9 hn hKP hj
              go_wp2_with fail
              go_region_held3 (fun W5 => (W5.cell? ⟨w7.heap.size, 0, none⟩ = some (.slice (some ⟨b, off, none⟩) ys.length c9') ∧ W5.cell? ⟨W.heap.size, 0, none⟩ = some (.int .i64 (ys.length : Int)) ∧ W5.cell? ⟨b, off + j * 3, none⟩ = some (.int .i32 f1) ∧ W5.cell? ⟨b, off + j * 3 + 1, none⟩ = some (.int .i32 t1) ∧ W5.cell? ⟨b, off + j * 3 + 2, none⟩ = some (.int .i64 u1)))
                (go_keep)
                (fail)
              all_goals
                obtain ⟨wx, hwx⟩ : ∃ x, x = (wr.alloc (.cells #[.int .i32 f1, .int .i32 t1, .int .i64 u1] 33)).drew := ⟨_, rfl⟩
                have bx : Below wr.heap.size wr wx := by rw [hwx]; exact ((Below.refl _ wr).alloc (Nat.le_refl _) _).drew
                have kx : Bk wx wr.heap.size [.int .i32 f1, .int .i32 t1, .int .i64 u1] 33 := by rw [hwx]; exact ⟨heap_alloc_new wr _⟩
                rw [← hwx]
                clear hwx
                have DX := Lib.hid (HP.out.on bx)
                have MX := Lib.hid (HV.out.onT HP.out.ty bx)
                have hs := T.set f1 t1 u1 DX.out.ty
                rw [setE_ok HOK.out] at hs
                have HS := Lib.hid hs
                have v0 := kx.c (i := 0) rfl
                have v1 := kx.c (i := 1) rfl
                have v2 := kx.c (i := 2) rfl
                clear hs bx c9 cn p0' p1' p2' HP HV
                go_wp2_with fail
                refine HS.out.mono ?_
                rintro e w5 ⟨rfl, ht5, m5⟩
                have Q5 := Lib.hid (DX.out.setY ht5 m5)
                have M5 := Lib.hid (MX.out.trans m5)
                clear ht5 m5
                try clear k1
                try clear k2
                try clear k3
                try clear k4
                try clear k5
                try clear m1
                try clear m2
                try clear m3
                try clear m4
                try clear m5
                try clear e1
                try clear e2
                try clear e3
                try clear jI
                try clear j0
                try clear q1l
                try clear q1h
                try clear hqN
                try clear hne
                try clear x0
                try clear x1
                try clear x2
                try clear x3
                try clear x4
                try clear hjl
                try clear v0
                try clear v1
                try clear v2
                try clear kx
                try clear m0
                have hb9 := HL1.out
                go_wp2_with fail
                go_roundw
                case measure => simp [intOf] <;> omega
                case rel => exact ⟨k + 1, by go_num, by omega, by rw [HST.out, setG_snoc]; exact Q5.out, M5.out⟩
            · obtain rfl : k = ys.length := by omega
              have hgt : ¬ (ys.length : Int) < ys.length := by omega
              have hag := setG_again (g := g) (L := rot ys q ys.length) (fun s => by
                rw [← HAG.out]
                by_cases hN : 0 < ys.length
                · exact rot_mem (HQQ.out hN).2.2.2.2 s
                · exact rot_nil (by omega) q s)
              rw [← HAG.out] at hag
              generalize setG (fun _ => 0) (rot ys q ys.length) = h at HP hag
              have hDw : wr.heap[D]? = some (.deferred (some [])) := (hKP D (by omega) (by omega)).trans KD.out
              have hrow : Sps wr A9 ys := fun i hi => by
                obtain ⟨b, off, e, hbl, p0, p1, p2⟩ := HS9.out i hi
                have hbb : wr.heap[b]? = wL.heap[b]? := hKP b (HLO.out b off e) hbl
                have hcc : ∀ o, wr.cell? ⟨b, o, none⟩ = wL.cell? ⟨b, o, none⟩ := fun o => by unfold World.cell?; simp only [hbb]
                exact ⟨b, off, e, Nat.lt_of_lt_of_le hbl HV.out.size, (hcc _).trans p0, (hcc _).trans p1, (hcc _).trans p2⟩
              have HAG2 := Lib.hid hag
              have HDW := Lib.hid hDw
              have HROW := Lib.hid hrow
              have HK9 := Lib.hid h9
              have HKN := Lib.hid hn
              clear hag hDw hrow h9 hn hKP HV
              go_wp2_with fail
              have hall := (T.trk HP.out.ty).all wr (Below.refl _ wr)
              rw [HAG2.out.1] at hall
              refine hall.mono ?_
              rintro e w16 ⟨G2, lb2, rfl, hen, hsq, hb⟩
              have EN2 := Lib.hid hen
              have SQ2 := Lib.hid hsq
              have DU16 := Lib.hid (HP.out.on hb)
              have z16 := hb.size
              have H9w := Lib.hid (HK9.out.below hb)
              have HNw := Lib.hid (HKN.out.below hb)
              have HSw := Lib.hid (HROW.out.below hb)
              have hDl2 : D < wr.heap.size := (Array.getElem?_eq_some_iff.1 HDW.out).1
              have HDw := Lib.hid ((hb.block D hDl2).trans HDW.out)
              have hwrW : w7.heap.size ≤ wr.heap.size := by have := HK9.out.lt; omega
              clear hen hsq hb hall c9 cn HK9 HKN HROW HDW HP
              go_wp2_with fail
              obtain ⟨w17, hw17⟩ : ∃ x, x = w16.alloc (.cells #[.int .i64 0] 3) := ⟨_, rfl⟩
              have kn : Bk w17 w16.heap.size [.int .i64 0] 3 := by rw [hw17]; exact ⟨heap_alloc_new w16 _⟩
              have d17 : Below w16.heap.size w16 w17 := by rw [hw17]; exact (Below.refl _ w16).alloc (Nat.le_refl _) _
              have hz17 : w17.heap.size = w16.heap.size + 1 := by rw [hw17]; simp
              rw [← hw17]
              clear hw17
              refine rangeH rfl EN2.out SQ2.out d17 (fun _ => rfl)
                (fun pre W2 => pre <+: ys ∧ Bk W2 w16.heap.size [.int .i64 pre.length] 3 ∧ Below w16.heap.size w16 W2)
                (fun _ pre _ => ¬ pre <+: ys)
                (fun s A B row hs hg hr => ⟨hs.1, bk_row hs.2.1 hg hr, hs.2.2.grown hg hs.2.2.size (fun k e => by have := (hr k e).1; omega)⟩)
                (fun _ _ _ _ _ hs _ _ => hs)
                ⟨List.nil_prefix, kn, d17⟩
                (fun tm Bs x => (((tm.setIfInBounds 159 (.agg #[.int .i32 x.1, .int .i32 x.2.1])).setIfInBounds 160 (.int .i64 x.2.2)).setIfInBounds 18 (.pointer (some ⟨Bs, 0, none⟩))).setIfInBounds 19 (.int .i64 x.2.2))
                ?assign2 ?body2 ?done2 ?stop2
              case stop2 =>
                rintro D2 c2 pre W2 _ h1 h2 _
                exact absurd h1 h2
              case assign2 =>
                rintro l2 pre ⟨f2, t2, u2⟩ W2 K ⟨hp, h9, hB2⟩ hz hK
                gi_wp2
                refine hK _ _ ?_ ?_ ?_ ?_ ?_
                · exact (KeepsOthers.alloc _ _).from _
                · exact (Below.refl _ W2).alloc (by omega) _
                · exact ⟨hp, h9.below ((Below.refl _ W2).alloc (Nat.le_refl _) _), hB2.alloc hB2.size _⟩
                · simp; omega
                · exact ⟨W2.heap.size, hz, ⟨heap_alloc_new W2 _⟩, by simp⟩
              case body2 =>
                rintro l2 pre ⟨f2, t2, u2⟩ W2 Bs ⟨hp, h9, hB2⟩ hzW2 hBs hbx hlt
                obtain ⟨b, off, rfl, hbl, p0, p1, p2⟩ := (HSw.out.below hB2) pre.length hlt
                have hpx : pre ++ [(f2, t2, u2)] <+: ys ↔ (f2, t2, u2) = ys[pre.length] := prefix_more hp hlt
                have HPX := Lib.hid hpx
                generalize ys[pre.length] = s at *
                obtain ⟨f1, t1, u1⟩ := s
                simp only at p0 p1 p2
                have h8 := H9w.out.below hB2
                have h7 := HNw.out.below hB2
                have y1 := Bel.cell (h9.c (i := 0) rfl) h9.lt
                have y2 := Bel.cell (h8.c (i := 0) rfl) h8.lt
                have y8 := Bel.cell (h7.c (i := 0) rfl) h7.lt
                have y3 := Bel.cell (hbx.c (i := 0) rfl) hbx.lt
                have y4 := Bel.cell (hbx.c (i := 1) rfl) hbx.lt
                have y5 := Bel.cell p0 (by show b < _; exact hbl)
                have y6 := Bel.cell p1 (by show b < _; exact hbl)
                have y7 := Bel.cell p2 (by show b < _; exact hbl)
                have H6 := Lib.hid (HR.out.below (DU16.out.bel.trans (hB2.mono DU16.out.bel.size)))
                have H9 := Lib.hid h9
                have HBB := Lib.hid hB2
                have g2 : (pre.length : Int) < (ys.length : Int) := by omega
                have g3 : decide (ys.length ≤ pre.length) = false := by simpa using hlt
                have hw64 : wrap64 ((pre.length : Int) + 1) = (pre.length : Int) + 1 := wrap_in (by omega) (by have := HL1.out; omega)
                clear hpx p0 p1 p2 h8 h7 h9 hB2 hbx hlt
                by_cases e1 : f1 = f2
                · have q1 : (f1 != f2) = false := by simpa using e1
                  by_cases e2 : t1 = t2
                  · have q2 : (t1 != t2) = false := by simpa using e2
                    by_cases e3 : u1 = u2
                    · have q3 : (u1 != u2) = false := by simpa using e3
                      have HX := Lib.hid (HPX.out.2 (by rw [e1, e2, e3]))
                      clear e1 e2 e3
                      gi_wp2
                      refine wpIn_round_bel (by kernel_rfl) (by kernel_rfl) (by kernel_rfl) ?_
                      repeat (go_big_quiet_step (fail))
                      refine wpQuiet_nil ?_
                      intro y
                      have y9 := y1 y
                      have f9 := (H9.out.below y.b).fr 0
                      gi_wp2
                      have hyz := y.b.size
                      refine ⟨((keeps_below y.b).trans (KeepsOthers.setCell _ _ _)).from _, (y.b.mono (by omega)).setCell (p := ⟨w16.heap.size, 0, none⟩) (by show w16.heap.size ≤ w16.heap.size; omega) _, ⟨HX.out, ?_, ?_⟩, ?_⟩
                      · have h9 := (H9.out.below y.b).set 0 (.int .i64 ((pre.length : Int) + 1))
                        rw [show (pre ++ [(f2, t2, u2)]).length = pre.length + 1 by simp]
                        try rw [hw64]
                        exact h9
                      · exact (HBB.out.trans (y.b.mono HBB.out.size)).setCell (p := ⟨w16.heap.size, 0, none⟩) (by show w16.heap.size ≤ w16.heap.size; omega) _
                      · simp [World.setCell]; omega
                    · have q3 : (u1 != u2) = true := by simpa using e3
                      have HX : Hid (¬ pre ++ [(f2, t2, u2)] <+: ys) := Lib.hid (fun h => e3 (by have h8 := HPX.out.1 h; simp only [Prod.mk.injEq] at h8; exact h8.2.2.symm))
                      clear e1 e2 e3
                      gi_wp2
                      refine wpIn_round_bel (by kernel_rfl) (by kernel_rfl) (by kernel_rfl) ?_
                      repeat (go_big_quiet_step (fail))
                      refine wpQuiet_nil ?_
                      intro y
                      have y9 := (H6.out.below y.b).c (i := 0) rfl
                      have f9 := (H6.out.below y.b).fr 0
                      gi_wp2
                      exact ⟨((keeps_below y.b).trans (KeepsOthers.setCell _ _ _)).from _, HX.out⟩
                  · have q2 : (t1 != t2) = true := by simpa using e2
                    have HX : Hid (¬ pre ++ [(f2, t2, u2)] <+: ys) := Lib.hid (fun h => e2 (by have h8 := HPX.out.1 h; simp only [Prod.mk.injEq] at h8; exact h8.2.1.symm))
                    clear e1 e2
                    gi_wp2
                    refine wpIn_round_bel (by kernel_rfl) (by kernel_rfl) (by kernel_rfl) ?_
                    repeat (go_big_quiet_step (fail))
                    refine wpQuiet_nil ?_
                    intro y
                    have y9 := (H6.out.below y.b).c (i := 0) rfl
                    have f9 := (H6.out.below y.b).fr 0
                    gi_wp2
                    exact ⟨((keeps_below y.b).trans (KeepsOthers.setCell _ _ _)).from _, HX.out⟩
                · have q1 : (f1 != f2) = true := by simpa using e1
                  have HX : Hid (¬ pre ++ [(f2, t2, u2)] <+: ys) := Lib.hid (fun h => e1 (by have h8 := HPX.out.1 h; simp only [Prod.mk.injEq] at h8; exact h8.1.symm))
                  clear e1
                  gi_wp2
                  refine wpIn_round_bel (by kernel_rfl) (by kernel_rfl) (by kernel_rfl) ?_
                  repeat (go_big_quiet_step (fail))
                  refine wpQuiet_nil ?_
                  intro y
                  have y9 := (H6.out.below y.b).c (i := 0) rfl
                  have f9 := (H6.out.below y.b).fr 0
                  gi_wp2
                  exact ⟨((keeps_below y.b).trans (KeepsOthers.setCell _ _ _)).from _, HX.out⟩
              case done2 =>
                rintro D2 zs W2 hD2 hzs ⟨_, h9, hB2⟩ hzW2 hK2
                subst hzs
                have h7 := HNw.out.below hB2
                have eb : ((zs.length : Int) == (zs.length : Int)) = true := by simp
                have EB := Lib.hid hB2
                have H6 := Lib.hid (HR.out.below (DU16.out.bel.trans (EB.out.mono DU16.out.bel.size)))
                have K1 := Lib.hid ((hB2.block D (by omega)).trans HDw.out)
                have K2 := Lib.hid hK2
                have c9 := h9.c (i := 0) rfl
                have c8 := h7.c (i := 0) rfl
                have hD2l : D2 < W2.heap.size := (Array.getElem?_eq_some_iff.1 hK2).1
                have hDl3 : D < W2.heap.size := (Array.getElem?_eq_some_iff.1 K1.out).1
                have hne : D2 ≠ D := by omega
                have BX := Lib.hid (T.trk DU16.out.tx).blocks
                have by9 := (T.trk DU16.out.ty).blocks
                rw [HAG2.out.2] at by9
                have BY := Lib.hid by9
                clear h9 h7 hB2 hK2 by9
                go_wp2_with fail
                refine (BX.out W2 EB.out).mono ?_
                rintro e w18 ⟨rfl, hb⟩
                have EB2 := Lib.hid (EB.out.trans (hb.mono EB.out.size))
                have H62 := Lib.hid (H6.out.below hb)
                have K12 := Lib.hid ((hb.block D hDl3).trans K1.out)
                have K22 := Lib.hid ((hb.block D2 hD2l).trans K2.out)
                have hz18 := hb.size
                clear hb c9 c8
                go_wp2_with fail
                refine (BY.out w18 EB2.out).mono ?_
                rintro e w19 ⟨rfl, hb⟩
                have EB3 := Lib.hid (EB2.out.trans (hb.mono EB2.out.size))
                have H63 := Lib.hid (H62.out.below hb)
                have K13 := Lib.hid ((hb.block D (by omega)).trans K12.out)
                have K23 := Lib.hid ((hb.block D2 (by omega)).trans K22.out)
                have hz19 := hb.size
                clear hb
                have ebm : (((blkN g 0 : Nat) : Int) == ((blkN g 0 : Nat) : Int)) = true := by simp
                go_wp2_with fail
                refine (HA.out _).mono ?_
                rintro e w20 ⟨rfl, hb⟩
                have EB4 := Lib.hid (EB3.out.trans (hb.mono EB3.out.size))
                have H64 := Lib.hid (H63.out.below hb)
                have K14 := Lib.hid ((hb.block D (by omega)).trans K13.out)
                have K24 := Lib.hid ((hb.block D2 (by omega)).trans K23.out)
                have hz20 := hb.size
                have c6 := H64.out.c (i := 0) rfl
                have f6 := H64.out.fr 0
                clear hb
                have hzd := DU16.out.bel.size
                have hRl : w.heap.size < w1.heap.size := HR.out.lt
                have hzw7 := B7.out.size
                have hRD : w.heap.size < D := by have := HYZ.out; omega
                go_wp2_with fail
                have H6t := H64.out.set 0 (.bool true)
                refine leave_mark (D := D2) ((Below.heap_setCell _ _ _ _ (by show D2 ≠ w.heap.size; omega)).trans K24.out) (leave_mark (D := D) ((heap_put _ _ hne).trans ((Below.heap_setCell _ _ _ _ (by show D ≠ w.heap.size; omega)).trans K14.out)) (leave_nil (v := .bool true) ?_ ⟨rfl, ?_⟩))
                · have h9 := cell_put (D := D) (o := .deferred none) (cell_put (D := D2) (o := .deferred none) (H6t.c (i := 0) rfl) (by show w.heap.size ≠ D2; omega)) (by show w.heap.size ≠ D; omega)
                  simp [results, Try.results5, go_sem, h9]
                · exact below_put (below_put ((D0.out.trans ((DU16.out.bel.trans (EB4.out.mono DU16.out.bel.size)).mono D0.out.size)).setCell (p := ⟨w.heap.size, 0, none⟩) (by show w.heap.size ≤ w.heap.size; omega) _) (by omega)) (by omega)

end Go.Proofs.Ytfjckdjnnbpcnaa.Tr

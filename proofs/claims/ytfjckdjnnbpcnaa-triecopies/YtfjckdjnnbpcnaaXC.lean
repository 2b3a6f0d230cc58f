import Derived.Test.YtfjckdjnnbpcnaaXF
namespace Go.Proofs.Ytfjckdjnnbpcnaa.Tr
open Go.RowKit Go.Shelf

attribute [local go_sem] Oper.semAt_some
attribute [local go_sem] encS

set_option maxHeartbeats 16000000 in
set_option maxRecDepth 100000 in
theorem copies_walk (T : Tbl) (hA : ∀ W, Calls Try.prog 11 #[] W fun e w' => e = .returned (.bool true) ∧ Below W.heap.size W w')
    (hfar : ∀ (w : World) (base X : Nat) (nn : Int) (g : Int → Int), T.Tb w base X nn g → Calls Try.prog 16 #[.pointer (some ⟨X, 0, none⟩)] w fun e w' => ∃ G lb, e = .returned (.func (.func G) #[] lb) ∧ (∀ args W', (callFunc G args).run Try.prog W' = .ok (.enter G args) W') ∧
      (∀ W : World, w'.heap.size ≤ W.heap.size → (∀ k, w.heap.size ≤ k → k < w'.heap.size → W.heap[k]? = w'.heap[k]?) → SeqStopsK Fence.wide 4 Try.prog G lb encS (Below W.heap.size) (fun ys => ys = allG g nn) (fun pre => pre <+: allG g nn) (allG g nn).length W) ∧ Below w.heap.size w w')
    (A : Option Addr) (c : Nat) (l : List Sp) (B : Option Addr) (d : Nat) (m : List Sp) (w : World) (hl : Sps w A l) (hll : l.length ≤ 140737488355328) (hm : Sps w B m) (hml : m.length ≤ 140737488355328) :
    Calls Try.prog 4 #[.slice A l.length c, .slice B m.length d] w fun e w' => e = .returned (.bool true) ∧ Below w.heap.size w w' := by
  have HA := Lib.hid hA
  have HFAR := Lib.hid hfar
  obtain ⟨w1, hw1⟩ : ∃ x, x = w.alloc (.cells #[.bool false] 4) := ⟨_, rfl⟩
  have hbr : Bk w1 w.heap.size [.bool false] 4 := by rw [hw1]; exact ⟨heap_alloc_new w _⟩
  have hd1 : Below w.heap.size w w1 := by rw [hw1]; exact (Below.refl _ w).alloc (Nat.le_refl _) _
  have HL := Lib.hid (hl.below hd1)
  have HM := Lib.hid (hm.below hd1)
  have HR := Lib.hid hbr
  have D0 := Lib.hid hd1
  have HN := Lib.hid (T.new w1 0)
  clear hA hl hm hd1 hbr hfar
  refine calls_marks Try.func4 rfl ?_
  simp only [Try.ntmps4, List.size_toArray, List.length_cons, List.length_nil, Nat.reduceAdd, Nat.reduceSub, Array.replicate_succ, Array.replicate_zero, List.push_toArray, List.append_toArray, List.nil_append, List.cons_append]
  go_upto_region 1 with fail
  rw [← hw1]
  clear hw1
  go_wp2_with fail
  refine HN.out.mono ?_
  rintro e w2 ⟨X, rfl, ht, hb⟩
  have S2 := Lib.hid (show Solo T w1 w2 X 0 (fun _ => 0) from ⟨hb, ht⟩)
  have hW := wide_any w2 A c l (HL.out.below hb) hll
  clear ht hb HN
  cases hw : wideB l with
  | true =>
    rw [hw] at hW
    have HW := Lib.hid hW
    clear hW
    go_wp2_with fail
    refine HW.out.mono ?_
    rintro e w3 ⟨rfl, m3, rfl⟩
    have D3 := Lib.hid (bel_drewN S2.out.bel m3)
    go_wp2_with fail
    refine (HA.out _).mono ?_
    rintro e w9 ⟨rfl, hb9⟩
    have B9 := Lib.hid (D3.out.trans (hb9.mono D3.out.size))
    have HR9 := Lib.hid (HR.out.below B9.out)
    have c9 := HR9.out.c (i := 0) rfl
    have f9 := HR9.out.fr 0
    clear hb9
    go_wp2_with fail
    have h9 := (HR9.out.set 0 (.bool true)).c (i := 0) rfl
    exact leave_nil (v := .bool true) (by simp [results, Try.results4, go_sem, h9]) ⟨rfl, (D0.out.trans (B9.out.mono D0.out.size)).setCell (p := ⟨w.heap.size, 0, none⟩) (by show w.heap.size ≤ w.heap.size; omega) _⟩
  | false =>
    rw [hw] at hW
    have HW := Lib.hid hW
    have h40 := wide_no hw
    clear hW hll hw
    go_wp2_with fail
    refine HW.out.mono ?_
    rintro e w3 ⟨rfl, m3, rfl⟩
    have S3 := Lib.hid (S2.out.on (bel_drewN (Below.refl _ w2) m3))
    clear S2 HW
    generalize w2.drewN m3 = w3 at *
    have hW := wide_any w3 B d m (HM.out.below S3.out.bel) hml
    cases hw : wideB m with
    | true =>
      rw [hw] at hW
      have HW := Lib.hid hW
      clear hW
      go_wp2_with fail
      refine HW.out.mono ?_
      rintro e w4 ⟨rfl, m4, rfl⟩
      have D3 := Lib.hid (bel_drewN S3.out.bel m4)
      go_wp2_with fail
      refine (HA.out _).mono ?_
      rintro e w9 ⟨rfl, hb9⟩
      have B9 := Lib.hid (D3.out.trans (hb9.mono D3.out.size))
      have HR9 := Lib.hid (HR.out.below B9.out)
      have c9 := HR9.out.c (i := 0) rfl
      have f9 := HR9.out.fr 0
      clear hb9
      go_wp2_with fail
      have h9 := (HR9.out.set 0 (.bool true)).c (i := 0) rfl
      exact leave_nil (v := .bool true) (by simp [results, Try.results4, go_sem, h9]) ⟨rfl, (D0.out.trans (B9.out.mono D0.out.size)).setCell (p := ⟨w.heap.size, 0, none⟩) (by show w.heap.size ≤ w.heap.size; omega) _⟩
    | false =>
      rw [hw] at hW
      have HW := Lib.hid hW
      have m40 := wide_no hw
      clear hW hml hw
      go_wp2_with fail
      refine HW.out.mono ?_
      rintro e w4 ⟨rfl, m4, rfl⟩
      have S4 := Lib.hid (S3.out.on (bel_drewN (Below.refl _ w3) m4))
      clear S3 HW
      generalize w3.drewN m4 = w4 at *
      have hM0 : Mix T w1 (w4.alloc (.cells #[.int .i64 0, .slice none 0 0] 29)) (w4.alloc (.cells #[.int .i64 0, .slice none 0 0] 29)) X w4.heap.size w4.heap.size 0 (fun _ => 0) [] := by
        have hbx := (Below.refl w4.heap.size w4).alloc (Nat.le_refl _) (.cells #[.int .i64 0, .slice none 0 0] 29)
        refine ⟨S4.out.bel.trans (hbx.mono S4.out.bel.size), S4.out.bel.size, T.on S4.out.tb (fun k hk _ => hbx.block k hk), ⟨Nat.le_refl _, _, ⟨heap_alloc_new w4 _⟩, World.ownsRow_nil _ _ _ _⟩, fun k hk hr => ?_, Mv.of_below (Below.refl _ _)⟩
        have hk' := (T.fpon S4.out.tb (fun k hk _ => hbx.block k hk) k).1 hk
        have h1 := (T.fpb S4.out.tb hk').2
        rcases hr with rfl | ⟨n', v', h3, h4⟩
        · omega
        · have h5 := (heap_alloc_new w4 (.cells #[.int .i64 0, .slice none 0 0] 29)).symm.trans h3.blk
          simp at h5
          rw [← h5.2] at h4
          cases h4
      obtain ⟨wq, hwq⟩ : ∃ x, x = w4.alloc (.cells #[.int .i64 0, .slice none 0 0] 29) := ⟨_, rfl⟩
      rw [← hwq] at hM0
      have M0 := Lib.hid hM0
      clear hM0 S4
      go_wp2_with fail
      rw [← hwq]
      clear hwq
      go_loopw [7] (fun i wr => ∃ k : Nat, i = .int .i64 k ∧ k ≤ l.length ∧ Hid (Mix T w1 wq wr X w4.heap.size w4.heap.size 0 (getL 0 (setAll [] (l.take k))) (setAll [] (l.take k)))) (fun i _ => l.length - (intOf i).toNat)
      case atStart => exact ⟨0, rfl, by omega, M0.out⟩
      case round =>
        obtain ⟨k, rfl, hk, HP⟩ := hrel
        by_cases hlt : k < l.length
        · obtain ⟨b, off, rfl, hbl, p0, p1, p2⟩ := (HL.out.below HP.out.bel) k hlt
          have hst := setAll_take (L := []) hlt
          have hlen := setAll_len (l.take k) []
          have hcel : ∀ W : World, (∀ j, j < w1.heap.size → W.heap[j]? = w1.heap[j]?) → (W.cell? ⟨b, off + k * 3, none⟩ = some (.int .i32 (l[k]).1) ∧ W.cell? ⟨b, off + k * 3 + 1, none⟩ = some (.int .i32 (l[k]).2.1) ∧ W.cell? ⟨b, off + k * 3 + 2, none⟩ = some (.int .i64 (l[k]).2.2)) := fun W hW => by
            obtain ⟨b', off', e', hb', q0, q1, q2⟩ := HL.out k hlt
            simp only [Option.some.injEq, Addr.mk.injEq] at e'
            obtain ⟨rfl, rfl, _⟩ := e'
            have hk9 : ∀ j, W.cell? ⟨b, off + k * 3 + j, none⟩ = w1.cell? ⟨b, off + k * 3 + j, none⟩ := fun j => by unfold World.cell?; simp only [hW b hb']
            exact ⟨(hk9 0).trans q0, (hk9 1).trans q1, (hk9 2).trans q2⟩
          rw [List.length_take] at hlen
          have hlen0 := Nat.zero_le 0
          generalize l[k] = s at *
          obtain ⟨f, t, u⟩ := s
          simp only at p0 p1 p2 hcel
          have HCL := Lib.hid hcel
          have HST := Lib.hid hst
          have g2 : (k : Int) < l.length := by omega
          have hlen2 : (setAll [] (l.take k)).length ≤ 1000 := by first | (simp at hlen; omega) | omega
          have HLEN := Lib.hid hlen2
          clear hst hlen hcel hlen0 hlen2
          have HPd := Lib.hid (HP.out.on (Below.refl _ wr).drew)
          go_upto_region 8 with fail
          go_region_held3 (fun W => (W.cell? ⟨b, off + k * 3, none⟩ = some (.int .i32 f) ∧ W.cell? ⟨b, off + k * 3 + 1, none⟩ = some (.int .i32 t) ∧ W.cell? ⟨b, off + k * 3 + 2, none⟩ = some (.int .i64 u)))
            (first
              | go_keep
              | exact HCL.out _ C5.out)
            (first
              | (go_at_call 12; refine (T.set f t u HPd.out.tb).mono ?_; rintro e w5 ⟨rfl, ht5, m5⟩; have Q5 := Lib.hid (HPd.out.setX ht5 m5); have C5 := Lib.hid (show ∀ j, j < w1.heap.size → w5.heap[j]? = w1.heap[j]? from fun j hj => Q5.out.bel.block j hj); clear ht5 m5))
          all_goals
            have Q5d := Lib.hid (Q5.out.on (Below.refl _ w5).drew)
            obtain ⟨p0, p1, p2⟩ := HCL.out w5 C5.out
            go_upto_region 9 with fail
            go_region_held3 (fun W => (W.cell? ⟨b, off + k * 3, none⟩ = some (.int .i32 f) ∧ W.cell? ⟨b, off + k * 3 + 1, none⟩ = some (.int .i32 t) ∧ W.cell? ⟨b, off + k * 3 + 2, none⟩ = some (.int .i64 u)))
              (first
                | go_keep
                | exact HCL.out _ C6.out)
              (first
                | (go_at_call 13; refine (rset_any _ w4.heap.size w4.heap.size 0 (setAll [] (l.take k)) (f, t, u) Q5d.out.rt HLEN.out).mono ?_; rintro e w6 ⟨rfl, hr6, m6⟩; have Q6 := Lib.hid (Q5d.out.setR hr6 m6); have C6 := Lib.hid (show ∀ j, j < w1.heap.size → w6.heap[j]? = w1.heap[j]? from fun j hj => Q6.out.bel.block j hj); clear hr6 m6))
          all_goals
            go_wp2_with fail
            go_roundw
            case measure => simp [intOf] <;> omega
            case rel =>
              refine ⟨k + 1, by go_num, by omega, ?_⟩
              have h9 := Q6.out
              rw [updS_getL] at h9
              rw [HST.out]
              exact h9
        · obtain rfl : k = l.length := by omega
          have g2 : ¬ (l.length : Int) < l.length := by omega
          have hP := HP.out
          rw [List.take_length] at hP
          have hlen := setAll_len l []
          have hok := setAll_ok l [] (fun x hx => by cases hx)
          simp only [List.length_nil, Nat.zero_add] at hlen
          generalize setAll [] l = L at hP hlen hok
          have HLN := Lib.hid (show L.length ≤ 40 by omega)
          have HOK := Lib.hid hok
          have M1 := Lib.hid hP
          clear hP HP M0 hlen hok
          go_wp2_with fail
          refine (T.copy M1.out.tb).mono ?_
          rintro e w7 ⟨C, rfl, htc, hb7⟩
          have M7 := Lib.hid (M1.out.on hb7)
          have TC7 := Lib.hid htc
          have B7 := Lib.hid hb7
          clear htc hb7
          go_wp2_with fail
          refine (HFAR.out _ _ _ _ _ M7.out.tb).mono ?_
          rintro e w8 ⟨G, lb, rfl, hen, hsq, hb8⟩
          have EN := Lib.hid hen
          have SQ := Lib.hid hsq
          have M8 := Lib.hid (M7.out.on hb8)
          have B8 := Lib.hid hb8
          clear hen hsq hb8 M7
          go_wp2_with fail
          refine (rcopy_any w8 w4.heap.size w4.heap.size 0 L M8.out.rt (by have := HLN.out; omega)).mono ?_
          rintro e w9 ⟨Z, rfl, hrz, hb9⟩
          have B9 := Lib.hid hb9
          have M9 := Lib.hid (M8.out.on hb9)
          have z7 := B7.out.size
          have z8 := B8.out.size
          have z9 := B9.out.size
          have b79 : Below w7.heap.size w7 w9 := B8.out.trans (B9.out.mono z8)
          have bw9 : Below wr.heap.size wr w9 := B7.out.trans (b79.mono z7)
          -- where each of them lies
          have fX : ∀ k, T.fp w9 X k → k < wr.heap.size := fun k hk => (T.fpb M1.out.tb ((T.fpon M1.out.tb (fun k hk _ => bw9.block k hk) k).1 hk)).2
          have fZ : ∀ k, fpR w9 Z k → w8.heap.size ≤ k := fun k hk => (hrz.fp hk).1
          have TC9 : T.Tb w9 wr.heap.size C 0 (getL 0 L) := T.on TC7.out (fun k hk _ => b79.block k hk)
          have fC : ∀ k, T.fp w9 C k → wr.heap.size ≤ k ∧ k < w7.heap.size := fun k hk => T.fpb TC7.out ((T.fpon TC7.out (fun k hk _ => b79.block k hk) k).1 hk)
          have fY : ∀ k, fpR w9 w4.heap.size k → k < wr.heap.size := fun k hk => (M1.out.rt.fp ((fpR_on' M1.out.rt (fun k hk _ => bw9.block k hk) k).1 hk)).2
          have hM2 : Mix T w1 w9 w9 X Z w8.heap.size 0 (getL 0 L) L := ⟨M9.out.bel, Nat.le_trans M8.out.bel.size (Nat.le_refl _), M9.out.tb, hrz, fun k hx hz => by have h1 := fX k hx; have h2 := fZ k hz; omega, Mv.of_below (Below.refl _ _)⟩
          have M2 := Lib.hid hM2
          have FF := Lib.hid (And.intro fX (And.intro fZ (And.intro fC (And.intro fY TC9))))
          have MY := Lib.hid M9.out
          clear hrz hb9 b79 bw9 fX fZ TC9 fC fY hM2 M1 M8 TC7 M9
          have hnf : ∀ (G : Nat) (cap : Array Value) (W : World), (binOp BinOp.eql 38 (.func (.func G) #[] cap) .nilFunc).run Try.prog W = .ok (.bool false) W := fun _ _ _ => by kernel_rfl
          go_wp2_with fail
          obtain ⟨wo, hwo⟩ : ∃ x, x = wr := ⟨_, rfl⟩
          subst hwo
          go_loopw [11] (fun i wx => ∃ k : Nat, i = .int .i64 k ∧ k ≤ m.length ∧ Hid (Mix T w1 w9 wx X Z w8.heap.size 0 (getL 0 (setAll L (m.take k))) (setAll L (m.take k)))) (fun i _ => m.length - (intOf i).toNat)
          case atStart => exact ⟨0, rfl, by omega, M2.out⟩
          case round =>
            obtain ⟨k, rfl, hk, HP⟩ := hrel
            by_cases hlt : k < m.length
            · obtain ⟨b, off, rfl, hbl, p0, p1, p2⟩ := (HM.out.below HP.out.bel) k hlt
              have hst := setAll_take (L := L) hlt
              have hlen := setAll_len (m.take k) L
              have hcel : ∀ W : World, (∀ j, j < w1.heap.size → W.heap[j]? = w1.heap[j]?) → (W.cell? ⟨b, off + k * 3, none⟩ = some (.int .i32 (m[k]).1) ∧ W.cell? ⟨b, off + k * 3 + 1, none⟩ = some (.int .i32 (m[k]).2.1) ∧ W.cell? ⟨b, off + k * 3 + 2, none⟩ = some (.int .i64 (m[k]).2.2)) := fun W hW => by
                obtain ⟨b', off', e', hb', q0, q1, q2⟩ := HM.out k hlt
                simp only [Option.some.injEq, Addr.mk.injEq] at e'
                obtain ⟨rfl, rfl, _⟩ := e'
                have hk9 : ∀ j, W.cell? ⟨b, off + k * 3 + j, none⟩ = w1.cell? ⟨b, off + k * 3 + j, none⟩ := fun j => by unfold World.cell?; simp only [hW b hb']
                exact ⟨(hk9 0).trans q0, (hk9 1).trans q1, (hk9 2).trans q2⟩
              rw [List.length_take] at hlen
              have hlen0 := HLN.out
              generalize m[k] = s at *
              obtain ⟨f, t, u⟩ := s
              simp only at p0 p1 p2 hcel
              have HCL := Lib.hid hcel
              have HST := Lib.hid hst
              have g2 : (k : Int) < m.length := by omega
              have hlen2 : (setAll L (m.take k)).length ≤ 1000 := by first | (simp at hlen; omega) | omega
              have HLEN := Lib.hid hlen2
              clear hst hlen hcel hlen0 hlen2
              have HPd := Lib.hid (HP.out.on (Below.refl _ wr).drew)
              go_upto_region 18 with fail
              go_region_held3 (fun W => (W.cell? ⟨b, off + k * 3, none⟩ = some (.int .i32 f) ∧ W.cell? ⟨b, off + k * 3 + 1, none⟩ = some (.int .i32 t) ∧ W.cell? ⟨b, off + k * 3 + 2, none⟩ = some (.int .i64 u)))
                (first
                  | go_keep
                  | exact HCL.out _ C5.out)
                (first
                  | (go_at_call 12; refine (T.set f t u HPd.out.tb).mono ?_; rintro e w5 ⟨rfl, ht5, m5⟩; have Q5 := Lib.hid (HPd.out.setX ht5 m5); have C5 := Lib.hid (show ∀ j, j < w1.heap.size → w5.heap[j]? = w1.heap[j]? from fun j hj => Q5.out.bel.block j hj); clear ht5 m5))
              all_goals
                have Q5d := Lib.hid (Q5.out.on (Below.refl _ w5).drew)
                obtain ⟨p0, p1, p2⟩ := HCL.out w5 C5.out
                go_upto_region 19 with fail
                go_region_held3 (fun W => (W.cell? ⟨b, off + k * 3, none⟩ = some (.int .i32 f) ∧ W.cell? ⟨b, off + k * 3 + 1, none⟩ = some (.int .i32 t) ∧ W.cell? ⟨b, off + k * 3 + 2, none⟩ = some (.int .i64 u)))
                  (first
                    | go_keep
                    | exact HCL.out _ C6.out)
                  (first
                    | (go_at_call 13; refine (rset_any _ w8.heap.size Z 0 (setAll L (m.take k)) (f, t, u) Q5d.out.rt HLEN.out).mono ?_; rintro e w6 ⟨rfl, hr6, m6⟩; have Q6 := Lib.hid (Q5d.out.setR hr6 m6); have C6 := Lib.hid (show ∀ j, j < w1.heap.size → w6.heap[j]? = w1.heap[j]? from fun j hj => Q6.out.bel.block j hj); clear hr6 m6))
              all_goals
                go_wp2_with fail
                go_roundw
                case measure => simp [intOf] <;> omega
                case rel =>
                  refine ⟨k + 1, by go_num, by omega, ?_⟩
                  have h9 := Q6.out
                  rw [updS_getL] at h9
                  rw [HST.out]
                  exact h9
            · obtain rfl : k = m.length := by omega
              have g2 : ¬ (m.length : Int) < m.length := by omega
              have hP := HP.out
              rw [List.take_length] at hP
              have hlen := setAll_len m L
              have hok2 := setAll_ok m L HOK.out
              have hlen3 : (setAll L m).length ≤ 1000 := by have := HLN.out; omega
              obtain ⟨L2, hL2⟩ : ∃ L2, L2 = setAll L m := ⟨_, rfl⟩
              rw [← hL2] at hP hok2 hlen3
              have M3 := Lib.hid hP
              have HOK2 := Lib.hid hok2
              have HLN2 := Lib.hid hlen3
              obtain ⟨fX, fZ, fC, fY, TC9⟩ := FF.out
              have hmv := hP.mv
              -- what did not move
              have hst : ∀ k, k < w9.heap.size → ¬ T.fp w9 X k → ¬ fpR w9 Z k → wr.heap[k]? = w9.heap[k]? := fun k hk h1 h2 => hmv.keep k hk (fun h => h.elim h1 h2)
              have TCr : T.Tb wr wo.heap.size C 0 (getL 0 L) := T.on TC9 fun k hk hc => hst k hk (fun hx => by have h1 := fX k hx; have h2 := (fC k hc).1; omega) (fun hz => by have h1 := fZ k hz; have h2 := (fC k hc).2; omega)
              have RYr : Rt wr w4.heap.size w4.heap.size 0 L := MY.out.rt.on fun k hk hy => hst k hk (fun hx => MY.out.dj k hx hy) (fun hz => by have h1 := fZ k hz; have h2 := fY k hy; omega)
              have hIt : ∀ k, w7.heap.size ≤ k → k < w8.heap.size → wr.heap[k]? = w8.heap[k]? := fun k h1 h2 => (hst k (by omega) (fun hx => by have h3 := fX k hx; omega) (fun hz => by have h3 := fZ k hz; omega)).trans (B9.out.block k h2)
              have zr : w9.heap.size ≤ wr.heap.size := hmv.size
              have TCR := Lib.hid TCr
              have RYR := Lib.hid RYr
              have HIT := Lib.hid hIt
              clear hP HP M2 hok2 hlen hlen3 fX fZ fC fY TC9 hmv hst TCr RYr hIt FF MY hL2
              go_wp2_with fail
              refine (rall_any wr w4.heap.size w4.heap.size 0 L RYR.out (by have := HLN.out; omega) HOK.out).mono ?_
              rintro e w10 ⟨v3, rfl, ho3, hb⟩
              obtain ⟨A3, c3, rfl, hs3⟩ := own_sps ho3
              have S3 := Lib.hid hs3
              have B10 := Lib.hid hb
              have z10 := hb.size
              have HLL : Hid ((allG (getL 0 L) 0).length ≤ 1114112) := Lib.hid (scan_len _ _ _)
              generalize hL1 : allG (getL 0 L) 0 = L1 at *
              clear ho3 hs3 hb hL1
              go_wp2_with fail
              obtain ⟨w11, hw11⟩ : ∃ x, x = (w10.alloc (.cells #[.slice A3 L1.length c3] 22)).alloc (.cells #[.int .i64 0] 3) := ⟨_, rfl⟩
              have z4 : (w10.alloc (.cells #[.slice A3 L1.length c3] 22)).heap.size = w10.heap.size + 1 := by simp
              have d4 : Below w10.heap.size w10 w11 := by rw [hw11]; exact ((Below.refl _ w10).alloc (Nat.le_refl _) _).alloc (by simp) _
              have k8 : Bk w11 w10.heap.size [.slice A3 L1.length c3] 22 := by
                have h9 : Bk (w10.alloc (.cells #[.slice A3 L1.length c3] 22)) w10.heap.size [.slice A3 L1.length c3] 22 := ⟨heap_alloc_new w10 _⟩
                rw [hw11]; exact h9.below ((Below.refl _ _).alloc (Nat.le_refl _) _)
              have k9 : Bk w11 (w10.heap.size + 1) [.int .i64 0] 3 := ⟨by rw [hw11]; have h9 := heap_alloc_new (w10.alloc (.cells #[.slice A3 L1.length c3] 22)) (.cells #[.int .i64 0] 3); rwa [z4] at h9⟩
              have z11 : w11.heap.size = w10.heap.size + 2 := by rw [hw11]; simp
              rw [← hw11]
              clear hw11 z4
              have D4 := Lib.hid d4
              have D34 : Hid (Below wr.heap.size wr w11) := Lib.hid (B10.out.trans (d4.mono (by omega)))
              have S4 := Lib.hid (S3.out.below d4)
              have K8 := Lib.hid k8
              refine rangeH rfl EN.out (SQ.out w10 (by omega) (fun k h1 h2 => (B10.out.block k (by omega)).trans (HIT.out k h1 h2))) D4.out (fun _ => rfl)
                (fun pre W => fsts pre <+: fsts L1 ∧ Bk W (w10.heap.size + 1) [.int .i64 pre.length] 3 ∧ Below (w10.heap.size + 1) w11 W)
                (fun _ pre _ => ¬ fsts pre <+: fsts L1)
                (fun s A B row hs hg hr => ⟨hs.1, bk_row hs.2.1 hg hr, hs.2.2.grown hg (by have := hs.2.2.size; omega) (fun k e => by have := (hr k e).1; omega)⟩)
                (fun _ _ _ _ _ hs _ _ => hs)
                ⟨List.nil_prefix, k9, Below.refl _ _⟩
                (fun tm Bs x => ((tm.setIfInBounds 128 (.agg #[.int .i32 x.1, .int .i32 x.2.1])).setIfInBounds 129 (.int .i64 x.2.2)).setIfInBounds 14 (.pointer (some ⟨Bs, 0, none⟩)))
                ?assign ?body ?done ?stop
              case stop =>
                rintro D c2 pre W2 _ h1 h2 _
                exact absurd (fsts_prefix h1) h2
              case assign =>
                rintro l2 pre ⟨f2, t2, u2⟩ W2 K ⟨hp, h9, hB2⟩ hz hK
                gi_wp2
                refine hK _ _ ?_ ?_ ?_ ?_ ?_
                · exact (KeepsOthers.alloc _ _).from _
                · exact (Below.refl _ W2).alloc (by omega) _
                · exact ⟨hp, h9.below ((Below.refl _ W2).alloc (Nat.le_refl _) _), hB2.alloc (by have := hB2.size; omega) _⟩
                · simp; omega
                · exact ⟨W2.heap.size, hz, ⟨heap_alloc_new W2 _⟩, by simp⟩
              case body =>
                rintro l2 pre ⟨f2, t2, u2⟩ W2 Bs ⟨hp, h9, hB2⟩ hzW2 hBs hbx hlt
                have b10 : Below w10.heap.size w10 W2 := D4.out.trans (hB2.mono (by omega))
                obtain ⟨b, off, rfl, hbl, p0, p1, p2⟩ := (S3.out.below b10) pre.length hlt
                have hpx : fsts (pre ++ [(f2, t2, u2)]) <+: fsts L1 ↔ f2 = (L1[pre.length]).1 := prefix_moreF hp hlt
                have HPX := Lib.hid hpx
                generalize L1[pre.length] = s at *
                obtain ⟨f1, t1, u1⟩ := s
                simp only at p0 p1 p2
                have h8 := K8.out.on (hB2.block w10.heap.size (by omega))
                have y1 := Bel.cell (h9.c (i := 0) rfl) h9.lt
                have y2 := Bel.cell (h8.c (i := 0) rfl) h8.lt
                have y3 := Bel.cell (hbx.c (i := 0) rfl) hbx.lt
                have y5 := Bel.cell p0 (by show b < _; exact hbl)
                have H6 := Lib.hid (HR.out.below (M3.out.bel.trans ((D34.out.trans (hB2.mono (by omega))).mono M3.out.bel.size)))
                have H9 := Lib.hid h9
                have HBB := Lib.hid hB2
                have g2 : (pre.length : Int) < (L1.length : Int) := by omega
                have g3 : decide (L1.length ≤ pre.length) = false := by simpa using hlt
                have hw64 : wrap64 ((pre.length : Int) + 1) = (pre.length : Int) + 1 := by have := HLL.out; unfold wrap64; omega
                clear hpx p0 p1 p2 h8 h9 hB2 hbx hlt b10
                by_cases e1 : f2 = f1
                · have q1 : (f2 != f1) = false := by simpa using e1
                  have HX := Lib.hid (HPX.out.2 e1)
                  clear e1
                  gi_wp2
                  refine wpIn_round_bel (by kernel_rfl) (by kernel_rfl) (by kernel_rfl) ?_
                  repeat (go_big_quiet_step (fail))
                  refine wpQuiet_nil ?_
                  intro y
                  have y9 := y1 y
                  have f9 := (H9.out.below y.b).fr 0
                  gi_wp2
                  have hyz := y.b.size
                  refine ⟨((keeps_below y.b).trans (KeepsOthers.setCell _ _ _)).from _, (y.b.mono (by omega)).setCell (p := ⟨w10.heap.size + 1, 0, none⟩) (by show w10.heap.size ≤ w10.heap.size + 1; omega) _, ⟨HX.out, ?_, ?_⟩, ?_⟩
                  · have h9 := (H9.out.below y.b).set 0 (.int .i64 ((pre.length : Int) + 1))
                    rw [show (pre ++ [(f2, t2, u2)]).length = pre.length + 1 by simp]
                    try rw [hw64]
                    exact h9
                  · exact (HBB.out.trans (y.b.mono (by omega))).setCell (p := ⟨w10.heap.size + 1, 0, none⟩) (by show w10.heap.size + 1 ≤ w10.heap.size + 1; omega) _
                  · simp [World.setCell]; omega
                · have q1 : (f2 != f1) = true := by simpa using e1
                  have HX := Lib.hid (fun h => e1 (HPX.out.1 h))
                  clear e1
                  gi_wp2
                  refine wpIn_round_bel (by kernel_rfl) (by kernel_rfl) (by kernel_rfl) ?_
                  repeat (go_big_quiet_step (fail))
                  refine wpQuiet_nil ?_
                  intro y
                  have y9 := (H6.out.below y.b).c (i := 0) rfl
                  have f9 := (H6.out.below y.b).fr 0
                  gi_wp2
                  exact ⟨((keeps_below y.b).trans (KeepsOthers.setCell _ _ _)).from _, HX.out⟩
              case done =>
                rintro D ys W2 hD hys ⟨_, h9, hB2⟩ hzW2 hK
                subst hys
                have h8 := K8.out.on (hB2.block w10.heap.size (by omega))
                have BR := Lib.hid (D34.out.trans (hB2.mono (by omega)))
                have EW := Lib.hid (M3.out.bel.trans (BR.out.mono M3.out.bel.size))
                have H6 := Lib.hid (HR.out.below EW.out)
                have HK := Lib.hid hK
                have hDl : D < W2.heap.size := (Array.getElem?_eq_some_iff.1 HK.out).1
                have c9 := h9.c (i := 0) rfl
                have c8 := h8.c (i := 0) rfl
                have eb : ((ys.length : Int) == (ys.length : Int)) = true := by simp
                have hL3 := HLN.out
                have HS1 := Lib.hid (same_any W2 (.pointer (some ⟨C, 0, none⟩)) (getL 0 L) w4.heap.size w4.heap.size 0 L A c l (T.trk (T.on TCR.out (fun k hk _ => BR.out.block k hk))) (RYR.out.below BR.out) (by omega) HOK.out (fun _ _ _ => rfl) (HL.out.below EW.out) h40)
                have M4 := Lib.hid (M3.out.on BR.out)
                clear h9 h8 hB2 hK K8
                go_wp2_with fail
                refine HS1.out.mono ?_
                rintro e w12 ⟨rfl, hb⟩
                have EW2 := Lib.hid (EW.out.trans (hb.mono EW.out.size))
                have M5 := Lib.hid (M4.out.on hb)
                have HK2 := Lib.hid ((hb.block D hDl).trans HK.out)
                have z12 := hb.size
                have HS2 := Lib.hid (same_any w12 (.pointer (some ⟨X, 0, none⟩)) (getL 0 L2) w8.heap.size Z 0 L2 B d m (T.trk M5.out.tb) M5.out.rt HLN2.out HOK2.out (fun _ _ _ => rfl) (HM.out.below EW2.out) m40)
                clear hb c9 c8 HS1 M4 HK
                go_wp2_with fail
                refine HS2.out.mono ?_
                rintro e w13 ⟨rfl, hb⟩
                have EW3 := Lib.hid (EW2.out.trans (hb.mono EW2.out.size))
                have HK3 := Lib.hid ((hb.block D (by omega)).trans HK2.out)
                have z13 := hb.size
                clear hb HS2 M5 HK2
                go_wp2_with fail
                refine (HA.out _).mono ?_
                rintro e w14 ⟨rfl, hb⟩
                have EW4 := Lib.hid (EW3.out.trans (hb.mono EW3.out.size))
                have HK4 := Lib.hid ((hb.block D (by omega)).trans HK3.out)
                have H64 := Lib.hid (HR.out.below EW4.out)
                have c6 := H64.out.c (i := 0) rfl
                have f6 := H64.out.fr 0
                have hzd := M3.out.bel.size
                have hRl : w.heap.size < w1.heap.size := HR.out.lt
                clear hb
                go_wp2_with fail
                have H6t := H64.out.set 0 (.bool true)
                refine leave_mark (D := D) ((Below.heap_setCell _ _ _ _ (by show D ≠ w.heap.size; omega)).trans HK4.out) (leave_nil (v := .bool true) ?_ ⟨rfl, ?_⟩)
                · have h9 := cell_put (D := D) (o := .deferred none) (H6t.c (i := 0) rfl) (by show w.heap.size ≠ D; omega)
                  simp [results, Try.results4, go_sem, h9]
                · exact below_put ((D0.out.trans (EW4.out.mono D0.out.size)).setCell (p := ⟨w.heap.size, 0, none⟩) (by show w.heap.size ≤ w.heap.size; omega) _) (by omega)

end Go.Proofs.Ytfjckdjnnbpcnaa.Tr

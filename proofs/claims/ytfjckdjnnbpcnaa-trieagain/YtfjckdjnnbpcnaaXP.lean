import Derived.Test.YtfjckdjnnbpcnaaXT
namespace Go.Proofs.Ytfjckdjnnbpcnaa.Tr
open Go.RowKit

theorem wide_no {l : List Sp} (h : wideB l = false) : l.length ≤ 40 := by
  unfold wideB at h
  simp only [Bool.or_eq_false_iff, decide_eq_false_iff_not] at h
  omega
set_option maxHeartbeats 16000000 in
set_option maxRecDepth 100000 in
theorem plays_walk (T : Tbl) (hA : ∀ W, Calls Try.prog 11 #[] W fun e w' => e = .returned (.bool true) ∧ Below W.heap.size W w') (nn : Int) (A : Option Addr) (c : Nat) (l : List Sp) (w : World) (hl : Sps w A l) (hll : l.length ≤ 140737488355328) :
    Calls Try.prog 3 #[.int .i64 nn, .slice A l.length c] w fun e w' => e = .returned (.bool true) ∧ Below w.heap.size w w' := by
  have HA := Lib.hid hA
  have HL := Lib.hid hl
  have HN := Lib.hid (T.new w nn)
  clear hA hl
  go_enter Try.func3, Try.ntmps3
  go_wp2_with fail
  refine HN.out.mono ?_
  rintro e w1 ⟨X, rfl, ht, hb⟩
  have T1 := Lib.hid ht
  have D1 := Lib.hid hb
  have HW := Lib.hid (wide_any w1 A c l (HL.out.below hb) hll)
  clear ht hb HN
  cases hw : wideB l with
  | true =>
    rw [hw] at HW
    go_wp2_with fail
    refine HW.out.mono ?_
    rintro e w2 ⟨rfl, m, rfl⟩
    go_wp2_with fail
    refine (HA.out _).mono ?_
    rintro e w9 ⟨rfl, hb9⟩
    have B9 := Lib.hid ((bel_drewN D1.out m).trans (hb9.mono (bel_drewN D1.out m).size))
    clear hb9
    go_wp2_with fail
    go_ret
    exact ⟨rfl, B9.out⟩
  | false =>
    rw [hw] at HW
    have h40 := wide_no hw
    clear hll hw
    go_wp2_with fail
    refine HW.out.mono ?_
    rintro e w2 ⟨rfl, m, rfl⟩
    have T2 := Lib.hid (T.on (w' := w1.drewN m) T1.out (fun _ _ _ => rfl))
    have D2 := Lib.hid (bel_drewN D1.out m)
    clear HW T1 D1
    generalize w1.drewN m = w2 at *
    go_wp2_with fail
    go_loopw [7] (fun i wr => ∃ k : Nat, i = .int .i64 k ∧ k ≤ l.length ∧ Hid (Pair T w wr X w2.heap.size nn (setAll [] (l.take k)))) (fun i _ => l.length - (intOf i).toNat)
    case atStart =>
      refine ⟨0, rfl, by omega, ?_⟩
      have hbx := (Below.refl w2.heap.size w2).alloc (Nat.le_refl _) (.cells #[.int .i64 nn, .slice none 0 0] 29)
      refine ⟨D2.out.trans (hbx.mono D2.out.size), T.on T2.out (fun k hk _ => hbx.block k hk), ⟨D2.out.size, _, ⟨heap_alloc_new w2 _⟩, World.ownsRow_nil _ _ _ _⟩, fun k hk hr => ?_⟩
      have hk' := (T.fpon T2.out (fun k hk _ => hbx.block k hk) k).1 hk
      have h1 := (T.fpb T2.out hk').2
      rcases hr with rfl | ⟨n', v', h3, h4⟩
      · omega
      · have h5 := (heap_alloc_new w2 (.cells #[.int .i64 nn, .slice none 0 0] 29)).symm.trans h3.blk
        simp at h5
        rw [← h5.2] at h4
        cases h4
    case round =>
      obtain ⟨k, rfl, hk, HP⟩ := hrel
      by_cases hlt : k < l.length
      · obtain ⟨b, off, rfl, hbl, p0, p1, p2⟩ := (HL.out.below HP.out.bel) k hlt
        have hst := setAll_take (L := []) hlt
        have hlen := setAll_len (l.take k) []
        have hcel : ∀ W : World, (∀ j, j < w.heap.size → W.heap[j]? = w.heap[j]?) → (W.cell? ⟨b, off + k * 3, none⟩ = some (.int .i32 (l[k]).1) ∧ W.cell? ⟨b, off + k * 3 + 1, none⟩ = some (.int .i32 (l[k]).2.1) ∧ W.cell? ⟨b, off + k * 3 + 2, none⟩ = some (.int .i64 (l[k]).2.2)) := fun W hW => by
          obtain ⟨b', off', e', hb', q0, q1, q2⟩ := HL.out k hlt
          simp only [Option.some.injEq, Addr.mk.injEq] at e'
          obtain ⟨rfl, rfl, _⟩ := e'
          have hk9 : ∀ j, W.cell? ⟨b, off + k * 3 + j, none⟩ = w.cell? ⟨b, off + k * 3 + j, none⟩ := fun j => by unfold World.cell?; simp only [hW b hb']
          exact ⟨(hk9 0).trans q0, (hk9 1).trans q1, (hk9 2).trans q2⟩
        rw [List.length_take] at hlen
        generalize l[k] = s at *
        obtain ⟨f, t, u⟩ := s
        simp only at p0 p1 p2 hcel
        have HCL := Lib.hid hcel
        have HST := Lib.hid hst
        have g2 : (k : Int) < l.length := by omega
        have hlen2 : (setAll [] (l.take k)).length ≤ 1000 := by simp at hlen; omega
        have eb : ∀ z : Int, (z != z) = false := fun z => by simp
        clear hst hlen hcel
        have HPd := Lib.hid (HP.out.on (Below.refl _ wr).drew)
        go_upto_region 8 with fail
        go_region_held3 (fun W => (W.cell? ⟨b, off + k * 3, none⟩ = some (.int .i32 f) ∧ W.cell? ⟨b, off + k * 3 + 1, none⟩ = some (.int .i32 t) ∧ W.cell? ⟨b, off + k * 3 + 2, none⟩ = some (.int .i64 u)))
          (first
            | go_keep
            | exact HCL.out _ C5.out
            | exact HCL.out _ C6.out)
          (first
            | (go_at_call 12; refine (T.set f t u HPd.out.tb).mono ?_; rintro e w5 ⟨rfl, ht5, m5⟩; have Q5 := Lib.hid (And.intro ht5 m5); have R5 := Lib.hid (HPd.out.rt.on (fun k hk hf => m5.keep k hk (fun ht => HPd.out.dj k ht hf))); have C5 := Lib.hid (show ∀ j, j < w.heap.size → w5.heap[j]? = w.heap[j]? from fun j hj => (m5.keep j (Nat.lt_of_lt_of_le hj HPd.out.bel.size) (fun hf => by have := (T.fpb HPd.out.tb hf).1; omega)).trans (HPd.out.bel.block j hj)); have hz5 := m5.size; clear ht5 m5)
            | (go_at_call 13; refine (rset_any _ w.heap.size w2.heap.size nn (setAll [] (l.take k)) (f, t, u) R5.out hlen2).mono ?_; rintro e w6 ⟨rfl, hr6, m6⟩; have Q6 := Lib.hid (And.intro hr6 m6); have C6 := Lib.hid (show ∀ j, j < w.heap.size → w6.heap[j]? = w.heap[j]? from fun j hj => (m6.keep j (by have := HPd.out.bel.size; omega) (fun hf => by have := (R5.out.fp hf).1; omega)).trans (C5.out j hj)); clear hr6 m6))
        all_goals
          go_wp2_with fail
          go_roundw
          case measure => simp [intOf] <;> omega
          case rel =>
            refine ⟨k + 1, by go_num, by omega, ?_⟩
            rw [HST.out]
            exact HPd.out.set Q5.out.1 Q5.out.2 (fun _ => Q6.out)
      · obtain rfl : k = l.length := by omega
        have g2 : ¬ (l.length : Int) < l.length := by omega
        have hP := HP.out
        rw [List.take_length] at hP
        have hlen := setAll_len l []
        simp only [List.length_nil, Nat.zero_add] at hlen
        have DP := Lib.hid hP.bel
        have HS := Lib.hid (same_any wr (.pointer (some ⟨X, 0, none⟩)) (getL nn (setAll [] l)) w.heap.size w2.heap.size nn (setAll [] l) A c l (T.trk hP.tb) hP.rt (by omega) (setAll_ok l [] (fun x hx => by cases hx)) (fun _ _ _ => rfl) (HL.out.below hP.bel) h40)
        clear hP HP
        go_wp2_with fail
        refine HS.out.mono ?_
        rintro e w8 ⟨rfl, hb8⟩
        have D8 := Lib.hid (DP.out.trans (hb8.mono DP.out.size))
        clear hb8
        go_wp2_with fail
        refine (HA.out _).mono ?_
        rintro e w9 ⟨rfl, hb9⟩
        have D9 := Lib.hid (D8.out.trans (hb9.mono D8.out.size))
        clear hb9
        go_wp2_with fail
        go_ret
        exact ⟨rfl, D9.out⟩

end Go.Proofs.Ytfjckdjnnbpcnaa.Tr

/- UcdPrints: for every input the law returns true and it reads as before: which rows may be, and which lines they are. Conditions: the library's tables as the program's text lays them (tied). -/
import Derived.Test.YtajhgbcgbgpcjaaGreatDoorGW
import Derived.Test.YtajhgbcgbgpcjaaGreatDoorGRd
import Derived.Test.YtajhgbcgbgpcjaaGreatDoorFTb
import Derived.Test.YtajhgbcgbgpcjaaGreatDoorCards
import Derived.ShutString
import Derived.ChangeOld
namespace Go.Proofs.YtajhgbcgbgpcjaaGreatDoor
open Go.ChangeShapes Go.WideShapes Go.ChangeAt Go.WideMaps Go.WideElems Go.RowKit
open Go.ChangeMaps (open_string shut_string)
open Fi Uc

theorem prp_det (l : List Rw) : ∃ (s : ByteArray) (er : Int), ∀ w e w', PrP w l e w' → e = .returned (.tuple #[.string s, .int .i64 er]) ∧ Below w.heap.size w w' := by
  by_cases h1 : chks l = 0
  · by_cases h2 : Rise l
    · refine ⟨⟨(l.flatMap lineS).toArray⟩, 0, fun w e w' h => ⟨?_, h.2⟩⟩
      rcases h.1 with h3 | h3 | h3
      · exact absurd h1 h3.1
      · exact absurd h2 h3.2.1
      · exact h3.2.2
    · refine ⟨⟨#[]⟩, 12, fun w e w' h => ⟨?_, h.2⟩⟩
      rcases h.1 with h3 | h3 | h3
      · exact absurd h1 h3.1
      · exact h3.2.2
      · exact absurd h3.2.1 h2
  · refine ⟨⟨#[]⟩, chks l, fun w e w' h => ⟨?_, h.2⟩⟩
    rcases h.1 with h3 | h3 | h3
    · exact h3.2
    · exact absurd h3.1 h1
    · exact absurd h3.1 h1
theorem rrow_info : (Tryz.prog.info? 28).map (fun i => (i.zero, i.size, i.bytes)) = some (some (.agg zC.toArray), 7, 88) := by kernel_rfl
def RowSm (x : Rw) : Prop := x.nm.length ≤ 300 ∧ x.ct.length ≤ 300 ∧ x.kd.length ≤ 300 ∧ x.into.length ≤ 60
structure PmR (w wr : World) (vm : Value) (k : Nat) (l : List Rw) (q : List (Rw × Value)) : Prop where
  bel : Below w.heap.size w wr
  own : wr.ownsRow w.heap.size 28 7 vm q.length (rCs q)
  fst : q.map Prod.fst = l.take k
  ints : ∀ x ∈ q, IntV w x.2 x.1.into
  bd : ∀ x ∈ l.take k, RowSm x
theorem PmR.below {w wr w' : World} {vm : Value} {k : Nat} {l : List Rw} {q : List (Rw × Value)} (h : PmR w wr vm k l q) (hb : Below wr.heap.size wr w') : PmR w w' vm k l q :=
  ⟨h.bel.trans (hb.mono h.bel.size), own_below' h.own hb, h.fst, h.ints, h.bd⟩
theorem PmR.len {w wr : World} {vm : Value} {k : Nat} {l : List Rw} {q : List (Rw × Value)} (h : PmR w wr vm k l q) : q.length = (l.take k).length := by rw [← h.fst, List.length_map]
theorem PmR.rws {w wr : World} {vm : Value} {k : Nat} {l : List Rw} {q : List (Rw × Value)} (h : PmR w wr vm k l q) : ∃ A c, vm = .slice A (l.take k).length c ∧ Rws wr A (l.take k) := by
  rw [← h.fst, List.length_map]
  rcases h.own.2 with ⟨hv, hn⟩ | ⟨g, cap, cur, hv, hg, hh, hn, hm, hc, ht⟩
  · exact ⟨none, 0, by rw [hv, hn], fun i hi => by rw [List.length_map] at hi; omega⟩
  · have hq := fun j u hj => h.own.cells (g := g) (by rw [hv]; rfl) j u hj
    have e : ∀ j, (⟨g, 0, none⟩ : Addr).add j = ⟨g, j, none⟩ := fun j => by unfold Addr.add; split <;> simp_all
    simp only [e] at hq
    refine ⟨some ⟨g, 0, none⟩, cap, hv, fun i hi => ?_⟩
    have hi' : i < q.length := by simpa using hi
    have hr : ∀ j u, j < 7 → (rC q[i].1 q[i].2)[j]? = some u → wr.cell? ⟨g, 0 + i * 7 + j, none⟩ = some u := fun j u hj hu => by
      rw [Nat.zero_add]
      exact hq (i * 7 + j) u ((rCs_at q i hi' j hj).trans hu)
    refine ⟨g, 0, q[i].2, rfl, (h.own.lt g (by rw [hv]; rfl)).2, ?_, ?_⟩
    · simp only [List.getElem_map]
      exact (h.ints _ (List.getElem_mem hi')).below h.bel
    · simp only [List.getElem_map]
      exact ⟨hr 0 _ (by omega) rfl, hr 1 _ (by omega) rfl, hr 2 _ (by omega) rfl, hr 3 _ (by omega) rfl, hr 4 _ (by omega) rfl, hr 5 _ (by omega) rfl, hr 6 _ (by omega) rfl⟩
theorem pmr_more {w wr wa w6 : World} {vm v6 v : Value} {k : Nat} {l : List Rw} {q : List (Rw × Value)} {y : Rw} (h : PmR w wr vm k l q) (ha : Below wr.heap.size wr wa) (ht : l.take (k + 1) = l.take k ++ [y]) (hi : IntV w v y.into) (hd : RowSm y)
    (ho : w6.ownsRow w.heap.size 28 7 v6 (q.length + 1) (rCs q ++ rC y v)) (hg : wa.grownBy w6 vm.ownBlock) : PmR w w6 v6 (k + 1) l (q ++ [(y, v)]) := by
  have hb := h.bel.trans (ha.mono h.bel.size)
  refine ⟨hb.grown hg hb.size (fun z hz => (h.own.lt z hz).1), ?_, ?_, fun x hx => ?_, fun x hx => ?_⟩
  · have : (q ++ [(y, v)]).length = q.length + 1 := by simp
    rw [this, rCs_app]
    exact ho
  · rw [ht, List.map_append, h.fst]; rfl
  · rcases List.mem_append.1 hx with hx | hx
    · exact h.ints x hx
    · simp at hx; subst hx; exact hi
  · rw [ht] at hx
    rcases List.mem_append.1 hx with hx | hx
    · exact h.bd x hx
    · simp at hx; subst hx; exact hd
theorem rws_take {w : World} {A : Option Addr} {l : List Rw} {k : Nat} {y : Rw} (h : Rws w A (l.take k ++ [y])) (hk : k ≤ l.length) : ∃ b off v, A = some ⟨b, off, none⟩ ∧ b < w.heap.size ∧ IntV w v y.into ∧
    w.cell? ⟨b, off + k * 7, none⟩ = some (.int .i32 y.fr) ∧ w.cell? ⟨b, off + k * 7 + 1, none⟩ = some (.int .i32 y.tt) ∧
    w.cell? ⟨b, off + k * 7 + 2, none⟩ = some (.string ⟨y.nm.toArray⟩) ∧ w.cell? ⟨b, off + k * 7 + 3, none⟩ = some (.string ⟨y.ct.toArray⟩) ∧
    w.cell? ⟨b, off + k * 7 + 4, none⟩ = some (.int .i64 y.cl) ∧ w.cell? ⟨b, off + k * 7 + 5, none⟩ = some (.string ⟨y.kd.toArray⟩) ∧
    w.cell? ⟨b, off + k * 7 + 6, none⟩ = some v := by
  have hl : (l.take k).length = k := by rw [List.length_take]; omega
  have e : (l.take k ++ [y])[k]'(by simp; omega) = y := by
    rw [List.getElem_append_right (by omega)]
    simp [hl]
  have h9 := h k (by simp; omega)
  rw [e] at h9
  exact h9
set_option maxRecDepth 100000 in
set_option maxHeartbeats 16000000 in
theorem ucdPrints_walk (A : Option Addr) (cap : Nat) (l : List Rw) (w : World) (hR : Rws w A l) (hB : ∀ x ∈ l, RowBd x) (hL : Ml w) (hT : Tz w) (hP : Pw w) : Calls Tryz.prog 3 #[.slice A l.length cap] w fun e w' => e = .returned (.bool true) ∧ Below w.heap.size w w' := by
  have hpos := hL.pos
  have HFin := Lib.hid (show ∀ w2 : World, Below w.heap.size w w2 → Calls Tryz.prog 5 #[] w2 fun e w' => e = .returned (.bool true) ∧ Below w2.heap.size w2 w' from fun w2 h => Uc.awake_any w2 (hL.below h hpos))
  have HR := Lib.hid hR
  have HB := Lib.hid hB
  have HT := Lib.hid hT
  have HP := Lib.hid hP
  clear hR hB hT hP hL
  obtain ⟨i0, hi0, hz0, hz1, hz2⟩ := info_parts rrow_info
  have I0 := Lib.hid hi0
  have I1 := Lib.hid hz0
  have I2 := Lib.hid hz1
  have I3 := Lib.hid hz2
  clear hi0 hz0 hz1 hz2
  by_cases h1 : l.length ≤ 40
  · have g1 : ¬ (40 : Int) < l.length := by omega
    go_enter Tryz.func3, Tryz.ntmps3
    go_wp2_with fail
    go_loopw [3, 4] (fun vm i wr => ∃ k : Nat, i = .int .i64 k ∧ k ≤ l.length ∧ ∃ q, Hid (PmR w wr vm k l q)) (fun _ i _ => l.length - (intOf i).toNat)
    case atStart => exact ⟨0, rfl, by omega, [], ⟨Below.refl _ _, World.ownsRow_nil _ _ _ _, rfl, fun x hx => by simp at hx, fun x hx => by simp at hx⟩⟩
    case round =>
      obtain ⟨k, rfl, hk, q, HQ⟩ := hrel
      obtain ⟨vm, hvm⟩ : ∃ vm, vm = u3 := ⟨_, rfl⟩
      subst hvm
      by_cases hlt : k < l.length
      · obtain ⟨b, off, v, rfl, hb, hv, p0, p1, p2, p3, p4, p5, p6⟩ := HR.out k hlt
        have HTK := Lib.hid (show l.take (k + 1) = l.take k ++ [l[k]] from List.take_succ_eq_append_getElem hlt)
        have HQL := Lib.hid (show q.length = k by rw [HQ.out.len, List.length_take]; omega)
        generalize l[k] = y at *
        obtain ⟨f, tt, nm, ct, cl, kd, into⟩ := y
        obtain ⟨A3, c3, rfl, hi3⟩ := hv
        simp only at p0 p1 p2 p3 p4 p5 p6 hi3
        obtain ⟨nb, hnb⟩ : ∃ nb : ByteArray, nb = ⟨nm.toArray⟩ := ⟨_, rfl⟩
        obtain ⟨cb, hcb⟩ : ∃ cb : ByteArray, cb = ⟨ct.toArray⟩ := ⟨_, rfl⟩
        obtain ⟨kb, hkb⟩ : ∃ kb : ByteArray, kb = ⟨kd.toArray⟩ := ⟨_, rfl⟩
        rw [← hnb] at p2
        rw [← hcb] at p3
        rw [← hkb] at p5
        have HNB := Lib.hid hnb
        have HCB := Lib.hid hcb
        have HKB := Lib.hid hkb
        clear hnb hcb hkb
        have HI3 := Lib.hid (show IntV w (.slice A3 into.length c3) into from ⟨A3, c3, rfl, hi3⟩)
        have HBL := Lib.hid hb
        have g2 : (k : Int) < l.length := by omega
        have D1 := Lib.hid HQ.out.bel
        have P0 := Lib.hid (And.intro p0 (And.intro p1 (And.intro p2 (And.intro p3 (And.intro p4 (And.intro p5 p6))))))
        have q0 := (D1.out.cell (p := ⟨b, off + k * 7, none⟩) hb).trans p0
        have q1 := (D1.out.cell (p := ⟨b, off + k * 7 + 1, none⟩) hb).trans p1
        have q2 := (D1.out.cell (p := ⟨b, off + k * 7 + 2, none⟩) hb).trans p2
        have q3 := (D1.out.cell (p := ⟨b, off + k * 7 + 3, none⟩) hb).trans p3
        have q4 := (D1.out.cell (p := ⟨b, off + k * 7 + 4, none⟩) hb).trans p4
        have q5 := (D1.out.cell (p := ⟨b, off + k * 7 + 5, none⟩) hb).trans p5
        have q6 := (D1.out.cell (p := ⟨b, off + k * 7 + 6, none⟩) hb).trans p6
        clear p0 p1 p2 p3 p4 p5 p6 hi3 hb
        by_cases t1 : nb.size ≤ 300
        · have j1 : ¬ (300 : Int) < nb.size := by omega
          by_cases t2 : cb.size ≤ 300
          · have j2 : ¬ (300 : Int) < cb.size := by omega
            by_cases t3 : kb.size ≤ 300
            · have j3 : ¬ (300 : Int) < kb.size := by omega
              by_cases t4 : into.length ≤ 60
              · have j4 : ¬ (60 : Int) < into.length := by omega
                have HBD := Lib.hid (show RowSm ⟨f, tt, nm, ct, cl, kd, into⟩ by
                  have e1 := HNB.out
                  have e2 := HCB.out
                  have e3 := HKB.out
                  subst e1 e2 e3
                  rw [size_mk] at t1 t2 t3
                  exact ⟨t1, t2, t3, t4⟩)
                have HPl := Lib.hid (fun W => Uc.plain_any f tt cl nb cb kb A3 into.length c3 W)
                have hql := HQL.out
                have HK6 := Lib.hid (show (l.take (k + 1)).length = k + 1 by rw [List.length_take]; omega)
                go_upto_region 10 with (first
                  | (go_at_call 6; refine (HPl.out _).mono ?_; rintro e w7 ⟨rfl, hb7⟩; have E7 := Lib.hid hb7; have OW7 := Lib.hid (own_below' HQ.out.own hb7); have z7 := Nat.le_trans HQ.out.bel.size hb7.size; clear hb7)
                  | (at_builtin; refine wpList_append_own_at _ rfl (.tmp 54) (.tmp 60) _ rfl w.heap.size 28 i0 _ 7 88 Tryz.underlying24 I0.out I1.out I2.out I3.out rfl (by omega) vm q.length _ rfl (OW7.out.alloc _) ⟨w7.heap.size, 0, none⟩ 1 1 [.int .i32 f, .int .i32 tt, .string nb, .string cb, .int .i64 cl, .string kb, .slice A3 into.length c3] rfl rfl (World.news_of_block (cs := #[.int .i32 f, .int .i32 tt, .string nb, .string cb, .int .i64 cl, .string kb, .slice A3 into.length c3]) (t := 28) (fr := (0, 0)) (heap_alloc_new w7 _)) (by simp [Value.oneCell']) (by unfold maxLen; omega) (by omega) (by simp; omega) ?_; intro v6 w6 ho6 hg6 hn6 ha6; have P6 := Lib.hid (pmr_more HQ.out (E7.out.alloc E7.out.size (.cells #[.int .i32 f, .int .i32 tt, .string nb, .string cb, .int .i64 cl, .string kb, .slice A3 into.length c3] 28)) HTK.out HI3.out HBD.out (by have h8 := ho6; rw [HNB.out, HCB.out, HKB.out] at h8; exact h8) hg6); clear ho6 hg6 hn6 ha6; obtain ⟨A6, c6, hv6, hr6⟩ := P6.out.rws; rw [HK6.out] at hv6; subst hv6; rw [HTK.out] at hr6; obtain ⟨b2, off2, v2, rfl, hb2, hv2, r0, r1, r2, r3, r4, r5, r6⟩ := rws_take hr6 (by omega); obtain ⟨A4, c4, rfl, hi4⟩ := hv2; simp only at r0 r1 r2 r3 r4 r5 r6 hi4; clear hr6))
                have HB2 := Lib.hid hb2
                clear hb2
                have D6 := Lib.hid P6.out.bel
                obtain ⟨p0, p1, p2, p3, p4, p5, p6⟩ := P0.out
                have a0 := (D6.out.cell (p := ⟨b, off + k * 7, none⟩) HBL.out).trans p0
                have a1 := (D6.out.cell (p := ⟨b, off + k * 7 + 1, none⟩) HBL.out).trans p1
                have a2 := (D6.out.cell (p := ⟨b, off + k * 7 + 2, none⟩) HBL.out).trans p2
                have a3 := (D6.out.cell (p := ⟨b, off + k * 7 + 3, none⟩) HBL.out).trans p3
                have a4 := (D6.out.cell (p := ⟨b, off + k * 7 + 4, none⟩) HBL.out).trans p4
                have a5 := (D6.out.cell (p := ⟨b, off + k * 7 + 5, none⟩) HBL.out).trans p5
                have a6 := (D6.out.cell (p := ⟨b, off + k * 7 + 6, none⟩) HBL.out).trans p6
                clear p0 p1 p2 p3 p4 p5 p6 q0 q1 q2 q3 q4 q5 q6
                rw [← HNB.out] at r2
                rw [← HCB.out] at r3
                rw [← HKB.out] at r5
                have HBL6 := Lib.hid (show b < w6.heap.size from Nat.lt_of_lt_of_le HBL.out D6.out.size)
                have HCl := Lib.hid (show ∀ W, Below w6.heap.size w6 W → (W.cell? ⟨b, off + k * 7, none⟩ = some (.int .i32 f) ∧ W.cell? ⟨b, off + k * 7 + 1, none⟩ = some (.int .i32 tt) ∧ W.cell? ⟨b, off + k * 7 + 2, none⟩ = some (.string nb) ∧ W.cell? ⟨b, off + k * 7 + 3, none⟩ = some (.string cb) ∧ W.cell? ⟨b, off + k * 7 + 4, none⟩ = some (.int .i64 cl) ∧ W.cell? ⟨b, off + k * 7 + 5, none⟩ = some (.string kb) ∧ W.cell? ⟨b, off + k * 7 + 6, none⟩ = some (.slice A3 into.length c3) ∧ W.cell? ⟨b2, off2 + k * 7, none⟩ = some (.int .i32 f) ∧ W.cell? ⟨b2, off2 + k * 7 + 1, none⟩ = some (.int .i32 tt) ∧ W.cell? ⟨b2, off2 + k * 7 + 2, none⟩ = some (.string nb) ∧ W.cell? ⟨b2, off2 + k * 7 + 3, none⟩ = some (.string cb) ∧ W.cell? ⟨b2, off2 + k * 7 + 4, none⟩ = some (.int .i64 cl) ∧ W.cell? ⟨b2, off2 + k * 7 + 5, none⟩ = some (.string kb) ∧ W.cell? ⟨b2, off2 + k * 7 + 6, none⟩ = some (.slice A4 into.length c4)) from fun W h9 => ⟨(h9.cell (p := ⟨b, off + k * 7, none⟩) HBL6.out).trans a0, (h9.cell (p := ⟨b, off + k * 7 + 1, none⟩) HBL6.out).trans a1, (h9.cell (p := ⟨b, off + k * 7 + 2, none⟩) HBL6.out).trans a2, (h9.cell (p := ⟨b, off + k * 7 + 3, none⟩) HBL6.out).trans a3, (h9.cell (p := ⟨b, off + k * 7 + 4, none⟩) HBL6.out).trans a4, (h9.cell (p := ⟨b, off + k * 7 + 5, none⟩) HBL6.out).trans a5, (h9.cell (p := ⟨b, off + k * 7 + 6, none⟩) HBL6.out).trans a6, (h9.cell (p := ⟨b2, off2 + k * 7, none⟩) HB2.out).trans r0, (h9.cell (p := ⟨b2, off2 + k * 7 + 1, none⟩) HB2.out).trans r1, (h9.cell (p := ⟨b2, off2 + k * 7 + 2, none⟩) HB2.out).trans r2, (h9.cell (p := ⟨b2, off2 + k * 7 + 3, none⟩) HB2.out).trans r3, (h9.cell (p := ⟨b2, off2 + k * 7 + 4, none⟩) HB2.out).trans r4, (h9.cell (p := ⟨b2, off2 + k * 7 + 5, none⟩) HB2.out).trans r5, (h9.cell (p := ⟨b2, off2 + k * 7 + 6, none⟩) HB2.out).trans r6⟩)
                have HI6 := Lib.hid (show Ints .i32 w6 A3 into by
                  obtain ⟨A9, c9, e9, h9⟩ := HI3.out.below D6.out
                  injection e9 with e1 e2 e3
                  subst e1
                  exact h9)
                have HI4 := Lib.hid hi4
                obtain ⟨er, her⟩ : ∃ er, er = chkE ⟨f, tt, nb.data.toList, cb.data.toList, cl, kb.data.toList, into⟩ := ⟨_, rfl⟩
                have HCk := Lib.hid (show ∀ W, Below w6.heap.size w6 W → Calls Tryz.prog 7 #[.agg #[.int .i32 f, .int .i32 tt, .string nb, .string cb, .int .i64 cl, .string kb, .slice A3 into.length c3]] W fun e w' => e = .returned (.int .i64 er) ∧ Below W.heap.size W w' from fun W h => by rw [her]; exact check_any f tt cl nb cb kb A3 c3 into W (HI6.out.below h) (by omega) (by omega) (by omega))
                have HRk := Lib.hid (show ∀ W, Below w6.heap.size w6 W → Calls Tryz.prog 8 #[.agg #[.int .i32 f, .int .i32 tt, .string nb, .string cb, .int .i64 cl, .string kb, .slice A4 into.length c4]] W fun e w' => e = .returned (.int .i64 er) ∧ Below W.heap.size W w' from fun W h => by rw [her]; exact rcheck_any f tt cl nb cb kb A4 c4 into W (HI4.out.below h) (by omega) (by omega) (by omega) (by omega))
                have e9 : (er != er) = false := by simp
                have g6 : (k : Int) < (k : Int) + 1 := by omega
                clear her hi4
                go_region_held3 (fun W => (W.cell? ⟨b, off + k * 7, none⟩ = some (.int .i32 f) ∧ W.cell? ⟨b, off + k * 7 + 1, none⟩ = some (.int .i32 tt) ∧ W.cell? ⟨b, off + k * 7 + 2, none⟩ = some (.string nb) ∧ W.cell? ⟨b, off + k * 7 + 3, none⟩ = some (.string cb) ∧ W.cell? ⟨b, off + k * 7 + 4, none⟩ = some (.int .i64 cl) ∧ W.cell? ⟨b, off + k * 7 + 5, none⟩ = some (.string kb) ∧ W.cell? ⟨b, off + k * 7 + 6, none⟩ = some (.slice A3 into.length c3) ∧ W.cell? ⟨b2, off2 + k * 7, none⟩ = some (.int .i32 f) ∧ W.cell? ⟨b2, off2 + k * 7 + 1, none⟩ = some (.int .i32 tt) ∧ W.cell? ⟨b2, off2 + k * 7 + 2, none⟩ = some (.string nb) ∧ W.cell? ⟨b2, off2 + k * 7 + 3, none⟩ = some (.string cb) ∧ W.cell? ⟨b2, off2 + k * 7 + 4, none⟩ = some (.int .i64 cl) ∧ W.cell? ⟨b2, off2 + k * 7 + 5, none⟩ = some (.string kb) ∧ W.cell? ⟨b2, off2 + k * 7 + 6, none⟩ = some (.slice A4 into.length c4)))
                  (first
                    | go_keep
                    | exact HCl.out _ E8.out
                    | exact HCl.out _ E9.out)
                  (first
                    | (go_at_call 7; refine (HCk.out _ (by repeat (first | exact Below.refl _ _ | exact E9.out | refine Below.drew ?_))).mono ?_; rintro e w8 ⟨rfl, hb8⟩; have E8 := Lib.hid (show Below w6.heap.size w6 w8 from Below.trans (by repeat (first | exact Below.refl _ _ | exact E9.out | refine Below.drew ?_)) (hb8.mono (by first | exact E9.out.size | simp))); clear hb8)
                    | (go_at_call 8; refine (HRk.out _ (by repeat (first | exact Below.refl _ _ | exact E8.out | refine Below.drew ?_))).mono ?_; rintro e w9 ⟨rfl, hb9⟩; have E9 := Lib.hid (show Below w6.heap.size w6 w9 from Below.trans (by repeat (first | exact Below.refl _ _ | exact E8.out | refine Below.drew ?_)) (hb9.mono (by first | exact E8.out.size | simp))); clear hb9))
                all_goals
                  go_wp2_with fail
                  go_roundw
                  case rel => exact ⟨k + 1, by go_num, by omega, _, P6.out.below (by first | exact E9.out | exact E8.out)⟩
                  case measure => simp [intOf] <;> omega
              · have j4 : (60 : Int) < into.length := by omega
                go_wp2_with fail
                refine (HFin.out _ D1.out).mono ?_
                rintro e w9 ⟨rfl, hb9⟩
                have B9 := Lib.hid (D1.out.trans (hb9.mono D1.out.size))
                clear hb9
                go_wp2_with fail
                go_ret
                exact ⟨rfl, B9.out⟩
            · have j3 : (300 : Int) < kb.size := by omega
              go_wp2_with fail
              refine (HFin.out _ D1.out).mono ?_
              rintro e w9 ⟨rfl, hb9⟩
              have B9 := Lib.hid (D1.out.trans (hb9.mono D1.out.size))
              clear hb9
              go_wp2_with fail
              go_ret
              exact ⟨rfl, B9.out⟩
          · have j2 : (300 : Int) < cb.size := by omega
            go_wp2_with fail
            refine (HFin.out _ D1.out).mono ?_
            rintro e w9 ⟨rfl, hb9⟩
            have B9 := Lib.hid (D1.out.trans (hb9.mono D1.out.size))
            clear hb9
            go_wp2_with fail
            go_ret
            exact ⟨rfl, B9.out⟩
        · have j1 : (300 : Int) < nb.size := by omega
          go_wp2_with fail
          refine (HFin.out _ D1.out).mono ?_
          rintro e w9 ⟨rfl, hb9⟩
          have B9 := Lib.hid (D1.out.trans (hb9.mono D1.out.size))
          clear hb9
          go_wp2_with fail
          go_ret
          exact ⟨rfl, B9.out⟩
      · have g2 : ¬ (k : Int) < l.length := by omega
        obtain rfl : k = l.length := by omega
        obtain ⟨A6, c6, hv6, hr6⟩ := HQ.out.rws
        have hbd := HQ.out.bd
        rw [List.take_length] at hv6 hr6 hbd
        subst hv6
        have D1 := Lib.hid HQ.out.bel
        have HR6 := Lib.hid hr6
        have HBD := Lib.hid hbd
        clear HQ hr6 hbd
        obtain ⟨s, er, hdet⟩ := prp_det l
        have HP1 := Lib.hid ((print_any A cap l wr (HR.out.below D1.out) (by omega) (fun x hx => ⟨(HB.out x hx).nm, (HB.out x hx).ct, (HBD.out x hx).2.2.1⟩) (tz_on HT.out D1.out) (pw_on HP.out D1.out)).mono (hdet wr))
        have HP2 := Lib.hid (show ∀ W, Below wr.heap.size wr W → Calls Tryz.prog 10 #[.slice A6 l.length c6] W fun e w' => e = .returned (.tuple #[.string s, .int .i64 er]) ∧ Below W.heap.size W w' from fun W h => (rprint_any A6 c6 l W (HR6.out.below h) (by omega) (fun x hx => by have h8 := HBD.out x hx; exact ⟨by have := h8.1; omega, by have := h8.2.1; omega, h8.2.2.1, by have := h8.2.2.2; omega⟩)).mono (hdet W))
        clear hdet
        have e8 : (er == er) = true := by simp
        have e9 : (decide (s = s)) = true := by simp
        go_wp2_with (first
          | (go_at_call 9; refine HP1.out.mono ?_; rintro e w2 ⟨rfl, hb2⟩; have E2 := Lib.hid hb2; clear hb2)
          | (go_at_call 10; refine (HP2.out _ E2.out).mono ?_; rintro e w3 ⟨rfl, hb3⟩; have D3 := Lib.hid (D1.out.trans ((E2.out.trans (hb3.mono E2.out.size)).mono D1.out.size)); clear hb3))
        refine (HFin.out _ D3.out).mono ?_
        rintro e w9 ⟨rfl, hb9⟩
        have B9 := Lib.hid (D3.out.trans (hb9.mono D3.out.size))
        clear hb9
        go_wp2_with fail
        go_ret
        exact ⟨rfl, B9.out⟩
  · have g1 : (40 : Int) < l.length := by omega
    go_enter Tryz.func3, Tryz.ntmps3
    go_wp2_with fail
    refine (HFin.out _ (Below.refl w.heap.size w)).mono ?_
    rintro e w9 ⟨rfl, hb9⟩
    have B9 := Lib.hid ((Below.refl w.heap.size w).trans (hb9.mono (Below.refl w.heap.size w).size))
    clear hb9
    go_wp2_with fail
    go_ret
    exact ⟨rfl, B9.out⟩

set_option maxRecDepth 100000 in
theorem ucdPrints_lifted (os : Os) (started : os.Started) (H : Type) (enc : TypeId × Value → H) :
    ReturnsInHanded {} Tryz.checked os 3 .any (fun w args => (Rows.ucdPrintsSpec.pre enc Tryz.prog Tryz.f3 [] false w args ∧ laidMetH Tryz.prog laid2 w) ∧ sizedMet enc Tryz.prog Tryz.f3 (OpenSpec.ofChange Rows.ucdPrintsSpec) false w args)
      (Rows.ucdPrintsSpec.post enc Tryz.prog Tryz.f3 false true false false) := by
  refine change_shaped (C := Tryz.checked) (X := fun w _ => laidMetH Tryz.prog laid2 w) (fun _ _ _ hh h => h.of_heap hh) own started (by kernel_rfl) Tryz.func3
    (ChangeSpec.witness_shaped (enc := enc) (C := Tryz.checked) (os := os) (X := fun w _ => laidMetH Tryz.prog laid2 w) false (World.laidAll Tryz.prog os laid2) #[.slice none 0 0] 8 (World.laidAll_os _ _ _) (World.shaped_of_ZipB (by kernel_rfl) (by kernel_rfl)) (by kernel_rfl) (by kernel_rfl) (by kernel_rfl) (by rw [MakeChecks.laidMetH_plain _ _ _ (by kernel_rfl)]; exact laidMet_laidAll _ (by kernel_rfl) (by kernel_rfl))) ?_
  intro W base args ds gs before hval0 hW hsz hL hS
  have hval : ∀ (j : Nat) t v, Tryz.f3.params[j]? = some t → args[j]? = some v → Value.okWide Tryz.prog W .any base t v := hval0
  have hW' := hW
  obtain ⟨p, q, hA0, hV, rfl, hfz, hnd⟩ := hW
  have hA : DataW.TrodAll enc Tryz.prog W 0 (fun _ => true) true Tryz.f3.params.toList args.toList ds p := hA0
  rw [Tryz.params3] at hA hval
  obtain ⟨v0, vs0, d0, ds0, p0, q0, hargs, rfl, rfl, h0, r0⟩ := trodAll_cons hA
  obtain ⟨rfl, rfl, rfl⟩ := trodAll_nil r0
  obtain rfl : args = #[v0] := by cases args; simp_all
  obtain ⟨rfl, rfl⟩ := trodVars_none hV
  obtain ⟨A0, len0, cap0, rfl⟩ := okWide_slice Tryz.underlying22 (hval 0 22 v0 rfl rfl)
  have k0 := h0
  have lt0 : ∀ x ∈ p0, x.block < W.heap.size := by obtain ⟨m, hm⟩ := k0; exact DataW.trod_lt m _ _ _ hm
  obtain ⟨l0, e0, g0, b0⟩ := rows_of_trod h0
  subst e0
  clear hA0 hval0
  refine (ucdPrints_walk A0 cap0 l0 W g0 b0 (ml_of hS) (tz_of hL) (pw_of hL)).mono fun e W' ⟨he, bel⟩ => ?_
  subst he
  exact ⟨_, rfl, _, _, _, [], _, [], hW', trodAll_mk1 (shut_bool Tryz.underlying4 _), (trodAll_cons_mk (Below.trod laidOut (by kernel_rfl) (of_decide_eq_true (by kernel_rfl)) k0 bel lt0) trodAll_mk0), rfl, bel.frame _, fun h => by cases h⟩

theorem ucdPrints_row : Rows.UcdPrintsSaid :=
  OpenClaim.holds_of_wide 3 Tryz.f3 rfl rfl rfl rfl rfl rfl rfl ⟨rfl, rfl, rfl, rfl, rfl⟩ rfl rfl rfl rfl rfl (by kernel_rfl) Tryz.func3 (by kernel_rfl)
    (of_decide_eq_true (by kernel_rfl)) (by unfold Func.isWrapper; first | (rw [if_pos (by decide +kernel)]; kernel_rfl) | (rw [if_neg (by decide +kernel)]; exact ⟨rfl, rfl⟩))
    (fun os started H enc _ => ucdPrints_lifted os started H enc)

theorem ucdPrints_holds : Rows.UcdPrintsCardSaid :=
  Claim7.holds_tied_plain_at .later [] [.data, .data, .data, .data, .pinned, .pinned] true Rows.ucdPrintsCard.stood.harness false
    ucdPrints_row (fun _ h => by cases h) (by kernel_rfl) (fun _ h => by cases h) ucdPrints_row_tie rfl ⟨rfl, rfl⟩ (by kernel_rfl) rfl
    (fun f fn hf hfn => by
      obtain rfl : f = 3 := Option.some.inj ((show Tryz.prog.funcNamed Rows.ucdPrintsRow.func = some 3 by kernel_rfl).symm.trans hf) |>.symm
      obtain rfl : fn = Tryz.f3 := (Option.some.inj (Tryz.func3.symm.trans hfn)).symm
      exact ⟨by kernel_rfl, fun j t ht => by
        rw [Tryz.params3] at ht
        have hm : t ∈ [22] := by simpa using Array.mem_of_getElem? ht
        have hall : ([22].all fun u => !Tryz.prog.wantsStandIn u) = true := by kernel_rfl
        exact (show Tryz.prog.wantsStandIn t = false by simpa using List.all_eq_true.1 hall t hm)⟩)
    (by kernel_rfl)
#print axioms ucdPrints_holds
end Go.Proofs.YtajhgbcgbgpcjaaGreatDoor

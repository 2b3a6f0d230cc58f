import Derived.Test.YtagbeioooohbgaaGreatDoorKL
import Derived.Test.YtagbeioooohbgaaGreatDoorM32
import Derived.LoopNIn
import Derived.LoopIn
namespace Go.Proofs.YtagbeioooohbgaaGreatDoor.Ba
open Go.RowKit Go.Maps Go.Shelf Uc Ha
open Fi (scal scal_bd Ml)

attribute [local go_sem] Oper.semAt_some

/-! BaseEnds, where the lines are well -/
def lfB (L : List Rw) (l : List Int) : Bool := l.all fun c => decide ((decB L c).2 = [])
theorem exL_more (L : List Rw) (l : List Int) {k : Nat} (hk : k < l.length) : exL L (l.take (k + 1)) = exL L (l.take k) ++ (if (decB L l[k]).2 = [] then [l[k]] else (decB L l[k]).2) := by
  unfold exL
  rw [List.take_succ_eq_append_getElem hk, List.flatMap_append, List.flatMap_cons, List.flatMap_nil, List.append_nil]
theorem lfB_more (L : List Rw) (l : List Int) {k : Nat} (hk : k < l.length) : lfB L (l.take (k + 1)) = (lfB L (l.take k) && decide ((decB L l[k]).2 = [])) := by
  unfold lfB
  rw [List.take_succ_eq_append_getElem hk, List.all_append, List.all_cons, List.all_nil, Bool.and_true]
theorem lfB_iff {L : List Rw} {l : List Int} : lfB L l = true ↔ ∀ c ∈ l, (decB L c).2 = [] := by simp [lfB]
theorem exN_few {L : List Rw} (h3 : S3 L) {r : Int} (hr : r ∈ knwB L) (i : Nat) : (exN L i [r]).length ≤ 18 := by
  obtain ⟨n, h1, h2⟩ := h3 r hr
  exact Nat.le_trans (h2.exlen i) h1
theorem exN_wf {L : List Rw} (hF : Frm L) {r : Int} (hr : wfR r) : ∀ (i : Nat), ∀ c ∈ exN L i [r], wfR c
  | 0, c, hc => by
    rw [exN, List.mem_singleton] at hc
    subst hc
    exact hr
  | i + 1, c, hc => by
    rw [exN] at hc
    unfold exL at hc
    rw [List.mem_flatMap] at hc
    obtain ⟨d, hd, hc⟩ := hc
    split at hc
    · rw [List.mem_singleton] at hc
      subst hc
      exact exN_wf hF hr i _ hd
    · exact dec_wf hF hc
set_option maxRecDepth 100000 in
set_option maxHeartbeats 16000000 in
theorem ends_good (d o : ByteArray) (w : World) (hM : Ml w) (hT : Ha.Tab w) (hd : d.size ≤ 3000) (ho : o.size ≤ 500) (hk : NwOk d.data.toList o.data.toList) :
    Calls Tryz.prog 4 #[.agg #[.string d, .string o]] w fun e w' => e = .returned (.bool true) ∧ Below w.heap.size w w' := by
  have HFew := Lib.hid (fun W => few_any d o W true (by simp [hd, ho]) (by omega) (by omega))
  have HT := Lib.hid hT.all
  have HM := Lib.hid (fun w1 (h : Below w.heap.size w w1) => hM.on h)
  have HN := Lib.hid (fun w1 (h : Below w.heap.size w w1) => new_any d o w1 (hM.on h) (hT.on h) (by omega) (by omega))
  have HF := Lib.hid (frm_rws d.data.toList)
  have HG := Lib.hid hk.2.2
  have HK := Lib.hid hk
  have HLen : Hid ((rwsE d.data.toList).1.length ≤ 381) := Lib.hid (by
    have h1 := rws_few hk.1
    have h2 : d.data.toList.length = d.size := Array.length_toList
    omega)
  clear hM hT hd ho hk
  obtain ⟨s1, s2, s3⟩ := law_start w d o
  obtain ⟨W0, hW0⟩ : ∃ x, x = (w.alloc (.cells #[.string d, .string o] 23)).alloc (.cells #[.bool false] 4) := ⟨_, rfl⟩
  rw [← hW0] at s1 s2 s3
  have c0 := s2.c (i := 0) rfl
  have c1 := s2.c (i := 1) rfl
  have S2 := Lib.hid s2
  have S3 := Lib.hid s3
  have D0 := Lib.hid s1
  clear s1 s2 s3
  refine calls_marks Tryz.func4 rfl ?_
  simp only [Tryz.ntmps4, List.size_toArray, List.length_cons, List.length_nil, Nat.reduceAdd, Nat.reduceSub, Array.replicate_succ, Array.replicate_zero, List.push_toArray, List.append_toArray, List.nil_append, List.cons_append]
  go_wp2_with fail
  rw [← hW0]
  clear hW0
  refine (HFew.out W0).mono ?_
  rintro e w1 ⟨rfl, hb1⟩
  have D1 := Lib.hid (D0.out.trans (hb1.mono D0.out.size))
  have R1 := Lib.hid (S3.out.below hb1)
  have S1 := Lib.hid (S2.out.below hb1)
  clear hb1 c0 c1 S2 S3 HFew D0
  have c0 := S1.out.c (i := 0) rfl
  have c1 := S1.out.c (i := 1) rfl
  go_wp2_with fail
  refine (HN.out w1 D1.out).mono ?_
  intro e w2 h2
  obtain ⟨base, X, T, P, M, S, _, rfl, hb2, hB⟩ := nw_good h2 HK.out
  have D2 := Lib.hid (D1.out.trans (hb2.mono D1.out.size))
  have R2 := Lib.hid (R1.out.below hb2)
  clear h2 hb2 c0 c1 R1 S1 HN HK D1
  obtain ⟨L, hL⟩ : ∃ L, L = (rwsE d.data.toList).1 := ⟨_, rfl⟩
  obtain ⟨Xx, hXx⟩ : ∃ L, L = (setsE o.data.toList).1 := ⟨_, rfl⟩
  rw [← hL] at HF HG HLen hB
  rw [← hXx] at HG hB
  clear hL hXx
  have hbB : Below w2.heap.size w2 (w2.alloc (.cells #[.pointer (some ⟨X, 0, none⟩)] 26)) := (Below.refl _ w2).alloc (Nat.le_refl _) _
  have HBV := Lib.hid (fun W (h : Below w2.heap.size w2 W) => (show BV W (.pointer (some ⟨X, 0, none⟩)) L (prsB L Xx) from .inr ⟨base, X, T, P, M, S, rfl, hB.below h⟩))
  have hE3 := hbB
  have hbx : Tr.Bk (w2.alloc (.cells #[.pointer (some ⟨X, 0, none⟩)] 26)) w2.heap.size [.pointer (some ⟨X, 0, none⟩)] 26 := ⟨heap_alloc_new w2 _⟩
  obtain ⟨Bb, hBb⟩ : ∃ x, x = w2.heap.size := ⟨_, rfl⟩
  obtain ⟨w3, hw3⟩ : ∃ x, x = w2.alloc (.cells #[.pointer (some ⟨X, 0, none⟩)] 26) := ⟨_, rfl⟩
  have D3 : Hid (Below w.heap.size w w3) := Lib.hid (by rw [hw3]; exact D2.out.alloc D2.out.size _)
  rw [← hBb, ← hw3] at hbx
  rw [← hw3] at hE3
  have E3 := Lib.hid hE3
  have K3 := Lib.hid hbx
  clear hbB hE3 hbx hB
  have b3 := K3.out.c (i := 0) rfl
  go_wp2_with fail
  rw [← hBb, ← hw3]
  clear hBb hw3
  refine (known_call _ (.pointer (some ⟨X, 0, none⟩)) rfl).mono ?_
  rintro e w4 ⟨rfl, rfl⟩
  have hq1 := eqfn44 35
  obtain ⟨w4, hw4⟩ : ∃ z, z = w3.alloc (.cells #[.pointer (some ⟨X, 0, none⟩)] 26) := ⟨_, rfl⟩
  have hb4 : Below w3.heap.size w3 w4 := by rw [hw4]; exact (Below.refl _ w3).alloc (Nat.le_refl _) _
  have kp : Tr.Bk w4 w3.heap.size [.pointer (some ⟨X, 0, none⟩)] 26 := by rw [hw4]; exact ⟨heap_alloc_new w3 _⟩
  have KP := Lib.hid kp
  have E4 := Lib.hid (E3.out.trans (hb4.mono E3.out.size))
  have D4 := Lib.hid (D3.out.trans (hb4.mono D3.out.size))
  have K4 := Lib.hid (K3.out.below hb4)
  obtain ⟨Bk, hBk⟩ : ∃ z, z = w3.heap.size := ⟨_, rfl⟩
  rw [← hBk] at KP
  clear hb4 kp b3
  go_wp2_with fail
  rw [← hBk, ← hw4]
  clear hw4 hBk K3 E3 D3 hq1
  refine rangeG (α := Kn L) (G := 35) (lb := #[.pointer (some ⟨Bk, 0, none⟩)]) rfl (enters_of Tryz.func35 (by kernel_rfl) rfl) (known_iter (fun _ _ => False) 4 Bk (.pointer (some ⟨X, 0, none⟩)) L (prsB L Xx) w4 HF.out (by have := HLen.out; have := knw_len L; omega) (HBV.out _ E4.out) KP.out (OwnO.none _))
    (fun h k => h.trans k) (fun V l o o' _ h ho _ => kpF_put V l o o' h ho) (Below.refl _ _) (fun _ => rfl)
    (fun _ V => Below w4.heap.size w4 V) (fun _ _ _ => False) (ownFrom_below (Nat.le_refl _) (Nat.le_refl _)) (fun _ _ _ _ _ h _ _ => h) (Below.refl _ _)
    (fun tm x => (tm.setIfInBounds 46 (.int .i32 x.1)).setIfInBounds 6 (.int .i32 x.1)) ?assign ?body ?done ?stop
  case assign =>
    intro l x V K hK
    unfold encK
    gi_wp2
    exact hK
  case stop => exact fun D c pre V _ _ h => h.elim
  case done =>
    rintro D ys V hD _ hI hK
    have HD := Lib.hid (D4.out.trans (hI.mono D4.out.size))
    have HK := Lib.hid hK
    have HR := Lib.hid (R2.out.below (E4.out.trans (hI.mono E4.out.size)))
    have hsz := Nat.le_trans D4.out.size hD
    clear hI hK
    have HA := Lib.hid (awake_any V (HM.out V HD.out) (HT.out V HD.out))
    go_wp2_with fail
    refine HA.out.mono ?_
    rintro e V2 ⟨rfl, hb⟩
    have HD2 := Lib.hid (HD.out.trans (hb.mono HD.out.size))
    have HK2 := Lib.hid ((hb.block D (Array.getElem?_eq_some_iff.1 HK.out).1).trans HK.out)
    have HR2 := Lib.hid (HR.out.below hb)
    clear hb HA HR HK HD
    have r2 := HR2.out.c (i := 0) rfl
    have rf2 := HR2.out.fr 0
    have hre : D ≠ w.heap.size + 1 := fun e => by
      have := HR2.out.blk
      rw [← e, HK2.out] at this
      cases this
    have HKS := Lib.hid (fun v => (Below.heap_setCell V2 ⟨w.heap.size + 1, 0, none⟩ v D hre).trans HK2.out)
    have r3 := cell_put (o := .deferred none) ((HR2.out.set 0 (.bool true)).c (i := 0) rfl) (D := D) (fun e => hre e.symm)
    clear hre
    go_wp2_with fail
    exact leave_mark (HKS.out _) (leave_nil (v := .bool true) (by simp [results, Tryz.results4, go_sem, r3]) ⟨rfl, below_put (HD2.out.setCell (p := ⟨w.heap.size + 1, 0, none⟩) (by simp) _) (by omega)⟩)
  case body =>
    intro lp pre x V hI hlen
    have HI := Lib.hid hI
    have HDV := Lib.hid (D4.out.trans (hI.mono D4.out.size))
    have HEV := Lib.hid (E4.out.trans (hI.mono E4.out.size))
    have HKV := Lib.hid (K4.out.below hI)
    have HFew2 := Lib.hid (exN_few HG.out.s3 x.2)
    obtain ⟨r, hr⟩ : ∃ r, r = x.1 := ⟨_, rfl⟩
    have hwf : wfR r := by
      obtain ⟨y, hy⟩ := Option.isSome_iff_exists.1 (knw_mem.1 x.2)
      obtain ⟨hy1, hy2, hy3⟩ := parA_some hy
      rw [hr, ← hy3]
      exact wfR_scal (HF.out.fin y hy1).fr
    have HWF := Lib.hid (exN_wf HF.out hwf)
    rw [← hr] at HFew2
    rw [← hr]
    have HEnd := Lib.hid (ex_ends HG.out.ok HLen.out HFew2.out)
    clear hI hr hwf
    have hv1 : Below V.heap.size V (V.alloc (.cells #[.int .i32 r] 21)) := (Below.refl _ V).alloc (Nat.le_refl _) _
    have hi1 : Ints .i32 (V.alloc (.cells #[.int .i32 r] 21)) (some ⟨V.heap.size, 0, none⟩) (exN L 0 [r]) := ints_one r _ V
    have HV1 := Lib.hid hv1
    have HI1 := Lib.hid hi1
    clear hv1 hi1
    gi_wp2
    gi_loopw [7, 8] (fun s7 s8 wr => ∃ (i : Nat) (A : Option Addr) (c : Nat), s8 = .int .i64 i ∧ s7 = .slice A (exN L i [r]).length c ∧ i ≤ 399 ∧ Hid (Ints .i32 wr A (exN L i [r])) ∧ Hid (Below V.heap.size V wr)) (fun _ s8 _ => 400 - (intOf s8).toNat)
    case atStart => exact ⟨0, _, _, rfl, rfl, by omega, HI1, HV1⟩
    case round =>
      obtain ⟨i, A, c, rfl, rfl, hi, HIi, HBi⟩ := hrel
      obtain ⟨wi, hwi⟩ : ∃ z, z = wr := ⟨_, rfl⟩
      subst hwi
      have hltI : (i : Int) < 400 := by omega
      have HL18 := Lib.hid (HFew2.out i)
      have HWl := Lib.hid (HWF.out i)
      have HNx : Hid (exN L (i + 1) [r] = exL L (exN L i [r])) := Lib.hid rfl
      have HLast : Hid (i = 399 → lfB L (exN L i [r]) = true) := Lib.hid (fun e => by rw [e]; exact lfB_iff.2 HEnd.out)
      obtain ⟨l, hl⟩ : ∃ l, l = exN L i [r] := ⟨_, rfl⟩
      rw [← hl] at HIi HL18 HWl HNx HLast
      rw [← hl]
      clear hl
      have HEi := Lib.hid (HEV.out.trans (HBi.out.mono HEV.out.size))
      have HDi := Lib.hid (HDV.out.trans (HBi.out.mono HDV.out.size))
      have HKi := Lib.hid (HKV.out.below HBi.out)
      have hl18 := HL18.out
      gi_wp2
      gi_loopw [9, 10, 11] (fun s9 s10 s11 wr => ∃ (k : Nat), s11 = .int .i64 k ∧ s10 = .bool (lfB L (l.take k)) ∧ k ≤ l.length ∧ Hid (wr.ownsRow wi.heap.size 21 1 s9 (exL L (l.take k)).length (i32s (exL L (l.take k)))) ∧ Hid (Below wi.heap.size wi wr)) (fun _ _ s11 _ => l.length - (intOf s11).toNat)
      case atStart => exact ⟨0, rfl, rfl, Nat.zero_le _, World.ownsRow_nil _ _ _ _, Below.refl _ _⟩
      case round =>
        obtain ⟨k, rfl, rfl, hk, HO, HBk⟩ := hrel
        obtain ⟨wk, hwk⟩ : ∃ z, z = wr := ⟨_, rfl⟩
        subst hwk
        by_cases hlt : k < l.length
        · have hltI : (k : Int) < l.length := by omega
          obtain ⟨gb, go, rfl, hgl, hcell⟩ := HIi.out k hlt
          have hc2 := (HBk.out.cell (p := ⟨gb, go + k, none⟩) hgl).trans hcell
          have b1 := (HKi.out.below HBk.out).c (i := 0) rfl
          obtain ⟨y, hy⟩ : ∃ y, y = l.getD k 0 := ⟨_, rfl⟩
          rw [← hy] at hc2
          have hyk : y = l[k] := by rw [hy, List.getD_eq_getElem?_getD, List.getElem?_eq_getElem hlt]; rfl
          have HYk : Hid (exL L (l.take (k + 1)) = exL L (l.take k) ++ (if (decB L y).2 = [] then [y] else (decB L y).2)) := Lib.hid (by rw [hyk]; exact exL_more L l hlt)
          have HYf : Hid (lfB L (l.take (k + 1)) = (lfB L (l.take k) && decide ((decB L y).2 = []))) := Lib.hid (by rw [hyk]; exact lfB_more L l hlt)
          have hwy : wfR y := by rw [hyk]; exact HWl.out _ (List.getElem_mem hlt)
          have HWy := Lib.hid hwy
          clear hcell hy hyk hwy
          gi_wp2
          have HDc := Lib.hid (decomp_any (.pointer (some ⟨X, 0, none⟩)) y wk.drew HF.out (HBV.out _ ((HEi.out.trans (HBk.out.mono HEi.out.size)).drew)) (HT.out _ ((HDi.out.trans (HBk.out.mono HDi.out.size)).drew)) HWy.out)
          refine wpIn_round_any (by kernel_rfl) (by kernel_rfl) ?_
          refine wpAny_take (i := 1) (v := .slice (some ⟨gb, go, none⟩) l.length c) rfl (by kernel_rfl) (by kernel_rfl) (by kernel_rfl) (fun _ _ _ h => h) (Or.inl ⟨by rfl, by intro w; go_simp⟩) ?_
          refine wpAny_take (i := 2) (v := .int .i64 k) rfl (by kernel_rfl) (by kernel_rfl) (by kernel_rfl) (fun _ _ _ h => h) (Or.inl ⟨by rfl, by intro w; go_simp⟩) ?_
          refine wpAny_take (i := 3) (v := .pointer (some ⟨gb, go + k, none⟩)) rfl (by kernel_rfl) (by kernel_rfl) (by kernel_rfl) (fun _ _ _ h => h) (Or.inl ⟨by rfl, by intro w; go_simp⟩) ?_
          refine wpAny_ready (rs := [0, 4]) (by kernel_rfl) (by simp) (AllReady.cons rfl (fun K hK => ?_) (AllReady.cons rfl (fun K hK => ?_) AllReady.nil))
          case' refine_1 =>
            go_simp
            refine hK _ _ ?_
            clear hK K
            refine wpAny_ready (rs := [4]) (by kernel_rfl) (by simp) (AllReady.cons rfl (fun K hK => ?_) AllReady.nil)
          case' refine_2 =>
            go_simp
            refine hK _ _ ?_
            clear hK K
            refine wpAny_ready (rs := [0]) (by kernel_rfl) (by simp) (AllReady.cons rfl (fun K hK => ?_) AllReady.nil)
          all_goals
            go_simp
            refine hK _ _ ?_
            clear hK K
            refine wpAny_ready (rs := [5]) (by kernel_rfl) (by simp) (AllReady.cons rfl (fun K hK => ?_) AllReady.nil)
            go_simp
            refine HDc.out.mono ?_
            rintro e w5 ⟨A5, c5, rfl, hi5, hb5⟩
            have HI5 := Lib.hid hi5
            have B5 := Lib.hid (HBk.out.drew.trans (hb5.mono HBk.out.size))
            have O5 := Lib.hid (Fi.own_below' HO.out ((Below.refl wk.heap.size wk).drew.trans hb5))
            clear hi5 hb5
            go_wp2_with fail
            clear HDc
            generalize decB L y = dd at *
            obtain ⟨kd, into⟩ := dd
            refine wpAny_take (i := 6) (v := .tuple #[.string ⟨kd.toArray⟩, .slice A5 into.length c5]) rfl (by kernel_rfl) (by kernel_rfl) (by kernel_rfl) (fun _ _ _ h => h) (Or.inl ⟨by rfl, by intro w; go_simp⟩) ?_
            refine wpAny_take (i := 7) (v := .string ⟨kd.toArray⟩) rfl (by kernel_rfl) (by kernel_rfl) (by kernel_rfl) (fun _ _ _ h => h) (Or.inl ⟨by rfl, by intro w; go_simp⟩) ?_
            refine wpAny_take (i := 8) (v := .slice A5 into.length c5) rfl (by kernel_rfl) (by kernel_rfl) (by kernel_rfl) (fun _ _ _ h => h) (Or.inl ⟨by rfl, by intro w; go_simp⟩) ?_
            refine wpAny_take (i := 9) (v := .string ⟨kd.toArray⟩) rfl (by kernel_rfl) (by kernel_rfl) (by kernel_rfl) (fun _ _ _ h => h) (Or.inl ⟨by rfl, by intro w; go_simp⟩) ?_
            refine wpAny_take (i := 10) (v := .slice A5 into.length c5) rfl (by kernel_rfl) (by kernel_rfl) (by kernel_rfl) (fun _ _ _ h => h) (Or.inl ⟨by rfl, by intro w; go_simp⟩) ?_
            refine wpAny_done (by kernel_rfl) ?_ _
            simp only [normQ, Exit.then]
            have hnl : (exL L (l.take k)).length ≤ 18 := by
              have h1 := HFew2.out (i + 1)
              rw [HNx.out] at h1
              have h2 : exL L l = exL L (l.take k) ++ exL L (l.drop k) := by
                unfold exL
                rw [← List.flatMap_append, List.take_append_drop]
              rw [h2, List.length_append] at h1
              omega
            by_cases h0 : into = []
            · subst h0
              have HYk2 : Hid (exL L (l.take (k + 1)) = exL L (l.take k) ++ [y]) := Lib.hid (by have := HYk.out; simpa using this)
              have HYf2 : Hid (lfB L (l.take (k + 1)) = lfB L (l.take k)) := Lib.hid (by have := HYf.out; simpa using this)
              have c5l := HBk
              clear HYk HYf
              have hcy : w5.cell? ⟨gb, go + k, none⟩ = some (.int .i32 y) := (B5.out.cell (p := ⟨gb, go + k, none⟩) hgl).trans ((HBk.out.cell (p := ⟨gb, go + k, none⟩) hgl).symm.trans hc2)
              have hbA : Below w5.heap.size w5 (w5.alloc (.cells #[.int .i32 y] 21)) := (Below.refl _ w5).alloc (Nat.le_refl _) _
              have hO6 := Fi.own_below' O5.out hbA
              have hsz5 : wi.heap.size ≤ w5.heap.size := B5.out.size
              have hszA : wi.heap.size ≤ (w5.alloc (.cells #[.int .i32 y] 21)).heap.size := by simp; omega
              have HOA := Lib.hid hO6
              have HBA := Lib.hid (B5.out.trans (hbA.mono hsz5))
              clear hO6 hbA O5
              gi_wp2_with (first
                | (gi_at_builtin; refine wpListIn_append_ints rfl (.tmp 71) (.tmp 76) rfl wi.heap.size _ _ _ rfl HOA.out (some ⟨w5.heap.size, 0, none⟩) 1 [y] rfl (ints_one y _ w5) (by simp only [List.length_cons, List.length_nil]; omega) hszA ?_; intro v6 w6 hown6 hbel6; have O6 := Lib.hid hown6; have B6 := Lib.hid (HBA.out.trans hbel6); have hsz6 : wi.heap.size ≤ w6.heap.size := B6.out.size; clear hown6 hbel6)
                | (gi_at_builtin; refine wpListIn_append_ints rfl (.tmp 78) (.tmp 79) rfl wi.heap.size _ _ _ rfl O6.out A5 c5 [] rfl (fun i hi => by cases hi) (by simp only [List.length_cons, List.length_nil]; omega) hsz6 ?_; intro v7 w7 hown7 hbel7; have O7 := Lib.hid hown7; have B7 := Lib.hid (B6.out.trans hbel7); clear hown7 hbel7))
              go_roundw
              case measure => simp [intOf]; omega
              case rel =>
                refine ⟨k + 1, by go_num, by rw [HYf2.out], by omega, Lib.hid ?_, B7⟩
                have h7 := O7.out
                simp only [List.length_cons, List.length_nil, Nat.add_zero, Nat.zero_add] at h7
                rw [HYk2.out, List.length_append, Ha.i32s_app]
                simpa [i32s] using h7
            · have hq : ((into.length : Int) == 0) = false := by
                have := List.length_pos_iff.2 h0
                simp
                omega
              have HYk2 : Hid (exL L (l.take (k + 1)) = exL L (l.take k) ++ into) := Lib.hid (by have := HYk.out; rwa [if_neg h0] at this)
              have HYf2 : Hid (lfB L (l.take (k + 1)) = false) := Lib.hid (by have := HYf.out; rw [this]; simp [h0])
              have hsz5 : wi.heap.size ≤ w5.heap.size := B5.out.size
              have hil : into.length ≤ 18 := by
                have h1 := HFew2.out (i + 1)
                rw [HNx.out] at h1
                have h2 : exL L l = exL L (l.take (k + 1)) ++ exL L (l.drop (k + 1)) := by
                  unfold exL
                  rw [← List.flatMap_append, List.take_append_drop]
                rw [h2, List.length_append, HYk2.out, List.length_append] at h1
                omega
              clear HYk HYf
              gi_wp2_with (gi_at_builtin; refine wpListIn_append_ints rfl (.tmp 78) (.tmp 79) rfl wi.heap.size _ _ _ rfl O5.out A5 c5 into rfl HI5.out (by omega) hsz5 ?_; intro v7 w7 hown7 hbel7; have O7 := Lib.hid hown7; have B7 := Lib.hid (B5.out.trans hbel7); clear hown7 hbel7)
              go_roundw
              case measure => simp [intOf]; omega
              case rel =>
                refine ⟨k + 1, by go_num, by rw [HYf2.out], by omega, Lib.hid ?_, B7⟩
                rw [HYk2.out, List.length_append, Ha.i32s_app]
                exact O7.out
        · have hltI : ¬ (k : Int) < l.length := by omega
          obtain rfl : k = l.length := by omega
          rw [List.take_length] at HO
          rw [List.take_length]
          rw [← HNx.out] at HO
          have HL2 : Hid ((exN L (i + 1) [r]).length ≤ 18) := Lib.hid (HFew2.out (i + 1))
          obtain ⟨nx, hnx⟩ : ∃ n, n = exN L (i + 1) [r] := ⟨_, rfl⟩
          rw [← hnx] at HO HL2
          have HNX := Lib.hid hnx
          clear hnx
          obtain ⟨A2, c2, rfl, hi2⟩ := own_ints HO.out
          have HI2 := Lib.hid hi2
          have h18 := HL2.out
          have BN := Lib.hid (HBi.out.trans (HBk.out.mono HBi.out.size))
          clear hi2 HO
          by_cases hs : lfB L l = true
          · rw [hs]
            gi_wp2
            exact ⟨kf_below BN.out, kpF_below BN.out, HI.out.trans (BN.out.mono HI.out.size)⟩
          · have h399 : ¬ i = 399 := fun e => hs (HLast.out e)
            have hq : ((i : Int) == 399) = false := by simp; omega
            rw [Bool.not_eq_true] at hs
            rw [hs]
            clear hs
            gi_wp2
            go_roundw
            case measure => simp [intOf]; omega
            case rel =>
              exact ⟨i + 1, A2, c2, by go_num, by rw [← HNX.out], by omega, Lib.hid (by rw [← HNX.out]; exact HI2.out), BN⟩

theorem ends_walk (d o : ByteArray) (w : World) (hM : Ml w) (hT : Ha.Tab w) (hd : d.size ≤ 9223372036854775807) (ho : o.size ≤ 9223372036854775807) :
    Calls Tryz.prog 4 #[.agg #[.string d, .string o]] w fun e w' => e = .returned (.bool true) ∧ Below w.heap.size w w' := by
  by_cases hf : d.size ≤ 3000 ∧ o.size ≤ 500
  · by_cases hk : NwOk d.data.toList o.data.toList
    · exact ends_good d o w hM hT hf.1 hf.2 hk
    · exact ends_bad d o w hM hT hf.1 hf.2 hk
  · exact ends_many d o w hM hT hd ho (by
      rw [Bool.and_eq_false_iff, decide_eq_false_iff_not, decide_eq_false_iff_not]
      by_cases h : d.size ≤ 3000
      · exact .inr fun h2 => hf ⟨h, h2⟩
      · exact .inl h)

end Go.Proofs.YtagbeioooohbgaaGreatDoor.Ba

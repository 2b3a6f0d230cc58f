import Derived.Test.YtagbeioooohbgaaGreatDoorKH
import Derived.Test.YtagbeioooohbgaaGreatDoorM32
import Derived.RangeFuncBox
import Derived.Deep.RegionWith
import Derived.Deep.DeepCutAuto
import Derived.Maps.OwnIn
import Derived.OwnWalkIn
import Derived.Test.YtagbeioooohbgaaGreatDoorM25
namespace Go.Proofs.YtagbeioooohbgaaGreatDoor.Ba
open Go.RowKit Go.Maps Go.Shelf Uc Ha
open Fi (scal scal_bd Ml)

attribute [local go_sem] Oper.semAt_some

/-! BaseOut, where the lines are well -/
theorem wp_normQ {P : Program} {c : Code} {Q : Exit → Act → World → Prop} {a : Act} {w : World} (h : c.wp P (normQ Q) a w) : c.wp P Q a w := wp_mono h fun e a' w' hq => by
  cases e with
  | normal => exact hq
  | _ => exact hq.elim
/-- The block of the row that a variable holds. -/
def OwnL (Bl : Nat) (V : World) (k : Nat) : Prop := ∃ n c, V.cell? ⟨Bl, 0, none⟩ = some (.slice (some ⟨k, 0, none⟩) n c)
theorem ownL_on {Bl : Nat} {w : World} (h : Boxed w Bl 32 (.slice none 0 0)) : OwnO (OwnL Bl) w :=
  ⟨(fun k ⟨n, c, hk⟩ => by rw [h.cell] at hk; cases hk), (fun V V' hV k ⟨n, c, hk⟩ => ⟨n, c, by
    rw [← hk]
    unfold World.cell?
    simp only [hV Bl h.lt]⟩)⟩
/-- The characters that come, but one. -/
def lstO {L : List Rw} {Xx : List Int} (n : Nat) (pre : List (Pr L Xx)) : List Int := (pre.map fun x => x.1.fr).filter fun y => decide (y ≠ (n : Int))
theorem lstO_no {L : List Rw} {Xx : List Int} {n : Nat} {pre : List (Pr L Xx)} {x : Pr L Xx} (h : x.1.fr = n) : lstO n (pre ++ [x]) = lstO n pre := by simp [lstO, h]
theorem lstO_yes {L : List Rw} {Xx : List Int} {n : Nat} {pre : List (Pr L Xx)} {x : Pr L Xx} (h : x.1.fr ≠ n) : lstO n (pre ++ [x]) = lstO n pre ++ [x.1.fr] := by simp [lstO, h]
theorem lstO_len {L : List Rw} {Xx : List Int} {n : Nat} {pre : List (Pr L Xx)} : (lstO n pre).length ≤ pre.length := by
  have := List.length_filter_le (fun y => decide (y ≠ (n : Int))) (pre.map fun x => x.1.fr)
  rw [List.length_map] at this
  exact this
theorem lstO_all {L : List Rw} {n : Nat} : lstO n (prsB L []).attach = (prsB L [(n : Int)]).map (·.fr) := by
  have h : (prsB L []).attach.map (fun x : Pr L [] => x.1.fr) = (prsB L []).map (·.fr) := by
    conv => rhs; rw [← att_valP L []]
    rw [List.map_map]
    rfl
  unfold lstO
  rw [h, prs_out, List.filter_map]
  rfl
theorem ownL_no {Bl k : Nat} {w : World} (h : Boxed w Bl 32 (.slice none 0 0)) : ¬ OwnL Bl w k := fun ⟨n, c, hk⟩ => by rw [h.cell] at hk; cases hk
theorem app_kp {Bl k : Nat} {V w1 : World} {v v' : Value} {xs : List Value} {tmp : Obj} (hv : Boxed V Bl 32 v) (hrow : V.ownsRow Bl 21 1 v k xs) (hg : (V.alloc tmp).grownBy w1 v.ownBlock) (hv2 : Boxed (w1.setCell ⟨Bl, 0, none⟩ v') Bl 32 v')
    (hat : v'.ownBlock = v.ownBlock ∨ v'.ownBlock = some (V.alloc tmp).heap.size) : KpO (OwnL Bl) V (w1.setCell ⟨Bl, 0, none⟩ v') := by
  have ho : ∀ j, v.ownBlock = some j → OwnL Bl V j := fun j hj => by
    rcases hrow.2 with ⟨rfl, _⟩ | ⟨g, cap, cur, rfl, _⟩
    · cases hj
    · obtain rfl : g = j := by simpa [Value.ownBlock] using hj
      exact ⟨_, _, hv.cell⟩
  have hs : (V.alloc tmp).heap.size = V.heap.size + 1 := by simp
  refine ⟨?_, fun j cs t hB ht hO => ?_, fun j ⟨n, c, hk⟩ => ?_⟩
  · have := hg.size
    have h2 : (w1.setCell ⟨Bl, 0, none⟩ v').heap.size = w1.heap.size := by simp [World.setCell]
    omega
  · have hne : j ≠ Bl := fun e => by
      subst e
      have h1 := hB.blk
      rw [show V.heap[j]? = _ from hv] at h1
      cases h1
      revert ht
      decide
    rw [Below.heap_setCell w1 ⟨Bl, 0, none⟩ v' j hne, hg.block j (by have := hB.lt; omega) (fun e => hO (ho j e.symm))]
    exact Below.heap_alloc V tmp j hB.lt
  · have h1 : v' = .slice (some ⟨j, 0, none⟩) n c := by
      rw [hv2.cell] at hk
      exact Option.some.inj hk
    have h2 : v'.ownBlock = some j := by rw [h1]; rfl
    rcases hat with h | h
    · exact .inl (ho j (h.symm.trans h2))
    · rw [h2] at h
      have := Option.some.inj h
      exact .inr (by omega)
/-- What stands between the rounds over those that are kept. -/
def KeI {L : List Rw} {Xx : List Int} (V2 : World) (Bn : Nat) (pre : List (Pr L Xx)) (V : World) : Prop := Below Bn V2 V ∧ Tr.Bk V Bn [.int .i64 (pre.length : Nat)] 3
theorem keI_from {L : List Rw} {Xx : List Int} {V2 : World} {Bn B : Nat} (h1 : Bn ≤ V2.heap.size) (h2 : Bn ≤ B) : OwnFrom B (fun (pre : List (Pr L Xx)) V => KeI V2 Bn pre V) := fun s V V' row hs hg hr =>
  ⟨hs.1.grown hg (Nat.le_trans h1 hs.1.size) (fun k e => by have := (hr k e).1; omega), from_bk hg hr hs.2⟩
theorem pre_at {α : Type} {pre all : List α} {x : α} (h : pre ++ [x] <+: all) : ∃ hl : pre.length < all.length, all[pre.length] = x := by
  obtain ⟨t, rfl⟩ := h
  refine ⟨by simp, ?_⟩
  simp
theorem keep_at {L : List Rw} {n : Nat} {pre : List (Pr L [(n : Int)])} {z : Pr L [(n : Int)]} (h : pre ++ [z] <+: (prsB L [(n : Int)]).attach) : pre.length < ((prsB L [(n : Int)]).map (·.fr)).length ∧ ((prsB L [(n : Int)]).map (·.fr)).getD pre.length 0 = z.1.fr := by
  obtain ⟨hl, e⟩ := pre_at h
  have hl' : pre.length < (prsB L [(n : Int)]).length := by simpa using hl
  refine ⟨by simpa using hl', ?_⟩
  rw [List.getD_eq_getElem?_getD, List.getElem?_map, List.getElem?_eq_getElem hl']
  rw [← e]
  simp
theorem out_boxes (w : World) (p q : Value) : Below w.heap.size w (((w.alloc (.cells #[p] 26)).alloc (.cells #[q] 26)).alloc (.cells #[.slice none 0 0] 32)) ∧
    (((w.alloc (.cells #[p] 26)).alloc (.cells #[q] 26)).alloc (.cells #[.slice none 0 0] 32)).heap.size = w.heap.size + 3 ∧
    Tr.Bk (((w.alloc (.cells #[p] 26)).alloc (.cells #[q] 26)).alloc (.cells #[.slice none 0 0] 32)) w.heap.size [p] 26 ∧
    Tr.Bk (((w.alloc (.cells #[p] 26)).alloc (.cells #[q] 26)).alloc (.cells #[.slice none 0 0] 32)) (w.heap.size + 1) [q] 26 ∧
    Boxed (((w.alloc (.cells #[p] 26)).alloc (.cells #[q] 26)).alloc (.cells #[.slice none 0 0] 32)) (w.heap.size + 1 + 1) 32 (.slice none 0 0) := by
  obtain ⟨w1, h1⟩ : ∃ x, x = w.alloc (.cells #[p] 26) := ⟨_, rfl⟩
  rw [← h1]
  obtain ⟨w2, h2⟩ : ∃ x, x = w1.alloc (.cells #[q] 26) := ⟨_, rfl⟩
  rw [← h2]
  obtain ⟨w3, h3⟩ : ∃ x, x = w2.alloc (.cells #[.slice none 0 0] 32) := ⟨_, rfl⟩
  rw [← h3]
  have z1 : w1.heap.size = w.heap.size + 1 := by rw [h1]; simp
  have z2 : w2.heap.size = w.heap.size + 1 + 1 := by rw [h2]; simp [z1]
  have z3 : w3.heap.size = w.heap.size + 3 := by rw [h3]; simp [z2]
  have b1 : Below w.heap.size w w1 := by rw [h1]; exact (Below.refl _ _).alloc (Nat.le_refl _) _
  have b2 : Below w1.heap.size w1 w2 := by rw [h2]; exact (Below.refl _ _).alloc (Nat.le_refl _) _
  have b3 : Below w2.heap.size w2 w3 := by rw [h3]; exact (Below.refl _ _).alloc (Nat.le_refl _) _
  have b23 : Below w1.heap.size w1 w3 := b2.trans (b3.mono b2.size)
  have k1 : Tr.Bk w1 w.heap.size [p] 26 := by rw [h1]; exact ⟨heap_alloc_new w _⟩
  have k2 : Tr.Bk w2 (w.heap.size + 1) [q] 26 := by rw [h2, ← z1]; exact ⟨heap_alloc_new w1 _⟩
  have k3 : Boxed w3 (w.heap.size + 1 + 1) 32 (.slice none 0 0) := by rw [h3, ← z2]; exact Boxed.new w2 _ _
  exact ⟨b1.trans (b23.mono b1.size), z3, k1.below b23, k2.below b3, k3⟩
set_option maxRecDepth 100000 in
set_option maxHeartbeats 16000000 in
theorem out_good (d o : ByteArray) (n : Nat) (r : Int) (w : World) (hM : Ml w) (hT : Ha.Tab w) (hd : d.size ≤ 3000) (ho : o.size ≤ 500) (hc : 16 ≤ n ∧ n ≤ 65535) (hs : scal n = true) (hk : NwOk d.data.toList (⟨#[]⟩ : ByteArray).data.toList) (hr : wfR r) :
    Calls Tryz.prog 6 #[.agg #[.string d, .string o], .int .i32 n, .int .i32 r] w fun e w' => e = .returned (.bool true) ∧ Below w.heap.size w w' := by
  have HFew := Lib.hid (fun W => few_any d o W true (by simp [hd, ho]) (by omega) (by omega))
  have HT := Lib.hid hT.all
  have HM := Lib.hid (fun w1 (h : Below w.heap.size w w1) => hM.on h)
  have HN := Lib.hid (fun w1 (h : Below w.heap.size w w1) => new_any d ⟨#[]⟩ w1 (hM.on h) (hT.on h) (by omega) (by decide))
  have HN2 := Lib.hid (fun w1 (h : Below w.heap.size w w1) => new_any d ⟨(fwB 4 n).toArray⟩ w1 (hM.on h) (hT.on h) (by omega) (by
    have : (⟨(fwB 4 n).toArray⟩ : ByteArray).size = 4 := by
      show (fwB 4 n).toArray.size = 4
      rw [List.size_toArray, fwB_len]
    omega))
  have HSc := Lib.hid (fun W => Fi.scalar_any (n : Int) W)
  rw [hs] at HSc
  have HK := Lib.hid hk
  have HK2 : Hid (NwOk d.data.toList (fwB 4 n)) := Lib.hid (by
    unfold NwOk
    rw [sets_4 hs (by omega)]
    refine ⟨hk.1, rfl, ?_⟩
    have := hk.2.2
    rw [awS0] at this
    exact good_out this n)
  have h1 : ¬ (n : Int) < 16 := by omega
  have h2 : ¬ (65535 : Int) < n := by omega
  have HHx := Lib.hid (fun W => hex_any n W (by omega))
  have HS4 := Lib.hid (sets_4 hs (by omega))
  have HR := Lib.hid hr
  have HF := Lib.hid (frm_rws d.data.toList)
  have HLen : Hid ((knwB (rwsE d.data.toList).1).length ≤ 4096) := Lib.hid (by
    have h1 := rws_few hk.1
    have h2 : d.data.toList.length = d.size := Array.length_toList
    have h3 := knw_len (rwsE d.data.toList).1
    omega)
  clear hM hT hd ho hk hs hc hr
  obtain ⟨s1, s0, s2, s4, s3⟩ := out_start w d o n
  obtain ⟨W0, hW0⟩ : ∃ x, x = ((w.alloc (.cells #[.string d, .string o] 23)).alloc (.cells #[.int .i32 n] 21)).alloc (.cells #[.bool false] 4) := ⟨_, rfl⟩
  rw [← hW0] at s1 s2 s3 s4
  have c0 := s2.c (i := 0) rfl
  have c1 := s2.c (i := 1) rfl
  have S2 := Lib.hid s2
  have S3 := Lib.hid s3
  have S4 := Lib.hid s4
  have D0 := Lib.hid s1
  clear s0 s1 s2 s3 s4
  refine calls_marks Tryz.func6 rfl ?_
  simp only [Tryz.ntmps6, List.size_toArray, List.length_cons, List.length_nil, Nat.reduceAdd, Nat.reduceSub, Array.replicate_succ, Array.replicate_zero, List.push_toArray, List.append_toArray, List.nil_append, List.cons_append]
  go_wp2_with fail
  rw [← hW0]
  clear hW0
  refine (HFew.out W0).mono ?_
  rintro e w1 ⟨rfl, hb1⟩
  have D1 := Lib.hid (D0.out.trans (hb1.mono D0.out.size))
  have R1 := Lib.hid (S3.out.below hb1)
  have C1 := Lib.hid (S4.out.below hb1)
  have T1 := Lib.hid (S2.out.below hb1)
  have q1 := C1.out.c (i := 0) rfl
  have t1 := T1.out.c (i := 0) rfl
  clear hb1 c0 c1 S3 S4 S2 HFew D0
  go_wp2_with (go_at_call 20; refine (HSc.out _).mono ?_; rintro e w' ⟨rfl, rfl⟩)
  refine (HN.out w1 D1.out).mono ?_
  intro e w2 h2'
  obtain ⟨base, X, T, P, M, S, _, rfl, hb2, hB⟩ := nw_good h2' HK.out
  have D2 := Lib.hid (D1.out.trans (hb2.mono D1.out.size))
  have R2 := Lib.hid (R1.out.below hb2)
  have C2 := Lib.hid (C1.out.below hb2)
  have T2 := Lib.hid (T1.out.below hb2)
  have HBb := Lib.hid hB
  clear h2' hb2 q1 t1 R1 C1 T1 HN D1 hB
  have q1 := C2.out.c (i := 0) rfl
  have t1 := T2.out.c (i := 0) rfl
  go_wp2_with fail
  have hL : (rwsE d.data.toList).1 = (rwsE d.data.toList).1 := rfl
  obtain ⟨L, hL⟩ : ∃ L, L = (rwsE d.data.toList).1 := ⟨_, rfl⟩
  have HBb2 : Hid (Bs w2 base X T P M S L (prsB L [])) := Lib.hid (by have := HBb.out; rw [awS0] at this; rw [hL]; exact this)
  have HN3 : Hid (Calls Tryz.prog 9 #[.string d, .string ⟨(fwB 4 n).toArray⟩] w2.drew fun e w' => ∃ base2 X2 T2 P2 M2 S2, e = .returned (.tuple #[.pointer (some ⟨X2, 0, none⟩), .int .i64 0]) ∧ Below w2.heap.size w2 w' ∧ Bs w' base2 X2 T2 P2 M2 S2 L (prsB L [(n : Int)])) := Lib.hid (by
    refine (HN2.out w2.drew D2.out.drew).mono fun e w' h => ?_
    obtain ⟨b2, X2, T2, P2, M2, S2, _, rfl, h3, h4⟩ := nw_good h HK2.out
    refine ⟨b2, X2, T2, P2, M2, S2, rfl, ⟨h3.os, h3.tape, h3.output, h3.size, h3.block⟩, ?_⟩
    have h4' := h4
    rw [show (setsE (⟨(fwB 4 n).toArray⟩ : ByteArray).data.toList).1 = [(n : Int)] from by rw [show (⟨(fwB 4 n).toArray⟩ : ByteArray).data.toList = fwB 4 n by simp, HS4.out]] at h4'
    rw [hL]
    exact h4')
  rw [← hL] at HF HLen
  have HGd : Hid (Good L []) := Lib.hid (by have := HK.out.2.2; rw [awS0, ← hL] at this; exact this)
  clear hL HBb HN2 HK HK2 HS4
  go_cut [9, 10] from 59 to 66 (fun s9 s10 wx => ∃ base2 X2 T2 P2 M2 S2, s9 = .pointer (some ⟨X2, 0, none⟩) ∧ s10 = .int .i64 0 ∧ Hid (Below w2.heap.size w2 wx) ∧ Hid (Bs wx base2 X2 T2 P2 M2 S2 L (prsB L [(n : Int)])))
  case first =>
    have qd1 : w2.drew.cell? ⟨w.heap.size + 1, 0, none⟩ = some (.int .i32 (n : Int)) := q1
    have td1 : w2.drew.cell? ⟨w.heap.size, 0, none⟩ = some (.string d) := t1
    refine wp_normQ ?_
    go_region_with (first | (go_at_call 21; refine (HHx.out _).mono ?_; rintro e w' ⟨rfl, rfl⟩) | (go_at_call 9; refine HN3.out.mono ?_; rintro e w3 ⟨b2, X2, T2, P2, M2, S2, rfl, hb3, hB2⟩; have D3 := Lib.hid hb3; have B3 := Lib.hid hB2; clear hb3 hB2))
    all_goals
      simp only [normQ, Exit.then]
      go_wp2_with fail
      go_meet
    all_goals exact ⟨b2, X2, T2, P2, M2, S2, rfl, rfl, D3, B3⟩
  case rest =>
    obtain ⟨base2, X2, T9, P2, M2, S2, rfl, rfl, D3, HBx⟩ := hcut
    have D3w := Lib.hid (D2.out.trans (D3.out.mono D2.out.size))
    have R3 := Lib.hid (R2.out.below D3.out)
    have C3 := Lib.hid (C2.out.below D3.out)
    have HB3 := Lib.hid (HBb2.out.below D3.out)
    clear q1 t1 R2 C2 T2 HBb2 HN3 HHx HSc D3
    have hq1 := eqfn39 32
    go_wp2_with fail
    refine (pairs_call _ (.pointer (some ⟨X, 0, none⟩)) rfl).mono ?_
    rintro e w9 ⟨rfl, rfl⟩
    go_wp2_with fail
    refine (pairs_call _ (.pointer (some ⟨X2, 0, none⟩)) rfl).mono ?_
    rintro e w9 ⟨rfl, rfl⟩
    obtain ⟨s1, s2, s3, s4, s5⟩ := out_boxes wc (.pointer (some ⟨X, 0, none⟩)) (.pointer (some ⟨X2, 0, none⟩))
    obtain ⟨V1, hV1⟩ : ∃ z, z = ((wc.alloc (.cells #[.pointer (some ⟨X, 0, none⟩)] 26)).alloc (.cells #[.pointer (some ⟨X2, 0, none⟩)] 26)).alloc (.cells #[.slice none 0 0] 32) := ⟨_, rfl⟩
    rw [← hV1] at s1 s2 s3 s4 s5
    obtain ⟨Bp, hBp⟩ : ∃ z, z = wc.heap.size := ⟨_, rfl⟩
    obtain ⟨Bq, hBq⟩ : ∃ z, z = Bp + 1 := ⟨_, rfl⟩
    obtain ⟨Bl, hBl⟩ : ∃ z, z = Bq + 1 := ⟨_, rfl⟩
    rw [← hBp] at s3
    rw [← hBp, ← hBq] at s4
    rw [← hBp, ← hBq, ← hBl] at s5
    have K3 := Lib.hid s3
    have K4 := Lib.hid s4
    have K5 := Lib.hid s5
    have hsz : V1.heap.size = Bl + 1 := by omega
    have HQ := Lib.hid (And.intro hsz (And.intro hBp (And.intro hBq (And.intro hBl (And.intro C3.out.lt R3.out.lt)))))
    have E1 := Lib.hid s1
    have D4 := Lib.hid (D3w.out.trans (s1.mono D3w.out.size))
    have C4 := Lib.hid (C3.out.below s1)
    have R4 := Lib.hid (R3.out.below s1)
    have HB4 := Lib.hid (HB3.out.below s1)
    have HX4 := Lib.hid (HBx.out.below s1)
    clear s1 s2 s3 s4 s5 hsz D3w C3 R3
    go_wp2_with fail
    rw [← hBp, ← hBq, ← hBl, ← hV1]
    clear hV1 hBp hBq hBl hq1
    refine wp_range_L (α := Pr L []) (G := 32) (lb := #[.pointer (some ⟨Bp, 0, none⟩)]) rfl (enters_of Tryz.func32 (by kernel_rfl) rfl)
      (pairs_iter (OwnL Bl) Bp (.pointer (some ⟨X, 0, none⟩)) L [] wc V1 HF.out HGd.out.s4 HLen.out (.inr ⟨base, X, T, P, M, S, rfl, HB3.out⟩) E1.out K3.out (ownL_on K5.out) (ownL_no K5.out))
      (fun h k => ⟨h.1.trans k.1, h.2.trans k.2⟩) (fun V l o o' hl h ho => ⟨kpO_put (ownL_on K5.out) V l o o' hl h ho, below_put (Below.refl _ _) (Nat.le_trans E1.out.size hl)⟩) (Below.refl _ _) (fun _ => rfl)
      (fun pre V => (∃ v, Boxed V Bl 32 v ∧ V.ownsRow Bl 21 1 v (lstO n pre).length (i32s (lstO n pre)) ∧ True) ∧ Below Bl V1 V) (fun _ _ _ => False)
      (OwnFrom.and (Own.from (holdsRow_own Bl Bl 32 21 1 (fun pre : List (Pr L []) => (lstO n pre).length) (fun pre => i32s (lstO n pre)) (fun _ _ => True)) _) (ownFrom_below (by have := HQ.out; omega) (by have := HQ.out; omega)))
      (fun _ _ _ _ _ h _ _ => h) ⟨⟨_, K5.out, World.ownsRow_nil _ _ _ _, trivial⟩, Below.refl _ _⟩
      (fun tm x t _ => t = ((tm.setIfInBounds 84 (.int .i32 x.1.fr)).setIfInBounds 85 (.agg #[.int .i32 (x.1.into.getD 0 0), .int .i32 (x.1.into.getD 1 0)])).setIfInBounds 14 (.int .i32 x.1.fr))
      (fun _ _ _ _ _ _ _ h _ _ => h) ?assign ?body ?done ?stop
    case assign =>
      intro l pre z V K hI hK
      unfold encP
      gi_wp2
      exact hK _ _ (KeepsFrom.refl _ _) ⟨kpO_below (ownL_on K5.out) (by have h5 := hI.2.size; omega) (Below.refl _ _), Below.refl _ _⟩ hI rfl
    case stop => exact fun D c pre V _ _ h => h.elim
    case done =>
      rintro D ys V hD rfl ⟨⟨v, hv, hrow, _⟩, hB⟩ hK
      rw [lstO_all] at hrow
      obtain ⟨F, hF⟩ : ∃ F, F = (prsB L [(n : Int)]).map (·.fr) := ⟨_, rfl⟩
      rw [← hF] at hrow
      have HFF := Lib.hid hF
      clear hF
      obtain ⟨A, c, rfl, hi⟩ := own_ints hrow
      have HI := Lib.hid hi
      have HV := Lib.hid hv
      have HK := Lib.hid hK
      have HEw := Lib.hid (E1.out.trans (hB.mono (show wc.heap.size ≤ Bl by have := HQ.out; omega)))
      have HDw := Lib.hid (D4.out.trans (hB.mono (show w.heap.size ≤ Bl by have := HQ.out; omega)))
      have KQ := Lib.hid (K4.out.on (hB.block Bq (by have := HQ.out; omega)))
      have RV := Lib.hid (R4.out.on (hB.block (w.heap.size + 1 + 1) (by have := HQ.out; omega)))
      have HBV := Lib.hid (fun W (h : Below V.heap.size V W) => (show BV W (.pointer (some ⟨X, 0, none⟩)) L (prsB L []) from .inr ⟨base, X, T, P, M, S, rfl, HB3.out.below (HEw.out.trans (h.mono HEw.out.size))⟩))
      have HXV := Lib.hid (fun W (h : Below V.heap.size V W) => (show BV W (.pointer (some ⟨X2, 0, none⟩)) L (prsB L [(n : Int)]) from .inr ⟨base2, X2, T9, P2, M2, S2, rfl, HBx.out.below (HEw.out.trans (h.mono HEw.out.size))⟩))
      have HsV := Lib.hid hB.size
      clear hi hv hK hrow hB HB3 HBx HB4 HX4 K3 K4 K5 C4 R4
      obtain ⟨V2, hV2⟩ : ∃ z, z = V.alloc (.cells #[.int .i64 0] 3) := ⟨_, rfl⟩
      have hb2 : Below V.heap.size V V2 := by rw [hV2]; exact (Below.refl _ V).alloc (Nat.le_refl _) _
      have kn : Tr.Bk V2 V.heap.size [.int .i64 0] 3 := by rw [hV2]; exact ⟨heap_alloc_new V _⟩
      have hs2 : V2.heap.size = V.heap.size + 1 := by rw [hV2]; simp
      have KN := Lib.hid kn
      have E2 := Lib.hid hb2
      clear kn hb2
      go_wp2_with fail
      rw [← hV2]
      clear hV2
      refine wp_range_L (α := Pr L [(n : Int)]) (G := 32) (lb := #[.pointer (some ⟨Bq, 0, none⟩)]) rfl (enters_of Tryz.func32 (by kernel_rfl) rfl)
        (pairs_iter (fun _ _ => False) Bq (.pointer (some ⟨X2, 0, none⟩)) L [(n : Int)] V V2 HF.out (good_out HGd.out n).s4 HLen.out (HXV.out V (Below.refl _ _)) E2.out (KQ.out.below E2.out) (OwnO.none _) (fun h => h))
        (fun h k => ⟨h.1.trans k.1, h.2.trans k.2⟩) (fun V l o o' hl h ho => ⟨kpF_put V l o o' h ho, below_put (Below.refl _ _) (by omega)⟩) (Below.refl _ _) (fun _ => rfl)
        (KeI V2 V.heap.size) (fun c pre _ => c = .ret ∧ ¬ (pre <+: (prsB L [(n : Int)]).attach))
        (keI_from (by omega) (by omega)) (fun _ => ownFrom_pure _ _) ⟨Below.refl _ _, KN.out⟩
        (fun tm x t _ => t = ((tm.setIfInBounds 94 (.int .i32 x.1.fr)).setIfInBounds 95 (.agg #[.int .i32 (x.1.into.getD 0 0), .int .i32 (x.1.into.getD 1 0)])).setIfInBounds 16 (.int .i32 x.1.fr))
        (fun _ _ _ _ _ _ _ h _ _ => h) ?assign2 ?body2 ?done2 ?stop2
      case assign2 =>
        intro l pre z V' K hI hK
        unfold encP
        gi_wp2
        exact hK _ _ (KeepsFrom.refl _ _) ⟨kpF_below (Below.refl _ _), Below.refl _ _⟩ hI rfl
      case stop2 =>
        rintro D2 c2 pre V' _ hp ⟨rfl, hno⟩ _
        exact absurd hp hno
      case done2 =>
        rintro D2x ys2 V' hD2 rfl ⟨hbV, hn⟩ hK2
        have hln : ((prsB L [(n : Int)]).attach.length : Int) = (F.length : Nat) := by rw [HFF.out]; simp
        rw [hln] at hn
        have HEV := Lib.hid (E2.out.trans hbV)
        have HDV := Lib.hid (HDw.out.trans (HEV.out.mono HDw.out.size))
        have HN3 := Lib.hid hn
        have HV3 := Lib.hid (HV.out.kept (row := none) ⟨HEV.out.os, HEV.out.tape, HEV.out.output, HEV.out.size, fun k hk _ => HEV.out.block k hk⟩ (by simp))
        have RV3 := Lib.hid (RV.out.below HEV.out)
        have K1 := Lib.hid ((HEV.out.block D (Array.getElem?_eq_some_iff.1 HK.out).1).trans HK.out)
        have K2 := Lib.hid hK2
        have HDD := Lib.hid (Array.getElem?_eq_some_iff.1 HK.out).1
        clear hbV hn hK2 hln HV RV HK KQ E2 KN HI
        have HDb := Lib.hid (decomp_any (.pointer (some ⟨X, 0, none⟩)) r V' HF.out (HBV.out V' HEV.out) (HT.out V' HDV.out) HR.out)
        go_wp2_with fail
        refine HDb.out.mono ?_
        rintro e V3 ⟨A3, c3, rfl, hi3, hb3⟩
        have HI3 := Lib.hid hi3
        have B3 := Lib.hid hb3
        have HEV3 := Lib.hid (HEV.out.trans (hb3.mono HEV.out.size))
        have HDV3 := Lib.hid (HDV.out.trans (hb3.mono HDV.out.size))
        clear hi3 hb3 HDb
        have HDx := Lib.hid (decomp_any (.pointer (some ⟨X2, 0, none⟩)) r V3 HF.out (HXV.out V3 HEV3.out) (HT.out V3 HDV3.out) HR.out)
        have hdl := dec_len HF.out r
        go_wp2_with fail
        refine HDx.out.mono ?_
        rintro e V4 ⟨A4, c4, rfl, hi4, hb4⟩
        have HI4 := Lib.hid hi4
        have HI34 := Lib.hid (HI3.out.below hb4)
        have B4 := Lib.hid (B3.out.trans (hb4.mono B3.out.size))
        clear hi4 hb4 HDx HI3 B3 HEV3 HDV3
        have n4 := (HN3.out.below B4.out).c (i := 0) rfl
        have v4 := (HV3.out.kept (row := none) ⟨B4.out.os, B4.out.tape, B4.out.output, B4.out.size, fun k hk _ => B4.out.block k hk⟩ (by simp)).cell
        have HEq := Lib.hid (eqR_call (l := (decB L r).2) (m := (decB L r).2) (f := true) (by simp) A3 A4 c3 c4 V4 HI34.out HI4.out (by omega) (by omega))
        generalize decB L r = dd at *
        obtain ⟨kd, into⟩ := dd
        have e1 : ((F.length : Int) == F.length) = true := by simp
        go_wp2_with fail
        refine HEq.out.mono ?_
        rintro e V5 ⟨rfl, hb5⟩
        have B5 := Lib.hid (B4.out.trans (hb5.mono B4.out.size))
        clear hb5 HEq HI34 HI4 B4 n4 v4
        have HEV5 := Lib.hid (HEV.out.trans (B5.out.mono HEV.out.size))
        have HDV5 := Lib.hid (HDV.out.trans (B5.out.mono HDV.out.size))
        have HC1 := Lib.hid (class_any (.pointer (some ⟨X, 0, none⟩)) r V5 HF.out (HBV.out V5 HEV5.out))
        have HC2 := Lib.hid (class_any (.pointer (some ⟨X2, 0, none⟩)) r V5 HF.out (HXV.out V5 HEV5.out))
        generalize clsB L r = cl at *
        have e2 : (cl == cl) = true := by simp
        go_wp2_with fail
        refine HC1.out.mono ?_
        rintro e V6 ⟨rfl, rfl⟩
        go_wp2_with fail
        refine HC2.out.mono ?_
        rintro e V6 ⟨rfl, rfl⟩
        have HA := Lib.hid (awake_any V5 (HM.out V5 HDV5.out) (HT.out V5 HDV5.out))
        go_wp2_with fail
        refine HA.out.mono ?_
        rintro e V6 ⟨rfl, hb6⟩
        have B6 := Lib.hid (B5.out.trans (hb6.mono B5.out.size))
        clear hb6 HA HC1 HC2 HEV5 HDV5 B5
        have HDV6 := Lib.hid (HDV.out.trans (B6.out.mono HDV.out.size))
        have R6 := Lib.hid (RV3.out.below B6.out)
        have K16 := Lib.hid ((B6.out.block D (Array.getElem?_eq_some_iff.1 K1.out).1).trans K1.out)
        have K26 := Lib.hid ((B6.out.block D2x (Array.getElem?_eq_some_iff.1 K2.out).1).trans K2.out)
        have r6 := R6.out.c (i := 0) rfl
        have rf6 := R6.out.fr 0
        have hr1 : D ≠ w.heap.size + 1 + 1 := fun e => by
          have := R6.out.blk
          rw [← e, K16.out] at this
          cases this
        have hr2 : D2x ≠ w.heap.size + 1 + 1 := fun e => by
          have := R6.out.blk
          rw [← e, K26.out] at this
          cases this
        have hne : D ≠ D2x := by have := HDD.out; omega
        have HKS := Lib.hid (fun v => (Below.heap_setCell V6 ⟨w.heap.size + 1 + 1, 0, none⟩ v D2x hr2).trans K26.out)
        have HKT := Lib.hid (fun v => (World.putObj_heap_other (w := V6.setCell ⟨w.heap.size + 1 + 1, 0, none⟩ v) (o := .deferred none) hne).trans ((Below.heap_setCell V6 ⟨w.heap.size + 1 + 1, 0, none⟩ v D hr1).trans K16.out))
        have r7 := cell_put (o := .deferred none) (cell_put (o := .deferred none) ((R6.out.set 0 (.bool true)).c (i := 0) rfl) (D := D2x) (fun e => hr2 e.symm)) (D := D) (fun e => hr1 e.symm)
        have HEnd := Lib.hid (below_put (o := .deferred none) (below_put (o := .deferred none) (HDV6.out.setCell (p := ⟨w.heap.size + 1 + 1, 0, none⟩) (by simp only; omega) (.bool true)) (D := D2x) (by have := HDD.out; have := D4.out.size; have := HDw.out.size; omega)) (D := D) (by have := D4.out.size; omega))
        clear hr1 hr2 hne
        go_wp2_with fail
        exact leave_mark (HKS.out _) (leave_mark (HKT.out _) (leave_nil (v := .bool true) (by simp [results, Tryz.results6, go_sem, r7]) ⟨rfl, HEnd.out⟩))
      case body2 =>
        rintro l pre z t V' ⟨hbV, hn⟩ rfl hlen
        have HEV := Lib.hid (E2.out.trans hbV)
        have hHEs := HEV.out.size
        have n0 := hn.c (i := 0) rfl
        have nf := hn.fr 0
        have v0 := (HV.out.kept (row := none) ⟨HEV.out.os, HEV.out.tape, HEV.out.output, HEV.out.size, fun k hk _ => HEV.out.block k hk⟩ (by simp)).cell
        have HI2 := Lib.hid (HI.out.below HEV.out)
        have rv := (RV.out.below HEV.out).c (i := 0) rfl
        have rf := (RV.out.below HEV.out).fr 0
        have HbV := Lib.hid hbV
        have Hn := Lib.hid hn
        have HKat := Lib.hid (fun h => keep_at (n := n) (pre := pre) (z := z) h)
        rw [← HFF.out] at HKat
        have hpl : pre.length < 4096 := Nat.lt_of_lt_of_le hlen HLen.out
        clear hbV hn
        by_cases hlt : pre.length < F.length
        · obtain ⟨gb, go, rfl, _, hcell⟩ := HI2.out pre.length hlt
          generalize hfv : F.getD pre.length 0 = fv at *
          by_cases hz : fv = z.1.fr
          · have hq : (fv != z.1.fr) = false := by simp [hz]
            have hltI : decide (F.length ≤ pre.length) = false := by simp; omega
            gi_wp2
            refine ⟨kf_set (by omega) _, ⟨kpF_set Hn.out (by decide) 0 _, (Below.refl _ _).setCell (p := ⟨V.heap.size, 0, none⟩) (Nat.le_refl _) _⟩, HbV.out.setCell (p := ⟨V.heap.size, 0, none⟩) (Nat.le_refl _) _, ?_⟩
            have hset := Hn.out.set 0 (.int .i64 ((pre.length : Int) + 1))
            rw [show ((pre ++ [z]).length : Int) = (pre.length : Int) + 1 from by simp]
            exact hset
          · have hq : (fv != z.1.fr) = true := by simpa using hz
            have hltI : decide (F.length ≤ pre.length) = false := by simp; omega
            have HNz := Lib.hid (show ¬ (pre ++ [z] <+: (prsB L [(n : Int)]).attach) from fun h => hz (HKat.out h).2)
            gi_wp2
            exact ⟨kf_set (by have := RV.out.lt; omega) _, rfl, HNz.out⟩
        · have hltI : decide (F.length ≤ pre.length) = true := by simp; omega
          have HNz := Lib.hid (show ¬ (pre ++ [z] <+: (prsB L [(n : Int)]).attach) from fun h => hlt (HKat.out h).1)
          gi_wp2
          exact ⟨kf_set (by have := RV.out.lt; omega) _, rfl, HNz.out⟩
    case body =>
      rintro l pre z t V ⟨⟨v, hv, hrow, _⟩, hB⟩ rfl hlen
      have hbl : Bl ≤ V.heap.size := by have := hB.size; have := HQ.out; omega
      have c0 := (C4.out.on (hB.block (w.heap.size + 1) (by have := HQ.out; omega))).c (i := 0) rfl
      by_cases hz : z.1.fr = n
      · have hq : (z.1.fr != (n : Int)) = false := by simp [hz]
        have HB := Lib.hid hB
        have HV := Lib.hid hv
        have HRw := Lib.hid hrow
        have HZ := Lib.hid hz
        clear hz hB hv hrow
        gi_wp2
        exact ⟨KeepsFrom.refl _ _, ⟨kpO_below (ownL_on K5.out) (by have h5 := HB.out.size; omega) (Below.refl _ _), Below.refl _ _⟩, ⟨v, HV.out, by rw [lstO_no HZ.out]; exact HRw.out, trivial⟩, HB.out⟩
      · have hq : (z.1.fr != (n : Int)) = true := by simpa using hz
        have hvc := hv.cell
        obtain ⟨A, c, rfl, _⟩ := Tr.own_slice hrow
        obtain ⟨i0, hi0, hz0, hz1, hz2⟩ := info_parts Tr.info21
        have I0 := Lib.hid hi0
        have I1 := Lib.hid hz0
        have I2 := Lib.hid hz1
        have I3 := Lib.hid hz2
        have hln : (lstO n pre).length ≤ 4096 := by have := lstO_len (n := n) (pre := pre); have := HLen.out; omega
        have HZ := Lib.hid hz
        clear hi0 hz0 hz1 hz2 hz
        gi_wp2_with (gi_at_builtin; refine wpListIn_append_own_at _ rfl _ _ 32 rfl Bl 21 i0 (.int .i32 0) 1 4 Tryz.underlying32 I0.out I1.out I2.out I3.out rfl (by decide) _ _ _ rfl (hrow.alloc _) ⟨V.heap.size, 0, none⟩ 1 1 [.int .i32 z.1.fr] rfl rfl (cell_one_new _ _ _) (by simp [Value.oneCell']) (by unfold maxLen; omega) (by omega) (by simp; omega) ?_; intro v' w1 hown' hgrow _ hat; obtain ⟨g', cap', rfl⟩ := ownsRow_succ hown'; obtain ⟨hv1, hv2, hr2, hk2, hb2⟩ := hv.appended (by decide) hrow hbl (Nat.le_refl _) hown' hgrow; have hc1 := hv1.cell; have hf1 := hv1.frozen; have HKP := Lib.hid (app_kp hv hrow hgrow hv2 hat))
        refine ⟨hk2.from _, ⟨HKP.out, hb2.mono (by have := HQ.out; omega)⟩, ⟨_, hv2, ?_, trivial⟩, hB.trans hb2⟩
        rw [lstO_yes HZ.out, List.length_append, Ha.i32s_app]
        exact hr2
theorem out_walk (d o : ByteArray) (c r : Int) (w : World) (hM : Ml w) (hT : Ha.Tab w) (hd : d.size ≤ 9223372036854775807) (ho : o.size ≤ 9223372036854775807) (hr : wfR r) :
    Calls Tryz.prog 6 #[.agg #[.string d, .string o], .int .i32 c, .int .i32 r] w fun e w' => e = .returned (.bool true) ∧ Below w.heap.size w w' := by
  cases hf : ((decide (d.size ≤ 3000) && decide (o.size ≤ 500)) && (decide (16 ≤ c ∧ c ≤ 65535) && scal c)) with
  | false => exact out_many d o c r w hM hT hd ho hf
  | true =>
    simp only [Bool.and_eq_true, decide_eq_true_eq] at hf
    obtain ⟨⟨h1, h2⟩, h3, h4⟩ := hf
    obtain ⟨n, rfl⟩ : ∃ n : Nat, c = n := ⟨c.toNat, by omega⟩
    by_cases hk : NwOk d.data.toList (⟨#[]⟩ : ByteArray).data.toList
    · exact out_good d o n r w hM hT h1 h2 (by omega) h4 hk hr
    · exact out_bad d o n r w hM hT h1 h2 (by omega) h4 hk

end Go.Proofs.YtagbeioooohbgaaGreatDoor.Ba

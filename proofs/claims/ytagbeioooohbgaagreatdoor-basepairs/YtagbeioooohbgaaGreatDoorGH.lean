import Derived.Test.YtagbeioooohbgaaGreatDoorGG
namespace Go.Proofs.YtagbeioooohbgaaGreatDoor.Uc
open Go.RowKit Fi

theorem tl_bd : ∀ (x : List (List UInt8)) (no : Nat), (tl no x).length ≤ x.length ∧ ∀ y ∈ tl no x, no ≤ y.1 ∧ y.1 < no + x.length ∧ ∃ z ∈ x, y.2 = toldL z
  | [], _ => ⟨by simp [tl], fun y hy => by cases hy⟩
  | z :: x, no => by
    obtain ⟨h1, h2⟩ := tl_bd x (no + 1)
    rw [tl]
    split
    · refine ⟨by simp; omega, fun y hy => ?_⟩
      obtain ⟨a, b, c, d, e⟩ := h2 y hy
      exact ⟨by omega, by simp; omega, c, by simp [d], e⟩
    · refine ⟨by simpa using h1, fun y hy => ?_⟩
      rcases List.mem_cons.1 hy with rfl | hy
      · exact ⟨Nat.le_refl _, by simp, z, by simp, rfl⟩
      · obtain ⟨a, b, c, d, e⟩ := h2 y hy
        exact ⟨by omega, by simp; omega, c, by simp [d], e⟩
theorem lin_bd (l : List UInt8) : (linE l).1.length ≤ 4096 ∧ ∀ y ∈ (linE l).1, 1 ≤ y.1 ∧ y.1 ≤ 4096 ∧ y.2.length ≤ 512 := by
  unfold linE
  split
  · exact ⟨by simp, fun y hy => by cases hy⟩
  · rename_i hc
    rw [lnsW_tl]
    split
    · exact ⟨by simp, fun y hy => by cases hy⟩
    · rename_i hl
      obtain ⟨h1, h2⟩ := tl_bd (spl 10 [] l) 1
      refine ⟨by simp; omega, fun y hy => ?_⟩
      simp only [List.nil_append] at hy
      obtain ⟨a, b, z, hz, e⟩ := h2 y hy
      refine ⟨a, by omega, ?_⟩
      rw [e]
      have h3 := toldL_le z
      have h4 : ¬ 512 < z.length := fun h5 => hl (List.any_eq_true.2 ⟨z, hz, by simpa using h5⟩)
      omega
structure FwR (w0 w1 wr : World) (X O : Nat) (k : Nat) (ls : List (Nat × List UInt8)) (rs : List Rw) (op : Nat) (tot : List Rw × Nat × Nat × Int) : Prop where
  st : RSt w0 wr X O rs op
  inv : Inv rs op
  len : rs.length ≤ k
  ob : op ≤ 4096
  keep : KeepT 90 w1 wr
  size : w1.heap.size ≤ wr.heap.size
  tot : run rs op (ls.drop k) = tot
def FwP (w0 : World) (X O : Nat) (x : List (Nat × List UInt8) × Int) (e : Ending) (w' : World) : Prop :=
  ∃ rs op, RSt w0 w' X O rs op ∧ if x.2 ≠ 0 then e = .returned (.tuple #[.int .i64 0, .int .i64 x.2]) ∧ rs = [] ∧ op = 0
    else e = .returned (.tuple #[.int .i64 (run [] 0 x.1).2.2.1, .int .i64 (run [] 0 x.1).2.2.2]) ∧ rs = (run [] 0 x.1).1 ∧ op = (run [] 0 x.1).2.1
set_option maxRecDepth 100000 in
set_option maxHeartbeats 4000000 in
theorem first_rows (s : ByteArray) (w0 w : World) (X O : Nat) (h : RSt w0 w X O [] 0) (hM : Ml w0) (hX : w0.heap.size ≤ X) (hO : w0.heap.size ≤ O) (hXO : X ≠ O) (hs : s.size ≤ 100000) :
    Calls Tryz.prog 42 #[.string s, .func (.func 43) #[] #[.pointer (some ⟨X, 0, none⟩), .pointer (some ⟨O, 0, none⟩)]] w (FwP w0 X O (linE s.data.toList)) := by
  have hL := lines_any s w (hM.below h.bel hM.pos) hs
  unfold LinP at hL
  obtain ⟨hb1, hb2⟩ := lin_bd s.data.toList
  obtain ⟨x, hx⟩ : ∃ x, x = linE s.data.toList := ⟨_, rfl⟩
  rw [← hx] at hL hb1 hb2 ⊢
  clear hx
  obtain ⟨ls, er⟩ := x
  simp only at hL hb1 hb2
  have HL := Lib.hid hL
  have HB2 := Lib.hid hb2
  have HS := Lib.hid h
  have HML := Lib.hid hM
  clear hL hb2 h hM
  by_cases h1 : er = 0
  · subst h1
    have HF := Lib.hid (show ∀ e w', (∃ rs op, RSt w0 w' X O rs op ∧ e = Ending.returned (.tuple #[.int .i64 (run [] 0 ls).2.2.1, .int .i64 (run [] 0 ls).2.2.2]) ∧ rs = (run [] 0 ls).1 ∧ op = (run [] 0 ls).2.1) → FwP w0 X O (ls, 0) e w' from fun e w' ⟨rs, op, a, b⟩ => ⟨rs, op, a, by simpa using b⟩)
    refine Calls.mono ?_ HF.out
    clear HF
    generalize htot : run [] 0 ls = tot
    have HT := Lib.hid htot
    clear htot
    obtain ⟨trs, top, tno, ter⟩ := tot
    go_enter Tryz.func42, Tryz.ntmps42
    go_wp2_with (go_at_call 70; refine HL.out.mono ?_; rintro e w1 ⟨v1, rfl, ho1, hb1'⟩; obtain ⟨A1, c1, rfl, _⟩ := own_lns ho1; have O1 := Lib.hid ho1; have B1 := Lib.hid hb1'; clear ho1 hb1')
    clear HL
    go_loopw [9, 10, 21] (fun _ _ i wr => ∃ k : Nat, i = .int .i64 k ∧ k ≤ ls.length ∧ ∃ rs op, Hid (FwR w0 w1 wr X O k ls rs op (trs, top, tno, ter))) (fun _ _ i _ => ls.length - (intOf i).toNat)
    case atStart => exact ⟨0, rfl, by omega, [], 0, HS.out.on B1.out, Inv.nil, Nat.le_refl _, by omega, KeepT.refl _ _, Nat.le_refl _, HT.out⟩
    case round =>
      obtain ⟨k, rfl, hk, rs, op, HQ⟩ := hrel
      clear HS HT
      by_cases hlt : k < ls.length
      · obtain ⟨A', c', e', hN⟩ := own_lns (HQ.out.keep.own O1.out)
        have e'' : A' = A1 := by injection e' with e1 e2 e3; exact e1.symm
        subst e''
        obtain ⟨b, off, rfl, hb, hc, hd⟩ := hN k hlt
        clear e' hN
        have hy := HB2.out ls[k] (List.getElem_mem hlt)
        have hdr : ls.drop k = ls[k] :: ls.drop (k + 1) := List.drop_eq_getElem_cons hlt
        have hrun := HQ.out.tot
        rw [hdr] at hrun
        generalize ls[k] = y at *
        obtain ⟨no, tx⟩ := y
        simp only at hc hd hy
        obtain ⟨tb, htb⟩ : ∃ tb : ByteArray, tb = ⟨tx.toArray⟩ := ⟨_, rfl⟩
        have htl : tb.data.toList = tx := by rw [htb]
        have htz : tb.size ≤ 512 := by rw [htb, size_mk]; exact hy.2.2
        rw [← htb] at hd
        have hC := clo_any w0 (wr.alloc (.cells #[.int .i64 no, .string tb] 90)) X O op no rs tb (HQ.out.st.on ((Below.refl _ wr).alloc (Nat.le_refl _) _)) HML.out hX hO hXO htz (by omega) (by have := HQ.out.ob; omega) (by have := HQ.out.len; omega) HQ.out.inv.ne
        rw [htl] at hC
        have HI2 := Lib.hid (stp_inv (no := no) (t := tx) HQ.out.inv)
        have HL2 := Lib.hid (stp_len (rs := rs) (op := op) (no := no) (t := tx))
        have hkl := HQ.out.len
        have hob := HQ.out.ob
        have g1 : (k : Int) < ls.length := by omega
        have LK := Lib.hid (show Bk (wr.alloc (.cells #[.int .i64 no, .string tb] 90)) wr.heap.size [.int .i64 no, .string tb] 90 from ⟨heap_alloc_new wr _⟩)
        by_cases h2 : (stp rs op no tx).2.2 = 0
        · rw [run_cons h2] at hrun
          rw [h2] at hC
          simp only at hrun
          generalize stp rs op no tx = z at *
          obtain ⟨rs2, op2, er2⟩ := z
          simp only at hC hrun h2
          have HC := Lib.hid hC
          have HR := Lib.hid hrun
          clear hC hrun h2 htl htb
          go_wp2_with (go_at_call 43; refine HC.out.mono ?_; rintro e w3 ⟨rfl, hst, hkp⟩; have S3 := Lib.hid hst; have K3 := Lib.hid hkp; clear hst hkp)
          go_roundw
          case rel =>
            have hz := (LK.out.lt)
            have hz2 : w3.heap[wr.heap.size]? = _ := K3.out _ _ _ LK.out.blk
            have hz3 : wr.heap.size < w3.heap.size := (Array.getElem?_eq_some_iff.1 (hz2.trans LK.out.blk)).1
            have hl2 := HL2.out
            refine ⟨k + 1, by go_num, by omega, rs2, op2, S3.out, HI2.out, by omega, by omega, (HQ.out.keep.trans (KeepT.below ((Below.refl _ wr).alloc (Nat.le_refl _) _))).trans K3.out, by have := HQ.out.size; omega, HR.out⟩
          case measure => simp [intOf]; omega
        · rw [run_wrong h2] at hrun
          simp only at hrun
          generalize stp rs op no tx = z at *
          obtain ⟨rs2, op2, er2⟩ := z
          simp only [Prod.mk.injEq] at hrun
          simp only at hC h2
          obtain ⟨rfl, rfl, rfl, rfl⟩ := hrun
          have e1 : (er2 != 0) = true := by simpa using h2
          have HC := Lib.hid hC
          clear hC h2 htl htb
          go_wp2_with (go_at_call 43; refine HC.out.mono ?_; rintro e w3 ⟨rfl, hst, hkp⟩; have S3 := Lib.hid hst; have d0 : w3.cell? ⟨wr.heap.size, 0, none⟩ = some (.int .i64 no) := (by have h9 := (hkp _ _ _ LK.out.blk).trans LK.out.blk; simp [World.cell?, h9]); clear hst hkp)
          go_ret2
          exact ⟨rs2, op2, S3.out, rfl, rfl, rfl⟩
      · have g1 : ¬ (k : Int) < ls.length := by omega
        have hrun := HQ.out.tot
        rw [List.drop_eq_nil_of_le (by omega), run] at hrun
        simp only [Prod.mk.injEq] at hrun
        obtain ⟨rfl, rfl, rfl, rfl⟩ := hrun
        go_wp2_with fail
        go_ret2
        exact ⟨rs, op, HQ.out.st, rfl, rfl, rfl⟩
  · have e1 : (er != 0) = true := by simpa using h1
    have HF := Lib.hid (show ∀ e w', (RSt w0 w' X O [] 0 ∧ e = Ending.returned (.tuple #[.int .i64 0, .int .i64 er])) → FwP w0 X O (ls, er) e w' from fun e w' ⟨a, b⟩ => ⟨[], 0, a, by rw [if_pos h1]; exact ⟨b, rfl, rfl⟩⟩)
    refine Calls.mono ?_ HF.out
    clear h1
    go_enter Tryz.func42, Tryz.ntmps42
    go_wp2_with (go_at_call 70; refine HL.out.mono ?_; rintro e w1 ⟨v1, rfl, ho1, hb1'⟩; have B1 := Lib.hid hb1'; clear ho1 hb1')
    go_ret2
    exact ⟨HS.out.on B1.out, rfl⟩

def RwsP (w : World) (T : TypeId) (x : List Rw × Nat × Int) (e : Ending) (w' : World) : Prop := ∃ v l, e = .returned (.tuple #[v, .int .i64 x.2.1, .int .i64 x.2.2]) ∧ l.map Prod.fst = x.1 ∧ RwIn w' w.heap.size T v l ∧ Below w.heap.size w w'
set_option maxRecDepth 100000 in
set_option maxHeartbeats 4000000 in
theorem rows_any (s : ByteArray) (w : World) (hM : Ml w) (hs : s.size ≤ 100000) : Calls Tryz.prog 22 #[.string s] w (RwsP w 91 (rwsE s.data.toList)) := by
  obtain ⟨w2, hw2⟩ : ∃ w2, w2 = (w.alloc (.cells #[.slice none 0 0] 52)).alloc (.cells #[.int .i64 0] 3) := ⟨_, rfl⟩
  have hb2 : Below w.heap.size w w2 := by rw [hw2]; exact ((Below.refl _ w).alloc (Nat.le_refl _) _).alloc (by simp) _
  have hx2 : One w2 w.heap.size (.slice none 0 0) 52 := by rw [hw2]; exact One.alloc ⟨heap_alloc_new w _⟩ _
  have ho2 : One w2 (w.heap.size + 1) (.int .i64 0) 3 := by rw [hw2]; exact ⟨by have := heap_alloc_new (w.alloc (.cells #[.slice none 0 0] 52)) (.cells #[.int .i64 0] 3); simpa using this⟩
  have hS : RSt w w2 w.heap.size (w.heap.size + 1) [] 0 := ⟨hb2, ⟨_, [], rfl, hx2, RwIn.nil _ _ _⟩, ho2⟩
  have hF := first_rows s w w2 w.heap.size (w.heap.size + 1) hS hM (Nat.le_refl _) (by omega) (by omega) hs
  unfold FwP at hF
  rw [hw2] at hF
  have hE : rwsE s.data.toList = rwsE s.data.toList := rfl
  conv at hE => rhs; unfold rwsE
  have HE := Lib.hid hE
  clear hE hS ho2 hx2 hb2 hw2 hM
  obtain ⟨x, hx⟩ : ∃ x, x = linE s.data.toList := ⟨_, rfl⟩
  have hE := HE.out
  rw [← hx] at hF hE
  clear hx HE
  obtain ⟨ls, er⟩ := x
  simp only at hF hE
  by_cases h1 : er ≠ 0
  · simp only [if_pos h1] at hF hE
    have HF := Lib.hid hF
    have HE := Lib.hid hE
    have e1 : (er == 0) = false := by simpa using h1
    have e2 : (er != 0) = true := by simpa using h1
    clear hF hE h1
    go_enter Tryz.func22, Tryz.ntmps22
    go_wp2_with (go_at_call 42; refine HF.out.mono ?_; rintro e w3 ⟨rs, op, hst, rfl, rfl, rfl⟩; have S3 := Lib.hid hst; clear hst)
    refine bodyPost_ret (v := .tuple #[.slice none 0 0, .int .i64 0, .int .i64 er]) (by simp [results, Tryz.results22, go_sem]) rfl ⟨_, [], by rw [HE.out]; rfl, by rw [HE.out]; rfl, RwIn.nil _ _ _, S3.out.bel⟩
  · simp only [if_neg h1] at hF hE
    clear h1 er
    generalize run [] 0 ls = z at *
    obtain ⟨rs0, op0, no0, er0⟩ := z
    simp only at hF hE
    by_cases h2 : er0 ≠ 0
    · simp only [if_pos h2] at hE
      have HF := Lib.hid hF
      have HE := Lib.hid hE
      have e1 : (er0 == 0) = false := by simpa using h2
      have e2 : (er0 != 0) = true := by simpa using h2
      clear hF hE h2
      go_enter Tryz.func22, Tryz.ntmps22
      go_wp2_with (go_at_call 42; refine HF.out.mono ?_; rintro e w3 ⟨rs, op, hst, rfl, rfl, rfl⟩; have S3 := Lib.hid hst; clear hst)
      refine bodyPost_ret (v := .tuple #[.slice none 0 0, .int .i64 no0, .int .i64 er0]) (by simp [results, Tryz.results22, go_sem]) rfl ⟨_, [], by rw [HE.out], by rw [HE.out]; rfl, RwIn.nil _ _ _, S3.out.bel⟩
    · obtain rfl : er0 = 0 := by simpa using h2
      by_cases h3 : op0 ≠ 0
      · simp only [ne_eq, not_true_eq_false, if_false, if_pos h3] at hE
        have HF := Lib.hid hF
        have HE := Lib.hid hE
        have e1 : ((op0 : Int) != 0) = true := by simpa using h3
        clear hF hE h2 h3
        go_enter Tryz.func22, Tryz.ntmps22
        go_wp2_with (go_at_call 42; refine HF.out.mono ?_; rintro e w3 ⟨rs, op, hst, rfl, rfl, rfl⟩; have S3 := Lib.hid hst; have c3 := hst.oo.c; clear hst)
        refine bodyPost_ret (v := .tuple #[.slice none 0 0, .int .i64 op, .int .i64 10]) (by simp [results, Tryz.results22, go_sem]) rfl ⟨_, [], by rw [HE.out], by rw [HE.out]; rfl, RwIn.nil _ _ _, S3.out.bel⟩
      · obtain rfl : op0 = 0 := by simpa using h3
        simp only [ne_eq, not_true_eq_false, if_false] at hE
        have HF := Lib.hid hF
        have HE := Lib.hid hE
        clear hF hE h2 h3
        go_enter Tryz.func22, Tryz.ntmps22
        go_wp2_with (go_at_call 42; refine HF.out.mono ?_; rintro e w3 ⟨rs, op, hst, rfl, rfl, rfl⟩; have S3 := Lib.hid hst; have c3 := hst.oo.c; obtain ⟨v3, l3, hl3, ox3, hin3⟩ := hst.ox; have c4 := ox3.c; have L3 := Lib.hid (And.intro hl3 hin3); clear hst hl3 ox3 hin3)
        refine bodyPost_ret (v := .tuple #[v3, .int .i64 0, .int .i64 0]) (by simp [results, Tryz.results22, go_sem]) rfl ⟨v3, l3, by rw [HE.out]; rfl, by rw [HE.out]; exact L3.out.1, L3.out.2, S3.out.bel⟩

end Go.Proofs.YtagbeioooohbgaaGreatDoor.Uc

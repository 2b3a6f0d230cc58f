import Derived.Test.YtfjckdjnnbpcnaaYH
import Derived.Deep.WholeRow
namespace Go.Proofs.Ytfjckdjnnbpcnaa.Tr
open Go.RowKit Go.Maps

theorem size68 : (Try.prog.info? 68).map (·.size) = some 512 := by kernel_rfl
theorem arr68 : Try.prog.underlying 68 = some (.array 256 66) := by kernel_rfl
theorem load_blk {w : World} {b : Nat} {cv : Array Value} (h : w.heap[b]? = some (.cells cv 68 (0, 0))) (hn : cv.size = 512) : (loadVar 68 ⟨b, 0, none⟩).run Try.prog w = .ok (.agg cv) w :=
  run_loadVar_row _ _ 68 68 cv (0, 0) _ h arr68 rfl (by rw [size68, hn])
theorem celP_one (p : Bool × Int) : ∀ v ∈ celP p, v.oneCell' = true := by
  intro v hv
  simp only [celP, List.mem_cons, List.not_mem_nil, or_false] at hv
  rcases hv with rfl | rfl <;> rfl
theorem store_blk (w : World) (h : Nat → Bool × Int) : (storeVar 68 ⟨w.heap.size, 0, none⟩ (.agg (blkC h).toArray)).run Try.prog (w.alloc (.cells Try.zeroCells68 68)) = .ok () (w.alloc (.cells (blkC h).toArray 68)) := by
  refine run_storeVar_new (P := Try.prog) w 68 Try.zeroCells68 (blkC h).toArray (by rw [size68]; simp [blkC_len]) (by rw [zero68]; simp [blkC_len]) ?_
  rw [Array.all_eq_true]
  intro i hi
  have hm : (blkC h).toArray[i] ∈ blkC h := by simp
  generalize (blkC h).toArray[i] = u at *
  unfold blkC at hm
  obtain ⟨j, _, hv⟩ := List.mem_flatMap.1 hm
  exact celP_one (h j) _ (by simpa using hv)

theorem Tab.same {w : World} {base X : Nat} {nn : Int} {g g' : Int → Int} (e : ∀ i j, i < 4352 → j < 256 → celF g nn i j = celF g' nn i j) (h : Tab w base X nn g) : Tab w base X nn g' := by
  obtain ⟨M, D, bm, h1, hz, h2⟩ := h
  refine ⟨M, D, bm, h1.same e, fun i hi => ?_, h2⟩
  rw [hz i hi, nz_cel, nz_cel]
  exact telB_same fun j hj => e i j hi hj
theorem cel_none {g : Int → Int} {nn : Int} {i j : Nat} (h : nzB g nn i = false) (hj : j < 256) : celF g nn i j = (false, 0) := by
  rw [nz_cel] at h
  have h6 := (List.any_eq_false.1 h) j (List.mem_range.2 hj)
  unfold celF at h6 ⊢
  split
  · rfl
  · rename_i h9; rw [if_neg h9] at h6; simp at h6
theorem own_ne_ranges {w : World} {R R' : Value → Option (DataW Unit × List MemPlace)} {M M2 r n n2 : Nat} {D D2 : DataW Unit} {left : Lit → Bool} {cnt : Nat} (h : w.ranges Try.prog 21 R M r n D left cnt) (h2 : w.ownsMap Try.prog 21 R' M2 n2 D2) : M2 ≠ r := fun e => by
  subst e
  obtain ⟨es, clock, since, seen, c0, _, _, _, _, hr, _⟩ := h
  obtain ⟨es2, clock2, hb2, _⟩ := h2
  have := hr.symm.trans hb2
  cases this
section
variable {P : Program} (w : World) {ops : Array Oper} {rest : List Oper} {o : Oper} {a : Act} {Q : Exit → Act → World → Prop}
/-- A whole array out of a block. -/
theorem wpList_load_arr (hg : o.guard = none) (t : TypeId) (p : Operand) (hop : o.op = Op.load t p) (b : Nat) (hp : a.eval p = .pointer (some ⟨b, 0, none⟩)) (v : Value) (hr : (loadVar t ⟨b, 0, none⟩).run P w = .ok v w)
    (hK : wpList P ops Q rest (a.put o.dst v) w) : wpList P ops Q (o :: rest) a w := by
  refine wpList_plain hg fun K' hK' => ?_
  unfold Oper.wp
  simp [execOp, hop, hp, Instr.loadAt, Instr.sureAddr, hr, Result.andThen]
  exact hK' _ _ hK
/-- A whole array into a block. -/
theorem wpList_store_arr (hg : o.guard = none) (t : TypeId) (p x : Operand) (hop : o.op = Op.store t p x) (b : Nat) (hp : a.eval p = .pointer (some ⟨b, 0, none⟩)) (v : Value) (hx : a.eval x = v) (w' : World) (hr : (storeVar t ⟨b, 0, none⟩ v).run P w = .ok () w')
    (hK : wpList P ops Q rest (a.put o.dst undef) w') : wpList P ops Q (o :: rest) a w := by
  refine wpList_plain hg fun K' hK' => ?_
  unfold Oper.wp
  simp [execOp, hop, hp, hx, Instr.storeAt, Instr.sureAddr, hr, Result.andThen]
  exact hK' _ _ hK
end

set_option maxHeartbeats 8000000 in
set_option maxRecDepth 100000 in
theorem copy_any (w : World) (base X : Nat) (nn : Int) (g : Int → Int) (h : Tab w base X nn g) :
    Calls Try.prog 15 #[.pointer (some ⟨X, 0, none⟩)] w fun e w' => ∃ Y, e = .returned (.pointer (some ⟨Y, 0, none⟩)) ∧ Tab w' w.heap.size Y nn g ∧ Below w.heap.size w w' := by
  obtain ⟨M, D0, bm0, h1, hz, h2⟩ := h
  have c0 := h1.blk.c (i := 0) rfl
  have c1 := h1.blk.c (i := 1) rfl
  have HO := Lib.hid h2
  have H1 := Lib.hid h1
  have HZ := Lib.hid hz
  clear h1 hz h2
  obtain ⟨n, hn⟩ : ∃ n, n = Maps.size D0 := ⟨_, rfl⟩
  rw [← hn] at HO
  clear hn
  go_enter Try.func15, Try.ntmps15
  go_wp2_with fail
  refine (newT_any w nn).mono ?_
  rintro e w1 ⟨Y, rfl, ht, hb⟩
  have B1 := Lib.hid hb
  have S1 := Lib.hid (H1.out.on (hb.block X H1.out.blk.lt) (fun i b hi e => hb.block b (H1.out.at_ i b hi e).2.lt))
  have O1 := Lib.hid (own_keep HO.out (hb.block M HO.out.lt))
  have c11 := S1.out.blk.c (i := 1) rfl
  have T1 := Lib.hid ht
  clear ht hb c0 c1
  go_wp2_with (at_range; refine wpList_range_own _ rfl _ 56 rfl 21 64 law21 Try.underlying56 ptrE M n D0 rfl O1.out ?_; intro w0 hrg0 hg0 hs0)
  go_frame
  have HG0 := Lib.hid hg0
  have HR0 := Lib.hid hrg0
  have HS0 := Lib.hid hs0
  clear hrg0 hg0 hs0
  go_loopw [4] (fun _ wr => ∃ left cnt, Hid (wr.ranges Try.prog 21 ptrE M w1.heap.size n D0 left cnt) ∧ Hid (Tb1 wr base X M nn (celF g nn) D0 bm0 ∧ Tab wr w.heap.size Y nn (gf (fun _ => nn) g left) ∧ Below w.heap.size w wr)) (fun _ wr => wr.rangeLeft M w1.heap.size)
  case atStart =>
    refine ⟨_, _, HR0, Lib.hid ⟨S1.out.on (HG0.out.block X S1.out.blk.lt (by simp)) (fun i b hi e => HG0.out.block b (S1.out.at_ i b hi e).2.lt (by simp)), ?_, (B1.out.grown (HG0.out) B1.out.size (fun j e => by cases e))⟩⟩
    refine Tab.same (g := fun _ => nn) (fun i j hi hj => ?_) (T1.out.on fun k hk _ => HG0.out.block k hk (by simp))
    cases hl : Maps.has D0 (.int .i32 (i : Int)) with
    | true => rw [gf_old hj hl]
    | false =>
      rw [gf_new hj hl]
      have h5 := HZ.out i hi
      rw [← H1.out.mp.has i hi, hl] at h5
      rw [cel_none h5.symm hj]
      unfold celF
      rw [if_pos rfl]
  case round =>
    obtain ⟨left, cnt, hrg, HT⟩ := hrel
    go_wp2_with (at_next; refine wpList_next_ranges _ rfl _ rfl 21 law21 ptrE (Value.int .i32) ptrV key_inv ptrV_inv M w1.heap.size n D0 left cnt rfl hrg.out ?_ ?_)
    · intro _ hl0
      have e : gf (fun _ => nn) g left = g := by
        funext r
        unfold gf
        rw [if_neg (by rw [hl0]; decide)]
      have HE := Lib.hid e
      clear e hl0
      go_wp2_with fail
      go_ret
      have HT2 := HT.out
      rw [HE.out] at HT2
      exact ⟨Y, rfl, HT2.2.1, HT2.2.2⟩
    · intro x c kl yd yp w2 cnt2 hkey hlk hv hat hrg2 hlt hg2 hs2 hen
      obtain ⟨x', ex, rfl, hwx⟩ := Maps.keyOf_int_inv Try.underlying21 hkey
      cases ex
      obtain ⟨i, rfl, hi⟩ := HT.out.1.mp.key x (has_true_of_atKey hat)
      rw [ptrE_V] at hv
      have hbi : bm0 i = c := by
        have h5 := hat .nil
        rw [HT.out.1.mp.at_ i hi] at h5
        cases hv
        exact ptrD_inj h5
      have hsome := HT.out.1.mp.has i hi
      rw [has_true_of_atKey hat, hbi] at hsome
      obtain ⟨b, rfl⟩ : ∃ b, c = some b := by
        cases c with
        | none => cases hsome
        | some b => exact ⟨b, rfl⟩
      simp only [ptrV, Option.map_some] at hen ⊢
      clear hv hat hsome hkey hwx
      obtain ⟨M2, Dc, bmc, k1, kz, k2⟩ := HT.out.2.1
      have K1 := Lib.hid (k1.grown hg2 (fun c cs t hB => ranges_not_cells hrg.out hB))
      have KZ := Lib.hid kz
      have hMr : M2 ≠ w1.heap.size := fun e => by
        subst e
        obtain ⟨es, clock, since, seen, c0, _, _, _, _, hr, _⟩ := hrg.out
        obtain ⟨es2, clock2, hb2, _⟩ := k2
        have := hr.symm.trans hb2
        cases this
      have K2 := Lib.hid (own_keep k2 (hg2.block M2 k2.lt (by simpa using hMr)))
      have KS := Lib.hid (size_le k2 k1.mp)
      have hYl : Y < w2.heap.size := K1.out.blk.lt
      have cY := K1.out.blk.c (i := 1) rfl
      have T2 := Lib.hid (HT.out.1.grown hg2 (fun c cs t hB => ranges_not_cells hrg.out hB))
      have R2 := Lib.hid hrg2
      have HB := Lib.hid hbi
      have HL := Lib.hid hlk
      have BB := Lib.hid (T2.out.at_ i b hi hbi).2
      have LT := Lib.hid hlt
      have D2 := Lib.hid (HT.out.2.2.grown hg2 HT.out.2.2.size (fun j e => by cases e; exact B1.out.size))
      have KEY := Lib.hid (keyOf_int_mk (P := Try.prog) Try.underlying21 (wf32 (x := (i : Int)) (by omega) (by omega)))
      clear hrg2 hbi hlk hlt hs2 hg2 k1 kz k2 hMr
      obtain ⟨cv, hcv⟩ : ∃ cv : List Value, cv = blkC (celF g nn i) := ⟨_, rfl⟩
      have hld : (loadVar 68 ⟨b, 0, none⟩).run Try.prog w2 = .ok (.agg cv.toArray) w2 := load_blk (by rw [hcv]; exact BB.out.blk) (by rw [hcv]; simp [blkC_len])
      have hst : (storeVar 68 ⟨w2.heap.size, 0, none⟩ (.agg cv.toArray)).run Try.prog (w2.alloc (.cells Try.zeroCells68 68)) = .ok () (w2.alloc (.cells cv.toArray 68)) := by rw [hcv]; exact store_blk w2 _
      have HCV := Lib.hid hcv
      have HLD := Lib.hid hld
      have HST := Lib.hid hst
      clear hcv hld hst
      go_wp2_with (first
        | (refine wpList_load_arr _ rfl 68 _ rfl b rfl _ HLD.out ?_)
        | (refine wpList_store_arr _ rfl 68 _ _ rfl w2.heap.size rfl (.agg cv.toArray) rfl _ HST.out ?_)
        | (at_mapUpdate; refine wpList_mapUpdate_own _ rfl _ _ _ 56 rfl 21 64 law21 Try.underlying56 ptrE M2 (Maps.size Dc) Dc rfl (K2.out.alloc _) (by have := KS.out; unfold maxLen; omega) _ _ _ rfl rfl KEY.out (.lit (.int .i64 w2.heap.size)) [] (ptrE_some _) ?_; intro w4 hown4 hgrow4; go_frame; have O4 := Lib.hid hown4; have G4 := Lib.hid hgrow4; have hq := hgrow4.size; clear hown4 hgrow4))
      have hMM : some M ≠ some M2 := by have := HO.out.lt; have := K1.out.loM; simp; omega
      have hrM : some w1.heap.size ≠ some M2 := (own_ne_ranges R2.out K2.out).symm_some
      have R4 := Lib.hid ((R2.out.alloc (.cells cv.toArray 68)).kept G4.out hMM hrM)
      have HM := Lib.hid (And.intro hMM hrM)
      clear hMM hrM
      go_roundw
      case measure => rw [R4.out.left_eq, hrg.out.left_eq]; exact LT.out
      case rel =>
        have hl0 : ∀ j, j < w2.heap.size → j ≠ M2 → w4.heap[j]? = w2.heap[j]? := fun j hj hm => (G4.out.block j (by simp; omega) (by simpa using hm)).trans (Below.heap_alloc _ _ _ hj)
        have hM2l := K2.out.lt
        have hBn : Bk w4 w2.heap.size (blkC (celF g nn i)) 68 := ⟨(G4.out.block _ (by simp) (by simp; omega)).trans (by rw [heap_alloc_new, HCV.out])⟩
        have q := K1.out.added hi D2.out.size hBn (Nat.le_refl _) hl0 (own_not_cells K2.out K1.out.blk) (fun i c hi e => own_not_cells K2.out (K1.out.at_ i c hi e).2) K2.out.isMap
        have E := forget_end (k := i) q KZ.out (fun i' j e _ _ => by simp only [if_neg e]) (fun j hj => by simp only [if_pos]) (fun i' e => if_neg e) (by
          rw [← HZ.out i hi, HB.out]
          simp)
        exact ⟨strike left i, cnt2, R4, Lib.hid ⟨T2.out.on (hl0 X T2.out.blk.lt (own_not_cells K2.out T2.out.blk)) (fun j c hj e => hl0 c (T2.out.at_ j c hj e).2.lt (own_not_cells K2.out (T2.out.at_ j c hj e).2)),
          ⟨M2, _, _, E.1, E.2, own_tight O4.out⟩, (D2.out.alloc D2.out.size _).grown G4.out (by have := D2.out.size; simp; omega) (fun j e => by cases e; exact K1.out.loM)⟩⟩

end Go.Proofs.Ytfjckdjnnbpcnaa.Tr

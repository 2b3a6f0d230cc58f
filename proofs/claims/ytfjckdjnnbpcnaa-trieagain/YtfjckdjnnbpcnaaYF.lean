import Derived.Test.YtfjckdjnnbpcnaaYE
import Derived.Test.YtfjckdjnnbpcnaaYU
namespace Go.Proofs.Ytfjckdjnnbpcnaa.Tr
open Go.RowKit Go.Maps

theorem Mv.iff {F F' G G' : Nat → Prop} {w w' : World} (h : Mv F F' w w') (e : ∀ k, G k ↔ F k) (e' : ∀ k, G' k ↔ F' k) : Mv G G' w w' :=
  ⟨h.os, h.tape, h.output, h.size, fun k hk hG => h.keep k hk (fun hF => hG ((e k).2 hF)), fun k hk => (h.fp k ((e' k).1 hk)).imp (e k).2 id⟩
/-- The values on the way: the range is set up to a block. -/
def gk (g : Int → Int) (f t v : Int) (k : Nat) (r : Int) : Int := if f ≤ r ∧ r ≤ t ∧ r < k * 256 then v else g r
/-- A block is filled. -/
theorem Tb1.filled {w w' : World} {base X M : Nat} {nn : Int} {hs : Nat → Nat → Bool × Int} {D : DataW Unit} {bm : Nat → Option Nat} {k b n : Nat} {h' : Nat → Bool × Int} (h : Tb1 w base X M nn hs D bm) (ho : w.ownsMap Try.prog 21 ptrE M n D)
    (hk : k < 4352) (hb : bm k = some b) (hB : Bk w' b (blkC h') 68) (hm : Mv (· = b) (· = b) w w') :
    Tb1 w' base X M nn (fun i => if i = k then h' else hs i) D bm ∧ w'.ownsMap Try.prog 21 ptrE M n D ∧ Mv (FB X M bm) (FB X M bm) w w' := by
  have hX : X ≠ b := fun e => by subst e; exact absurd (bk_inj h.blk (h.at_ k _ hk hb).2).2 (by decide)
  have hM : M ≠ b := fun e => by
    subst e
    obtain ⟨es, clock, hb2, _⟩ := ho
    have := hb2.symm.trans (h.at_ k _ hk hb).2.blk
    cases this
  refine ⟨⟨h.lo, h.loM, h.blk.on (hm.keep X h.blk.lt hX), h.mp, fun i c hi e => ?_, h.inj⟩, own_keep ho (hm.keep M ho.lt hM), hm.os, hm.tape, hm.output, hm.size, fun j hj hF => hm.keep j hj (fun e => hF (.inr (.inr ⟨k, hk, by rw [e]; exact hb⟩))), fun j hj => .inl hj⟩
  by_cases e2 : i = k
  · subst e2
    rw [hb] at e
    cases e
    simp only [if_pos]
    exact ⟨(h.at_ i b hi hb).1, hB⟩
  · simp only [if_neg e2]
    exact ⟨(h.at_ i c hi e).1, (h.at_ i c hi e).2.on (hm.keep c (h.at_ i c hi e).2.lt (fun e3 => e2 (h.inj i k b hi hk (by rw [← e3]; exact e) hb)))⟩

theorem zero68 : Try.zeroCells68 = (blkC fun _ => (false, 0)).toArray := by kernel_rfl
/-- A new block under a new key. -/
theorem Tb1.added {w w' : World} {base X M : Nat} {nn : Int} {hs : Nat → Nat → Bool × Int} {D : DataW Unit} {bm : Nat → Option Nat} {k b : Nat} {h' : Nat → Bool × Int} (h : Tb1 w base X M nn hs D bm) (hk : k < 4352) (hbase : base ≤ w.heap.size)
    (hB : Bk w' b (blkC h') 68) (hbl : w.heap.size ≤ b) (hg : ∀ j, j < w.heap.size → j ≠ M → w'.heap[j]? = w.heap[j]?) (hM : X ≠ M) (hMb : ∀ i c, i < 4352 → bm i = some c → c ≠ M)
    (hD : IsMap D) : Tb1 w' base X M nn (fun i => if i = k then h' else hs i) (D.put (.int .i32 k) (.lit (.int .i64 b))) (fun i => if i = k then some b else bm i) := by
  refine ⟨h.lo, h.loM, h.blk.on (hg X h.blk.lt hM), h.mp.put hD hk b, fun i c hi e => ?_, fun i j c hi hj e1 e2 => ?_⟩
  · by_cases e2 : i = k
    · subst e2
      simp only [if_pos] at e ⊢
      cases e
      exact ⟨by omega, hB⟩
    · simp only [if_neg e2] at e ⊢
      obtain ⟨h1, h2⟩ := h.at_ i c hi e
      exact ⟨h1, h2.on (hg c h2.lt (hMb i c hi e))⟩
  · by_cases e3 : i = k <;> by_cases e4 : j = k
    · rw [e3, e4]
    · simp only [if_pos e3, if_neg e4] at e1 e2
      cases e1
      have := (h.at_ j _ hj e2).2.lt
      omega
    · simp only [if_neg e3, if_pos e4] at e1 e2
      cases e2
      have := (h.at_ i _ hi e1).2.lt
      omega
    · simp only [if_neg e3, if_neg e4] at e1 e2
      exact h.inj i j c hi hj e1 e2
theorem own_not_cells {w : World} {R : Value → Option (DataW Unit × List MemPlace)} {M n : Nat} {D : DataW Unit} {c : Nat} {cs : List Value} {t : TypeId} (ho : w.ownsMap Try.prog 21 R M n D) (hB : Bk w c cs t) : c ≠ M := fun e => by
  subst e
  obtain ⟨es, clock, hb2, _⟩ := ho
  have := hb2.symm.trans hB.blk
  cases this
theorem nz_cel (g : Int → Int) (nn : Int) (i : Nat) : nzB g nn i = telB (celF g nn i) 256 := by
  unfold nzB telB
  congr 1
  funext j
  unfold celF
  by_cases h : g ((i * 256 + j : Nat) : Int) = nn
  · rw [if_pos h]; simpa using h
  · rw [if_neg h]; simpa using h
theorem gk_cel {g : Int → Int} {f t v nn : Int} {k j : Nat} (hj : j < 256) (hv : v ≠ nn) : (if f ≤ (k : Int) * 256 + j ∧ (k : Int) * 256 + j ≤ t then (true, v) else celF (gk g f t v k) nn k j) = celF (gk g f t v (k + 1)) nn k j := by
  have e1 : gk g f t v k ((k * 256 + j : Nat) : Int) = g ((k * 256 + j : Nat) : Int) := by unfold gk; rw [if_neg (by omega)]
  have e2 : gk g f t v (k + 1) ((k * 256 + j : Nat) : Int) = if f ≤ (k : Int) * 256 + j ∧ (k : Int) * 256 + j ≤ t then v else g ((k * 256 + j : Nat) : Int) := by
    unfold gk
    by_cases h : f ≤ (k : Int) * 256 + j ∧ (k : Int) * 256 + j ≤ t
    · rw [if_pos h, if_pos (by omega)]
    · rw [if_neg h, if_neg (by omega)]
  unfold celF
  rw [e1, e2]
  by_cases h : f ≤ (k : Int) * 256 + j ∧ (k : Int) * 256 + j ≤ t
  · rw [if_pos h, if_pos h, if_neg hv]
  · rw [if_neg h, if_neg h]
theorem gk_oth {g : Int → Int} {f t v nn : Int} {k i j : Nat} (hj : j < 256) (hi : i ≠ k) : celF (gk g f t v k) nn i j = celF (gk g f t v (k + 1)) nn i j := by
  have e1 : gk g f t v k ((i * 256 + j : Nat) : Int) = gk g f t v (k + 1) ((i * 256 + j : Nat) : Int) := by
    unfold gk
    by_cases h : f ≤ ((i * 256 + j : Nat) : Int) ∧ ((i * 256 + j : Nat) : Int) ≤ t ∧ ((i * 256 + j : Nat) : Int) < k * 256
    · rw [if_pos h, if_pos (by omega)]
    · rw [if_neg h, if_neg (by omega)]
  unfold celF
  rw [e1]
theorem telB_same {h h' : Nat → Bool × Int} (e : ∀ j, j < 256 → h j = h' j) : telB h 256 = telB h' 256 := by
  unfold telB
  rw [Bool.eq_iff_iff, List.any_eq_true, List.any_eq_true]
  constructor
  · rintro ⟨j, hj, h1⟩; exact ⟨j, hj, by rw [← e j (List.mem_range.1 hj)]; exact h1⟩
  · rintro ⟨j, hj, h1⟩; exact ⟨j, hj, by rw [e j (List.mem_range.1 hj)]; exact h1⟩
theorem gk_nz {g : Int → Int} {f t v nn : Int} {k : Nat} (hv : v ≠ nn) (hft : f ≤ t) (hk0 : f / 256 ≤ k) (hk1 : (k : Int) ≤ t / 256) : nzB (gk g f t v (k + 1)) nn k = true := by
  obtain ⟨j, hj⟩ : ∃ j : Nat, (j : Int) = (if f - k * 256 < 0 then 0 else f - k * 256) := ⟨(if f - k * 256 < 0 then 0 else f - k * 256).toNat, by split <;> omega⟩
  have hj2 : j < 256 ∧ f ≤ (k : Int) * 256 + j ∧ (k : Int) * 256 + j ≤ t := by split at hj <;> omega
  rw [nz_cel]
  refine telB_yes hj2.1 ?_
  rw [← gk_cel hj2.1 hv, if_pos hj2.2]
theorem Tb1.same {w : World} {base X M : Nat} {nn : Int} {hs hs' : Nat → Nat → Bool × Int} {D : DataW Unit} {bm : Nat → Option Nat} (h : Tb1 w base X M nn hs D bm) (e : ∀ i j, i < 4352 → j < 256 → hs i j = hs' i j) : Tb1 w base X M nn hs' D bm :=
  ⟨h.lo, h.loM, h.blk, h.mp, fun i b hi hb => ⟨(h.at_ i b hi hb).1, by rw [blkC_same (h' := hs i) fun j hj => (e i j hi hj).symm]; exact (h.at_ i b hi hb).2⟩, h.inj⟩
theorem tell_end {w : World} {base X M n : Nat} {nn : Int} {g : Int → Int} {f t v : Int} {k : Nat} {h' : Nat → Bool × Int} {D : DataW Unit} {bm bm0 : Nat → Option Nat} (hv : v ≠ nn) (hft : f ≤ t) (hk0 : f / 256 ≤ k) (hk1 : (k : Int) ≤ t / 256)
    (h : Tb1 w base X M nn (fun i => if i = k then h' else celF (gk g f t v k) nn i) D bm) (ho : w.ownsMap Try.prog 21 ptrE M n D) (hz : ∀ i, i < 4352 → (bm0 i).isSome = nzB (gk g f t v k) nn i)
    (hb : ∀ i, i ≠ k → bm i = bm0 i) (hbk : (bm k).isSome = true) (hh : ∀ j, j < 256 → h' j = if f ≤ (k : Int) * 256 + j ∧ (k : Int) * 256 + j ≤ t then (true, v) else celF (gk g f t v k) nn k j) :
    Tab w base X nn (gk g f t v (k + 1)) := by
  refine ⟨M, D, bm, h.same fun i j hi hj => ?_, fun i hi => ?_, own_tight ho⟩
  · by_cases e : i = k
    · subst e; simp only [if_pos]; rw [hh j hj, gk_cel hj hv]
    · simp only [if_neg e]; exact gk_oth hj e
  · by_cases e : i = k
    · subst e; rw [hbk, gk_nz hv hft hk0 hk1]
    · rw [hb i e, hz i hi, nz_cel, nz_cel]
      exact telB_same fun j hj => gk_oth hj e
theorem gk_done {g : Int → Int} {f t v : Int} {k : Nat} (hk : t / 256 < k) (hf : 0 ≤ f) (hft : f ≤ t) (ht : t ≤ 1114111) : gk g f t v k = updS g (f, t, v) := by
  funext r
  have hok : okS (f, t, v) = true := by simp [okS]; omega
  unfold gk updS inS
  rw [if_pos hok]
  by_cases h : f ≤ r ∧ r ≤ t
  · rw [if_pos (by omega)]; simp [h.1, h.2]
  · rw [if_neg (by omega)]
    have : (decide (f ≤ r) && decide (r ≤ t)) = false := by simp; omega
    simp only [this]
    rfl
set_option maxHeartbeats 8000000 in
set_option maxRecDepth 100000 in
theorem tell_any (w : World) (base X : Nat) (nn : Int) (g : Int → Int) (f t v : Int) (h : Tab w base X nn g) (hf : 0 ≤ f) (hft : f ≤ t) (ht : t ≤ 1114111) (hv : v ≠ nn) :
    Calls Try.prog 29 #[.pointer (some ⟨X, 0, none⟩), .int .i32 f, .int .i32 t, .int .i64 v] w
      fun e w' => e = .returned (.tuple #[]) ∧ Tab w' base X nn (updS g (f, t, v)) ∧ Mv (fpT w X) (fpT w' X) w w' := by
  have HT := Lib.hid h
  have HV := Lib.hid hv
  clear h hv
  go_enter Try.func29, Try.ntmps29
  go_wp2_with fail
  go_loopw [8] (fun i wr => ∃ k : Nat, i = .int .i32 k ∧ f / 256 ≤ k ∧ (k : Int) ≤ t / 256 + 1 ∧ Hid (Tab wr base X nn (gk g f t v k) ∧ Mv (fpT w X) (fpT wr X) w wr)) (fun i _ => (t / 256 + 1 - intOf i).toNat)
  case atStart =>
    refine ⟨(f / 256).toNat, by congr 1; omega, by omega, by omega, ?_, Mv.refl _ _⟩
    have e : gk g f t v (f / 256).toNat = g := by
      funext r
      unfold gk
      rw [if_neg (by omega)]
    rw [e]
    exact HT.out
  case round =>
    obtain ⟨k, rfl, hk0, hk1, HR⟩ := hrel
    by_cases hlt : (k : Int) ≤ t / 256
    · obtain ⟨M, D, bm, h1, hz, h2⟩ := HR.out.1
      have c1 := h1.blk.c (i := 1) rfl
      have hXl := h1.blk.lt
      have hk2 : k < 4352 := by omega
      have HK : keyOf Try.prog 21 (.int .i32 (k : Int)) = some (.int .i32 (k : Int)) := keyOf_int_mk Try.underlying21 (wf32 (by omega) (by omega))
      have HA := Lib.hid (h1.mp.at_ k hk2)
      have HO := Lib.hid h2
      have H1 := Lib.hid h1
      have HZ := Lib.hid hz
      have HSZ := Lib.hid (size_le h2 h1.mp)
      clear h1 hz h2
      cases hb : bm k with
      | none =>
        rw [hb] at HA
        have HB := Lib.hid hb
        clear hb
        go_wp2_with (first
          | (at_lookup; refine wpList_lookup_ptr _ rfl _ _ 56 rfl 21 64 law21 Try.underlying56 (zero64 _) M (Maps.size D) D rfl HO.out _ _ rfl HK none HA.out ?_)
          | (at_mapUpdate; refine wpList_mapUpdate_own _ rfl _ _ _ 56 rfl 21 64 law21 Try.underlying56 ptrE M (Maps.size D) D rfl (HO.out.alloc _) (by have := HSZ.out; unfold maxLen; omega) _ _ _ rfl rfl HK (.lit (.int .i64 wr.heap.size)) [] (ptrE_some _) ?_; intro w1 hown1 hgrow1; have O1 := Lib.hid hown1; have G1 := Lib.hid hgrow1; have hq := hgrow1.size; clear hown1 hgrow1))
        have hl0 : ∀ j, j < wr.heap.size → j ≠ M → w1.heap[j]? = wr.heap[j]? := fun j hj hm => (G1.out.block j (by simp; omega) (by simpa using hm)).trans (Below.heap_alloc _ _ _ hj)
        have hMl := HO.out.lt
        have hBn : Bk w1 wr.heap.size (blkC fun _ => (false, 0)) 68 := ⟨(G1.out.block _ (by simp) (by simp; omega)).trans (by rw [heap_alloc_new, zero68])⟩
        have hT1 := H1.out.added (h' := fun _ => (false, 0)) hk2 (by have := H1.out.lo; omega) hBn (Nat.le_refl _) hl0 (own_not_cells HO.out H1.out.blk) (fun i c hi e => own_not_cells HO.out (H1.out.at_ i c hi e).2) HO.out.isMap
        have T1 := Lib.hid hT1
        have N1 := Lib.hid (show Mv (FB X M bm) (FB X M (fun i => if i = k then some wr.heap.size else bm i)) wr w1 from
          ⟨G1.out.os, G1.out.tape, G1.out.output, by simp at hq; omega, fun j hj hF => hl0 j hj (fun e => hF (.inr (.inl e))), fun j hj => by
            rcases hj with rfl | rfl | ⟨i, hi, e⟩
            · exact .inl (.inl rfl)
            · exact .inl (.inr (.inl rfl))
            · by_cases e2 : i = k
              · simp only [if_pos e2] at e; cases e; exact .inr (Nat.le_refl _)
              · simp only [if_neg e2] at e; exact .inl (.inr (.inr ⟨i, hi, e⟩))⟩)
        have B1 := Lib.hid hBn
        clear hl0 hBn hT1 hMl
        refine (fill_any w1 wr.heap.size _ (k : Int) f t true v B1.out (by omega) hk0 hlt hf hft ht).mono ?_
        rintro e w2 ⟨rfl, hB2, hm2⟩
        obtain ⟨h2, hh2⟩ : ∃ h2 : Nat → Bool × Int, h2 = fun j : Nat => if f ≤ (k : Int) * 256 + j ∧ (k : Int) * 256 + j ≤ t then (true, v) else (false, 0) := ⟨_, rfl⟩
        have B2 : Hid (Bk w2 wr.heap.size (blkC h2) 68) := by rw [hh2]; exact Lib.hid hB2
        have HH2 := Lib.hid hh2
        have M2 := Lib.hid hm2
        clear hB2 hm2 hh2
        go_wp2_with fail
        go_roundw
        case measure => simp [intOf]; omega
        case rel =>
          refine ⟨k + 1, by go_num, by omega, by omega, ?_⟩
          obtain ⟨p1, p2, p3⟩ := T1.out.filled O1.out hk2 (if_pos rfl) B2.out M2.out
          have p1' : Tb1 w2 base X M nn (fun i => if i = k then h2 else celF (gk g f t v k) nn i) (D.put (.int .i32 k) (.lit (.int .i64 wr.heap.size))) (fun i => if i = k then some wr.heap.size else bm i) := p1.same fun i j _ _ => by
            by_cases e : i = k
            · simp only [if_pos e]
            · simp only [if_neg e]
          have hT := tell_end (h' := h2) HV.out hft hk0 hlt p1' p2 HZ.out (fun i hi => if_neg hi) (by simp) (fun j hj => (by
            have hz : nzB (gk g f t v k) nn k = false := by rw [← HZ.out k hk2, HB.out]; rfl
            rw [nz_cel] at hz
            have hz2 := (List.any_eq_false.1 hz) j (List.mem_range.2 hj)
            have hz3 : celF (gk g f t v k) nn k j = (false, 0) := by
              unfold celF at hz2 ⊢
              split
              · rfl
              · rename_i h9; rw [if_neg h9] at hz2; simp at hz2
            rw [hz3, HH2.out]))
          exact Lib.hid ⟨hT, HR.out.2.trans ((N1.out.trans p3).iff (fpT_iff H1.out HO.out) (fpT_iff p1 p2))⟩
      | some b =>
        have HB := Lib.hid hb
        have HBB := Lib.hid (H1.out.at_ k b hk2 hb).2
        rw [hb] at HA
        clear hb
        go_wp2_with (first
          | (at_lookup; refine wpList_lookup_ptr _ rfl _ _ 56 rfl 21 64 law21 Try.underlying56 (zero64 _) M (Maps.size D) D rfl HO.out _ _ rfl HK (some b) HA.out ?_)
          | (go_at_call 43; refine (fill_any _ b _ (k : Int) f t true v HBB.out (by omega) hk0 hlt hf hft ht).mono ?_; rintro e w2 ⟨rfl, hB2, hm2⟩; have B2 := Lib.hid hB2; have M2 := Lib.hid hm2; clear hB2 hm2))
        go_roundw
        case measure => simp [intOf]; omega
        case rel =>
          refine ⟨k + 1, by go_num, by omega, by omega, ?_⟩
          obtain ⟨p1, p2, p3⟩ := H1.out.filled HO.out hk2 HB.out B2.out M2.out
          have hT := tell_end HV.out hft hk0 hlt p1 p2 HZ.out (fun i hi => rfl) (by rw [HB.out]; rfl) (fun j hj => rfl)
          exact Lib.hid ⟨hT, HR.out.2.trans (p3.iff (fpT_iff H1.out HO.out) (fpT_iff p1 p2))⟩
    · have e : (k : Int) = t / 256 + 1 := by omega
      have hq := Lib.hid (gk_done (g := g) (v := v) (k := k) (by omega) hf hft ht)
      go_wp2_with fail
      go_end0
      rw [← hq.out]
      exact ⟨rfl, HR.out.1, HR.out.2⟩

end Go.Proofs.Ytfjckdjnnbpcnaa.Tr

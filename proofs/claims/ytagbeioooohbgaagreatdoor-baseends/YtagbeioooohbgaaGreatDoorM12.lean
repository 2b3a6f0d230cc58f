import Derived.Test.YtagbeioooohbgaaGreatDoorM11
section
namespace Go.Proofs.YtagbeioooohbgaaGreatDoor.Tr
open Go.RowKit Go.Maps

def ptrV (o : Option Nat) : Value := .pointer (o.map fun b => ⟨b, 0, none⟩)
theorem ptrV_inv (v : Value) (y : DataW Unit × List MemPlace) (h : ptrE v = some y) : ∃ o, v = ptrV o := by
  rcases ptrE_inv h with ⟨rfl, _⟩ | ⟨b, rfl, _⟩
  · exact ⟨none, rfl⟩
  · exact ⟨some b, rfl⟩
theorem ptrE_V (o : Option Nat) : ptrE (ptrV o) = some (ptrD o, []) := by cases o <;> rfl
theorem key_inv (key : Value) (kl : Lit) (h : keyOf Tryz.prog 21 key = some kl) : ∃ x, key = Value.int .i32 x := by obtain ⟨x, rfl, _⟩ := Maps.keyOf_int_inv Tryz.underlying21 h; exact ⟨x, rfl⟩
theorem ranges_not_cells {w : World} {R : Value → Option (DataW Unit × List MemPlace)} {M r n : Nat} {D : DataW Unit} {left : Lit → Bool} {cnt : Nat} {c : Nat} {cs : List Value} {t : TypeId} (ho : w.ranges Tryz.prog 21 R M r n D left cnt) (hB : Bk w c cs t) : c ≠ r := fun e => by
  subst e
  obtain ⟨es, clock, since, seen, c0, _, _, _, _, hr, _⟩ := ho
  have := hr.symm.trans hB.blk
  cases this
theorem _root_.Ne.symm_some {a b : Nat} (h : a ≠ b) : some b ≠ some a := fun e => h (by cases e; rfl)
theorem Mv.more {F F' : Nat → Prop} {w wr w2 : World} {r : Nat} (h : Mv F F' w wr) (hg : wr.grownBy w2 (some r)) (hr : w.heap.size ≤ r) : Mv F F' w w2 :=
  ⟨hg.os.trans h.os, hg.tape.trans h.tape, hg.output.trans h.output, Nat.le_trans h.size hg.size, fun k hk hF => (hg.block k (Nat.lt_of_lt_of_le hk h.size) (by simp; omega)).trans (h.keep k hk hF), h.fp⟩
theorem Mv.grown {w w' : World} {b : Nat} (h : Mv (· = b) (· = b) w w') : w.grownBy w' (some b) := ⟨h.os, h.tape, h.output, h.size, fun i hi hne => h.keep i hi (fun e => hne (by rw [e]))⟩
theorem Tb1.grown {w w' : World} {base X M : Nat} {nn : Int} {hs : Nat → Nat → Bool × Int} {D : DataW Unit} {bm : Nat → Option Nat} {r : Nat} (h : Tb1 w base X M nn hs D bm) (hg : w.grownBy w' (some r)) (hr : ∀ c cs t, Bk w c cs t → c ≠ r) : Tb1 w' base X M nn hs D bm :=
  h.on (hg.block X h.blk.lt (by simpa using hr X _ _ h.blk)) (fun i b hi e => hg.block b (h.at_ i b hi e).2.lt (by simpa using hr b _ _ (h.at_ i b hi e).2))
theorem Tb1.deleted {w w' : World} {base X M : Nat} {nn : Int} {hs : Nat → Nat → Bool × Int} {D : DataW Unit} {bm : Nat → Option Nat} {k : Nat} (h : Tb1 w base X M nn hs D bm) (hg : w.grownBy w' (some M)) (hr : ∀ c cs t, Bk w c cs t → c ≠ M) :
    Tb1 w' base X M nn hs (D.del (.int .i32 k)) (fun i => if i = k then none else bm i) := by
  have h2 := h.grown hg hr
  refine ⟨h2.lo, h2.loM, h2.blk, h2.mp.del, fun i c hi e => ?_, fun i j c hi hj e1 e2 => ?_⟩
  · by_cases e2 : i = k
    · simp only [if_pos e2] at e; cases e
    · simp only [if_neg e2] at e; exact h2.at_ i c hi e
  · by_cases e3 : i = k
    · simp only [if_pos e3] at e1; cases e1
    · by_cases e4 : j = k
      · simp only [if_pos e4] at e2; cases e2
      · simp only [if_neg e3] at e1; simp only [if_neg e4] at e2; exact h2.inj i j c hi hj e1 e2
/-- The values on the way: blocks that are still to come are as they were. -/
def gf (g g' : Int → Int) (left : Lit → Bool) (r : Int) : Int := if left (.int .i32 (r / 256)) = true then g r else g' r

theorem ptrD_inj {a b : Option Nat} (h : ptrD a = ptrD b) : a = b := by
  cases a <;> cases b <;> simp [ptrD] at h ⊢
  omega
def strike (left : Lit → Bool) (i : Nat) : Lit → Bool := fun z => left z && !z.sameKey (.int .i32 (i : Int))
theorem strike_same (left : Lit → Bool) (i : Nat) : strike left i (.int .i32 (i : Int)) = false := by unfold strike; rw [WideAt.sameKey_self (isKey_int _)]; simp
theorem strike_other (left : Lit → Bool) {i j : Nat} (h : j ≠ i) : strike left i (.int .i32 (j : Int)) = left (.int .i32 (j : Int)) := by unfold strike; rw [sameKey_ne (int_ne (by omega))]; simp
theorem gf_old {g g' : Int → Int} {nn : Int} {left : Lit → Bool} {i j : Nat} (hj : j < 256) (h : left (.int .i32 (i : Int)) = true) : celF (gf g g' left) nn i j = celF g nn i j := by
  have e : gf g g' left ((i * 256 + j : Nat) : Int) = g ((i * 256 + j : Nat) : Int) := by
    unfold gf
    rw [show (((i * 256 + j : Nat) : Int) / 256) = (i : Int) by omega, if_pos h]
  unfold celF
  rw [e]
theorem gf_new {g g' : Int → Int} {nn : Int} {left : Lit → Bool} {i j : Nat} (hj : j < 256) (h : left (.int .i32 (i : Int)) = false) : celF (gf g g' left) nn i j = celF g' nn i j := by
  have e : gf g g' left ((i * 256 + j : Nat) : Int) = g' ((i * 256 + j : Nat) : Int) := by
    unfold gf
    rw [show (((i * 256 + j : Nat) : Int) / 256) = (i : Int) by omega, if_neg (by rw [h]; decide)]
  unfold celF
  rw [e]
theorem gf_oth {g g' : Int → Int} {nn : Int} {left : Lit → Bool} {i k j : Nat} (hj : j < 256) (hi : i ≠ k) : celF (gf g g' left) nn i j = celF (gf g g' (strike left k)) nn i j := by
  have e : gf g g' left ((i * 256 + j : Nat) : Int) = gf g g' (strike left k) ((i * 256 + j : Nat) : Int) := by
    unfold gf
    rw [show (((i * 256 + j : Nat) : Int) / 256) = (i : Int) by omega, strike_other left hi]
  unfold celF
  rw [e]
theorem upd_in {g : Int → Int} {f t v : Int} (hf : 0 ≤ f) (hft : f ≤ t) (ht : t ≤ 1114111) (r : Int) : updS g (f, t, v) r = if f ≤ r ∧ r ≤ t then v else g r := by
  rw [← gk_done (k := 4352) (by omega) hf hft ht]
  unfold gk
  by_cases h : f ≤ r ∧ r ≤ t
  · rw [if_pos (by omega), if_pos h]
  · rw [if_neg (by omega), if_neg h]
theorem upd_cel {g : Int → Int} {f t nn : Int} {i j : Nat} (hf : 0 ≤ f) (hft : f ≤ t) (ht : t ≤ 1114111) : celF (updS g (f, t, nn)) nn i j = if f ≤ (i : Int) * 256 + j ∧ (i : Int) * 256 + j ≤ t then (false, 0) else celF g nn i j := by
  have e : updS g (f, t, nn) ((i * 256 + j : Nat) : Int) = if f ≤ (i : Int) * 256 + j ∧ (i : Int) * 256 + j ≤ t then nn else g ((i * 256 + j : Nat) : Int) := by
    rw [upd_in hf hft ht]
    by_cases h : f ≤ (i : Int) * 256 + j ∧ (i : Int) * 256 + j ≤ t
    · rw [if_pos (by omega), if_pos h]
    · rw [if_neg (by omega), if_neg h]
  unfold celF
  rw [e]
  by_cases h : f ≤ (i : Int) * 256 + j ∧ (i : Int) * 256 + j ≤ t
  · rw [if_pos h, if_pos h, if_pos rfl]
  · rw [if_neg h, if_neg h]
/-- A block has been gone through: what it tells is what it will tell. -/
theorem forget_end {w : World} {base X M : Nat} {nn : Int} {g g' : Int → Int} {left : Lit → Bool} {k : Nat} {hs : Nat → Nat → Bool × Int} {D : DataW Unit} {bm bm0 : Nat → Option Nat}
    (h : Tb1 w base X M nn hs D bm) (hz : ∀ i, i < 4352 → (bm0 i).isSome = nzB (gf g g' left) nn i)
    (hso : ∀ i j, i ≠ k → i < 4352 → j < 256 → hs i j = celF (gf g g' left) nn i j) (hsk : ∀ j, j < 256 → hs k j = celF g' nn k j)
    (hb : ∀ i, i ≠ k → bm i = bm0 i) (hbk : (bm k).isSome = nzB g' nn k) :
    Tb1 w base X M nn (celF (gf g g' (strike left k)) nn) D bm ∧ ∀ i, i < 4352 → (bm i).isSome = nzB (gf g g' (strike left k)) nn i := by
  refine ⟨h.same fun i j hi hj => ?_, fun i hi => ?_⟩
  · by_cases e : i = k
    · subst e; rw [hsk j hj, gf_new hj (strike_same left i)]
    · rw [hso i j e hi hj, gf_oth hj e]
  · by_cases e : i = k
    · subst e
      rw [hbk, nz_cel, nz_cel]
      exact telB_same fun j hj => (gf_new hj (strike_same left i)).symm
    · rw [hb i e, hz i hi, nz_cel, nz_cel]
      exact telB_same fun j hj => gf_oth hj e

set_option maxHeartbeats 8000000 in
set_option maxRecDepth 100000 in
theorem forget_any (w : World) (base X : Nat) (nn : Int) (g : Int → Int) (f t : Int) (h : Tab w base X nn g) (hf : 0 ≤ f) (hft : f ≤ t) (ht : t ≤ 1114111) :
    Calls Tryz.prog 85 #[.pointer (some ⟨X, 0, none⟩), .int .i32 f, .int .i32 t] w
      fun e w' => e = .returned (.tuple #[]) ∧ Tab w' base X nn (updS g (f, t, nn)) ∧ Mv (fpT w X) (fpT w' X) w w' := by
  obtain ⟨M, D0, bm0, h1, hz, h2⟩ := h
  have c1 := h1.blk.c (i := 1) rfl
  have HO := Lib.hid h2
  have H1 := Lib.hid h1
  have HZ := Lib.hid hz
  clear h1 hz h2
  obtain ⟨n, hn⟩ : ∃ n, n = Maps.size D0 := ⟨_, rfl⟩
  rw [← hn] at HO
  clear hn
  go_enter Tryz.func85, Tryz.ntmps85
  go_wp2_with (at_range; refine wpList_range_own _ rfl _ 117 rfl 21 120 law21 Tryz.underlying117 ptrE M n D0 rfl HO.out ?_; intro w0 hrg0 hg0 hs0)
  go_frame
  have HG0 := Lib.hid hg0
  have HR0 := Lib.hid hrg0
  clear hrg0 hg0
  go_loopw [6] (fun _ wr => ∃ left cnt D bm, Hid (wr.ranges Tryz.prog 21 ptrE M w.heap.size n D left cnt) ∧ Hid (Tb1 wr base X M nn (celF (gf g (updS g (f, t, nn)) left) nn) D bm ∧ (∀ i, i < 4352 → (bm i).isSome = nzB (gf g (updS g (f, t, nn)) left) nn i) ∧ Mv (FB X M bm0) (FB X M bm) w wr)) (fun _ wr => wr.rangeLeft M w.heap.size)
  case atStart =>
    have hsame : ∀ i j, i < 4352 → j < 256 → celF g nn i j = celF (gf g (updS g (f, t, nn)) (Maps.has D0)) nn i j := fun i j hi hj => by
      cases hl : Maps.has D0 (.int .i32 (i : Int)) with
      | true => exact (gf_old hj hl).symm
      | false =>
        have h5 := HZ.out i hi
        rw [← H1.out.mp.has i hi, hl, nz_cel] at h5
        rw [gf_new hj hl, upd_cel hf hft ht]
        have h6 := (List.any_eq_false.1 h5.symm) j (List.mem_range.2 hj)
        have h7 : celF g nn i j = (false, 0) := by
          unfold celF at h6 ⊢
          split
          · rfl
          · rename_i h9; rw [if_neg h9] at h6; simp at h6
        rw [h7]
        split <;> rfl
    refine ⟨_, _, D0, bm0, HR0, Lib.hid ⟨(H1.out.on (HG0.out.block X H1.out.blk.lt (by simp)) (fun i b hi e => HG0.out.block b (H1.out.at_ i b hi e).2.lt (by simp))).same hsame, fun i hi => ?_, HG0.out.os, HG0.out.tape, HG0.out.output, HG0.out.size, fun k hk _ => HG0.out.block k hk (by simp), fun k hk => .inl hk⟩⟩
    rw [HZ.out i hi, nz_cel, nz_cel]
    exact telB_same fun j hj => hsame i j hi hj
  case round =>
    obtain ⟨left, cnt, D, bm, hrg, HT⟩ := hrel
    go_wp2_with (at_next; refine wpList_next_ranges _ rfl _ rfl 21 law21 ptrE (Value.int .i32) ptrV key_inv ptrV_inv M w.heap.size n D left cnt rfl hrg.out ?_ ?_)
    · intro _ hl0
      have e : gf g (updS g (f, t, nn)) left = updS g (f, t, nn) := by
        funext r
        unfold gf
        rw [if_neg (by rw [hl0]; decide)]
      have HE := Lib.hid e
      clear e hl0
      go_wp2_with fail
      go_end0
      have HT2 := HT.out
      rw [HE.out] at HT2
      have h9 := own_tight hrg.out.owns
      exact ⟨rfl, ⟨M, D, bm, HT2.1, HT2.2.1, h9⟩, HT2.2.2.iff (fpT_iff H1.out HO.out) (fpT_iff HT2.1 h9)⟩
    · intro x c kl yd yp w2 cnt2 hkey hlk hv hat hrg2 hlt hg2 hs2 hen
      obtain ⟨x', ex, rfl, hwx⟩ := Maps.keyOf_int_inv Tryz.underlying21 hkey
      cases ex
      obtain ⟨i, rfl, hi⟩ := HT.out.1.mp.key x (has_true_of_atKey hat)
      rw [ptrE_V] at hv
      have hbi : bm i = c := by
        have h5 := hat .nil
        rw [HT.out.1.mp.at_ i hi] at h5
        cases hv
        exact ptrD_inj h5
      have hsome := HT.out.1.mp.has i hi
      rw [has_true_of_atKey hat, hbi] at hsome
      obtain ⟨b, rfl⟩ : ∃ b, c = some b := by
        cases c with
        | none => cases hsome
        | some b => exact ⟨b, rfl⟩
      simp only [ptrV, Option.map_some] at hen ⊢
      clear hv hat hsome hkey hwx
      have T2 := Lib.hid (HT.out.1.grown hg2 (fun c cs t hB => ranges_not_cells hrg.out hB))
      have M2 := Lib.hid (HT.out.2.2.more hg2 (Nat.le_refl _))
      have R2 := Lib.hid hrg2
      have HB := Lib.hid hbi
      have HL := Lib.hid hlk
      have BB := Lib.hid (T2.out.at_ i b hi hbi).2
      have hc1 := T2.out.blk.c (i := 1) rfl
      have LT := Lib.hid hlt
      clear hrg2 hbi hlk hlt hs2 hg2
      by_cases hin : f / 256 ≤ i ∧ (i : Int) ≤ t / 256
      · obtain ⟨hin1, hin2⟩ := hin
        have d1 : decide ((i : Int) < f / 256) = false := by simp; omega
        have d2 : decide (t / 256 < (i : Int)) = false := by simp; omega
        have HH := Lib.hid (show ∀ j : Nat, j < 256 → (if f ≤ (i : Int) * 256 + j ∧ (i : Int) * 256 + j ≤ t then (false, 0) else celF (gf g (updS g (f, t, nn)) left) nn i j) = celF (updS g (f, t, nn)) nn i j from fun j hj => by rw [upd_cel hf hft ht, gf_old hj HL.out])
        have HHN := Lib.hid (show nzB (updS g (f, t, nn)) nn i = telB (fun j : Nat => if f ≤ (i : Int) * 256 + j ∧ (i : Int) * 256 + j ≤ t then (false, 0) else celF (gf g (updS g (f, t, nn)) left) nn i j) 256 from by rw [nz_cel]; exact telB_same fun j hj => (HH.out j hj).symm)
        obtain ⟨h3, hh3⟩ : ∃ h3 : Nat → Bool × Int, h3 = fun j : Nat => if f ≤ (i : Int) * 256 + j ∧ (i : Int) * 256 + j ≤ t then (false, 0) else celF (gf g (updS g (f, t, nn)) left) nn i j := ⟨_, rfl⟩
        have HF := (fill_any w2 b _ (i : Int) f t false 0 BB.out (by omega) hin1 hin2 hf hft ht)
        rw [← hh3] at HHN HF
        have HH3 := Lib.hid (show ∀ j, j < 256 → h3 j = celF (updS g (f, t, nn)) nn i j from fun j hj => by rw [hh3]; exact HH.out j hj)
        have HFF := Lib.hid HF
        clear hh3 HF HH
        have KEY := Lib.hid (keyOf_int_mk (P := Tryz.prog) Tryz.underlying21 (wf32 (x := (i : Int)) (by omega) (by omega)))
        cases htl : telB h3 256 with
        | true =>
          have HTL := Lib.hid htl
          rw [htl] at HHN
          clear htl
          go_wp2_with (first
            | (go_at_call 105; refine HFF.out.mono ?_; rintro e w3 ⟨rfl, hB3, hm3⟩; have B3 := Lib.hid hB3; have M3 := Lib.hid hm3; clear hB3 hm3)
            | (go_at_call 106; refine (tells_any w3 b h3 B3.out).mono ?_; rw [HTL.out]; rintro e w4 ⟨rfl, rfl⟩))
          go_roundw
          have p := T2.out.filled R2.out.owns hi HB.out B3.out M3.out
          have R3 := R2.out.kept M3.out.grown (own_not_cells R2.out.owns BB.out).symm_some (ranges_not_cells R2.out BB.out).symm_some
          have E := forget_end (k := i) p.1 HT.out.2.1 (fun i' j e _ _ => by simp only [if_neg e]) (fun j hj => by simp only [if_pos]; exact HH3.out j hj) (fun _ _ => rfl) (by rw [HB.out, HHN.out]; rfl)
          case measure => rw [(R2.out.kept M3.out.grown (own_not_cells R2.out.owns BB.out).symm_some (ranges_not_cells R2.out BB.out).symm_some).left_eq, hrg.out.left_eq]; exact LT.out
          case rel => exact ⟨strike left i, cnt2, D, bm, Lib.hid R3, Lib.hid ⟨E.1, E.2, M2.out.trans p.2.2⟩⟩
        | false =>
          have HTL := Lib.hid htl
          rw [htl] at HHN
          clear htl
          go_wp2_with (first
            | (go_at_call 105; refine HFF.out.mono ?_; rintro e w3 ⟨rfl, hB3, hm3⟩; have B3 := Lib.hid hB3; have M3 := Lib.hid hm3; have R3 := Lib.hid (R2.out.kept hm3.grown (own_not_cells R2.out.owns BB.out).symm_some (ranges_not_cells R2.out BB.out).symm_some); have c31 := (T2.out.filled R2.out.owns hi HB.out hB3 hm3).1.blk.c (i := 1) rfl; clear hB3 hm3)
            | (go_at_call 106; refine (tells_any w3 b h3 B3.out).mono ?_; rw [HTL.out]; rintro e w4 ⟨rfl, rfl⟩)
            | (at_delete; refine wpList_delete_ranges _ rfl _ _ 117 21 rfl 120 law21 Tryz.underlying117 ptrE M w.heap.size n D _ cnt2 rfl R3.out _ _ rfl KEY.out ?_; intro w5 cnt5 hrg5 hle5 hturn5; go_frame; have R5 := Lib.hid hrg5; have L5 := Lib.hid hle5; have G5 := Lib.hid hturn5.grown; clear hrg5 hle5 hturn5))
          go_roundw
          have p := T2.out.filled R2.out.owns hi HB.out B3.out M3.out
          have R5' := R5.out
          rw [strike_twice] at R5'
          have q := p.1.deleted (k := i) G5.out (fun c cs t hB => own_not_cells p.2.1 hB)
          have E := forget_end (k := i) q HT.out.2.1 (fun i' j e _ _ => by simp only [if_neg e]) (fun j hj => by simp only [if_pos]; exact HH3.out j hj) (fun i' e => if_neg e) (by rw [HHN.out]; simp)
          have m5 : Mv (FB X M bm) (FB X M (fun i' => if i' = i then none else bm i')) w3 w5 := ⟨G5.out.os, G5.out.tape, G5.out.output, G5.out.size, fun k hk hF => G5.out.block k hk (by
            intro e
            cases e
            exact hF (.inr (.inl rfl))), fun k hk => by
            rcases hk with h | h | ⟨j, hj, h⟩
            · exact .inl (.inl h)
            · exact .inl (.inr (.inl h))
            · by_cases e : j = i
              · simp only [if_pos e] at h; cases h
              · simp only [if_neg e] at h; exact .inl (.inr (.inr ⟨j, hj, h⟩))⟩
          case measure => rw [R5.out.left_eq, hrg.out.left_eq]; exact Nat.lt_of_le_of_lt L5.out LT.out
          case rel => exact ⟨strike left i, cnt5, D.del (.int .i32 i), _, Lib.hid R5', Lib.hid ⟨E.1, E.2, M2.out.trans (p.2.2.trans m5)⟩⟩
      · have E := forget_end (k := i) T2.out HT.out.2.1 (fun i' j e _ _ => rfl) (fun j hj => by rw [gf_old hj HL.out, upd_cel hf hft ht, if_neg (by omega)]) (fun _ _ => rfl) (by
          rw [HT.out.2.1 i hi, nz_cel, nz_cel]
          exact telB_same fun j hj => by rw [gf_old hj HL.out, upd_cel hf hft ht, if_neg (by omega)])
        have HE := Lib.hid E
        clear E
        by_cases d1 : (i : Int) < f / 256
        · have d1' : decide ((i : Int) < f / 256) = true := by simpa using d1
          clear hin
          go_wp2_with fail
          go_roundw
          case measure => rw [R2.out.left_eq, hrg.out.left_eq]; exact LT.out
          case rel => exact ⟨strike left i, cnt2, D, bm, R2, Lib.hid ⟨HE.out.1, HE.out.2, M2.out⟩⟩
        · have d1' : decide ((i : Int) < f / 256) = false := by simpa using d1
          have d2' : decide (t / 256 < (i : Int)) = true := by simp; omega
          clear hin
          go_wp2_with fail
          go_roundw
          case measure => rw [R2.out.left_eq, hrg.out.left_eq]; exact LT.out
          case rel => exact ⟨strike left i, cnt2, D, bm, R2, Lib.hid ⟨HE.out.1, HE.out.2, M2.out⟩⟩

end Go.Proofs.YtagbeioooohbgaaGreatDoor.Tr
end
section
namespace Go.Proofs.YtagbeioooohbgaaGreatDoor.Tr
open Go.RowKit Go.Maps

theorem set_no {g : Int → Int} {s : Sp} (h : okS s = false) : updS g s = g ∧ setE s = 11 := by unfold updS setE; rw [h]; exact ⟨rfl, rfl⟩
set_option maxHeartbeats 8000000 in
set_option maxRecDepth 100000 in
theorem set_any (w : World) (base X : Nat) (nn : Int) (g : Int → Int) (f t v : Int) (h : Tab w base X nn g) :
    Calls Tryz.prog 55 #[.pointer (some ⟨X, 0, none⟩), .int .i32 f, .int .i32 t, .int .u8 v] w
      fun e w' => e = .returned (.int .i64 (setE (f, t, v))) ∧ Tab w' base X nn (updS g (f, t, v)) ∧ Mv (fpT w X) (fpT w' X) w w' := by
  have HT := Lib.hid h
  have HF := Lib.hid (number_any f w)
  have HO := Lib.hid (number_any t w)
  have c0 : w.cell? ⟨X, 0, none⟩ = some (.int .u8 nn) := by obtain ⟨M, D, bm, h1, _⟩ := h; exact h1.blk.c (i := 0) rfl
  clear h
  cases hok : okS (f, t, v) with
  | false =>
    have HN := Lib.hid (set_no (g := g) hok)
    have done : Hid (∀ e, e = Ending.returned (.int .i64 11) → e = .returned (.int .i64 (setE (f, t, v))) ∧ Tab w base X nn (updS g (f, t, v)) ∧ Mv (fpT w X) (fpT w X) w w) := by
      have h1 : ∀ e, e = Ending.returned (.int .i64 11) → e = .returned (.int .i64 (setE (f, t, v))) ∧ Tab w base X nn (updS g (f, t, v)) ∧ Mv (fpT w X) (fpT w X) w w := fun e he => by
        rw [HN.out.1, HN.out.2]
        exact ⟨he, HT.out, Mv.refl _ _⟩
      exact Lib.hid h1
    simp only [okS, Bool.not_eq_false', Bool.or_eq_true, decide_eq_true_eq] at hok
    cases hf : numB f with
    | false =>
      rw [hf] at HF
      clear hf
      go_enter Tryz.func55, Tryz.ntmps55
      go_wp2_with (go_at_call 62; refine HF.out.mono ?_; rintro e w' ⟨rfl, rfl⟩)
      go_ret
      exact done.out _ rfl
    | true =>
      rw [hf] at HF
      have hf2 : 0 ≤ f ∧ f ≤ 1114111 := by simpa [numB] using hf
      clear hf
      cases ht : numB t with
      | false =>
        rw [ht] at HO
        clear ht
        go_enter Tryz.func55, Tryz.ntmps55
        go_wp2_with fail
        refine HF.out.mono ?_
        rintro e w' ⟨rfl, rfl⟩
        go_wp2_with fail
        refine HO.out.mono ?_
        rintro e w' ⟨rfl, rfl⟩
        go_wp2_with fail
        go_ret
        exact done.out _ rfl
      | true =>
        rw [ht] at HO
        have ht2 : 0 ≤ t ∧ t ≤ 1114111 := by simpa [numB] using ht
        have htf : t < f := by omega
        have htf2 : decide (t < f) = true := by simpa using htf
        clear ht
        go_enter Tryz.func55, Tryz.ntmps55
        go_wp2_with fail
        refine HF.out.mono ?_
        rintro e w' ⟨rfl, rfl⟩
        go_wp2_with fail
        refine HO.out.mono ?_
        rintro e w' ⟨rfl, rfl⟩
        go_wp2_with fail
        go_ret
        exact done.out _ rfl
  | true =>
    have HE : Hid (setE (f, t, v) = 0) := by have : setE (f, t, v) = 0 := by unfold setE; rw [if_pos hok]
                                             exact Lib.hid this
    simp only [okS, Bool.not_eq_true', Bool.or_eq_false_iff, decide_eq_false_iff_not] at hok
    obtain ⟨h1, h2, h3⟩ := hok
    have hf : numB f = true := by simp [numB]; omega
    have ht : numB t = true := by simp [numB]; omega
    have htf : decide (t < f) = false := by simpa using h3
    rw [hf] at HF
    rw [ht] at HO
    clear hf ht
    have HS := Lib.hid (sameV_any v nn w)
    by_cases hv : v = nn
    · subst hv
      rw [show (v == v) = true from beq_self_eq_true v] at HS
      have HG := Lib.hid (forget_any w base X v g f t HT.out (by omega) (by omega) (by omega))
      go_enter Tryz.func55, Tryz.ntmps55
      go_wp2_with fail
      refine HF.out.mono ?_
      rintro e w' ⟨rfl, rfl⟩
      go_wp2_with fail
      refine HO.out.mono ?_
      rintro e w' ⟨rfl, rfl⟩
      go_wp2_with fail
      refine HS.out.mono ?_
      rintro e w' ⟨rfl, rfl⟩
      go_wp2_with fail
      refine HG.out.mono ?_
      rintro e w2 ⟨rfl, ht2, hm2⟩
      have Q := Lib.hid (And.intro ht2 hm2)
      clear ht2 hm2
      go_wp2_with fail
      go_ret
      exact ⟨by rw [HE.out]; rfl, Q.out⟩
    · rw [show (v == nn) = false from by simpa using hv] at HS
      have HG := Lib.hid (tell_any w base X nn g f t v HT.out (by omega) (by omega) (by omega) hv)
      clear hv
      go_enter Tryz.func55, Tryz.ntmps55
      go_wp2_with fail
      refine HF.out.mono ?_
      rintro e w' ⟨rfl, rfl⟩
      go_wp2_with fail
      refine HO.out.mono ?_
      rintro e w' ⟨rfl, rfl⟩
      go_wp2_with fail
      refine HS.out.mono ?_
      rintro e w' ⟨rfl, rfl⟩
      go_wp2_with fail
      refine HG.out.mono ?_
      rintro e w2 ⟨rfl, ht2, hm2⟩
      have Q := Lib.hid (And.intro ht2 hm2)
      clear ht2 hm2
      go_wp2_with fail
      go_ret
      exact ⟨by rw [HE.out]; rfl, Q.out⟩

/-- New is a table of no value but none. -/
theorem nz_const (nn : Int) (i : Nat) : nzB (fun _ => nn) nn i = false := by
  unfold nzB
  rw [List.any_eq_false]
  intro j _
  simp
theorem tab_new (w : World) (nn : Int) : Tab ((w.alloc (.map #[] 0)).alloc (.cells #[.int .u8 nn, .map (some w.heap.size)] 119)) w.heap.size (w.heap.size + 1) nn (fun _ => nn) := by
  refine ⟨w.heap.size, .map [], fun _ => none, ⟨by omega, Nat.le_refl _, ⟨?_⟩, mapIs_empty, (fun _ _ _ e => by cases e), (fun _ _ _ _ _ e => by cases e)⟩, (fun i _ => by rw [nz_const]; rfl), own_tight ((World.ownsMap_made w Tryz.prog 21 ptrE).alloc _)⟩
  have h := heap_alloc_new (w.alloc (.map #[] 0)) (.cells #[.int .u8 nn, .map (some w.heap.size)] 119)
  rwa [World.size_alloc] at h
theorem newT_any (w : World) (nn : Int) : Calls Tryz.prog 54 #[.int .u8 nn] w fun e w' => ∃ X, e = .returned (.pointer (some ⟨X, 0, none⟩)) ∧ Tab w' w.heap.size X nn (fun _ => nn) ∧ Below w.heap.size w w' := by
  refine (new_any w nn).mono ?_
  rintro e w' ⟨rfl, rfl⟩
  exact ⟨_, rfl, tab_new w nn, ((Below.refl _ w).alloc (Nat.le_refl _) _).alloc (by simp) _⟩

end Go.Proofs.YtagbeioooohbgaaGreatDoor.Tr
end

import Derived.Test.YtfjckdjnnbpcnaaYD
namespace Go.Proofs.Ytfjckdjnnbpcnaa.Tr
open Go.RowKit Go.Maps

/-- A table of the program, but for its map's block: what its blocks hold, and where they lie. -/
structure Tb1 (w : World) (base X M : Nat) (nn : Int) (hs : Nat → Nat → Bool × Int) (D : DataW Unit) (bm : Nat → Option Nat) : Prop where
  lo : base ≤ X
  loM : base ≤ M
  blk : Bk w X [.int .i64 nn, .map (some M)] 58
  mp : MapIs D bm
  at_ : ∀ i b, i < 4352 → bm i = some b → base ≤ b ∧ Bk w b (blkC (hs i)) 68
  inj : ∀ i j b, i < 4352 → j < 4352 → bm i = some b → bm j = some b → i = j
/-- A table of the program. -/
def Tab (w : World) (base X : Nat) (nn : Int) (g : Int → Int) : Prop :=
  ∃ M D bm, Tb1 w base X M nn (celF g nn) D bm ∧ (∀ i, i < 4352 → (bm i).isSome = nzB g nn i) ∧ w.ownsMap Try.prog 21 ptrE M (Maps.size D) D
/-- The blocks that a table lies in. -/
def fpT (w : World) (X k : Nat) : Prop :=
  k = X ∨ ∃ nn M, Bk w X [.int .i64 nn, .map (some M)] 58 ∧ (k = M ∨ ∃ n D, w.ownsMap Try.prog 21 ptrE M n D ∧ ∃ i : Nat, i < 4352 ∧ D.atKey (.int .i32 i) .nil = .lit (.int .i64 k))
def FB (X M : Nat) (bm : Nat → Option Nat) (k : Nat) : Prop := k = X ∨ k = M ∨ ∃ i, i < 4352 ∧ bm i = some k
theorem Tb1.on {w w' : World} {base X M : Nat} {nn : Int} {hs : Nat → Nat → Bool × Int} {D : DataW Unit} {bm : Nat → Option Nat} (h : Tb1 w base X M nn hs D bm) (hX : w'.heap[X]? = w.heap[X]?)
    (hb : ∀ i b, i < 4352 → bm i = some b → w'.heap[b]? = w.heap[b]?) : Tb1 w' base X M nn hs D bm :=
  ⟨h.lo, h.loM, h.blk.on hX, h.mp, fun i b hi e => ⟨(h.at_ i b hi e).1, (h.at_ i b hi e).2.on (hb i b hi e)⟩, h.inj⟩
theorem bk_inj {w : World} {X : Nat} {cs cs' : List Value} {t t' : TypeId} (h : Bk w X cs t) (h' : Bk w X cs' t') : cs = cs' ∧ t = t' := by
  have e := h.blk.symm.trans h'.blk
  simp at e
  exact e
theorem ptrD_at {D : DataW Unit} {bm : Nat → Option Nat} {i k : Nat} (h : MapIs D bm) (hi : i < 4352) : D.atKey (.int .i32 i) .nil = .lit (.int .i64 k) ↔ bm i = some k := by
  rw [h.at_ i hi]
  cases bm i with
  | none => simp [ptrD]
  | some b =>
    simp only [ptrD, DataW.lit.injEq, Lit.int.injEq, true_and, Option.some.injEq]
    omega
theorem fpT_iff {w : World} {base X M : Nat} {nn : Int} {hs : Nat → Nat → Bool × Int} {D : DataW Unit} {bm : Nat → Option Nat} {n : Nat} (h : Tb1 w base X M nn hs D bm) (ho : w.ownsMap Try.prog 21 ptrE M n D) (k : Nat) :
    fpT w X k ↔ FB X M bm k := by
  constructor
  · rintro (rfl | ⟨n', M', h1, h2⟩)
    · exact .inl rfl
    · obtain ⟨e, _⟩ := bk_inj h.blk h1
      have : M' = M := by
        have e1 := congrArg (fun l : List Value => l[1]?) e
        simp only [List.getElem?_cons_succ, List.getElem?_cons_zero, Option.some.injEq, Value.map.injEq] at e1
        exact e1.symm
      subst this
      rcases h2 with rfl | ⟨n2, D2, h3, i, hi, h4⟩
      · exact .inr (.inl rfl)
      · have := own_one ho h3
        subst this
        exact .inr (.inr ⟨i, hi, (ptrD_at h.mp hi).1 h4⟩)
  · rintro (rfl | rfl | ⟨i, hi, e⟩)
    · exact .inl rfl
    · exact .inr ⟨nn, _, h.blk, .inl rfl⟩
    · exact .inr ⟨nn, M, h.blk, .inr ⟨n, D, ho, i, hi, (ptrD_at h.mp hi).2 e⟩⟩
theorem Tab.on {w w' : World} {base X : Nat} {nn : Int} {g : Int → Int} (h : Tab w base X nn g) (hk : ∀ k, k < w.heap.size → fpT w X k → w'.heap[k]? = w.heap[k]?) : Tab w' base X nn g := by
  obtain ⟨M, D, bm, h1, hz, h2⟩ := h
  have hf := fpT_iff h1 h2
  exact ⟨M, D, bm, h1.on (hk X h1.blk.lt ((hf X).2 (.inl rfl))) (fun i b hi e => hk b (h1.at_ i b hi e).2.lt ((hf b).2 (.inr (.inr ⟨i, hi, e⟩)))), hz, own_keep h2 (hk M h2.lt ((hf M).2 (.inr (.inl rfl))))⟩
theorem Tab.fpon {w w' : World} {base X : Nat} {nn : Int} {g : Int → Int} (h : Tab w base X nn g) (hk : ∀ k, k < w.heap.size → fpT w X k → w'.heap[k]? = w.heap[k]?) (k : Nat) : fpT w' X k ↔ fpT w X k := by
  obtain ⟨M, D, bm, h1, hz, h2⟩ := h
  have hf := fpT_iff h1 h2
  have h1' := h1.on (hk X h1.blk.lt ((hf X).2 (.inl rfl))) (fun i b hi e => hk b (h1.at_ i b hi e).2.lt ((hf b).2 (.inr (.inr ⟨i, hi, e⟩))))
  have h2' := own_keep h2 (hk M h2.lt ((hf M).2 (.inr (.inl rfl))))
  rw [hf, fpT_iff h1' h2']
theorem Tab.fpb {w : World} {base X : Nat} {nn : Int} {g : Int → Int} {k : Nat} (h : Tab w base X nn g) (hk : fpT w X k) : base ≤ k ∧ k < w.heap.size := by
  obtain ⟨M, D, bm, h1, hz, h2⟩ := h
  rcases (fpT_iff h1 h2 k).1 hk with rfl | rfl | ⟨i, hi, e⟩
  · exact ⟨h1.lo, h1.blk.lt⟩
  · exact ⟨h1.loM, h2.lt⟩
  · exact ⟨(h1.at_ i k hi e).1, (h1.at_ i k hi e).2.lt⟩
theorem Tab.below {w w' : World} {base X : Nat} {nn : Int} {g : Int → Int} (h : Tab w base X nn g) (hb : Below w.heap.size w w') : Tab w' base X nn g := h.on fun k hk _ => hb.block k hk
theorem zero64 (w : World) : (zeroValue 64).run Try.prog w = .ok (.pointer none) w := by kernel_rfl

set_option maxHeartbeats 4000000 in
theorem blocks_any (w : World) (base X : Nat) (nn : Int) (g : Int → Int) (h : Tab w base X nn g) : Calls Try.prog 19 #[.pointer (some ⟨X, 0, none⟩)] w fun e w' => e = .returned (.int .i64 (blkN g nn : Nat)) ∧ w = w' := by
  obtain ⟨M, D, bm, h1, hz, h2⟩ := h
  have c1 := h1.blk.c (i := 1) rfl
  have HS : Hid (Maps.size D = blkN g nn) := by
    have e := size_mapIs h2 h1.mp
    have e2 : (List.range 4352).countP (fun i => (bm i).isSome) = blkN g nn := by
      unfold blkN
      exact List.countP_congr fun i hi => by rw [hz i (List.mem_range.1 hi)]
    exact Lib.hid (e.trans e2)
  have HO := Lib.hid h2
  clear h1 h2 hz
  go_enter Try.func19, Try.ntmps19
  go_wp2_with (at_len; refine wpList_len_own _ rfl _ 56 rfl 21 64 Try.underlying56 ptrE M (Maps.size D) D rfl HO.out ?_)
  go_ret
  exact ⟨by rw [HS.out]; rfl, rfl⟩

theorem wf32 {x : Int} (h0 : -2147483648 ≤ x) (h1 : x ≤ 2147483647) : (Lit.int .i32 x).wf = true := by
  simp [Lit.wf, IntKind.min, IntKind.max, IntKind.signed, IntKind.bits]
  omega
/-- A character's value. -/
def gE (g : Int → Int) (nn r : Int) : Int := if 0 ≤ r ∧ r ≤ 1114111 then g r else nn
/-- 'm[k]' at the map of blocks: the pointer's shape is written out. -/
theorem wpList_lookup_ptr {P : Program} (w : World) {ops : Array Oper} {rest : List Oper} {o : Oper} {a : Act} {Q : Exit → Act → World → Prop}
    (hg : o.guard = none) (m x : Operand) (t : TypeId) (hop : o.op = Op.lookup t m x false)
    (k e : TypeId) (K : Keyed P k) (ht : P.underlying t = some (.map k e)) (hz : (zeroValue e).run P w = .ok (.pointer none) w) (b n : Nat) (D : DataW Unit)
    (hm : a.eval m = .map (some b)) (hown : w.ownsMap P k ptrE b n D) (key : Value) (kl : Lit) (hx : a.eval x = key) (hkey : keyOf P k key = some kl) (oo : Option Nat) (hat : D.atKey kl .nil = ptrD oo)
    (hK : wpList P ops Q rest (a.put o.dst (.pointer (oo.map fun b => ⟨b, 0, none⟩))) w) :
    wpList P ops Q (o :: rest) a w := by
  refine wpList_plain hg fun K' hK' => ?_
  obtain ⟨v, ps, hrun, hv⟩ := hown.lookup K ht hz ptrE_nil hkey
  rw [hat] at hv
  obtain rfl := ptrE_D hv
  unfold Oper.wp
  simp [execOp, hop, hm, hx, hrun, Result.andThen]
  exact hK' _ _ hK
set_option maxHeartbeats 4000000 in
theorem get_any (w : World) (base X : Nat) (nn : Int) (g : Int → Int) (h : Tab w base X nn g) (r : Int) : Calls Try.prog 20 #[.pointer (some ⟨X, 0, none⟩), .int .i32 r] w
    fun e w' => e = .returned (.int .i64 (gE g nn r)) ∧ w = w' := by
  obtain ⟨M, D, bm, h1, hz, h2⟩ := h
  have c0 := h1.blk.c (i := 0) rfl
  have c1 := h1.blk.c (i := 1) rfl
  have HO := Lib.hid h2
  cases hn : numB r with
  | false =>
    have HR : Hid (gE g nn r = nn) := by
      have : ¬ (0 ≤ r ∧ r ≤ 1114111) := by simp [numB] at hn; omega
      exact Lib.hid (by unfold gE; exact if_neg this)
    have HN := number_any r w
    rw [hn] at HN
    clear h1 h2 hz hn
    go_enter Try.func20, Try.ntmps20
    go_wp2_with (go_at_call 26; refine HN.mono ?_; rintro e w' ⟨rfl, rfl⟩)
    go_ret
    exact ⟨by rw [HR.out]; rfl, rfl⟩
  | true =>
    have hr : 0 ≤ r ∧ r ≤ 1114111 := by simpa [numB] using hn
    obtain ⟨hr0, hr1⟩ := hr
    have HN := number_any r w
    rw [hn] at HN
    obtain ⟨i, hi⟩ : ∃ i : Nat, (i : Int) = r / 256 := ⟨(r / 256).toNat, by omega⟩
    obtain ⟨j, hj⟩ : ∃ j : Nat, (j : Int) = r % 256 := ⟨(r % 256).toNat, by omega⟩
    have hi2 : i < 4352 := by omega
    have hj2 : j < 256 := by omega
    have hij : ((i * 256 + j : Nat) : Int) = r := by omega
    have HR : Hid (gE g nn r = g r) := Lib.hid (by unfold gE; exact if_pos ⟨hr0, hr1⟩)
    have hat := h1.mp.at_ i hi2
    have HK : keyOf Try.prog 21 (.int .i32 (r / 256)) = some (.int .i32 (r / 256)) := keyOf_int_mk Try.underlying21 (wf32 (by omega) (by omega))
    cases hb : bm i with
    | none =>
      rw [hb, hi] at hat
      have HG : Hid (g r = nn) := by
        have h5 := hz i hi2
        rw [hb] at h5
        have h6 : nzB g nn i = false := h5.symm
        unfold nzB at h6
        have h7 := (List.any_eq_false.1 h6) j (List.mem_range.2 hj2)
        rw [hij] at h7
        exact Lib.hid (by simpa using h7)
      have HA := Lib.hid hat
      clear h1 h2 hz hn hb hat
      go_enter Try.func20, Try.ntmps20
      go_wp2_with (first
        | (go_at_call 26; refine HN.mono ?_; rintro e w' ⟨rfl, rfl⟩)
        | (at_lookup; refine wpList_lookup_ptr _ rfl _ _ 56 rfl 21 64 law21 Try.underlying56 (zero64 _) M (Maps.size D) D rfl HO.out _ _ rfl HK none HA.out ?_))
      go_ret
      exact ⟨by rw [HR.out, HG.out]; rfl, rfl⟩
    | some b =>
      rw [hb, hi] at hat
      have HA := Lib.hid hat
      have hB := (h1.at_ i b hi2 hb).2
      have b0 := hB.c (i := j * 2) (blkC_at _ j 0 hj2 (by omega))
      have b1 := hB.c (i := j * 2 + 1) (blkC_at _ j 1 hj2 (by omega))
      have hjt : (r % 256).toNat = j := by omega
      have hmod : (r.tmod 256) = (j : Int) := by rw [Int.tmod_eq_emod_of_nonneg hr0]; omega
      have hcel : celF g nn i j = if g r = nn then (false, 0) else (true, g r) := by unfold celF; rw [hij]
      rw [hcel] at b0 b1
      by_cases hg : g r = nn
      · rw [if_pos hg] at b0 b1
        have HG := Lib.hid hg
        clear h1 h2 hz hn hb hat hB b1 hg hcel hjt hj
        change w.cell? ⟨b, j * 2, none⟩ = some (.bool false) at b0
        go_enter Try.func20, Try.ntmps20
        go_wp2_with (first
          | (go_at_call 26; refine HN.mono ?_; rintro e w' ⟨rfl, rfl⟩)
          | (at_lookup; refine wpList_lookup_ptr _ rfl _ _ 56 rfl 21 64 law21 Try.underlying56 (zero64 _) M (Maps.size D) D rfl HO.out _ _ rfl HK (some b) HA.out ?_))
        go_ret
        exact ⟨by rw [HR.out, HG.out]; rfl, rfl⟩
      · rw [if_neg hg] at b0 b1
        clear h1 h2 hz hn hb hat hB hg hcel hjt hj
        change w.cell? ⟨b, j * 2, none⟩ = some (.bool true) at b0
        change w.cell? ⟨b, j * 2 + 1, none⟩ = some (.int .i64 (g r)) at b1
        go_enter Try.func20, Try.ntmps20
        go_wp2_with (first
          | (go_at_call 26; refine HN.mono ?_; rintro e w' ⟨rfl, rfl⟩)
          | (at_lookup; refine wpList_lookup_ptr _ rfl _ _ 56 rfl 21 64 law21 Try.underlying56 (zero64 _) M (Maps.size D) D rfl HO.out _ _ rfl HK (some b) HA.out ?_))
        go_ret
        exact ⟨by rw [HR.out]; rfl, rfl⟩

end Go.Proofs.Ytfjckdjnnbpcnaa.Tr

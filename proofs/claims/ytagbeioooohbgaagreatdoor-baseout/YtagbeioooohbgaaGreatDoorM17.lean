import Derived.Test.YtagbeioooohbgaaGreatDoorM16
section
namespace Go.Proofs.YtagbeioooohbgaaGreatDoor.Ba
open Go.RowKit Go.Maps Uc Ha
open Fi (scal scal_bd)
open Tr (law21 own_keep own_one wf32 isKey_int int_ne)

/-! reckon: what it keeps in its map -/
/-- What is as it was: all but the map's block. -/
structure OB (O : Nat) (w w' : World) : Prop where
  os : w'.os = w.os
  tape : w'.tape = w.tape
  output : w'.output = w.output
  size : w.heap.size ≤ w'.heap.size
  keep : ∀ k, k < w.heap.size → k ≠ O → w'.heap[k]? = w.heap[k]?
theorem OB.refl (O : Nat) (w : World) : OB O w w := ⟨rfl, rfl, rfl, Nat.le_refl _, fun _ _ _ => rfl⟩
theorem OB.trans {O : Nat} {a b c : World} (h : OB O a b) (k : OB O b c) : OB O a c :=
  ⟨k.os.trans h.os, k.tape.trans h.tape, k.output.trans h.output, Nat.le_trans h.size k.size, fun i hi hO => (k.keep i (Nat.lt_of_lt_of_le hi h.size) hO).trans (h.keep i hi hO)⟩
theorem OB.of_below {O : Nat} {w w' : World} (h : Below w.heap.size w w') : OB O w w' := ⟨h.os, h.tape, h.output, h.size, fun k hk _ => h.block k hk⟩
theorem OB.of_grown {O : Nat} {w w' : World} (h : w.grownBy w' (some O)) : OB O w w' := ⟨h.os, h.tape, h.output, h.size, fun k hk hO => h.block k hk (by simpa using hO)⟩
theorem OB.below {O B : Nat} {w w' : World} (h : OB O w w') (hB : B ≤ w.heap.size) (hO : B ≤ O) : Below B w w' := ⟨h.os, h.tape, h.output, h.size, fun k hk => h.keep k (by omega) (by omega)⟩
theorem OB.bk {O X : Nat} {w w' : World} {cs : List Value} {t : TypeId} (h : OB O w w') (hX : Tr.Bk w X cs t) (hne : X ≠ O) : Tr.Bk w' X cs t := hX.on (h.keep X hX.lt hne)
theorem OB.ints {O : Nat} {w w' : World} {A : Option Addr} {l : List Int} (h : OB O w w') (hO : ∀ c fr t, w.heap[O]? ≠ some (.cells c fr t)) (hi : Ints .i32 w A l) : Ints .i32 w' A l := fun i hl => by
  obtain ⟨b, o, e, hb, hc⟩ := hi i hl
  have hne : b ≠ O := fun e2 => by
    subst e2
    unfold World.cell? at hc
    cases hh : w.heap[b]? with
    | none => rw [hh] at hc; cases hc
    | some ob =>
      cases ob with
      | cells c t fr => exact hO c t fr hh
      | _ => rw [hh] at hc; cases hc
  refine ⟨b, o, e, Nat.lt_of_lt_of_le hb h.size, ?_⟩
  rw [← hc]
  unfold World.cell?
  simp only [h.keep b hb hne]
theorem map_no_cells {w : World} {k : TypeId} {R : Value → Option (DataW Unit × List MemPlace)} {O n : Nat} {D : DataW Unit} (h : w.ownsMap Tryz.prog k R O n D) : ∀ c fr t, w.heap[O]? ≠ some (.cells c fr t) := fun c fr t e => by
  obtain ⟨es, clock, hb, _⟩ := h
  rw [hb] at e
  cases e
/-- How many are not reckoned yet. -/
def left (U : List Int) (m : Int → Option Nat) : Nat := U.countP fun k => (m k).isNone
def upd (m : Int → Option Nat) (r : Int) (v : Nat) : Int → Option Nat := fun k => if k = r then some v else m k
theorem left_le {U : List Int} {m m' : Int → Option Nat} (h : ∀ k, (m k).isSome = true → (m' k).isSome = true) : left U m' ≤ left U m := by
  unfold left
  refine List.countP_mono_left fun k _ hk => ?_
  cases e : m k with
  | none => rfl
  | some v =>
    have := h k (by rw [e]; rfl)
    cases e2 : m' k with
    | none => rw [e2] at this; cases this
    | some u => rw [e2] at hk; cases hk
theorem left_upd : ∀ {U : List Int} {m : Int → Option Nat} {r : Int} (v : Nat), r ∈ U → m r = none → left U (upd m r v) + 1 ≤ left U m
  | a :: U, m, r, v, hr, hm => by
    have h1 : left U (upd m r v) ≤ left U m := left_le fun k hk => by unfold upd; split <;> simp_all
    unfold left at *
    rw [List.countP_cons, List.countP_cons]
    rcases List.mem_cons.1 hr with rfl | hr
    · have e1 : (upd m r v r).isNone = false := by simp [upd]
      have e2 : (m r).isNone = true := by rw [hm]; rfl
      rw [e1, e2]
      simp
      omega
    · have h2 := left_upd v hr hm
      unfold left at h2
      by_cases ha : a = r
      · have e1 : (upd m r v a).isNone = false := by simp [upd, ha]
        have e2 : (m a).isNone = true := by rw [ha, hm]; rfl
        rw [e1, e2]
        simp
        omega
      · have e1 : upd m r v a = m a := by simp [upd, ha]
        rw [e1]
        omega
/-- The map says what is kept. -/
structure MoIs (D : DataW Unit) (m : Int → Option Nat) : Prop where
  has : ∀ r, Maps.has D (.int .i32 r) = (m r).isSome
  at_ : ∀ r, D.atKey (.int .i32 r) (.lit (.int .i64 0)) = .lit (.int .i64 (((m r).getD 0 : Nat) : Int))
theorem MoIs.nil : MoIs (.map []) (fun _ => none) := ⟨fun _ => rfl, fun _ => rfl⟩
theorem MoIs.put {D : DataW Unit} {m : Int → Option Nat} (h : MoIs D m) (hD : IsMap D) (r : Int) (v : Nat) : MoIs (D.put (.int .i32 r) (.lit (.int .i64 (v : Int)))) (upd m r v) := by
  refine ⟨fun k => ?_, fun k => ?_⟩
  · unfold upd
    by_cases e : k = r
    · subst e; rw [has_put_same hD (isKey_int _), if_pos rfl]; rfl
    · rw [has_put_other (int_ne e), h.has k, if_neg e]
  · unfold upd
    by_cases e : k = r
    · subst e; rw [atKey_put_same hD (isKey_int _), if_pos rfl]; rfl
    · rw [atKey_put_other (int_ne e), h.at_ k, if_neg e]
/-- What is kept. -/
def Mst (w : World) (O : Nat) (U : List Int) (L : List Rw) (s : Nat) (m : Int → Option Nat) : Prop :=
  ∃ n D, w.ownsMap Tryz.prog 21 (plainElem Tryz.prog 3) O n D ∧ MoIs D m ∧ n + 2 * left U m + s ≤ 2 * U.length ∧ ∀ k v, m k = some v → v ≠ 0 → ∃ c, Cnt L [k] c ∧ v = min c 19
theorem Mst.on {w w' : World} {O : Nat} {U : List Int} {L : List Rw} {s : Nat} {m : Int → Option Nat} (h : Mst w O U L s m) (hk : w'.heap[O]? = w.heap[O]?) : Mst w' O U L s m := by
  obtain ⟨n, D, h1, h2⟩ := h
  exact ⟨n, D, own_at h1 hk, h2⟩
theorem Mst.lt {w : World} {O : Nat} {U : List Int} {L : List Rw} {s : Nat} {m : Int → Option Nat} (h : Mst w O U L s m) : O < w.heap.size := by
  obtain ⟨n, D, h1, h2⟩ := h
  exact h1.lt
theorem Mst.below {w w' : World} {O : Nat} {U : List Int} {L : List Rw} {s : Nat} {m : Int → Option Nat} (h : Mst w O U L s m) (hb : Below w.heap.size w w') : Mst w' O U L s m := h.on (hb.block O h.lt)
theorem Mst.no {w : World} {O : Nat} {U : List Int} {L : List Rw} {s : Nat} {m : Int → Option Nat} (h : Mst w O U L s m) : ∀ c fr t, w.heap[O]? ≠ some (.cells c fr t) := by
  obtain ⟨n, D, h1, h2⟩ := h
  exact map_no_cells h1
def Ext (m m' : Int → Option Nat) : Prop := (∀ k v, m k = some v → m' k = some v) ∧ ∀ k, m' k = some 0 → m k = some 0
theorem Ext.refl (m : Int → Option Nat) : Ext m m := ⟨fun _ _ h => h, fun _ h => h⟩
theorem Ext.trans {a b c : Int → Option Nat} (h : Ext a b) (k : Ext b c) : Ext a c := ⟨fun i v hi => k.1 i v (h.1 i v hi), fun i hi => h.2 i (k.2 i hi)⟩
theorem Ext.left {U : List Int} {m m' : Int → Option Nat} (h : Ext m m') : left U m' ≤ Ba.left U m := left_le fun k hk => by
  obtain ⟨v, hv⟩ := Option.isSome_iff_exists.1 hk
  rw [h.1 k v hv]
  rfl
theorem zero3 (w : World) : (zeroValue 3).run Tryz.prog w = .ok (.int .i64 0) w := by kernel_rfl
theorem wfN {v : Nat} (h : v ≤ 19) : (Lit.int .i64 (v : Int)).wf = true := by
  simp [Lit.wf, IntKind.min, IntKind.max, IntKind.signed, IntKind.bits]
  omega
theorem lookup_of {w : World} {O n : Nat} {D : DataW Unit} {m : Int → Option Nat} (ho : w.ownsMap Tryz.prog 21 (plainElem Tryz.prog 3) O n D) (hm : MoIs D m) {r : Int} (hr : wfR r) :
    (Instr.lookup 109 (.map (some O)) (.int .i32 r) true).run Tryz.prog w = .ok (.tuple #[.int .i64 (((m r).getD 0 : Nat) : Int), .bool (m r).isSome]) w := by
  obtain ⟨v, ps, hrun, hv⟩ := ho.look_ok law21 Tryz.underlying109 (zero3 w) (zd := .lit (.int .i64 0)) (plainElem_int Tryz.underlying3 (by decide)) (keyR hr)
  rw [hm.at_ r] at hv
  obtain ⟨c, rfl, hc, _⟩ := plainElem_int_inv Tryz.underlying3 hv
  simp only [Prod.mk.injEq, DataW.lit.injEq, Lit.int.injEq, true_and] at hc
  rw [hrun, hm.has r, hc.1]
/-- What reckon answers. -/
def ReP (w : World) (O : Nat) (U : List Int) (L : List Rw) (s : Nat) (m : Int → Option Nat) (r : Int) (e : Ending) (w' : World) : Prop :=
  ∃ v : Nat, e = .returned (.int .i64 v) ∧ OB O w w' ∧ ((v = 0 ∧ ∀ n, ¬ Cnt L [r] n) ∨ (v ≠ 0 ∧ (∃ n, Cnt L [r] n ∧ v = min n 19) ∧ ∃ m', Ext m m' ∧ Mst w' O U L s m'))
theorem ReP.same {w w' : World} {O : Nat} {U : List Int} {L : List Rw} {s : Nat} {m : Int → Option Nat} {r : Int} {v : Nat} (hM : Mst w O U L s m) (hb : Below w.heap.size w w') (ho : ∀ k, m k = some 0 → Leads L k r) (hv : m r = some v) : ReP w O U L s m r (.returned (.int .i64 v)) w' := by
  refine ⟨v, rfl, OB.of_below hb, ?_⟩
  by_cases h0 : v = 0
  · subst h0
    exact .inl ⟨rfl, fun n hc => hc.no (List.mem_singleton.2 rfl) (ho r hv)⟩
  · obtain ⟨n, D, h1, h2, h3, h4⟩ := hM
    exact .inr ⟨h0, h4 r v hv h0, m, Ext.refl m, n, D, own_at h1 (hb.block O h1.lt), h2, h3, h4⟩
theorem ReP.leaf {w w' : World} {O : Nat} {U : List Int} {L : List Rw} {s : Nat} {m : Int → Option Nat} {r : Int} (hM : Mst w O U L s m) (hb : Below w.heap.size w w') (hl : (decB L r).2 = []) : ReP w O U L s m r (.returned (.int .i64 1)) w' :=
  ⟨1, rfl, OB.of_below hb, .inr ⟨by omega, ⟨1, .one_leaf hl, by omega⟩, m, Ext.refl m, hM.below hb⟩⟩
/-- The character that is being reckoned is put down as open. -/
theorem mst_open {w' : World} {O n : Nat} {U : List Int} {L : List Rw} {s : Nat} {m : Int → Option Nat} {D : DataW Unit} {r : Int} (hU : r ∈ U) (hm : m r = none) (h2 : MoIs D m) (hD : IsMap D) (h3 : n + 2 * left U m + s ≤ 2 * U.length) (h4 : ∀ k v, m k = some v → v ≠ 0 → ∃ c, Cnt L [k] c ∧ v = min c 19)
    (ho : w'.ownsMap Tryz.prog 21 (plainElem Tryz.prog 3) O (n + 1) (D.put (.int .i32 r) (.lit (.int .i64 0)))) : Mst w' O U L (s + 1) (upd m r 0) := by
  refine ⟨n + 1, _, ho, h2.put hD r 0, ?_, fun k v hk hv => ?_⟩
  · have := left_upd (U := U) 0 hU hm
    omega
  · unfold upd at hk
    split at hk
    · cases hk; exact absurd rfl hv
    · exact h4 k v hk hv
/-- .. and closed by its number. -/
theorem mst_close {w' : World} {O n : Nat} {U : List Int} {L : List Rw} {s : Nat} {m m9 : Int → Option Nat} {D : DataW Unit} {r : Int} {v c : Nat} (hx : Ext (upd m r 0) m9) (hm : m r = none) (h2 : MoIs D m9) (hD : IsMap D) (h3 : n + 2 * left U m9 + (s + 1) ≤ 2 * U.length) (h4 : ∀ k v, m9 k = some v → v ≠ 0 → ∃ c, Cnt L [k] c ∧ v = min c 19)
    (ho : w'.ownsMap Tryz.prog 21 (plainElem Tryz.prog 3) O (n + 1) (D.put (.int .i32 r) (.lit (.int .i64 (v : Int))))) (hc : Cnt L [r] c) (hv : v = min c 19) : v ≠ 0 ∧ Ext m (upd m9 r v) ∧ Mst w' O U L s (upd m9 r v) := by
  have h0 : v ≠ 0 := by have := hc.pos; omega
  refine ⟨h0, ⟨fun k u hk => ?_, fun k hk => ?_⟩, n + 1, _, ho, h2.put hD r v, ?_, fun k u hk hu => ?_⟩
  · unfold upd
    by_cases e : k = r
    · subst e; rw [hm] at hk; cases hk
    · rw [if_neg e]
      refine hx.1 k u ?_
      unfold upd
      rw [if_neg e]
      exact hk
  · unfold upd at hk
    by_cases e : k = r
    · rw [if_pos e] at hk; cases hk; exact absurd rfl h0
    · rw [if_neg e] at hk
      have := hx.2 k hk
      unfold upd at this
      rw [if_neg e] at this
      exact this
  · have : left U (upd m9 r v) ≤ left U m9 := left_le fun k hk => by unfold upd; split <;> simp_all
    omega
  · unfold upd at hk
    by_cases e : k = r
    · rw [if_pos e] at hk; cases hk; subst e; exact ⟨c, hc, hv⟩
    · rw [if_neg e] at hk; exact h4 k u hk hu
/-- Who leads to a character that is reckoned leads to what it is parted into. -/
theorem open_more {L : List Rw} {m m9 : Int → Option Nat} {r : Int} (hx : Ext (upd m r 0) m9) (ho : ∀ k, m k = some 0 → Leads L k r) {t : Int} (ht : t ∈ (decB L r).2) : ∀ k, m9 k = some 0 → Leads L k t := fun k hk => by
  have := hx.2 k hk
  unfold upd at this
  by_cases e : k = r
  · subst e; exact .one ht
  · rw [if_neg e] at this; exact (ho k this).trans (.one ht)
theorem left_more {U : List Int} {m m9 : Int → Option Nat} {r : Int} (hU : r ∈ U) (hm : m r = none) (hx : Ext (upd m r 0) m9) : left U m9 < left U m := by
  have h1 := hx.left (U := U)
  have h2 := left_upd (U := U) 0 hU hm
  omega
theorem cnt_snoc {L : List Rw} {l : List Int} {k c d : Nat} (hk : k < l.length) (h : Cnt L (l.take k) c) (h2 : Cnt L [l.getD k 0] d) : Cnt L (l.take (k + 1)) (c + d) := by
  rw [Ha.take_more l k hk]
  exact h.app h2

end Go.Proofs.YtagbeioooohbgaaGreatDoor.Ba
end
section
namespace Go.Proofs.YtagbeioooohbgaaGreatDoor.Ba
open Go.RowKit Go.Maps Uc Ha
open Fi (scal scal_bd)
open Tr (law21 own_keep own_one wf32 isKey_int int_ne)

/-- What a call of reckon wants to know. -/
structure RkH (wB w : World) (bv : Value) (O : Nat) (U : List Int) (L mk : List Rw) (s : Nat) (m : Int → Option Nat) (r : Int) : Prop where
  frm : Frm L
  hbv : BV wB bv L mk
  tab : Tab wB
  bel : Below wB.heap.size wB w
  hO : wB.heap.size ≤ O
  wf : wfR r
  hU : ∀ k, (decB L k).2 ≠ [] → k ∈ U
  few : U.length ≤ 100000
  mst : Mst w O U L s m
  opn : ∀ k, m k = some 0 → Leads L k r
theorem dec_wf {L : List Rw} (hF : Frm L) {r s : Int} (hs : s ∈ (decB L r).2) : wfR s := by
  cases h : isS r with
  | true =>
    rw [syl_dec h] at hs
    have h1 := ldN_bd h
    have h2 := vwN_bd r
    have h3 := tlN_bd r
    have h5 := (isS_iff r).1 h
    unfold splE at hs
    rw [if_pos h] at hs
    split at hs
    · simp only [List.mem_cons, List.not_mem_nil, or_false] at hs
      rcases hs with rfl | rfl <;> exact wfR_of (by omega) (by omega)
    · simp only [List.mem_cons, List.not_mem_nil, or_false] at hs
      rcases hs with rfl | rfl <;> exact wfR_of (by omega) (by omega)
  | false =>
    cases e : parA L r with
    | none => rw [dec_none hF h e] at hs; cases hs
    | some x =>
      rw [dec_some hF h e] at hs
      exact wfR_scal ((hF.fin x (parA_some e).1).sc s hs)
/-- What stands in a round. -/
structure RkR (w wr : World) (bv : Value) (O : Nat) (U : List Int) (L : List Rw) (s : Nat) (m : Int → Option Nat) (r : Int) (A : Option Addr) (into : List Int) (k sm : Nat) (c9 : Nat) (m9 : Int → Option Nat) : Prop where
  ob : OB O w wr
  cnt : Cnt L (into.take k) c9
  sum : sm = min c9 19
  ext : Ext (upd m r 0) m9
  mst : Mst wr O U L (s + 1) m9
  ints : Ints .i32 wr A into
  box : Tr.Bk wr w.heap.size [bv, .map (some O)] 111
set_option maxRecDepth 100000 in
set_option maxHeartbeats 16000000 in
theorem reckon_any (wB : World) (bv : Value) (O : Nat) (U : List Int) (L mk : List Rw) : ∀ (N s : Nat) (m : Int → Option Nat) (r : Int) (w : World), left U m < N → RkH wB w bv O U L mk s m r →
    Calls Tryz.prog 56 #[.agg #[bv, .map (some O)], .int .i32 r] w (ReP w O U L s m r) := by
  intro N
  induction N with
  | zero => intro s m r w h; omega
  | succ N IH =>
    intro s m r w hN H
    have HI := Lib.hid IH
    have HH := Lib.hid H
    have HN := Lib.hid hN
    obtain ⟨n, D, ho, hmo, hn, hval⟩ := H.mst
    have hOl := ho.lt
    have hbx : Below w.heap.size w (w.alloc (.cells #[bv, .map (some O)] 111)) := (Below.refl _ w).alloc (Nat.le_refl _) _
    have HBX := Lib.hid hbx
    have hbk : Tr.Bk (w.alloc (.cells #[bv, .map (some O)] 111)) w.heap.size [bv, .map (some O)] 111 := ⟨heap_alloc_new w _⟩
    have HBK := Lib.hid hbk
    have hrun := lookup_of (own_at ho (hbx.block O ho.lt)) hmo H.wf
    have HO := Lib.hid (own_at ho (hbx.block O ho.lt))
    obtain ⟨kd, into, hd⟩ : ∃ kd into, decB L r = (kd, into) := ⟨_, _, rfl⟩
    have HD := Lib.hid hd
    clear IH H hN hbx ho hbk
    cases hm : m r with
    | some v =>
      rw [hm] at hrun
      have HE := Lib.hid (ReP.same HH.out.mst HBX.out HH.out.opn hm)
      clear hm hval hn hmo hd
      go_enter Tryz.func56, Tryz.ntmps56
      go_wp2_with fail
      go_ret
      exact HE.out
    | none =>
      rw [hm] at hrun
      have HM := Lib.hid hm
      have HMO := Lib.hid hmo
      have HV := Lib.hid hval
      have HNN := Lib.hid hn
      have HP := Lib.hid (show ∀ W, Below wB.heap.size wB W → Calls Tryz.prog 29 #[bv, .int .i32 r] W (PrtP W (kd, into)) from fun W hW => by
        have := parts_any bv r W HH.out.frm (HH.out.hbv.below hW) (HH.out.tab.all W hW) HH.out.wf
        rw [hd] at this
        exact this)
      have HB1 := Lib.hid (HH.out.bel.trans (HBX.out.mono HH.out.bel.size))
      have HU := Lib.hid (HH.out.hU r)
      rw [hd] at HU
      have KEY := Lib.hid (keyR HH.out.wf)
      have hn5 : n < maxLen := by
        have := HH.out.few
        unfold maxLen
        omega
      have HN5 := Lib.hid hn5
      clear hm hmo hval hn hd hn5
      by_cases hp : into = []
      · subst hp
        go_enter Tryz.func56, Tryz.ntmps56
        go_wp2_with fail
        refine (HP.out _ HB1.out).mono ?_
        rintro e w2 ⟨A, c, rfl, hi, hb⟩
        have D2 := Lib.hid (HBX.out.trans (hb.mono HBX.out.size))
        clear hb hi
        go_wp2_with fail
        go_ret
        exact ReP.leaf HH.out.mst D2.out (by rw [HD.out])
      · have hl18 : into.length ≤ 18 := by have := dec_len HH.out.frm r; rw [HD.out] at this; exact this
        have HPP := Lib.hid hp
        have hpos := List.length_pos_iff.2 hp
        have hne : ((into.length : Int) == 0) = false := by simp; omega
        clear hp
        go_enter Tryz.func56, Tryz.ntmps56
        go_wp2_with fail
        refine (HP.out _ HB1.out).mono ?_
        rintro e w2 ⟨A, c, rfl, hi, hb⟩
        have D2 := Lib.hid (HBX.out.trans (hb.mono HBX.out.size))
        have HO2 := Lib.hid (own_at HO.out (hb.block O HO.out.lt))
        have hbk2 := HBK.out.below hb
        have k1 := hbk2.c (i := 1) rfl
        have HBK2 := Lib.hid hbk2
        have I2 := Lib.hid hi
        clear hb hi hbk2
        simp only at I2
        go_wp2_with (at_mapUpdate; refine wpList_mapUpdate_own _ rfl _ _ _ 109 rfl 21 3 law21 Tryz.underlying109 (plainElem Tryz.prog 3) O n D rfl HO2.out HN5.out _ _ _ rfl rfl KEY.out (.lit (.int .i64 0)) [] (plainElem_int Tryz.underlying3 (by decide)) ?_; intro w3 hown3 hgrow3; have G3 := Lib.hid hgrow3; have M3 := Lib.hid (mst_open (HU.out HPP.out) HM.out HMO.out HO2.out.isMap HNN.out HV.out hown3); clear hown3 hgrow3)
        have R3 : Hid (RkR w w3 bv O U L s m r A into 0 0 0 (upd m r 0)) := Lib.hid ⟨(OB.of_below D2.out).trans (OB.of_grown G3.out), by rw [List.take_zero]; exact .nil, rfl, Ext.refl _, M3.out, (OB.of_grown G3.out).ints (map_no_cells HO2.out) I2.out, (OB.of_grown G3.out).bk HBK2.out (by omega)⟩
        clear k1 G3 M3 HO2 I2 HBK2 D2 HP hrun HO HBX HBK HV HNN HMO HN5
        go_loopw [9, 37] (fun s9 i wr => ∃ k sm : Nat, s9 = .int .i64 sm ∧ i = .int .i64 k ∧ k ≤ into.length ∧ ∃ c9 m9, Hid (RkR w wr bv O U L s m r A into k sm c9 m9)) (fun _ i _ => into.length - (intOf i).toNat)
        case atStart => exact ⟨0, 0, rfl, rfl, Nat.zero_le _, 0, _, R3⟩
        case round =>
          obtain ⟨k, sm, rfl, rfl, hk, c9, m9, HR⟩ := hrel
          clear R3
          have hsm : sm ≤ 19 := by rw [HR.out.sum]; omega
          by_cases hlt : k < into.length
          · have hltI : (k : Int) < into.length := by omega
            obtain ⟨g, off, rfl, hg, hc⟩ := HR.out.ints k hlt
            have k0 := HR.out.box.c (i := 0) rfl
            have k1 := HR.out.box.c (i := 1) rfl
            obtain ⟨t, ht⟩ : ∃ t, t = into.getD k 0 := ⟨_, rfl⟩
            rw [← ht] at hc
            have htm : t ∈ (decB L r).2 := by
              rw [HD.out, ht]
              show into.getD k 0 ∈ into
              rw [List.getD_eq_getElem?_getD, List.getElem?_eq_getElem hlt]
              exact List.getElem_mem hlt
            have HC := Lib.hid (HI.out (s + 1) m9 t wr (by have := left_more (HU.out HPP.out) HM.out HR.out.ext; have := HN.out; omega)
              ⟨HH.out.frm, HH.out.hbv, HH.out.tab, HH.out.bel.trans (HR.out.ob.below HH.out.bel.size HH.out.hO), HH.out.hO, dec_wf HH.out.frm htm, HH.out.hU, HH.out.few, HR.out.mst, open_more HR.out.ext HH.out.opn htm⟩)
            have HT := Lib.hid htm
            have HTE := Lib.hid ht
            clear htm ht
            go_wp2_with fail
            refine HC.out.mono ?_
            rintro e w5 ⟨v, rfl, hob, hres⟩
            rcases hres with ⟨rfl, hno⟩ | ⟨hv0, ⟨c, hcn, hvn⟩, m', hx', hm'⟩
            · have HE : Hid (ReP w O U L s m r (.returned (.int .i64 ((0 : Nat) : Int))) w5) := Lib.hid ⟨0, rfl, HR.out.ob.trans hob, .inl ⟨rfl, fun n hn => by
                obtain ⟨q, hq⟩ := hn.parts t HT.out
                exact hno q hq⟩⟩
              clear hno hob
              go_wp2_with fail
              go_ret
              exact HE.out
            · have hv19 : v ≤ 19 := by omega
              have hvne : ((v : Int) == 0) = false := by simp; omega
              have HRN : Hid (RkR w w5 bv O U L s m r (some ⟨g, off, none⟩) into (k + 1) (min (sm + v) 19) (c9 + c) m') := Lib.hid ⟨HR.out.ob.trans hob, cnt_snoc hlt HR.out.cnt (by rw [← HTE.out]; exact hcn), by have := HR.out.sum; omega, HR.out.ext.trans hx', hm', hob.ints HR.out.mst.no HR.out.ints, hob.bk HR.out.box (by omega)⟩
              clear hob hcn hvn hx' hm' hv0
              go_wp2_with fail
              go_roundw
              case measure => simp [intOf]; omega
              case rel => exact ⟨k + 1, min (sm + v) 19, by congr 1; omega, by go_num, by omega, _, _, HRN⟩
          · have hltI : ¬ (k : Int) < into.length := by omega
            have hk2 : into.take k = into := List.take_of_length_le (by omega)
            have hcnt := HR.out.cnt
            rw [hk2] at hcnt
            have HCN := Lib.hid (Cnt.one_node (L := L) (r := r) (by rw [HD.out]; exact HPP.out) (by rw [HD.out]; exact hcnt))
            obtain ⟨n9, D9, ho9, hm9, hn9, hv9⟩ := HR.out.mst
            have O9 := Lib.hid ho9
            have M9 := Lib.hid hm9
            have N9 := Lib.hid hn9
            have V9 := Lib.hid hv9
            have hn5 : n9 < maxLen := by
              have := HH.out.few
              unfold maxLen
              omega
            have L9 := Lib.hid hn5
            have k1 := HR.out.box.c (i := 1) rfl
            clear hk2 hcnt ho9 hm9 hn9 hv9 hn5
            go_wp2_with (at_mapUpdate; refine wpList_mapUpdate_own _ rfl _ _ _ 109 rfl 21 3 law21 Tryz.underlying109 (plainElem Tryz.prog 3) O n9 D9 rfl O9.out L9.out _ _ _ rfl rfl KEY.out (.lit (.int .i64 (sm : Int))) [] (plainElem_int Tryz.underlying3 (wfN hsm)) ?_; intro w4 hown4 hgrow4; have G4 := Lib.hid hgrow4; have E4 := Lib.hid (mst_close HR.out.ext HM.out M9.out O9.out.isMap N9.out V9.out hown4 HCN.out HR.out.sum); clear hown4 hgrow4)
            go_ret
            exact ⟨sm, rfl, HR.out.ob.trans (OB.of_grown G4.out), .inr ⟨E4.out.1, ⟨c9, HCN.out, HR.out.sum⟩, _, E4.out.2.1, E4.out.2.2⟩⟩

end Go.Proofs.YtagbeioooohbgaaGreatDoor.Ba
end

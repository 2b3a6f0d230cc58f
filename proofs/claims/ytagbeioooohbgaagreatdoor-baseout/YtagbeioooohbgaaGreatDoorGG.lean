import Derived.Test.YtagbeioooohbgaaGreatDoorM05
import Derived.StillTailTactics
namespace Go.Proofs.YtagbeioooohbgaaGreatDoor.Uc
open Go.RowKit Fi

/-- The two variables of Rows, and the rows that lie there. -/
structure RSt (w0 w : World) (X O : Nat) (rs : List Rw) (op : Nat) : Prop where
  bel : Below w0.heap.size w0 w
  ox : ∃ v l, l.map Prod.fst = rs ∧ One w X v 52 ∧ RwIn w w0.heap.size 91 v l
  oo : One w O (.int .i64 op) 3
theorem RSt.on {w0 w w' : World} {X O op : Nat} {rs : List Rw} (h : RSt w0 w X O rs op) (hb : Below w.heap.size w w') : RSt w0 w' X O rs op := by
  obtain ⟨v, l, e, h1, h2⟩ := h.ox
  exact ⟨h.bel.trans (hb.mono h.bel.size), ⟨v, l, e, h1.below hb, h2.below hb⟩, h.oo.below hb⟩
theorem one_lt {w0 w : World} {X O op : Nat} {rs : List Rw} (h : RSt w0 w X O rs op) : X < w.heap.size ∧ O < w.heap.size := by
  obtain ⟨v, l, e, h1, h2⟩ := h.ox
  exact ⟨h1.lt, h.oo.lt⟩
/-- The last row, as it lies there. -/
structure LastAt (w : World) (base g cap n : Nat) (T : TypeId) (m : List (Rw × Value)) (y : Rw) (A : Option Addr) (c : Nat) : Prop where
  len : m.length = n
  hcap : n + 1 ≤ cap
  lt : base ≤ g ∧ g < w.heap.size
  blk : ∃ cur : Array Value, w.heap[g]? = some (.cells cur T (0, 0)) ∧ cur.size = cap * 7 ∧ cap ≤ maxLen ∧ cur.toList.take ((n + 1) * 7) = rCs m ++ rC y (.slice A y.into.length c)
  ints : ∀ x ∈ m, w.ownsRow base 21 1 x.2 x.1.into.length (i32s x.1.into)
  inty : w.ownsRow base 21 1 (.slice A y.into.length c) y.into.length (i32s y.into)
theorem last_of {w : World} {base : Nat} {T : TypeId} {v : Value} {l : List (Rw × Value)} (h : RwIn w base T v l) (hne : l ≠ []) :
    ∃ g cap n m y A c, l = m ++ [(y, .slice A y.into.length c)] ∧ v = .slice (some ⟨g, 0, none⟩) (n + 1) cap ∧ LastAt w base g cap n T m y A c := by
  have e := (List.dropLast_concat_getLast hne).symm
  obtain ⟨m, hm⟩ : ∃ m, m = l.dropLast := ⟨_, rfl⟩
  obtain ⟨z, hz⟩ : ∃ z, z = l.getLast hne := ⟨_, rfl⟩
  rw [← hm, ← hz] at e
  obtain ⟨y, vy⟩ := z
  subst e
  have hy := h.ints (y, vy) (by simp)
  obtain ⟨A, c, e2, _⟩ := own_ints hy
  simp only at e2 hy
  subst e2
  have hl : (m ++ [(y, Value.slice A y.into.length c)]).length = m.length + 1 := by simp
  have ho := h.own
  rw [hl] at ho
  rcases ho.2 with ⟨_, hn⟩ | ⟨g, cap, cur, hv, hg, hh, hn, hmx, hc, ht⟩
  · omega
  · refine ⟨g, cap, m.length, m, y, A, c, rfl, hv, rfl, hn, ⟨hg, (Array.getElem?_eq_some_iff.1 hh).1⟩, ⟨cur, hh, hc, hmx, ?_⟩, fun x hx => h.ints x (by simp [hx]), hy⟩
    rw [ht, rCs_app]
    rfl
theorem LastAt.cell {w : World} {base g cap n : Nat} {T : TypeId} {m : List (Rw × Value)} {y : Rw} {A : Option Addr} {c : Nat} (h : LastAt w base g cap n T m y A c) {j : Nat} {u : Value} (hj : j < 7) (hu : (rC y (.slice A y.into.length c))[j]? = some u) : w.cell? ⟨g, n * 7 + j, none⟩ = some u := by
  obtain ⟨cur, hh, hc, _, ht⟩ := h.blk
  have hlen : (rCs m).length = n * 7 := by rw [rCs_len, h.len]
  have h2 : cur[n * 7 + j]? = some u := by
    rw [← Array.getElem?_toList]
    have h3 : (cur.toList.take ((n + 1) * 7))[n * 7 + j]? = some u := by
      rw [ht, List.getElem?_append_right (by omega), hlen, Nat.add_sub_cancel_left]
      exact hu
    rw [List.getElem?_take, if_pos (by omega)] at h3
    exact h3
  simp [World.cell?, hh, h2]
theorem LastAt.fr {w : World} {base g cap n : Nat} {T : TypeId} {m : List (Rw × Value)} {y : Rw} {A : Option Addr} {c : Nat} (h : LastAt w base g cap n T m y A c) (k : Nat) : w.frozen? ⟨g, k, none⟩ = false := by
  obtain ⟨cur, hh, _⟩ := h.blk
  simp [World.frozen?, hh]
theorem LastAt.below {w w' : World} {base g cap n : Nat} {T : TypeId} {m : List (Rw × Value)} {y : Rw} {A : Option Addr} {c : Nat} (h : LastAt w base g cap n T m y A c) (hb : Below w.heap.size w w') : LastAt w' base g cap n T m y A c := by
  obtain ⟨cur, hh, h2⟩ := h.blk
  exact ⟨h.len, h.hcap, ⟨h.lt.1, Nat.lt_of_lt_of_le h.lt.2 hb.size⟩, ⟨cur, (hb.block g h.lt.2).trans hh, h2⟩, fun x hx => own_below' (h.ints x hx) hb, own_below' h.inty hb⟩
theorem LastAt.rw {w : World} {base g cap n : Nat} {T : TypeId} {m : List (Rw × Value)} {y : Rw} {A : Option Addr} {c : Nat} (h : LastAt w base g cap n T m y A c) : RwIn w base T (.slice (some ⟨g, 0, none⟩) (n + 1) cap) (m ++ [(y, .slice A y.into.length c)]) := by
  obtain ⟨cur, hh, hc, hm, ht⟩ := h.blk
  have hl : (m ++ [(y, Value.slice A y.into.length c)]).length = n + 1 := by simp [h.len]
  have hz : (rCs (m ++ [(y, Value.slice A y.into.length c)])).length = (n + 1) * 7 := by rw [rCs_len, hl]
  refine ⟨?_, fun x hx => ?_⟩
  · rw [hl]
    refine ⟨hz, .inr ⟨g, cap, cur, rfl, h.lt.1, hh, h.hcap, hm, hc, ?_⟩⟩
    rw [ht, rCs_app]; rfl
  · rcases List.mem_append.1 hx with hx | hx
    · exact h.ints x hx
    · simp at hx; subst hx; exact h.inty
theorem LastAt.set {w : World} {base g cap n : Nat} {T : TypeId} {m : List (Rw × Value)} {y : Rw} {A : Option Addr} {c : Nat} (h : LastAt w base g cap n T m y A c) (hT : T ≠ 21) (t : Int) : LastAt (w.setCell ⟨g, n * 7 + 1, none⟩ (.int .i32 t)) base g cap n T m { y with tt := t } A c := by
  obtain ⟨cur, hh, hc, hm, ht⟩ := h.blk
  have hlen : (rCs m).length = n * 7 := by rw [rCs_len, h.len]
  have hne : ∀ {v : Value} {k : Nat} {xs : List Value}, w.ownsRow base 21 1 v k xs → v.ownBlock ≠ some g := by
    intro v k xs ho he
    rcases ho.2 with ⟨rfl, _⟩ | ⟨g', cap', cur', rfl, _, hg', _⟩
    · cases he
    · have e : g' = g := by injection he
      subst e
      rw [hh] at hg'
      simp at hg'
      exact hT hg'.2
  refine ⟨h.len, h.hcap, ⟨h.lt.1, by simpa using h.lt.2⟩, ⟨cur.setIfInBounds (n * 7 + 1) (.int .i32 t), by simp [World.setCell, Array.getElem?_modify, hh], by simpa using hc, hm, ?_⟩, fun x hx => own_set (h.ints x hx) (hne (h.ints x hx)) _, own_set h.inty (hne h.inty) _⟩
  rw [Array.toList_setIfInBounds, List.take_set, ht, List.set_append_right _ _ (by omega), hlen, Nat.add_sub_cancel_left]
  rfl
theorem LastAt.ne {w : World} {base g cap n : Nat} {T : TypeId} {m : List (Rw × Value)} {y : Rw} {A : Option Addr} {c : Nat} (h : LastAt w base g cap n T m y A c) {O : Nat} {u : Value} {t : TypeId} (ho : One w O u t) (ht : t ≠ T) : O ≠ g := by
  rintro rfl
  obtain ⟨cur, hh, _⟩ := h.blk
  rw [ho.blk] at hh
  simp at hh
  exact ht hh.2
theorem _root_.Go.Proofs.YtagbeioooohbgaaGreatDoor.Fi.One.other' {w : World} {X : Nat} {v : Value} {t : TypeId} (h : One w X v t) {Y : Nat} (hn : X ≠ Y) (o : Nat) (x : Value) : One (w.setCell ⟨Y, o, none⟩ x) X v t := ⟨(Go.Deep.blk_setCell_other _ _ _ _ hn).trans h.blk⟩
theorem LastAt.other {w : World} {base g cap n : Nat} {T : TypeId} {m : List (Rw × Value)} {y : Rw} {A : Option Addr} {c : Nat} (h : LastAt w base g cap n T m y A c) {O : Nat} {u : Value} {t : TypeId} (ho : One w O u t) (ht : t ≠ T) (ht2 : t ≠ 21) (x : Value) : LastAt (w.setCell ⟨O, 0, none⟩ x) base g cap n T m y A c := by
  obtain ⟨cur, hh, h2⟩ := h.blk
  exact ⟨h.len, h.hcap, ⟨h.lt.1, by simpa using h.lt.2⟩, ⟨cur, (Go.Deep.blk_setCell_other _ _ _ _ (h.ne ho ht).symm).trans hh, h2⟩, fun z hz => own_set (h.ints z hz) (ho.ne (h.ints z hz) ht2) _, own_set h.inty (ho.ne h.inty ht2) _⟩
theorem LastAt.keep {w : World} {base g cap n : Nat} {T : TypeId} {m : List (Rw × Value)} {y : Rw} {A : Option Addr} {c : Nat} (h : LastAt w base g cap n T m y A c) {t : TypeId} (ht : T ≠ t) (k : Nat) (x : Value) : KeepT t w (w.setCell ⟨g, k, none⟩ x) := fun g' cs fr hg => by
  obtain ⟨cur, hh, _⟩ := h.blk
  refine Go.Deep.blk_setCell_other _ _ _ _ (fun e => ?_)
  subst e
  rw [hh] at hg
  simp at hg
  exact ht hg.2.1
/-- The last row's end is another one, and none waits. -/
theorem RSt.last {w0 w4 : World} {X O op g cap n : Nat} {mm : List Rw} {m : List (Rw × Value)} {y : Rw} {A : Option Addr} {c : Nat} (hb : Below w0.heap.size w0 w4) (_hX : w0.heap.size ≤ X) (hO : w0.heap.size ≤ O) (hXO : X ≠ O) (hm : mm = m.map Prod.fst)
    (ox : One w4 X (.slice (some ⟨g, 0, none⟩) (n + 1) cap) 52) (oo : One w4 O (.int .i64 op) 3) (la : LastAt w4 w0.heap.size g cap n 91 m y A c) (t : Int) :
    RSt w0 ((w4.setCell ⟨g, n * 7 + 1, none⟩ (.int .i32 t)).setCell ⟨O, 0, none⟩ (.int .i64 0)) X O (putTo (mm ++ [y]) t) 0 ∧ KeepT 90 w4 ((w4.setCell ⟨g, n * 7 + 1, none⟩ (.int .i32 t)).setCell ⟨O, 0, none⟩ (.int .i64 0)) := by
  have n1 := la.ne ox (by decide)
  have n2 := la.ne oo (by decide)
  have la2 := la.set (by decide) t
  have oo2 := oo.other' n2 (n * 7 + 1) (.int .i32 t)
  have ox2 := ox.other' n1 (n * 7 + 1) (.int .i32 t)
  refine ⟨⟨(hb.setCell la.lt.1 _).setCell hO _, ⟨_, _, ?_, ox2.other hXO _, (la2.other oo2 (by decide) (by decide) _).rw⟩, oo2.set _⟩, (la.keep (by decide) _ _).trans (KeepT.set oo2 (by decide) _ 0)⟩
  rw [putTo_snoc, hm]
  simp
theorem own_slice {w : World} {b e z n : Nat} {v : Value} {xs : List Value} (h : w.ownsRow b e z v n xs) : ∃ A k c, v = .slice A k c := by
  rcases h.2 with ⟨rfl, rfl⟩ | ⟨g, cap, cur, rfl, _⟩
  · exact ⟨_, _, _, rfl⟩
  · exact ⟨_, _, _, rfl⟩
theorem row_info : (Tryz.prog.info? 91).map (fun i => (i.zero, i.size, i.bytes)) = some (some (.agg zC.toArray), 7, 88) := by kernel_rfl
/-- A row more. -/
theorem RSt.more {w0 w w5 : World} {X O op : Nat} {rs : List Rw} {l : List (Rw × Value)} {v v5 : Value} {r : Rw} {u : Value} (hb : Below w0.heap.size w0 w) (hX : w0.heap.size ≤ X) (hXO : X ≠ O) (hl : l.map Prod.fst = rs)
    (ox : One w X v 52) (oo : One w O (.int .i64 op) 3) (hin : RwIn w w0.heap.size 91 v l) (hu : w.ownsRow w0.heap.size 21 1 u r.into.length (i32s r.into))
    (h5 : w5.ownsRow w0.heap.size 91 7 v5 (l.length + 1) (rCs l ++ rC r u)) (hg : w.grownBy w5 v.ownBlock) :
    RSt w0 (w5.setCell ⟨X, 0, none⟩ v5) X O (rs ++ [r]) op ∧ KeepT 90 w (w5.setCell ⟨X, 0, none⟩ v5) := by
  have nx := ox.ne hin.own (by decide)
  have no := oo.ne hin.own (by decide)
  have ox5 := ox.grown hg nx
  have oo5 := oo.grown hg no
  have k5 : KeepT 21 w w5 := KeepT.grown hin.own (by decide) hg
  refine ⟨⟨(hb.grown hg (by have := hb.size; omega) (fun z hz => (hin.own.lt z hz).1)).setCell hX _, ⟨v5, l ++ [(r, u)], by simp [hl], ox5.set _, ⟨?_, fun x hx => ?_⟩⟩, oo5.other (Ne.symm hXO) _⟩, (KeepT.grown hin.own (by decide) hg).trans (KeepT.set ox5 (by decide) _ 0)⟩
  · have : (l ++ [(r, u)]).length = l.length + 1 := by simp
    rw [this, rCs_app]
    exact own_set h5 (ox5.ne h5 (by decide)) _
  · have hx2 : w.ownsRow w0.heap.size 21 1 x.2 x.1.into.length (i32s x.1.into) := by
      rcases List.mem_append.1 hx with hx | hx
      · exact hin.ints x hx
      · simp at hx; subst hx; exact hu
    have h6 := k5.own hx2
    exact own_set h6 (ox5.ne h6 (by decide)) _
theorem bk_keep {w : World} {X : Nat} {cs : List Value} {t' t : TypeId} (h : Bk w X cs t') (hn : t' ≠ t) (o : Nat) (x : Value) : KeepT t w (w.setCell ⟨X, o, none⟩ x) := fun g cs fr hg =>
  Go.Deep.blk_setCell_other _ _ _ _ (fun e => by subst e; rw [h.blk] at hg; simp at hg; exact hn hg.2.1)
theorem bk_other {w : World} {X : Nat} {cs : List Value} {t : TypeId} (h : Bk w X cs t) {Y : Nat} (hn : X ≠ Y) (o : Nat) (x : Value) : Bk (w.setCell ⟨Y, o, none⟩ x) X cs t := ⟨(Go.Deep.blk_setCell_other _ _ _ _ hn).trans h.blk⟩
theorem one_drew {w : World} {X : Nat} {v : Value} {t : TypeId} (h : One w X v t) : One w.drew X v t := ⟨h.blk⟩
theorem keep_drew {t : TypeId} {w w' : World} (h : KeepT t w w') : KeepT t w w'.drew := h
theorem rwin_drew {w : World} {base : Nat} {T : TypeId} {v : Value} {l : List (Rw × Value)} (h : RwIn w base T v l) : RwIn w.drew base T v l := ⟨own_drew1 h.own, fun x hx => own_drew1 (h.ints x hx)⟩
theorem rwin_set {w : World} {base : Nat} {T : TypeId} {v : Value} {l : List (Rw × Value)} (h : RwIn w base T v l) {O : Nat} {u : Value} {t : TypeId} (ho : One w O u t) (h1 : t ≠ T) (h2 : t ≠ 21) (x : Value) : RwIn (w.setCell ⟨O, 0, none⟩ x) base T v l := ⟨own_set h.own (ho.ne h.own h1) _, fun y hy => own_set (h.ints y hy) (ho.ne (h.ints y hy) h2) _⟩
theorem bk_rwin {w : World} {base R : Nat} {T : TypeId} {v : Value} {l : List (Rw × Value)} {cs : List Value} (hk : Bk w R cs T) (h : RwIn w base T v l) (hne : v.ownBlock ≠ some R) (h2 : T ≠ 21) (o : Nat) (x : Value) : RwIn (w.setCell ⟨R, o, none⟩ x) base T v l := ⟨own_set h.own hne _, fun y hy => own_set (h.ints y hy) (hk.ne (h.ints y hy) h2) _⟩

theorem row_nm (l : List UInt8) : (rowE l).1.nm.length ≤ l.length := by
  unfold rowE
  split
  · simp [z0]
  · unfold rowF
    split
    · simp [z0]
    · split
      · simp [z0]
      · split
        · simp [z0]
        · split
          · simp [z0]
          · exact fld_mem l 1

set_option maxRecDepth 100000 in
set_option maxHeartbeats 8000000 in
theorem clo_any (w0 w : World) (X O op no : Nat) (rs : List Rw) (t : ByteArray) (h : RSt w0 w X O rs op) (hM : Ml w0) (hX : w0.heap.size ≤ X) (hO : w0.heap.size ≤ O) (hXO : X ≠ O) (hs : t.size ≤ 512) (_hn : no ≤ 5000) (ho : op ≤ 5000) (hl : rs.length ≤ 5000) (hi : op ≠ 0 → rs ≠ []) :
    Calls Tryz.prog 43 #[.agg #[.int .i64 no, .string t], .pointer (some ⟨X, 0, none⟩), .pointer (some ⟨O, 0, none⟩)] w
      fun e w' => e = .returned (.int .i64 (stp rs op no t.data.toList).2.2) ∧ RSt w0 w' X O (stp rs op no t.data.toList).1 (stp rs op no t.data.toList).2.1 ∧ KeepT 90 w w' := by
  have hR := fun W hW => read_any t W hW (by omega)
  unfold ReP at hR
  have HM1 := Lib.hid (hM.below h.bel hM.pos)
  have hlt := one_lt h
  have HA := Lib.hid ((Below.refl w.heap.size w).alloc (Nat.le_refl _) (.cells #[.int .i64 no, .string t] 90))
  have HML := Lib.hid (HM1.out.on HA.out)
  have LK := Lib.hid (show Bk (w.alloc (.cells #[.int .i64 no, .string t] 90)) w.heap.size [.int .i64 no, .string t] 90 from ⟨heap_alloc_new w _⟩)
  have HS := Lib.hid h
  obtain ⟨x, hx⟩ : ∃ x, x = rowE t.data.toList := ⟨_, rfl⟩
  have hnm : x.1.nm.length ≤ 512 := by rw [hx]; exact Nat.le_trans (row_nm _) (by rw [lst_len]; exact hs)
  rw [← hx] at hR
  have HX := Lib.hid hx
  clear hx h hM
  obtain ⟨⟨f, tt, nm, ct, cl, kd, into⟩, er⟩ := x
  unfold rV at hR
  simp only at hR hnm
  obtain ⟨nb, hnb⟩ : ∃ nb : ByteArray, nb = ⟨nm.toArray⟩ := ⟨_, rfl⟩
  have hnz : nb.size ≤ 512 := by rw [hnb, size_mk]; exact hnm
  have HNL := Lib.hid (show nb.data.toList = nm by rw [hnb])
  rw [← hnb] at hR
  have HNB := Lib.hid hnb
  have HR := Lib.hid hR
  clear hR hnb hnm
  by_cases h1 : er = 0
  · subst h1
    have HXo := Lib.hid (show (rowE t.data.toList).2 = 0 by rw [← HX.out])
    have HXn := Lib.hid (show (rowE t.data.toList).1 = ⟨f, tt, nm, ct, cl, kd, into⟩ by rw [← HX.out])
    clear HX
    have hRl := fun W => range_name nb ⟨#[44, 32, 76, 97, 115, 116, 62]⟩ W (by omega)
    rw [show (⟨#[44, 32, 76, 97, 115, 116, 62]⟩ : ByteArray).data.toList = lastE from rfl, HNL.out] at hRl
    by_cases hop : op = 0
    · cases hq : rgN nm lastE with
      | some q =>
        have HT := Lib.hid (stp_bad (rs := rs) (op := op) (no := no) HXo.out (.inl (by rw [HXn.out]; show (rgN nm lastE).isSome = true; rw [hq]; rfl)) (.inl hop))
        subst hop
        rw [hq] at hRl
        have HRl := Lib.hid (show ∀ W, Calls Tryz.prog 45 #[.string nb, .string ⟨#[44, 32, 76, 97, 115, 116, 62]⟩] W fun e w' => e = .returned (.tuple #[.string ⟨q.toArray⟩, .bool true]) ∧ W = w' from hRl)
        clear hRl
        go_enter Tryz.func43, Tryz.ntmps43
        go_upto_region 2 with (go_at_call 44; refine (HR.out _ HML.out).mono ?_; rintro e w1 ⟨v1, rfl, ho1, hb1⟩; obtain ⟨A1, c1, rfl, _⟩ := own_ints ho1; have O1 := Lib.hid ho1; have B1 := Lib.hid (HA.out.trans (hb1.mono HA.out.size)); have LK1 := Lib.hid (LK.out.below hb1); clear ho1 hb1)
        obtain ⟨w2, hw2⟩ : ∃ w2, w2 = w1.alloc (.cells #[.int .i32 f, .int .i32 tt, .string nb, .string ⟨ct.toArray⟩, .int .i64 cl, .string ⟨kd.toArray⟩, .slice A1 into.length c1] 91) := ⟨_, rfl⟩
        rw [← hw2]
        have B2' : Below w1.heap.size w1 w2 := by rw [hw2]; exact (Below.refl _ w1).alloc (Nat.le_refl _) _
        have B2 := Lib.hid (show Below w.heap.size w w2 from B1.out.trans (B2'.mono B1.out.size))
        have RK := Lib.hid (show Bk w2 w1.heap.size [.int .i32 f, .int .i32 tt, .string nb, .string ⟨ct.toArray⟩, .int .i64 cl, .string ⟨kd.toArray⟩, .slice A1 into.length c1] 91 by rw [hw2]; exact ⟨heap_alloc_new w1 _⟩)
        have LK2 := Lib.hid (LK1.out.below B2')
        have S2 := Lib.hid (HS.out.on B2.out)
        have O2 := Lib.hid (own_low (own_below' O1.out B2') (Nat.le_trans HS.out.bel.size (Nat.le_trans HA.out.size (Nat.le_refl _))))
        have z1 : w.heap.size < w1.heap.size := Nat.lt_of_lt_of_le (Nat.lt_of_lt_of_le (Nat.lt_succ_self _) (by simp)) (Nat.le_trans (Nat.le_refl _) (LK1.out.lt))
        have z2 : w1.heap.size < w2.heap.size := RK.out.lt
        clear B2' hw2 LK LK1 O1 HA B1 HR HML HM1
        obtain ⟨v, l, hlm, hox0, hin0⟩ := HS.out.ox
        have hvb : ∀ z, v.ownBlock = some z → z < w.heap.size := fun z hz => (hin0.own.lt z hz).2
        have hox := hox0.below B2.out
        have hin := hin0.below B2.out
        clear hox0 hin0
        have ax := hox.c
        have ao := S2.out.oo.c
        obtain ⟨A3, c3, rfl, _⟩ := hin.rws
        have a2 := RK.out.c (i := 2) rfl
        go_wp2_with (go_at_call 45; refine (HRl.out _).mono ?_; rintro e w3 ⟨rfl, rfl⟩)
        go_quiet (fail)
        go_wp2_with fail
        go_ret
        exact ⟨ret_int (by rw [HT.out]), by rw [HT.out]; exact S2.out.on (bel_drewN (Below.refl _ _) _), KeepT.below (bel_drewN B2.out _)⟩
      | none =>
        by_cases hrs0 : rs = []
        · have hnt : ¬ (rs ≠ [] ∧ (rowE t.data.toList).1.fr ≤ (lastR rs).tt) := fun h9 => h9.1 hrs0
          cases hq2 : rgN nm firstE with
          | some q2 =>
            have HT := Lib.hid (stp_first (rs := rs) (op := op) (no := no) HXo.out (by rw [HXn.out]; show ¬ ((rgN nm lastE).isSome = true ∨ op ≠ 0); rw [hq]; simpa using hop) hnt (by rw [HXn.out]; exact hq2))
            subst hop
            rw [hq] at hRl
            have HRl := Lib.hid (show ∀ W, Calls Tryz.prog 45 #[.string nb, .string ⟨#[44, 32, 76, 97, 115, 116, 62]⟩] W fun e w' => e = .returned (.tuple #[.string ⟨#[]⟩, .bool false]) ∧ W = w' from hRl)
            clear hRl
            have hRf := fun W => range_name nb ⟨#[44, 32, 70, 105, 114, 115, 116, 62]⟩ W (by omega)
            rw [show (⟨#[44, 32, 70, 105, 114, 115, 116, 62]⟩ : ByteArray).data.toList = firstE from rfl, HNL.out, hq2] at hRf
            have HRf := Lib.hid (show ∀ W, Calls Tryz.prog 45 #[.string nb, .string ⟨#[44, 32, 70, 105, 114, 115, 116, 62]⟩] W fun e w' => e = .returned (.tuple #[.string ⟨q2.toArray⟩, .bool true]) ∧ W = w' from hRf)
            clear hRf
            obtain ⟨i0, hi0, hz0, hz1, hz2⟩ := info_parts row_info
            have I0 := Lib.hid hi0
            have I1 := Lib.hid hz0
            have I2 := Lib.hid hz1
            have I3 := Lib.hid hz2
            clear hi0 hz0 hz1 hz2
            go_enter Tryz.func43, Tryz.ntmps43
            go_upto_region 2 with (go_at_call 44; refine (HR.out _ HML.out).mono ?_; rintro e w1 ⟨v1, rfl, ho1, hb1⟩; obtain ⟨A1, c1, rfl, _⟩ := own_ints ho1; have O1 := Lib.hid ho1; have B1 := Lib.hid (HA.out.trans (hb1.mono HA.out.size)); have LK1 := Lib.hid (LK.out.below hb1); clear ho1 hb1)
            obtain ⟨w2, hw2⟩ : ∃ w2, w2 = w1.alloc (.cells #[.int .i32 f, .int .i32 tt, .string nb, .string ⟨ct.toArray⟩, .int .i64 cl, .string ⟨kd.toArray⟩, .slice A1 into.length c1] 91) := ⟨_, rfl⟩
            rw [← hw2]
            have B2' : Below w1.heap.size w1 w2 := by rw [hw2]; exact (Below.refl _ w1).alloc (Nat.le_refl _) _
            have B2 := Lib.hid (show Below w.heap.size w w2 from B1.out.trans (B2'.mono B1.out.size))
            have RK := Lib.hid (show Bk w2 w1.heap.size [.int .i32 f, .int .i32 tt, .string nb, .string ⟨ct.toArray⟩, .int .i64 cl, .string ⟨kd.toArray⟩, .slice A1 into.length c1] 91 by rw [hw2]; exact ⟨heap_alloc_new w1 _⟩)
            have LK2 := Lib.hid (LK1.out.below B2')
            have S2 := Lib.hid (HS.out.on B2.out)
            have O2 := Lib.hid (own_low (own_below' O1.out B2') (Nat.le_trans HS.out.bel.size (Nat.le_trans HA.out.size (Nat.le_refl _))))
            have z1 : w.heap.size < w1.heap.size := Nat.lt_of_lt_of_le (Nat.lt_of_lt_of_le (Nat.lt_succ_self _) (by simp)) (Nat.le_trans (Nat.le_refl _) (LK1.out.lt))
            have z2 : w1.heap.size < w2.heap.size := RK.out.lt
            clear B2' hw2 LK LK1 O1 HA B1 HR HML HM1
            obtain ⟨v, l, hlm, hox0, hin0⟩ := HS.out.ox
            have hvb : ∀ z, v.ownBlock = some z → z < w.heap.size := fun z hz => (hin0.own.lt z hz).2
            have hox := hox0.below B2.out
            have hin := hin0.below B2.out
            clear hox0 hin0
            have ax := hox.c
            have ao := S2.out.oo.c
            obtain rfl : l = [] := List.map_eq_nil_iff.1 (by rw [hlm]; exact hrs0)
            obtain ⟨A3, c3, rfl, _⟩ := hin.rws
            have HIN := Lib.hid hin
            have HLL := Lib.hid hlm
            clear hin hlm
            have OX2 := Lib.hid hox
            clear hox
            have a0 := RK.out.c (i := 0) rfl
            have a1 := RK.out.c (i := 1) rfl
            have a2 := RK.out.c (i := 2) rfl
            have a3 := RK.out.c (i := 3) rfl
            have a4 := RK.out.c (i := 4) rfl
            have a5 := RK.out.c (i := 5) rfl
            have a6 := RK.out.c (i := 6) rfl
            go_upto_region 11 with (go_at_call 45; refine (HRl.out _).mono ?_; rintro e w3 ⟨rfl, rfl⟩)
            go_quiet (fail)
            go_upto_region 13 with fail
            have B3 := Lib.hid (show Below w2.heap.size w2 (w2.drewN nq) from bel_drewN (Below.refl _ _) _)
            have OX3 := Lib.hid (OX2.out.below B3.out)
            have OO3 := Lib.hid (S2.out.oo.below B3.out)
            have RK3 := Lib.hid (RK.out.below B3.out)
            have LK3 := Lib.hid (LK2.out.below B3.out)
            have IN3 := Lib.hid (HIN.out.below B3.out)
            have O3 := Lib.hid (own_below' O2.out B3.out)
            have B3w := Lib.hid (B2.out.trans (B3.out.mono B2.out.size))
            have BL3 := Lib.hid (S2.out.bel.trans (B3.out.mono S2.out.bel.size))
            have z3 : w2.heap.size = (w2.drewN nq).heap.size := rfl
            have z0 : w0.heap.size ≤ w2.heap.size := S2.out.bel.size
            generalize w2.drewN nq = w3 at *
            clear ax ao a0 a1 a2 a3 a4 a5 a6 B3 OX2 RK LK2 HIN O2 S2 
            have a0 := RK3.out.c (i := 0) rfl
            have a1 := RK3.out.c (i := 1) rfl
            have a2 := RK3.out.c (i := 2) rfl
            have a3 := RK3.out.c (i := 3) rfl
            have a4 := RK3.out.c (i := 4) rfl
            have a5 := RK3.out.c (i := 5) rfl
            have a6 := RK3.out.c (i := 6) rfl
            have f0 := RK3.out.fr 0
            have f1 := RK3.out.fr 1
            have f2 := RK3.out.fr 2
            have f3 := RK3.out.fr 3
            have f4 := RK3.out.fr 4
            have f5 := RK3.out.fr 5
            have f6 := RK3.out.fr 6
            have b2 := LK3.out.c (i := 0) rfl
            have b3 := OO3.out.c
            have b4 := OO3.out.fr
            have m1 : O ≠ w1.heap.size := by omega
            have m2 : X ≠ w1.heap.size := by omega
            go_upto_region 15 with (go_at_call 45; refine (HRf.out _).mono ?_; rintro e w4 ⟨rfl, rfl⟩)
            go_region
            have RK4 := Lib.hid ((RK3.out.set 2 (.string ⟨q2.toArray⟩)))
            have n1 : O ≠ w1.heap.size := m1
            have OO4 := Lib.hid (OO3.out.other' m1 2 (.string ⟨q2.toArray⟩))
            have OX4 := Lib.hid (OX3.out.other' m2 2 (.string ⟨q2.toArray⟩))
            have hr4 : w0.heap.size ≤ w1.heap.size := by omega
            have BL4 := Lib.hid (((BL3.out.setCell (p := ⟨w1.heap.size, 2, none⟩) hr4 (.string ⟨q2.toArray⟩)).setCell (p := ⟨O, 0, none⟩) hO (.int .i64 no)).drew)
            have KK := Lib.hid (((KeepT.below (t := 90) B3w.out).trans (bk_keep RK3.out (by decide) 2 (.string ⟨q2.toArray⟩))).trans (KeepT.set OO4.out (by decide) (.int .i64 no) 0))
            have IN4 := Lib.hid (rwin_set (bk_rwin RK3.out IN3.out (fun h9 => by have h8 := hvb _ h9; omega) (by decide) 2 (.string ⟨q2.toArray⟩)) OO4.out (by decide) (by decide) (.int .i64 no))
            have O4 := Lib.hid (own_set (own_set O3.out (RK3.out.ne O3.out (by decide)) (T := w1.heap.size) (o := 2) (.string ⟨q2.toArray⟩)) (OO4.out.ne (own_set O3.out (RK3.out.ne O3.out (by decide)) (T := w1.heap.size) (o := 2) (.string ⟨q2.toArray⟩)) (by decide)) (T := O) (o := 0) (.int .i64 no))
            have OX5' := Lib.hid (OX4.out.other hXO (.int .i64 no))
            have OO5' := Lib.hid (OO4.out.set (.int .i64 no))
            have RK5' := Lib.hid (bk_other RK4.out (Ne.symm m1) 0 (.int .i64 no))
            have zz : w3.heap.size = ((w3.setCell ⟨w1.heap.size, 2, none⟩ (.string ⟨q2.toArray⟩)).setCell ⟨O, 0, none⟩ (.int .i64 no)).drew.heap.size := by simp
            have OX5 := Lib.hid (one_drew OX5'.out)
            have OO5 := Lib.hid (one_drew OO5'.out)
            have RK5 := Lib.hid (Bk.drew1 RK5'.out)
            have IN5 := Lib.hid (rwin_drew IN4.out)
            have O5 := Lib.hid (own_drew1 O4.out)
            have KK5 := Lib.hid (keep_drew KK.out)
            clear OX5' OO5' RK5' IN4 O4 KK RK4 OO4 OX4 a0 a1 a2 a3 a4 a5 a6 f0 f1 f2 f3 f4 f5 f6 b2 b3 b4
            generalize ((w3.setCell ⟨w1.heap.size, 2, none⟩ (.string ⟨q2.toArray⟩)).setCell ⟨O, 0, none⟩ (.int .i64 no)).drew = w5 at *
            have a0 := RK5.out.c (i := 0) rfl
            have a1 := RK5.out.c (i := 1) rfl
            have a2 := RK5.out.c (i := 2) rfl
            have a3 := RK5.out.c (i := 3) rfl
            have a4 := RK5.out.c (i := 4) rfl
            have a5 := RK5.out.c (i := 5) rfl
            have a6 := RK5.out.c (i := 6) rfl
            have b1 := OX5.out.c
            go_wp2_with (at_builtin; refine wpList_append_own_at _ rfl (.tmp 75) (.tmp 77) _ rfl w0.heap.size 91 i0 _ 7 88 Tryz.underlying52 I0.out I1.out I2.out I3.out rfl (by omega) (.slice A3 ([] : List (Rw × Value)).length c3) 0 _ rfl (IN5.out.own.alloc _) ⟨w5.heap.size, 0, none⟩ 1 1 [.int .i32 f, .int .i32 tt, .string ⟨q2.toArray⟩, .string ⟨ct.toArray⟩, .int .i64 cl, .string ⟨kd.toArray⟩, .slice A1 into.length c1] rfl rfl (World.news_of_block (cs := #[.int .i32 f, .int .i32 tt, .string ⟨q2.toArray⟩, .string ⟨ct.toArray⟩, .int .i64 cl, .string ⟨kd.toArray⟩, .slice A1 into.length c1]) (t := 91) (fr := (0, 0)) (heap_alloc_new w5 _)) (by simp [Value.oneCell']) (by unfold maxLen; omega) (by omega) (by simp; omega) ?_; intro v6 w6 ho6 hg6 hn6 ha6; obtain ⟨A6, k6, c6, rfl⟩ := own_slice ho6; have O6 := Lib.hid ho6; have G6 := Lib.hid hg6; have OX6a := (OX5.out.alloc (.cells #[.int .i32 f, .int .i32 tt, .string ⟨q2.toArray⟩, .string ⟨ct.toArray⟩, .int .i64 cl, .string ⟨kd.toArray⟩, .slice A1 into.length c1] 91)); have QN := ((OX5.out.alloc (.cells #[.int .i32 f, .int .i32 tt, .string ⟨q2.toArray⟩, .string ⟨ct.toArray⟩, .int .i64 cl, .string ⟨kd.toArray⟩, .slice A1 into.length c1] 91)).ne (IN5.out.own.alloc _) (by decide)); have OX6 := OX6a.grown hg6 QN; have d1 := OX6.c; have d2 := OX6.fr; clear ho6 hg6 hn6 ha6 OX6 OX6a QN)
            go_ret
            have R6 := RSt.more (r := ⟨f, tt, q2, ct, cl, kd, into⟩) (op := no) (BL4.out.alloc (by omega) (.cells #[.int .i32 f, .int .i32 tt, .string ⟨q2.toArray⟩, .string ⟨ct.toArray⟩, .int .i64 cl, .string ⟨kd.toArray⟩, .slice A1 into.length c1] 91)) hX hXO HLL.out (OX5.out.alloc _) (OO5.out.alloc _) ⟨IN5.out.own.alloc _, fun x hx => (IN5.out.ints x hx).alloc _⟩ (O5.out.alloc _) (by have h9 := O6.out; exact h9) G6.out
            exact ⟨ret_int (by rw [HT.out]), by rw [HT.out]; simp only; rw [HXn.out]; exact R6.1, (KK5.out.trans (KeepT.below ((Below.refl _ _).alloc (Nat.le_refl _) _))).trans R6.2⟩
          | none =>
            have HT := Lib.hid (stp_one (rs := rs) (op := op) (no := no) HXo.out (by rw [HXn.out]; show ¬ ((rgN nm lastE).isSome = true ∨ op ≠ 0); rw [hq]; simpa using hop) hnt (by rw [HXn.out]; exact hq2))
            subst hop
            rw [hq] at hRl
            have HRl := Lib.hid (show ∀ W, Calls Tryz.prog 45 #[.string nb, .string ⟨#[44, 32, 76, 97, 115, 116, 62]⟩] W fun e w' => e = .returned (.tuple #[.string ⟨#[]⟩, .bool false]) ∧ W = w' from hRl)
            clear hRl
            have hRf := fun W => range_name nb ⟨#[44, 32, 70, 105, 114, 115, 116, 62]⟩ W (by omega)
            rw [show (⟨#[44, 32, 70, 105, 114, 115, 116, 62]⟩ : ByteArray).data.toList = firstE from rfl, HNL.out, hq2] at hRf
            have HRf := Lib.hid (show ∀ W, Calls Tryz.prog 45 #[.string nb, .string ⟨#[44, 32, 70, 105, 114, 115, 116, 62]⟩] W fun e w' => e = .returned (.tuple #[.string ⟨#[]⟩, .bool false]) ∧ W = w' from hRf)
            clear hRf
            obtain ⟨i0, hi0, hz0, hz1, hz2⟩ := info_parts row_info
            have I0 := Lib.hid hi0
            have I1 := Lib.hid hz0
            have I2 := Lib.hid hz1
            have I3 := Lib.hid hz2
            clear hi0 hz0 hz1 hz2
            go_enter Tryz.func43, Tryz.ntmps43
            go_upto_region 2 with (go_at_call 44; refine (HR.out _ HML.out).mono ?_; rintro e w1 ⟨v1, rfl, ho1, hb1⟩; obtain ⟨A1, c1, rfl, _⟩ := own_ints ho1; have O1 := Lib.hid ho1; have B1 := Lib.hid (HA.out.trans (hb1.mono HA.out.size)); have LK1 := Lib.hid (LK.out.below hb1); clear ho1 hb1)
            obtain ⟨w2, hw2⟩ : ∃ w2, w2 = w1.alloc (.cells #[.int .i32 f, .int .i32 tt, .string nb, .string ⟨ct.toArray⟩, .int .i64 cl, .string ⟨kd.toArray⟩, .slice A1 into.length c1] 91) := ⟨_, rfl⟩
            rw [← hw2]
            have B2' : Below w1.heap.size w1 w2 := by rw [hw2]; exact (Below.refl _ w1).alloc (Nat.le_refl _) _
            have B2 := Lib.hid (show Below w.heap.size w w2 from B1.out.trans (B2'.mono B1.out.size))
            have RK := Lib.hid (show Bk w2 w1.heap.size [.int .i32 f, .int .i32 tt, .string nb, .string ⟨ct.toArray⟩, .int .i64 cl, .string ⟨kd.toArray⟩, .slice A1 into.length c1] 91 by rw [hw2]; exact ⟨heap_alloc_new w1 _⟩)
            have LK2 := Lib.hid (LK1.out.below B2')
            have S2 := Lib.hid (HS.out.on B2.out)
            have O2 := Lib.hid (own_low (own_below' O1.out B2') (Nat.le_trans HS.out.bel.size (Nat.le_trans HA.out.size (Nat.le_refl _))))
            have z1 : w.heap.size < w1.heap.size := Nat.lt_of_lt_of_le (Nat.lt_of_lt_of_le (Nat.lt_succ_self _) (by simp)) (Nat.le_trans (Nat.le_refl _) (LK1.out.lt))
            have z2 : w1.heap.size < w2.heap.size := RK.out.lt
            clear B2' hw2 LK LK1 O1 HA B1 HR HML HM1
            obtain ⟨v, l, hlm, hox0, hin0⟩ := HS.out.ox
            have hvb : ∀ z, v.ownBlock = some z → z < w.heap.size := fun z hz => (hin0.own.lt z hz).2
            have hox := hox0.below B2.out
            have hin := hin0.below B2.out
            clear hox0 hin0
            have ax := hox.c
            have ao := S2.out.oo.c
            obtain rfl : l = [] := List.map_eq_nil_iff.1 (by rw [hlm]; exact hrs0)
            obtain ⟨A3, c3, rfl, _⟩ := hin.rws
            have HIN := Lib.hid hin
            have HLL := Lib.hid hlm
            clear hin hlm
            have OX2 := Lib.hid hox
            clear hox
            have a0 := RK.out.c (i := 0) rfl
            have a1 := RK.out.c (i := 1) rfl
            have a2 := RK.out.c (i := 2) rfl
            have a3 := RK.out.c (i := 3) rfl
            have a4 := RK.out.c (i := 4) rfl
            have a5 := RK.out.c (i := 5) rfl
            have a6 := RK.out.c (i := 6) rfl
            go_upto_region 11 with (go_at_call 45; refine (HRl.out _).mono ?_; rintro e w3 ⟨rfl, rfl⟩)
            go_quiet (fail)
            go_upto_region 13 with fail
            have B3 := Lib.hid (show Below w2.heap.size w2 (w2.drewN nq) from bel_drewN (Below.refl _ _) _)
            have OX3 := Lib.hid (OX2.out.below B3.out)
            have OO3 := Lib.hid (S2.out.oo.below B3.out)
            have RK3 := Lib.hid (RK.out.below B3.out)
            have LK3 := Lib.hid (LK2.out.below B3.out)
            have IN3 := Lib.hid (HIN.out.below B3.out)
            have O3 := Lib.hid (own_below' O2.out B3.out)
            have B3w := Lib.hid (B2.out.trans (B3.out.mono B2.out.size))
            have BL3 := Lib.hid (S2.out.bel.trans (B3.out.mono S2.out.bel.size))
            have z3 : w2.heap.size = (w2.drewN nq).heap.size := rfl
            have z0 : w0.heap.size ≤ w2.heap.size := S2.out.bel.size
            generalize w2.drewN nq = w3 at *
            clear ax ao a0 a1 a2 a3 a4 a5 a6 B3 OX2 RK LK2 HIN O2 S2 
            have a0 := RK3.out.c (i := 0) rfl
            have a1 := RK3.out.c (i := 1) rfl
            have a2 := RK3.out.c (i := 2) rfl
            have a3 := RK3.out.c (i := 3) rfl
            have a4 := RK3.out.c (i := 4) rfl
            have a5 := RK3.out.c (i := 5) rfl
            have a6 := RK3.out.c (i := 6) rfl
            have b1 := OX3.out.c
            have OX5 := OX3
            have IN5 := IN3
            go_wp2_with (first
              | (go_at_call 45; refine (HRf.out _).mono ?_; rintro e w4 ⟨rfl, rfl⟩)
              | (at_builtin; refine wpList_append_own_at _ rfl (.tmp 75) (.tmp 77) _ rfl w0.heap.size 91 i0 _ 7 88 Tryz.underlying52 I0.out I1.out I2.out I3.out rfl (by omega) (.slice A3 ([] : List (Rw × Value)).length c3) 0 _ rfl (IN5.out.own.alloc _) ⟨w3.heap.size, 0, none⟩ 1 1 [.int .i32 f, .int .i32 tt, .string nb, .string ⟨ct.toArray⟩, .int .i64 cl, .string ⟨kd.toArray⟩, .slice A1 into.length c1] rfl rfl (World.news_of_block (cs := #[.int .i32 f, .int .i32 tt, .string nb, .string ⟨ct.toArray⟩, .int .i64 cl, .string ⟨kd.toArray⟩, .slice A1 into.length c1]) (t := 91) (fr := (0, 0)) (heap_alloc_new w3 _)) (by simp [Value.oneCell']) (by unfold maxLen; omega) (by omega) (by simp; omega) ?_; intro v6 w6 ho6 hg6 hn6 ha6; obtain ⟨A6, k6, c6, rfl⟩ := own_slice ho6; have O6 := Lib.hid ho6; have G6 := Lib.hid hg6; have OX6a := (OX5.out.alloc (.cells #[.int .i32 f, .int .i32 tt, .string nb, .string ⟨ct.toArray⟩, .int .i64 cl, .string ⟨kd.toArray⟩, .slice A1 into.length c1] 91)); have QN := ((OX5.out.alloc (.cells #[.int .i32 f, .int .i32 tt, .string nb, .string ⟨ct.toArray⟩, .int .i64 cl, .string ⟨kd.toArray⟩, .slice A1 into.length c1] 91)).ne (IN5.out.own.alloc _) (by decide)); have OX6 := OX6a.grown hg6 QN; have d1 := OX6.c; have d2 := OX6.fr; clear ho6 hg6 hn6 ha6 OX6 OX6a QN))
            go_ret
            have R6 := RSt.more (r := ⟨f, tt, nm, ct, cl, kd, into⟩) (op := 0) (BL3.out.alloc (by omega) (.cells #[.int .i32 f, .int .i32 tt, .string nb, .string ⟨ct.toArray⟩, .int .i64 cl, .string ⟨kd.toArray⟩, .slice A1 into.length c1] 91)) hX hXO HLL.out (OX3.out.alloc _) (OO3.out.alloc _) ⟨IN3.out.own.alloc _, fun x hx => (IN3.out.ints x hx).alloc _⟩ (O3.out.alloc _) (by have h9 := O6.out; rw [HNB.out] at h9; exact h9) G6.out
            exact ⟨ret_int (by rw [HT.out]), by rw [HT.out]; simp only; rw [HXn.out]; exact R6.1, ((KeepT.below B3w.out).trans (KeepT.below ((Below.refl _ _).alloc (Nat.le_refl _) _))).trans R6.2⟩
        · have hrne := hrs0
          obtain ⟨mm, yy, hmy⟩ := snoc_of hrs0
          by_cases hth : f ≤ yy.tt
          · have HT := Lib.hid (stp_there (rs := rs) (op := op) (no := no) HXo.out (by rw [HXn.out]; show ¬ ((rgN nm lastE).isSome = true ∨ op ≠ 0); rw [hq]; simpa using hop) ⟨hrs0, by rw [HXn.out, hmy, lastR_snoc]; exact hth⟩)
            subst hop
            rw [hq] at hRl
            have HRl := Lib.hid (show ∀ W, Calls Tryz.prog 45 #[.string nb, .string ⟨#[44, 32, 76, 97, 115, 116, 62]⟩] W fun e w' => e = .returned (.tuple #[.string ⟨#[]⟩, .bool false]) ∧ W = w' from hRl)
            clear hRl
            go_enter Tryz.func43, Tryz.ntmps43
            go_upto_region 2 with (go_at_call 44; refine (HR.out _ HML.out).mono ?_; rintro e w1 ⟨v1, rfl, ho1, hb1⟩; obtain ⟨A1, c1, rfl, _⟩ := own_ints ho1; have O1 := Lib.hid ho1; have B1 := Lib.hid (HA.out.trans (hb1.mono HA.out.size)); have LK1 := Lib.hid (LK.out.below hb1); clear ho1 hb1)
            obtain ⟨w2, hw2⟩ : ∃ w2, w2 = w1.alloc (.cells #[.int .i32 f, .int .i32 tt, .string nb, .string ⟨ct.toArray⟩, .int .i64 cl, .string ⟨kd.toArray⟩, .slice A1 into.length c1] 91) := ⟨_, rfl⟩
            rw [← hw2]
            have B2' : Below w1.heap.size w1 w2 := by rw [hw2]; exact (Below.refl _ w1).alloc (Nat.le_refl _) _
            have B2 := Lib.hid (show Below w.heap.size w w2 from B1.out.trans (B2'.mono B1.out.size))
            have RK := Lib.hid (show Bk w2 w1.heap.size [.int .i32 f, .int .i32 tt, .string nb, .string ⟨ct.toArray⟩, .int .i64 cl, .string ⟨kd.toArray⟩, .slice A1 into.length c1] 91 by rw [hw2]; exact ⟨heap_alloc_new w1 _⟩)
            have LK2 := Lib.hid (LK1.out.below B2')
            have S2 := Lib.hid (HS.out.on B2.out)
            have O2 := Lib.hid (own_low (own_below' O1.out B2') (Nat.le_trans HS.out.bel.size (Nat.le_trans HA.out.size (Nat.le_refl _))))
            have z1 : w.heap.size < w1.heap.size := Nat.lt_of_lt_of_le (Nat.lt_of_lt_of_le (Nat.lt_succ_self _) (by simp)) (Nat.le_trans (Nat.le_refl _) (LK1.out.lt))
            have z2 : w1.heap.size < w2.heap.size := RK.out.lt
            clear B2' hw2 LK LK1 O1 HA B1 HR HML HM1
            obtain ⟨v, l, hlm, hox0, hin0⟩ := HS.out.ox
            have hvb : ∀ z, v.ownBlock = some z → z < w.heap.size := fun z hz => (hin0.own.lt z hz).2
            have hox := hox0.below B2.out
            have hin := hin0.below B2.out
            clear hox0 hin0
            have ax := hox.c
            have ao := S2.out.oo.c
            have hlne : l ≠ [] := by rintro rfl; exact hrne hlm.symm
            obtain ⟨g, cap, n, m, y, Ay, cy, rfl, rfl, hla⟩ := last_of hin hlne
            have hrs : rs = m.map Prod.fst ++ [y] := by rw [← hlm]; simp
            obtain ⟨hmm, rfl⟩ : mm = m.map Prod.fst ∧ y = yy := by have h9 := hmy.symm.trans hrs; have h8 := List.append_inj' h9 rfl; exact ⟨h8.1, by simpa using h8.2.symm⟩
            have hnl : n ≤ 5000 := by have := hla.len; have h9 : rs.length = m.length + 1 := (by rw [hrs]; simp); omega
            have hll : (m ++ [(y, Value.slice Ay y.into.length cy)]).length ≤ 5001 := by rw [List.length_append, hla.len]; simp; omega
            have HLM := Lib.hid hrs
            have LA := Lib.hid hla
            have y0 : w2.cell? ⟨g, n * 7, none⟩ = some (.int .i32 y.fr) := hla.cell (j := 0) (by omega) rfl
            have j1 : (n : Int) < (n : Int) + 1 := by omega
            have y1 := hla.cell (j := 1) (by omega) rfl
            have y2 := hla.cell (j := 2) (by omega) rfl
            have y3 := hla.cell (j := 3) (by omega) rfl
            have y4 := hla.cell (j := 4) (by omega) rfl
            have y5 := hla.cell (j := 5) (by omega) rfl
            have y6 := hla.cell (j := 6) (by omega) rfl
            have HIN := Lib.hid hin
            have HLL := Lib.hid hlm
            clear hin hlm hrs hla hlne hmy hmm
            have OX2 := Lib.hid hox
            clear hox
            have a0 := RK.out.c (i := 0) rfl
            have a1 := RK.out.c (i := 1) rfl
            have a2 := RK.out.c (i := 2) rfl
            have a3 := RK.out.c (i := 3) rfl
            have a4 := RK.out.c (i := 4) rfl
            have a5 := RK.out.c (i := 5) rfl
            have a6 := RK.out.c (i := 6) rfl
            have j0 : (0 : Int) ≤ n := by omega
            go_upto_region 11 with (go_at_call 45; refine (HRl.out _).mono ?_; rintro e w3 ⟨rfl, rfl⟩)
            go_quiet (fail)
            go_wp2_with fail
            go_ret
            exact ⟨ret_int (by rw [HT.out]), by rw [HT.out]; exact S2.out.on (bel_drewN (Below.refl _ _) _), KeepT.below (bel_drewN B2.out _)⟩
          · have hnt : ¬ (rs ≠ [] ∧ (rowE t.data.toList).1.fr ≤ (lastR rs).tt) := fun h9 => hth (by have h8 := h9.2; rw [HXn.out, hmy, lastR_snoc] at h8; exact h8)
            cases hq2 : rgN nm firstE with
            | some q2 =>
              have HT := Lib.hid (stp_first (rs := rs) (op := op) (no := no) HXo.out (by rw [HXn.out]; show ¬ ((rgN nm lastE).isSome = true ∨ op ≠ 0); rw [hq]; simpa using hop) hnt (by rw [HXn.out]; exact hq2))
              subst hop
              rw [hq] at hRl
              have HRl := Lib.hid (show ∀ W, Calls Tryz.prog 45 #[.string nb, .string ⟨#[44, 32, 76, 97, 115, 116, 62]⟩] W fun e w' => e = .returned (.tuple #[.string ⟨#[]⟩, .bool false]) ∧ W = w' from hRl)
              clear hRl
              have hRf := fun W => range_name nb ⟨#[44, 32, 70, 105, 114, 115, 116, 62]⟩ W (by omega)
              rw [show (⟨#[44, 32, 70, 105, 114, 115, 116, 62]⟩ : ByteArray).data.toList = firstE from rfl, HNL.out, hq2] at hRf
              have HRf := Lib.hid (show ∀ W, Calls Tryz.prog 45 #[.string nb, .string ⟨#[44, 32, 70, 105, 114, 115, 116, 62]⟩] W fun e w' => e = .returned (.tuple #[.string ⟨q2.toArray⟩, .bool true]) ∧ W = w' from hRf)
              clear hRf
              obtain ⟨i0, hi0, hz0, hz1, hz2⟩ := info_parts row_info
              have I0 := Lib.hid hi0
              have I1 := Lib.hid hz0
              have I2 := Lib.hid hz1
              have I3 := Lib.hid hz2
              clear hi0 hz0 hz1 hz2
              go_enter Tryz.func43, Tryz.ntmps43
              go_upto_region 2 with (go_at_call 44; refine (HR.out _ HML.out).mono ?_; rintro e w1 ⟨v1, rfl, ho1, hb1⟩; obtain ⟨A1, c1, rfl, _⟩ := own_ints ho1; have O1 := Lib.hid ho1; have B1 := Lib.hid (HA.out.trans (hb1.mono HA.out.size)); have LK1 := Lib.hid (LK.out.below hb1); clear ho1 hb1)
              obtain ⟨w2, hw2⟩ : ∃ w2, w2 = w1.alloc (.cells #[.int .i32 f, .int .i32 tt, .string nb, .string ⟨ct.toArray⟩, .int .i64 cl, .string ⟨kd.toArray⟩, .slice A1 into.length c1] 91) := ⟨_, rfl⟩
              rw [← hw2]
              have B2' : Below w1.heap.size w1 w2 := by rw [hw2]; exact (Below.refl _ w1).alloc (Nat.le_refl _) _
              have B2 := Lib.hid (show Below w.heap.size w w2 from B1.out.trans (B2'.mono B1.out.size))
              have RK := Lib.hid (show Bk w2 w1.heap.size [.int .i32 f, .int .i32 tt, .string nb, .string ⟨ct.toArray⟩, .int .i64 cl, .string ⟨kd.toArray⟩, .slice A1 into.length c1] 91 by rw [hw2]; exact ⟨heap_alloc_new w1 _⟩)
              have LK2 := Lib.hid (LK1.out.below B2')
              have S2 := Lib.hid (HS.out.on B2.out)
              have O2 := Lib.hid (own_low (own_below' O1.out B2') (Nat.le_trans HS.out.bel.size (Nat.le_trans HA.out.size (Nat.le_refl _))))
              have z1 : w.heap.size < w1.heap.size := Nat.lt_of_lt_of_le (Nat.lt_of_lt_of_le (Nat.lt_succ_self _) (by simp)) (Nat.le_trans (Nat.le_refl _) (LK1.out.lt))
              have z2 : w1.heap.size < w2.heap.size := RK.out.lt
              clear B2' hw2 LK LK1 O1 HA B1 HR HML HM1
              obtain ⟨v, l, hlm, hox0, hin0⟩ := HS.out.ox
              have hvb : ∀ z, v.ownBlock = some z → z < w.heap.size := fun z hz => (hin0.own.lt z hz).2
              have hox := hox0.below B2.out
              have hin := hin0.below B2.out
              clear hox0 hin0
              have ax := hox.c
              have ao := S2.out.oo.c
              have hlne : l ≠ [] := by rintro rfl; exact hrne hlm.symm
              obtain ⟨g, cap, n, m, y, Ay, cy, rfl, rfl, hla⟩ := last_of hin hlne
              have hrs : rs = m.map Prod.fst ++ [y] := by rw [← hlm]; simp
              obtain ⟨hmm, rfl⟩ : mm = m.map Prod.fst ∧ y = yy := by have h9 := hmy.symm.trans hrs; have h8 := List.append_inj' h9 rfl; exact ⟨h8.1, by simpa using h8.2.symm⟩
              have hnl : n ≤ 5000 := by have := hla.len; have h9 : rs.length = m.length + 1 := (by rw [hrs]; simp); omega
              have hll : (m ++ [(y, Value.slice Ay y.into.length cy)]).length ≤ 5001 := by rw [List.length_append, hla.len]; simp; omega
              have HLM := Lib.hid hrs
              have LA := Lib.hid hla
              have y0 : w2.cell? ⟨g, n * 7, none⟩ = some (.int .i32 y.fr) := hla.cell (j := 0) (by omega) rfl
              have j1 : (n : Int) < (n : Int) + 1 := by omega
              have y1 := hla.cell (j := 1) (by omega) rfl
              have y2 := hla.cell (j := 2) (by omega) rfl
              have y3 := hla.cell (j := 3) (by omega) rfl
              have y4 := hla.cell (j := 4) (by omega) rfl
              have y5 := hla.cell (j := 5) (by omega) rfl
              have y6 := hla.cell (j := 6) (by omega) rfl
              have HIN := Lib.hid hin
              have HLL := Lib.hid hlm
              clear hin hlm hrs hla hlne hmy hmm
              have OX2 := Lib.hid hox
              clear hox
              have a0 := RK.out.c (i := 0) rfl
              have a1 := RK.out.c (i := 1) rfl
              have a2 := RK.out.c (i := 2) rfl
              have a3 := RK.out.c (i := 3) rfl
              have a4 := RK.out.c (i := 4) rfl
              have a5 := RK.out.c (i := 5) rfl
              have a6 := RK.out.c (i := 6) rfl
              have j0 : (0 : Int) ≤ n := by omega
              go_upto_region 11 with (go_at_call 45; refine (HRl.out _).mono ?_; rintro e w3 ⟨rfl, rfl⟩)
              go_quiet (fail)
              go_upto_region 13 with fail
              have B3 := Lib.hid (show Below w2.heap.size w2 (w2.drewN nq) from bel_drewN (Below.refl _ _) _)
              have OX3 := Lib.hid (OX2.out.below B3.out)
              have OO3 := Lib.hid (S2.out.oo.below B3.out)
              have RK3 := Lib.hid (RK.out.below B3.out)
              have LK3 := Lib.hid (LK2.out.below B3.out)
              have IN3 := Lib.hid (HIN.out.below B3.out)
              have O3 := Lib.hid (own_below' O2.out B3.out)
              have B3w := Lib.hid (B2.out.trans (B3.out.mono B2.out.size))
              have BL3 := Lib.hid (S2.out.bel.trans (B3.out.mono S2.out.bel.size))
              have z3 : w2.heap.size = (w2.drewN nq).heap.size := rfl
              have z0 : w0.heap.size ≤ w2.heap.size := S2.out.bel.size
              generalize w2.drewN nq = w3 at *
              clear ax ao a0 a1 a2 a3 a4 a5 a6 B3 OX2 RK LK2 HIN O2 S2 y0 y1 y2 y3 y4 y5 y6 LA
              have a0 := RK3.out.c (i := 0) rfl
              have a1 := RK3.out.c (i := 1) rfl
              have a2 := RK3.out.c (i := 2) rfl
              have a3 := RK3.out.c (i := 3) rfl
              have a4 := RK3.out.c (i := 4) rfl
              have a5 := RK3.out.c (i := 5) rfl
              have a6 := RK3.out.c (i := 6) rfl
              have f0 := RK3.out.fr 0
              have f1 := RK3.out.fr 1
              have f2 := RK3.out.fr 2
              have f3 := RK3.out.fr 3
              have f4 := RK3.out.fr 4
              have f5 := RK3.out.fr 5
              have f6 := RK3.out.fr 6
              have b2 := LK3.out.c (i := 0) rfl
              have b3 := OO3.out.c
              have b4 := OO3.out.fr
              have m1 : O ≠ w1.heap.size := by omega
              have m2 : X ≠ w1.heap.size := by omega
              go_upto_region 15 with (go_at_call 45; refine (HRf.out _).mono ?_; rintro e w4 ⟨rfl, rfl⟩)
              go_region
              have RK4 := Lib.hid ((RK3.out.set 2 (.string ⟨q2.toArray⟩)))
              have n1 : O ≠ w1.heap.size := m1
              have OO4 := Lib.hid (OO3.out.other' m1 2 (.string ⟨q2.toArray⟩))
              have OX4 := Lib.hid (OX3.out.other' m2 2 (.string ⟨q2.toArray⟩))
              have hr4 : w0.heap.size ≤ w1.heap.size := by omega
              have BL4 := Lib.hid (((BL3.out.setCell (p := ⟨w1.heap.size, 2, none⟩) hr4 (.string ⟨q2.toArray⟩)).setCell (p := ⟨O, 0, none⟩) hO (.int .i64 no)).drew)
              have KK := Lib.hid (((KeepT.below (t := 90) B3w.out).trans (bk_keep RK3.out (by decide) 2 (.string ⟨q2.toArray⟩))).trans (KeepT.set OO4.out (by decide) (.int .i64 no) 0))
              have IN4 := Lib.hid (rwin_set (bk_rwin RK3.out IN3.out (fun h9 => by have h8 := hvb _ h9; omega) (by decide) 2 (.string ⟨q2.toArray⟩)) OO4.out (by decide) (by decide) (.int .i64 no))
              have O4 := Lib.hid (own_set (own_set O3.out (RK3.out.ne O3.out (by decide)) (T := w1.heap.size) (o := 2) (.string ⟨q2.toArray⟩)) (OO4.out.ne (own_set O3.out (RK3.out.ne O3.out (by decide)) (T := w1.heap.size) (o := 2) (.string ⟨q2.toArray⟩)) (by decide)) (T := O) (o := 0) (.int .i64 no))
              have OX5' := Lib.hid (OX4.out.other hXO (.int .i64 no))
              have OO5' := Lib.hid (OO4.out.set (.int .i64 no))
              have RK5' := Lib.hid (bk_other RK4.out (Ne.symm m1) 0 (.int .i64 no))
              have zz : w3.heap.size = ((w3.setCell ⟨w1.heap.size, 2, none⟩ (.string ⟨q2.toArray⟩)).setCell ⟨O, 0, none⟩ (.int .i64 no)).drew.heap.size := by simp
              have OX5 := Lib.hid (one_drew OX5'.out)
              have OO5 := Lib.hid (one_drew OO5'.out)
              have RK5 := Lib.hid (Bk.drew1 RK5'.out)
              have IN5 := Lib.hid (rwin_drew IN4.out)
              have O5 := Lib.hid (own_drew1 O4.out)
              have KK5 := Lib.hid (keep_drew KK.out)
              clear OX5' OO5' RK5' IN4 O4 KK RK4 OO4 OX4 a0 a1 a2 a3 a4 a5 a6 f0 f1 f2 f3 f4 f5 f6 b2 b3 b4
              generalize ((w3.setCell ⟨w1.heap.size, 2, none⟩ (.string ⟨q2.toArray⟩)).setCell ⟨O, 0, none⟩ (.int .i64 no)).drew = w5 at *
              have a0 := RK5.out.c (i := 0) rfl
              have a1 := RK5.out.c (i := 1) rfl
              have a2 := RK5.out.c (i := 2) rfl
              have a3 := RK5.out.c (i := 3) rfl
              have a4 := RK5.out.c (i := 4) rfl
              have a5 := RK5.out.c (i := 5) rfl
              have a6 := RK5.out.c (i := 6) rfl
              have b1 := OX5.out.c
              go_wp2_with (at_builtin; refine wpList_append_own_at _ rfl (.tmp 75) (.tmp 77) _ rfl w0.heap.size 91 i0 _ 7 88 Tryz.underlying52 I0.out I1.out I2.out I3.out rfl (by omega) (.slice (some ⟨g, 0, none⟩) (n + 1) cap) (m ++ [(y, Value.slice Ay y.into.length cy)]).length _ rfl (IN5.out.own.alloc _) ⟨w5.heap.size, 0, none⟩ 1 1 [.int .i32 f, .int .i32 tt, .string ⟨q2.toArray⟩, .string ⟨ct.toArray⟩, .int .i64 cl, .string ⟨kd.toArray⟩, .slice A1 into.length c1] rfl rfl (World.news_of_block (cs := #[.int .i32 f, .int .i32 tt, .string ⟨q2.toArray⟩, .string ⟨ct.toArray⟩, .int .i64 cl, .string ⟨kd.toArray⟩, .slice A1 into.length c1]) (t := 91) (fr := (0, 0)) (heap_alloc_new w5 _)) (by simp [Value.oneCell']) (by unfold maxLen; omega) (by omega) (by simp; omega) ?_; intro v6 w6 ho6 hg6 hn6 ha6; obtain ⟨A6, k6, c6, rfl⟩ := own_slice ho6; have O6 := Lib.hid ho6; have G6 := Lib.hid hg6; have OX6a := (OX5.out.alloc (.cells #[.int .i32 f, .int .i32 tt, .string ⟨q2.toArray⟩, .string ⟨ct.toArray⟩, .int .i64 cl, .string ⟨kd.toArray⟩, .slice A1 into.length c1] 91)); have QN := ((OX5.out.alloc (.cells #[.int .i32 f, .int .i32 tt, .string ⟨q2.toArray⟩, .string ⟨ct.toArray⟩, .int .i64 cl, .string ⟨kd.toArray⟩, .slice A1 into.length c1] 91)).ne (IN5.out.own.alloc _) (by decide)); have OX6 := OX6a.grown hg6 QN; have d1 := OX6.c; have d2 := OX6.fr; clear ho6 hg6 hn6 ha6 OX6 OX6a QN)
              go_ret
              have R6 := RSt.more (r := ⟨f, tt, q2, ct, cl, kd, into⟩) (op := no) (BL4.out.alloc (by omega) (.cells #[.int .i32 f, .int .i32 tt, .string ⟨q2.toArray⟩, .string ⟨ct.toArray⟩, .int .i64 cl, .string ⟨kd.toArray⟩, .slice A1 into.length c1] 91)) hX hXO HLL.out (OX5.out.alloc _) (OO5.out.alloc _) ⟨IN5.out.own.alloc _, fun x hx => (IN5.out.ints x hx).alloc _⟩ (O5.out.alloc _) (by have h9 := O6.out; exact h9) G6.out
              exact ⟨ret_int (by rw [HT.out]), by rw [HT.out]; simp only; rw [HXn.out]; exact R6.1, (KK5.out.trans (KeepT.below ((Below.refl _ _).alloc (Nat.le_refl _) _))).trans R6.2⟩
            | none =>
              have HT := Lib.hid (stp_one (rs := rs) (op := op) (no := no) HXo.out (by rw [HXn.out]; show ¬ ((rgN nm lastE).isSome = true ∨ op ≠ 0); rw [hq]; simpa using hop) hnt (by rw [HXn.out]; exact hq2))
              subst hop
              rw [hq] at hRl
              have HRl := Lib.hid (show ∀ W, Calls Tryz.prog 45 #[.string nb, .string ⟨#[44, 32, 76, 97, 115, 116, 62]⟩] W fun e w' => e = .returned (.tuple #[.string ⟨#[]⟩, .bool false]) ∧ W = w' from hRl)
              clear hRl
              have hRf := fun W => range_name nb ⟨#[44, 32, 70, 105, 114, 115, 116, 62]⟩ W (by omega)
              rw [show (⟨#[44, 32, 70, 105, 114, 115, 116, 62]⟩ : ByteArray).data.toList = firstE from rfl, HNL.out, hq2] at hRf
              have HRf := Lib.hid (show ∀ W, Calls Tryz.prog 45 #[.string nb, .string ⟨#[44, 32, 70, 105, 114, 115, 116, 62]⟩] W fun e w' => e = .returned (.tuple #[.string ⟨#[]⟩, .bool false]) ∧ W = w' from hRf)
              clear hRf
              obtain ⟨i0, hi0, hz0, hz1, hz2⟩ := info_parts row_info
              have I0 := Lib.hid hi0
              have I1 := Lib.hid hz0
              have I2 := Lib.hid hz1
              have I3 := Lib.hid hz2
              clear hi0 hz0 hz1 hz2
              go_enter Tryz.func43, Tryz.ntmps43
              go_upto_region 2 with (go_at_call 44; refine (HR.out _ HML.out).mono ?_; rintro e w1 ⟨v1, rfl, ho1, hb1⟩; obtain ⟨A1, c1, rfl, _⟩ := own_ints ho1; have O1 := Lib.hid ho1; have B1 := Lib.hid (HA.out.trans (hb1.mono HA.out.size)); have LK1 := Lib.hid (LK.out.below hb1); clear ho1 hb1)
              obtain ⟨w2, hw2⟩ : ∃ w2, w2 = w1.alloc (.cells #[.int .i32 f, .int .i32 tt, .string nb, .string ⟨ct.toArray⟩, .int .i64 cl, .string ⟨kd.toArray⟩, .slice A1 into.length c1] 91) := ⟨_, rfl⟩
              rw [← hw2]
              have B2' : Below w1.heap.size w1 w2 := by rw [hw2]; exact (Below.refl _ w1).alloc (Nat.le_refl _) _
              have B2 := Lib.hid (show Below w.heap.size w w2 from B1.out.trans (B2'.mono B1.out.size))
              have RK := Lib.hid (show Bk w2 w1.heap.size [.int .i32 f, .int .i32 tt, .string nb, .string ⟨ct.toArray⟩, .int .i64 cl, .string ⟨kd.toArray⟩, .slice A1 into.length c1] 91 by rw [hw2]; exact ⟨heap_alloc_new w1 _⟩)
              have LK2 := Lib.hid (LK1.out.below B2')
              have S2 := Lib.hid (HS.out.on B2.out)
              have O2 := Lib.hid (own_low (own_below' O1.out B2') (Nat.le_trans HS.out.bel.size (Nat.le_trans HA.out.size (Nat.le_refl _))))
              have z1 : w.heap.size < w1.heap.size := Nat.lt_of_lt_of_le (Nat.lt_of_lt_of_le (Nat.lt_succ_self _) (by simp)) (Nat.le_trans (Nat.le_refl _) (LK1.out.lt))
              have z2 : w1.heap.size < w2.heap.size := RK.out.lt
              clear B2' hw2 LK LK1 O1 HA B1 HR HML HM1
              obtain ⟨v, l, hlm, hox0, hin0⟩ := HS.out.ox
              have hvb : ∀ z, v.ownBlock = some z → z < w.heap.size := fun z hz => (hin0.own.lt z hz).2
              have hox := hox0.below B2.out
              have hin := hin0.below B2.out
              clear hox0 hin0
              have ax := hox.c
              have ao := S2.out.oo.c
              have hlne : l ≠ [] := by rintro rfl; exact hrne hlm.symm
              obtain ⟨g, cap, n, m, y, Ay, cy, rfl, rfl, hla⟩ := last_of hin hlne
              have hrs : rs = m.map Prod.fst ++ [y] := by rw [← hlm]; simp
              obtain ⟨hmm, rfl⟩ : mm = m.map Prod.fst ∧ y = yy := by have h9 := hmy.symm.trans hrs; have h8 := List.append_inj' h9 rfl; exact ⟨h8.1, by simpa using h8.2.symm⟩
              have hnl : n ≤ 5000 := by have := hla.len; have h9 : rs.length = m.length + 1 := (by rw [hrs]; simp); omega
              have hll : (m ++ [(y, Value.slice Ay y.into.length cy)]).length ≤ 5001 := by rw [List.length_append, hla.len]; simp; omega
              have HLM := Lib.hid hrs
              have LA := Lib.hid hla
              have y0 : w2.cell? ⟨g, n * 7, none⟩ = some (.int .i32 y.fr) := hla.cell (j := 0) (by omega) rfl
              have j1 : (n : Int) < (n : Int) + 1 := by omega
              have y1 := hla.cell (j := 1) (by omega) rfl
              have y2 := hla.cell (j := 2) (by omega) rfl
              have y3 := hla.cell (j := 3) (by omega) rfl
              have y4 := hla.cell (j := 4) (by omega) rfl
              have y5 := hla.cell (j := 5) (by omega) rfl
              have y6 := hla.cell (j := 6) (by omega) rfl
              have HIN := Lib.hid hin
              have HLL := Lib.hid hlm
              clear hin hlm hrs hla hlne hmy hmm
              have OX2 := Lib.hid hox
              clear hox
              have a0 := RK.out.c (i := 0) rfl
              have a1 := RK.out.c (i := 1) rfl
              have a2 := RK.out.c (i := 2) rfl
              have a3 := RK.out.c (i := 3) rfl
              have a4 := RK.out.c (i := 4) rfl
              have a5 := RK.out.c (i := 5) rfl
              have a6 := RK.out.c (i := 6) rfl
              have j0 : (0 : Int) ≤ n := by omega
              go_upto_region 11 with (go_at_call 45; refine (HRl.out _).mono ?_; rintro e w3 ⟨rfl, rfl⟩)
              go_quiet (fail)
              go_upto_region 13 with fail
              have B3 := Lib.hid (show Below w2.heap.size w2 (w2.drewN nq) from bel_drewN (Below.refl _ _) _)
              have OX3 := Lib.hid (OX2.out.below B3.out)
              have OO3 := Lib.hid (S2.out.oo.below B3.out)
              have RK3 := Lib.hid (RK.out.below B3.out)
              have LK3 := Lib.hid (LK2.out.below B3.out)
              have IN3 := Lib.hid (HIN.out.below B3.out)
              have O3 := Lib.hid (own_below' O2.out B3.out)
              have B3w := Lib.hid (B2.out.trans (B3.out.mono B2.out.size))
              have BL3 := Lib.hid (S2.out.bel.trans (B3.out.mono S2.out.bel.size))
              have z3 : w2.heap.size = (w2.drewN nq).heap.size := rfl
              have z0 : w0.heap.size ≤ w2.heap.size := S2.out.bel.size
              generalize w2.drewN nq = w3 at *
              clear ax ao a0 a1 a2 a3 a4 a5 a6 B3 OX2 RK LK2 HIN O2 S2 y0 y1 y2 y3 y4 y5 y6 LA
              have a0 := RK3.out.c (i := 0) rfl
              have a1 := RK3.out.c (i := 1) rfl
              have a2 := RK3.out.c (i := 2) rfl
              have a3 := RK3.out.c (i := 3) rfl
              have a4 := RK3.out.c (i := 4) rfl
              have a5 := RK3.out.c (i := 5) rfl
              have a6 := RK3.out.c (i := 6) rfl
              have b1 := OX3.out.c
              have OX5 := OX3
              have IN5 := IN3
              go_wp2_with (first
                | (go_at_call 45; refine (HRf.out _).mono ?_; rintro e w4 ⟨rfl, rfl⟩)
                | (at_builtin; refine wpList_append_own_at _ rfl (.tmp 75) (.tmp 77) _ rfl w0.heap.size 91 i0 _ 7 88 Tryz.underlying52 I0.out I1.out I2.out I3.out rfl (by omega) (.slice (some ⟨g, 0, none⟩) (n + 1) cap) (m ++ [(y, Value.slice Ay y.into.length cy)]).length _ rfl (IN5.out.own.alloc _) ⟨w3.heap.size, 0, none⟩ 1 1 [.int .i32 f, .int .i32 tt, .string nb, .string ⟨ct.toArray⟩, .int .i64 cl, .string ⟨kd.toArray⟩, .slice A1 into.length c1] rfl rfl (World.news_of_block (cs := #[.int .i32 f, .int .i32 tt, .string nb, .string ⟨ct.toArray⟩, .int .i64 cl, .string ⟨kd.toArray⟩, .slice A1 into.length c1]) (t := 91) (fr := (0, 0)) (heap_alloc_new w3 _)) (by simp [Value.oneCell']) (by unfold maxLen; omega) (by omega) (by simp; omega) ?_; intro v6 w6 ho6 hg6 hn6 ha6; obtain ⟨A6, k6, c6, rfl⟩ := own_slice ho6; have O6 := Lib.hid ho6; have G6 := Lib.hid hg6; have OX6a := (OX5.out.alloc (.cells #[.int .i32 f, .int .i32 tt, .string nb, .string ⟨ct.toArray⟩, .int .i64 cl, .string ⟨kd.toArray⟩, .slice A1 into.length c1] 91)); have QN := ((OX5.out.alloc (.cells #[.int .i32 f, .int .i32 tt, .string nb, .string ⟨ct.toArray⟩, .int .i64 cl, .string ⟨kd.toArray⟩, .slice A1 into.length c1] 91)).ne (IN5.out.own.alloc _) (by decide)); have OX6 := OX6a.grown hg6 QN; have d1 := OX6.c; have d2 := OX6.fr; clear ho6 hg6 hn6 ha6 OX6 OX6a QN))
              go_ret
              have R6 := RSt.more (r := ⟨f, tt, nm, ct, cl, kd, into⟩) (op := 0) (BL3.out.alloc (by omega) (.cells #[.int .i32 f, .int .i32 tt, .string nb, .string ⟨ct.toArray⟩, .int .i64 cl, .string ⟨kd.toArray⟩, .slice A1 into.length c1] 91)) hX hXO HLL.out (OX3.out.alloc _) (OO3.out.alloc _) ⟨IN3.out.own.alloc _, fun x hx => (IN3.out.ints x hx).alloc _⟩ (O3.out.alloc _) (by have h9 := O6.out; rw [HNB.out] at h9; exact h9) G6.out
              exact ⟨ret_int (by rw [HT.out]), by rw [HT.out]; simp only; rw [HXn.out]; exact R6.1, ((KeepT.below B3w.out).trans (KeepT.below ((Below.refl _ _).alloc (Nat.le_refl _) _))).trans R6.2⟩
    · have hop1 : 0 < op := by omega
      have hrne := hi hop
      obtain ⟨mm, yy, hmy⟩ := snoc_of hrne
      cases hev : endB ⟨f, tt, nm, ct, cl, kd, into⟩ yy with
      | false =>
        have HT := Lib.hid (stp_bad (rs := rs) (op := op) (no := no) HXo.out (.inr hop) (.inr (by rw [HXn.out, hmy, lastR_snoc]; exact hev)))
        cases hq : rgN nm lastE with
        | some q =>
          rw [hq] at hRl
          have HRl := Lib.hid (show ∀ W, Calls Tryz.prog 45 #[.string nb, .string ⟨#[44, 32, 76, 97, 115, 116, 62]⟩] W fun e w' => e = .returned (.tuple #[.string ⟨q.toArray⟩, .bool true]) ∧ W = w' from hRl)
          clear hRl
          go_enter Tryz.func43, Tryz.ntmps43
          go_upto_region 2 with (go_at_call 44; refine (HR.out _ HML.out).mono ?_; rintro e w1 ⟨v1, rfl, ho1, hb1⟩; obtain ⟨A1, c1, rfl, _⟩ := own_ints ho1; have O1 := Lib.hid ho1; have B1 := Lib.hid (HA.out.trans (hb1.mono HA.out.size)); have LK1 := Lib.hid (LK.out.below hb1); clear ho1 hb1)
          obtain ⟨w2, hw2⟩ : ∃ w2, w2 = w1.alloc (.cells #[.int .i32 f, .int .i32 tt, .string nb, .string ⟨ct.toArray⟩, .int .i64 cl, .string ⟨kd.toArray⟩, .slice A1 into.length c1] 91) := ⟨_, rfl⟩
          rw [← hw2]
          have B2' : Below w1.heap.size w1 w2 := by rw [hw2]; exact (Below.refl _ w1).alloc (Nat.le_refl _) _
          have B2 := Lib.hid (show Below w.heap.size w w2 from B1.out.trans (B2'.mono B1.out.size))
          have RK := Lib.hid (show Bk w2 w1.heap.size [.int .i32 f, .int .i32 tt, .string nb, .string ⟨ct.toArray⟩, .int .i64 cl, .string ⟨kd.toArray⟩, .slice A1 into.length c1] 91 by rw [hw2]; exact ⟨heap_alloc_new w1 _⟩)
          have LK2 := Lib.hid (LK1.out.below B2')
          have S2 := Lib.hid (HS.out.on B2.out)
          have O2 := Lib.hid (own_low (own_below' O1.out B2') (Nat.le_trans HS.out.bel.size (Nat.le_trans HA.out.size (Nat.le_refl _))))
          have z1 : w.heap.size < w1.heap.size := Nat.lt_of_lt_of_le (Nat.lt_of_lt_of_le (Nat.lt_succ_self _) (by simp)) (Nat.le_trans (Nat.le_refl _) (LK1.out.lt))
          have z2 : w1.heap.size < w2.heap.size := RK.out.lt
          clear B2' hw2 LK LK1 O1 HA B1 HR HML HM1
          obtain ⟨v, l, hlm, hox0, hin0⟩ := HS.out.ox
          have hvb : ∀ z, v.ownBlock = some z → z < w.heap.size := fun z hz => (hin0.own.lt z hz).2
          have hox := hox0.below B2.out
          have hin := hin0.below B2.out
          clear hox0 hin0
          have ax := hox.c
          have ao := S2.out.oo.c
          have hlne : l ≠ [] := by rintro rfl; exact hrne hlm.symm
          obtain ⟨g, cap, n, m, y, Ay, cy, rfl, rfl, hla⟩ := last_of hin hlne
          have hrs : rs = m.map Prod.fst ++ [y] := by rw [← hlm]; simp
          obtain ⟨hmm, rfl⟩ : mm = m.map Prod.fst ∧ y = yy := by have h9 := hmy.symm.trans hrs; have h8 := List.append_inj' h9 rfl; exact ⟨h8.1, by simpa using h8.2.symm⟩
          have hnl : n ≤ 5000 := by have := hla.len; have h9 : rs.length = m.length + 1 := (by rw [hrs]; simp); omega
          have hll : (m ++ [(y, Value.slice Ay y.into.length cy)]).length ≤ 5001 := by rw [List.length_append, hla.len]; simp; omega
          have HLM := Lib.hid hrs
          have LA := Lib.hid hla
          have y0 : w2.cell? ⟨g, n * 7, none⟩ = some (.int .i32 y.fr) := hla.cell (j := 0) (by omega) rfl
          have j1 : (n : Int) < (n : Int) + 1 := by omega
          have y1 := hla.cell (j := 1) (by omega) rfl
          have y2 := hla.cell (j := 2) (by omega) rfl
          have y3 := hla.cell (j := 3) (by omega) rfl
          have y4 := hla.cell (j := 4) (by omega) rfl
          have y5 := hla.cell (j := 5) (by omega) rfl
          have y6 := hla.cell (j := 6) (by omega) rfl
          clear hin hlm hrs hla hlne hmy hmm
          have hE := fun W => ends_raw f tt y.fr y.tt cl y.cl nb ⟨ct.toArray⟩ ⟨kd.toArray⟩ ⟨y.nm.toArray⟩ ⟨y.ct.toArray⟩ ⟨y.kd.toArray⟩ A1 Ay into.length c1 y.into.length cy W (by omega)
          rw [HNL.out] at hE
          have hE2 := endR_eq ⟨f, tt, nm, ct, cl, kd, into⟩ y
          simp only at hE2
          rw [hE2, hev] at hE
          have HE := Lib.hid hE
          clear hE hE2 hev
          have a0 := RK.out.c (i := 0) rfl
          have a1 := RK.out.c (i := 1) rfl
          have a2 := RK.out.c (i := 2) rfl
          have a3 := RK.out.c (i := 3) rfl
          have a4 := RK.out.c (i := 4) rfl
          have a5 := RK.out.c (i := 5) rfl
          have a6 := RK.out.c (i := 6) rfl
          have o0 : ((op : Int) != 0) = true := by simpa using hop
          have o1 : ((op : Int) == 0) = false := by simpa using hop
          go_upto_region 7 with (go_at_call 45; refine (HRl.out _).mono ?_; rintro e w3 ⟨rfl, rfl⟩)
          go_still_tail 8, (by kernel_rfl)
          change wpList _ _ _ _ _ w2.drew
          have B3 := Lib.hid (show Below w2.heap.size w2 w2.drew from (Below.refl _ _).drew)
          have OX3 := Lib.hid (hox.below B3.out)
          have OO3 := Lib.hid (S2.out.oo.below B3.out)
          have S3 := Lib.hid (S2.out.on B3.out)
          have LA3 := Lib.hid (LA.out.below B3.out)
          have RK3 := Lib.hid (RK.out.below B3.out)
          have B3w := Lib.hid (B2.out.trans (B3.out.mono B2.out.size))
          generalize w2.drew = w3 at *
          clear ax ao a0 y0 a1 y1 a2 y2 a3 y3 a4 y4 a5 y5 a6 y6
          go_wp2_with (go_at_call 46; refine (HE.out _).mono ?_; rintro e w4 ⟨rfl, hb⟩; have B4 := Lib.hid hb; clear hb)
          go_ret
          exact ⟨ret_int (by rw [HT.out]), by rw [HT.out]; exact S3.out.on B4.out, (KeepT.below B3w.out).trans (KeepT.below B4.out)⟩
        | none =>
          rw [hq] at hRl
          have HRl := Lib.hid (show ∀ W, Calls Tryz.prog 45 #[.string nb, .string ⟨#[44, 32, 76, 97, 115, 116, 62]⟩] W fun e w' => e = .returned (.tuple #[.string ⟨#[]⟩, .bool false]) ∧ W = w' from hRl)
          clear hRl
          go_enter Tryz.func43, Tryz.ntmps43
          go_upto_region 2 with (go_at_call 44; refine (HR.out _ HML.out).mono ?_; rintro e w1 ⟨v1, rfl, ho1, hb1⟩; obtain ⟨A1, c1, rfl, _⟩ := own_ints ho1; have O1 := Lib.hid ho1; have B1 := Lib.hid (HA.out.trans (hb1.mono HA.out.size)); have LK1 := Lib.hid (LK.out.below hb1); clear ho1 hb1)
          obtain ⟨w2, hw2⟩ : ∃ w2, w2 = w1.alloc (.cells #[.int .i32 f, .int .i32 tt, .string nb, .string ⟨ct.toArray⟩, .int .i64 cl, .string ⟨kd.toArray⟩, .slice A1 into.length c1] 91) := ⟨_, rfl⟩
          rw [← hw2]
          have B2' : Below w1.heap.size w1 w2 := by rw [hw2]; exact (Below.refl _ w1).alloc (Nat.le_refl _) _
          have B2 := Lib.hid (show Below w.heap.size w w2 from B1.out.trans (B2'.mono B1.out.size))
          have RK := Lib.hid (show Bk w2 w1.heap.size [.int .i32 f, .int .i32 tt, .string nb, .string ⟨ct.toArray⟩, .int .i64 cl, .string ⟨kd.toArray⟩, .slice A1 into.length c1] 91 by rw [hw2]; exact ⟨heap_alloc_new w1 _⟩)
          have LK2 := Lib.hid (LK1.out.below B2')
          have S2 := Lib.hid (HS.out.on B2.out)
          have O2 := Lib.hid (own_low (own_below' O1.out B2') (Nat.le_trans HS.out.bel.size (Nat.le_trans HA.out.size (Nat.le_refl _))))
          have z1 : w.heap.size < w1.heap.size := Nat.lt_of_lt_of_le (Nat.lt_of_lt_of_le (Nat.lt_succ_self _) (by simp)) (Nat.le_trans (Nat.le_refl _) (LK1.out.lt))
          have z2 : w1.heap.size < w2.heap.size := RK.out.lt
          clear B2' hw2 LK LK1 O1 HA B1 HR HML HM1
          obtain ⟨v, l, hlm, hox0, hin0⟩ := HS.out.ox
          have hvb : ∀ z, v.ownBlock = some z → z < w.heap.size := fun z hz => (hin0.own.lt z hz).2
          have hox := hox0.below B2.out
          have hin := hin0.below B2.out
          clear hox0 hin0
          have ax := hox.c
          have ao := S2.out.oo.c
          have hlne : l ≠ [] := by rintro rfl; exact hrne hlm.symm
          obtain ⟨g, cap, n, m, y, Ay, cy, rfl, rfl, hla⟩ := last_of hin hlne
          have hrs : rs = m.map Prod.fst ++ [y] := by rw [← hlm]; simp
          obtain ⟨hmm, rfl⟩ : mm = m.map Prod.fst ∧ y = yy := by have h9 := hmy.symm.trans hrs; have h8 := List.append_inj' h9 rfl; exact ⟨h8.1, by simpa using h8.2.symm⟩
          have hnl : n ≤ 5000 := by have := hla.len; have h9 : rs.length = m.length + 1 := (by rw [hrs]; simp); omega
          have hll : (m ++ [(y, Value.slice Ay y.into.length cy)]).length ≤ 5001 := by rw [List.length_append, hla.len]; simp; omega
          have HLM := Lib.hid hrs
          have LA := Lib.hid hla
          have y0 : w2.cell? ⟨g, n * 7, none⟩ = some (.int .i32 y.fr) := hla.cell (j := 0) (by omega) rfl
          have j1 : (n : Int) < (n : Int) + 1 := by omega
          have y1 := hla.cell (j := 1) (by omega) rfl
          have y2 := hla.cell (j := 2) (by omega) rfl
          have y3 := hla.cell (j := 3) (by omega) rfl
          have y4 := hla.cell (j := 4) (by omega) rfl
          have y5 := hla.cell (j := 5) (by omega) rfl
          have y6 := hla.cell (j := 6) (by omega) rfl
          clear hin hlm hrs hla hlne hmy hmm
          have hE := fun W => ends_raw f tt y.fr y.tt cl y.cl nb ⟨ct.toArray⟩ ⟨kd.toArray⟩ ⟨y.nm.toArray⟩ ⟨y.ct.toArray⟩ ⟨y.kd.toArray⟩ A1 Ay into.length c1 y.into.length cy W (by omega)
          rw [HNL.out] at hE
          have hE2 := endR_eq ⟨f, tt, nm, ct, cl, kd, into⟩ y
          simp only at hE2
          rw [hE2, hev] at hE
          have HE := Lib.hid hE
          clear hE hE2 hev
          have a0 := RK.out.c (i := 0) rfl
          have a1 := RK.out.c (i := 1) rfl
          have a2 := RK.out.c (i := 2) rfl
          have a3 := RK.out.c (i := 3) rfl
          have a4 := RK.out.c (i := 4) rfl
          have a5 := RK.out.c (i := 5) rfl
          have a6 := RK.out.c (i := 6) rfl
          have o0 : ((op : Int) != 0) = true := by simpa using hop
          have o1 : ((op : Int) == 0) = false := by simpa using hop
          go_upto_region 7 with (go_at_call 45; refine (HRl.out _).mono ?_; rintro e w3 ⟨rfl, rfl⟩)
          go_still_tail 8, (by kernel_rfl)
          change wpList _ _ _ _ _ w2.drew
          have B3 := Lib.hid (show Below w2.heap.size w2 w2.drew from (Below.refl _ _).drew)
          have OX3 := Lib.hid (hox.below B3.out)
          have OO3 := Lib.hid (S2.out.oo.below B3.out)
          have S3 := Lib.hid (S2.out.on B3.out)
          have LA3 := Lib.hid (LA.out.below B3.out)
          have RK3 := Lib.hid (RK.out.below B3.out)
          have B3w := Lib.hid (B2.out.trans (B3.out.mono B2.out.size))
          generalize w2.drew = w3 at *
          clear ax ao a0 y0 a1 y1 a2 y2 a3 y3 a4 y4 a5 y5 a6 y6
          go_wp2_with (go_at_call 46; refine (HE.out _).mono ?_; rintro e w4 ⟨rfl, hb⟩; have B4 := Lib.hid hb; clear hb)
          go_ret
          exact ⟨ret_int (by rw [HT.out]), by rw [HT.out]; exact S3.out.on B4.out, (KeepT.below B3w.out).trans (KeepT.below B4.out)⟩
      | true =>
        have HT := Lib.hid (stp_last (rs := rs) (op := op) (no := no) HXo.out (.inr hop) (by rw [HXn.out, hmy, lastR_snoc, hev]; simp [hop]))
        cases hq : rgN nm lastE with
        | some q =>
          rw [hq] at hRl
          have HRl := Lib.hid (show ∀ W, Calls Tryz.prog 45 #[.string nb, .string ⟨#[44, 32, 76, 97, 115, 116, 62]⟩] W fun e w' => e = .returned (.tuple #[.string ⟨q.toArray⟩, .bool true]) ∧ W = w' from hRl)
          clear hRl
          go_enter Tryz.func43, Tryz.ntmps43
          go_upto_region 2 with (go_at_call 44; refine (HR.out _ HML.out).mono ?_; rintro e w1 ⟨v1, rfl, ho1, hb1⟩; obtain ⟨A1, c1, rfl, _⟩ := own_ints ho1; have O1 := Lib.hid ho1; have B1 := Lib.hid (HA.out.trans (hb1.mono HA.out.size)); have LK1 := Lib.hid (LK.out.below hb1); clear ho1 hb1)
          obtain ⟨w2, hw2⟩ : ∃ w2, w2 = w1.alloc (.cells #[.int .i32 f, .int .i32 tt, .string nb, .string ⟨ct.toArray⟩, .int .i64 cl, .string ⟨kd.toArray⟩, .slice A1 into.length c1] 91) := ⟨_, rfl⟩
          rw [← hw2]
          have B2' : Below w1.heap.size w1 w2 := by rw [hw2]; exact (Below.refl _ w1).alloc (Nat.le_refl _) _
          have B2 := Lib.hid (show Below w.heap.size w w2 from B1.out.trans (B2'.mono B1.out.size))
          have RK := Lib.hid (show Bk w2 w1.heap.size [.int .i32 f, .int .i32 tt, .string nb, .string ⟨ct.toArray⟩, .int .i64 cl, .string ⟨kd.toArray⟩, .slice A1 into.length c1] 91 by rw [hw2]; exact ⟨heap_alloc_new w1 _⟩)
          have LK2 := Lib.hid (LK1.out.below B2')
          have S2 := Lib.hid (HS.out.on B2.out)
          have O2 := Lib.hid (own_low (own_below' O1.out B2') (Nat.le_trans HS.out.bel.size (Nat.le_trans HA.out.size (Nat.le_refl _))))
          have z1 : w.heap.size < w1.heap.size := Nat.lt_of_lt_of_le (Nat.lt_of_lt_of_le (Nat.lt_succ_self _) (by simp)) (Nat.le_trans (Nat.le_refl _) (LK1.out.lt))
          have z2 : w1.heap.size < w2.heap.size := RK.out.lt
          clear B2' hw2 LK LK1 O1 HA B1 HR HML HM1
          obtain ⟨v, l, hlm, hox0, hin0⟩ := HS.out.ox
          have hvb : ∀ z, v.ownBlock = some z → z < w.heap.size := fun z hz => (hin0.own.lt z hz).2
          have hox := hox0.below B2.out
          have hin := hin0.below B2.out
          clear hox0 hin0
          have ax := hox.c
          have ao := S2.out.oo.c
          have hlne : l ≠ [] := by rintro rfl; exact hrne hlm.symm
          obtain ⟨g, cap, n, m, y, Ay, cy, rfl, rfl, hla⟩ := last_of hin hlne
          have hrs : rs = m.map Prod.fst ++ [y] := by rw [← hlm]; simp
          obtain ⟨hmm, rfl⟩ : mm = m.map Prod.fst ∧ y = yy := by have h9 := hmy.symm.trans hrs; have h8 := List.append_inj' h9 rfl; exact ⟨h8.1, by simpa using h8.2.symm⟩
          have hnl : n ≤ 5000 := by have := hla.len; have h9 : rs.length = m.length + 1 := (by rw [hrs]; simp); omega
          have hll : (m ++ [(y, Value.slice Ay y.into.length cy)]).length ≤ 5001 := by rw [List.length_append, hla.len]; simp; omega
          have HLM := Lib.hid hrs
          have LA := Lib.hid hla
          have y0 : w2.cell? ⟨g, n * 7, none⟩ = some (.int .i32 y.fr) := hla.cell (j := 0) (by omega) rfl
          have j1 : (n : Int) < (n : Int) + 1 := by omega
          have y1 := hla.cell (j := 1) (by omega) rfl
          have y2 := hla.cell (j := 2) (by omega) rfl
          have y3 := hla.cell (j := 3) (by omega) rfl
          have y4 := hla.cell (j := 4) (by omega) rfl
          have y5 := hla.cell (j := 5) (by omega) rfl
          have y6 := hla.cell (j := 6) (by omega) rfl
          have HMY := Lib.hid hmy
          have HMM := Lib.hid hmm
          clear hin hlm hrs hla hlne hmy hmm
          have hE := fun W => ends_raw f tt y.fr y.tt cl y.cl nb ⟨ct.toArray⟩ ⟨kd.toArray⟩ ⟨y.nm.toArray⟩ ⟨y.ct.toArray⟩ ⟨y.kd.toArray⟩ A1 Ay into.length c1 y.into.length cy W (by omega)
          rw [HNL.out] at hE
          have hE2 := endR_eq ⟨f, tt, nm, ct, cl, kd, into⟩ y
          simp only at hE2
          rw [hE2, hev] at hE
          have HE := Lib.hid hE
          clear hE hE2 hev
          have a0 := RK.out.c (i := 0) rfl
          have a1 := RK.out.c (i := 1) rfl
          have a2 := RK.out.c (i := 2) rfl
          have a3 := RK.out.c (i := 3) rfl
          have a4 := RK.out.c (i := 4) rfl
          have a5 := RK.out.c (i := 5) rfl
          have a6 := RK.out.c (i := 6) rfl
          have o0 : ((op : Int) != 0) = true := by simpa using hop
          have o1 : ((op : Int) == 0) = false := by simpa using hop
          go_upto_region 7 with (go_at_call 45; refine (HRl.out _).mono ?_; rintro e w3 ⟨rfl, rfl⟩)
          go_still_tail 8, (by kernel_rfl)
          change wpList _ _ _ _ _ w2.drew
          have B3 := Lib.hid (show Below w2.heap.size w2 w2.drew from (Below.refl _ _).drew)
          have OX3 := Lib.hid (hox.below B3.out)
          have OO3 := Lib.hid (S2.out.oo.below B3.out)
          have S3 := Lib.hid (S2.out.on B3.out)
          have LA3 := Lib.hid (LA.out.below B3.out)
          have RK3 := Lib.hid (RK.out.below B3.out)
          have B3w := Lib.hid (B2.out.trans (B3.out.mono B2.out.size))
          generalize w2.drew = w3 at *
          clear ax ao a0 y0 a1 y1 a2 y2 a3 y3 a4 y4 a5 y5 a6 y6
          go_wp2_with (go_at_call 46; refine (HE.out _).mono ?_; rintro e w4 ⟨rfl, hb⟩; have B4 := Lib.hid hb; have OX4 := OX3.out.below hb; have OO4 := OO3.out.below hb; have LA4 := LA3.out.below hb; have RK4 := RK3.out.below hb; have b1 := OX4.c; have b2 := RK4.c (i := 1) rfl; have b3 := LA4.cell (j := 1) (by omega) rfl; have b4 := LA4.fr (n * 7 + 1); have OO5 := OO4.other' (LA4.ne OO4 (by decide)) (n * 7 + 1) (.int .i32 tt); have b5 := OO5.c; have b6 := OO5.fr; have R4 := Lib.hid (RSt.last (S3.out.bel.trans (hb.mono S3.out.bel.size)) hX hO hXO HMM.out OX4 OO4 LA4 tt); clear hb OX4 OO4 LA4 RK4 OO5)
          go_ret
          exact ⟨ret_int (by rw [HT.out]), by rw [HT.out, HXn.out, HMY.out]; exact R4.out.1, ((KeepT.below B3w.out).trans (KeepT.below B4.out)).trans R4.out.2⟩
        | none =>
          exfalso
          obtain ⟨_, h9, _⟩ := endB_yes hev
          rw [show (⟨f, tt, nm, ct, cl, kd, into⟩ : Rw).nm = nm from rfl, hq] at h9
          cases h9
  · have HT := Lib.hid (stp_err (rs := rs) (op := op) (no := no) (t := t.data.toList) (by rw [← HX.out]; exact h1))
    rw [← HX.out] at HT
    clear HX
    go_enter Tryz.func43, Tryz.ntmps43
    go_upto_region 2 with (go_at_call 44; refine (HR.out _ HML.out).mono ?_; rintro e w1 ⟨v1, rfl, ho1, hb1⟩; obtain ⟨A1, c1, rfl, _⟩ := own_ints ho1; have O1 := Lib.hid ho1; have B1 := Lib.hid (HA.out.trans (hb1.mono HA.out.size)); have LK1 := Lib.hid (LK.out.below hb1); clear ho1 hb1)
    obtain ⟨w2, hw2⟩ : ∃ w2, w2 = w1.alloc (.cells #[.int .i32 f, .int .i32 tt, .string nb, .string ⟨ct.toArray⟩, .int .i64 cl, .string ⟨kd.toArray⟩, .slice A1 into.length c1] 91) := ⟨_, rfl⟩
    rw [← hw2]
    have B2' : Below w1.heap.size w1 w2 := by rw [hw2]; exact (Below.refl _ w1).alloc (Nat.le_refl _) _
    have B2 := Lib.hid (show Below w.heap.size w w2 from B1.out.trans (B2'.mono B1.out.size))
    have RK := Lib.hid (show Bk w2 w1.heap.size [.int .i32 f, .int .i32 tt, .string nb, .string ⟨ct.toArray⟩, .int .i64 cl, .string ⟨kd.toArray⟩, .slice A1 into.length c1] 91 by rw [hw2]; exact ⟨heap_alloc_new w1 _⟩)
    have LK2 := Lib.hid (LK1.out.below B2')
    have S2 := Lib.hid (HS.out.on B2.out)
    have O2 := Lib.hid (own_low (own_below' O1.out B2') (Nat.le_trans HS.out.bel.size (Nat.le_trans HA.out.size (Nat.le_refl _))))
    have z1 : w.heap.size < w1.heap.size := Nat.lt_of_lt_of_le (Nat.lt_of_lt_of_le (Nat.lt_succ_self _) (by simp)) (Nat.le_trans (Nat.le_refl _) (LK1.out.lt))
    have z2 : w1.heap.size < w2.heap.size := RK.out.lt
    clear B2' hw2 LK LK1 O1 HA B1 HR HML HM1
    have e1 : (er != 0) = true := by simpa using h1
    go_wp2_with fail
    go_ret
    exact ⟨ret_int (by rw [HT.out]), by rw [HT.out]; exact S2.out, KeepT.below B2.out⟩
end Go.Proofs.YtagbeioooohbgaaGreatDoor.Uc

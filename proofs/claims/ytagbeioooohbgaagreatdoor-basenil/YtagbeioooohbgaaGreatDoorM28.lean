import Derived.Test.YtagbeioooohbgaaGreatDoorM27
import Derived.Test.YtagbeioooohbgaaGreatDoorM29
section
namespace Go.Proofs.YtagbeioooohbgaaGreatDoor.Ba
open Go.RowKit Go.Maps Go.Shelf Uc Ha
open Fi (scal scal_bd)
open Tr (law21 own_keep own_one wf32 isKey_int int_ne encZ)

attribute [local go_sem] Oper.semAt_some

theorem jn_start {w : World} {base X T P M S : Nat} {L : List Rw} {Xx : List Int} {A9 : Option Addr} {c9 : Nat} (hB : Bs w base X T P M S L []) (hi : Ints .i32 w A9 Xx) (hb : base ≤ w.heap.size) (hfp : ∀ k, Tr.fpT w T k → k < w.heap.size) :
    JnI w w.heap.size base X T P M S (w.heap.size + 1 + 1) w.heap.size (w.heap.size + 1) A9 c9 L Xx [] ((((w.alloc (.cells #[.pointer (some ⟨X, 0, none⟩)] 26)).alloc (.cells #[.slice A9 Xx.length c9] 32)).alloc (.cells #[.int .i64 0] 27)).alloc (.cells #[.pointer (some ⟨X, 0, none⟩)] 26)) ∧
    Tr.Bk ((((w.alloc (.cells #[.pointer (some ⟨X, 0, none⟩)] 26)).alloc (.cells #[.slice A9 Xx.length c9] 32)).alloc (.cells #[.int .i64 0] 27)).alloc (.cells #[.pointer (some ⟨X, 0, none⟩)] 26)) (w.heap.size + 1 + 1 + 1) [.pointer (some ⟨X, 0, none⟩)] 26 ∧
    ((((w.alloc (.cells #[.pointer (some ⟨X, 0, none⟩)] 26)).alloc (.cells #[.slice A9 Xx.length c9] 32)).alloc (.cells #[.int .i64 0] 27)).alloc (.cells #[.pointer (some ⟨X, 0, none⟩)] 26)).heap.size = w.heap.size + 4 ∧
    Below w.heap.size w ((((w.alloc (.cells #[.pointer (some ⟨X, 0, none⟩)] 26)).alloc (.cells #[.slice A9 Xx.length c9] 32)).alloc (.cells #[.int .i64 0] 27)).alloc (.cells #[.pointer (some ⟨X, 0, none⟩)] 26)) := by
  obtain ⟨w1, h1⟩ : ∃ x, x = w.alloc (.cells #[.pointer (some ⟨X, 0, none⟩)] 26) := ⟨_, rfl⟩
  rw [← h1]
  obtain ⟨w2, h2⟩ : ∃ x, x = w1.alloc (.cells #[.slice A9 Xx.length c9] 32) := ⟨_, rfl⟩
  rw [← h2]
  obtain ⟨w3, h3⟩ : ∃ x, x = w2.alloc (.cells #[.int .i64 0] 27) := ⟨_, rfl⟩
  rw [← h3]
  obtain ⟨w4, h4⟩ : ∃ x, x = w3.alloc (.cells #[.pointer (some ⟨X, 0, none⟩)] 26) := ⟨_, rfl⟩
  rw [← h4]
  have z1 : w1.heap.size = w.heap.size + 1 := by rw [h1]; simp
  have z2 : w2.heap.size = w.heap.size + 1 + 1 := by rw [h2]; simp [z1]
  have z3 : w3.heap.size = w.heap.size + 1 + 1 + 1 := by rw [h3]; simp [z2]
  have z4 : w4.heap.size = w.heap.size + 4 := by rw [h4]; simp [z3]
  have b1 : Below w.heap.size w w1 := by rw [h1]; exact (Below.refl _ _).alloc (Nat.le_refl _) _
  have b2 : Below w1.heap.size w1 w2 := by rw [h2]; exact (Below.refl _ _).alloc (Nat.le_refl _) _
  have b3 : Below w2.heap.size w2 w3 := by rw [h3]; exact (Below.refl _ _).alloc (Nat.le_refl _) _
  have b4 : Below w3.heap.size w3 w4 := by rw [h4]; exact (Below.refl _ _).alloc (Nat.le_refl _) _
  have b34 : Below w2.heap.size w2 w4 := b3.trans (b4.mono b3.size)
  have b24 : Below w1.heap.size w1 w4 := b2.trans (b34.mono b2.size)
  have b14 : Below w.heap.size w w4 := b1.trans (b24.mono b1.size)
  have k1 : Tr.Bk w1 w.heap.size [.pointer (some ⟨X, 0, none⟩)] 26 := by rw [h1]; exact ⟨heap_alloc_new w _⟩
  have k2 : Tr.Bk w2 (w.heap.size + 1) [.slice A9 Xx.length c9] 32 := by rw [h2, ← z1]; exact ⟨heap_alloc_new w1 _⟩
  have k3 : Tr.Bk w3 (w.heap.size + 1 + 1) [.int .i64 0] 27 := by rw [h3, ← z2]; exact ⟨heap_alloc_new w2 _⟩
  have k4 : Tr.Bk w4 (w.heap.size + 1 + 1 + 1) [.pointer (some ⟨X, 0, none⟩)] 26 := by rw [h4, ← z3]; exact ⟨heap_alloc_new w3 _⟩
  exact ⟨⟨b14.mono hb, hB.below b14, Dist.nil, k3.below b4, k1.below b24, k2.below b34, hi.below b14, fun k hk => hfp k ((hB.tab.fpon (fun j hj _ => b14.block j hj) k).1 hk)⟩, k4, z4, b14⟩
theorem bs_by {W W' : World} {base X T P M S : Nat} {L mk : List Rw} (h : Bs W base X T P M S L mk)
    (hk : ∀ k, k < W.heap.size → (Tr.fpT W T k ∨ k = X ∨ k = P ∨ k = M ∨ k = S) → W'.heap[k]? = W.heap[k]?) (hi : ∀ A l, Ints .i32 W A l → Ints .i32 W' A l) : Bs W' base X T P M S L mk := by
  have hf := fun k => h.tab.fpon (fun j hj h2 => hk j hj (.inl h2)) k
  exact ⟨h.lo, h.loM, h.loS, h.blk.on (hk X h.blk.lt (.inr (.inl rfl))), h.tab.on (fun j hj h2 => hk j hj (.inl h2)), h.par.on (hk P h.par.lt (.inr (.inr (.inl rfl)))) (fun D k => ⟨k.has, (fun x hx => by obtain ⟨b, o, c, h1, h2⟩ := k.at_ x hx; exact ⟨b, o, c, h1, hi _ _ h2⟩), k.no⟩),
    h.mad.on (hk M h.mad.lt (.inr (.inr (.inr (.inl rfl))))) (fun _ k => k), h.sec.on (hk S h.sec.lt (.inr (.inr (.inr (.inr rfl))))) (fun _ k => k), (fun k => h.fpM ((hf M).1 k)), (fun k => h.fpS ((hf S).1 k)), h.pm, h.ps, h.ms⟩
theorem ints_other {W W' : World} {b : Nat} (hs : W.heap.size ≤ W'.heap.size) (hk : ∀ k, k < W.heap.size → k ≠ b → W'.heap[k]? = W.heap[k]?) (hb : ∀ o x, W.cell? ⟨b, o, none⟩ ≠ some (.int .i32 x)) {A : Option Addr} {l : List Int} (h : Ints .i32 W A l) : Ints .i32 W' A l := fun i hi => by
  obtain ⟨g, o, e, hg, hc⟩ := h i hi
  have hne : g ≠ b := fun e2 => by subst e2; exact hb _ _ hc
  refine ⟨g, o, e, Nat.lt_of_lt_of_le hg hs, ?_⟩
  rw [← hc]
  unfold World.cell?
  simp only [hk g hg hne]
theorem errno_no {W : World} {b : Nat} {x : Int} (h : Tr.Bk W b [.int .i64 x] 27) : ∀ o y, W.cell? ⟨b, o, none⟩ ≠ some (.int .i32 y) := fun o y hc => by
  have hq := cell_of_blk h.blk hc
  match o, hq with
  | 0, hq => cases hq
  | n + 1, hq => simp at hq
theorem defer_no {W : World} {b : Nat} {q : Option (List Deferred)} (h : W.heap[b]? = some (.deferred q)) : ∀ o y, W.cell? ⟨b, o, none⟩ ≠ some (.int .i32 y) := fun o y hc => by
  unfold World.cell? at hc
  rw [h] at hc
  cases hc
/-- The base behind the store of what is answered, and behind the end of a range. -/
theorem bs_end {W : World} {n0 base X T P M S Ret D : Nat} {L mk : List Rw} {x : Int} (h : Bs W base X T P M S L mk) (hfp : ∀ k, Tr.fpT W T k → k < n0) (q : X < n0 ∧ P < n0 ∧ M < n0 ∧ S < n0 ∧ n0 ≤ Ret ∧ n0 ≤ D) (hr : Tr.Bk W Ret [.int .i64 x] 27) (hd : W.heap[D]? = some (.deferred (some []))) (v : Int) (o : Obj) :
    Bs ((W.setCell ⟨Ret, 0, none⟩ (.int .i64 v)).putObj D o) base X T P M S L mk := by
  have k1 : ∀ k, k ≠ Ret → (W.setCell ⟨Ret, 0, none⟩ (.int .i64 v)).heap[k]? = W.heap[k]? := fun k hk => Below.heap_setCell W ⟨Ret, 0, none⟩ (.int .i64 v) k hk
  have k2 : ∀ k, k ≠ D → ((W.setCell ⟨Ret, 0, none⟩ (.int .i64 v)).putObj D o).heap[k]? = (W.setCell ⟨Ret, 0, none⟩ (.int .i64 v)).heap[k]? := fun k hk => by
    simp only [World.putObj]
    rw [Array.getElem?_setIfInBounds_ne (fun e => hk e.symm)]
  have s1 : (W.setCell ⟨Ret, 0, none⟩ (.int .i64 v)).heap.size = W.heap.size := by simp [World.setCell]
  have s2 : ((W.setCell ⟨Ret, 0, none⟩ (.int .i64 v)).putObj D o).heap.size = W.heap.size := by simp [World.putObj, s1]
  have hRD : D ≠ Ret := fun e => by
    subst e
    rw [hr.blk] at hd
    cases hd
  refine bs_by h (fun k hk h2 => ?_) (fun A l hi => ?_)
  · have hk0 : k < n0 := by
      rcases h2 with h2 | rfl | rfl | rfl | rfl
      · exact hfp k h2
      · exact q.1
      · exact q.2.1
      · exact q.2.2.1
      · exact q.2.2.2.1
    rw [k2 k (by omega), k1 k (by omega)]
  · have i1 : Ints .i32 (W.setCell ⟨Ret, 0, none⟩ (.int .i64 v)) A l := ints_other (by rw [s1]; exact Nat.le_refl _) (fun k _ hk => k1 k hk) (errno_no hr) hi
    exact ints_other (by rw [s1, s2]; exact Nat.le_refl _) (fun k _ hk => k2 k hk) (defer_no (by rw [k1 D hRD]; exact hd)) i1
theorem att_val (L : List Rw) : (knwB L).attach.map (fun x : Kn L => x.1) = knwB L := List.attach_map_subtype_val _
theorem md_in {L : List Rw} {Xx : List Int} {y : Rw} (h : parA L y.fr = some y) (hn : y.fr ∈ Xx) : mdR L Xx y.fr = none := made_no h (by
  cases hm : madeB L Xx y with
  | false => rfl
  | true => exact absurd hn (made_iff.1 hm).2.2.1)
theorem md_cl {L : List Rw} {Xx : List Int} {y : Rw} (hF : Frm L) (h : parA L y.fr = some y) (hn : 0 < clsB L y.fr) : mdR L Xx y.fr = none := made_no h (by
  cases hm : madeB L Xx y with
  | false => rfl
  | true =>
    have := (made_iff.1 hm).2.2.2.1
    rw [cls_at hF (parA_some h).1] at hn
    omega)
theorem md_ca {L : List Rw} {Xx : List Int} {y : Rw} {a b : Int} (h : parA L y.fr = some y) (e : y.into = [a, b]) (hn : 0 < clsB L a) : mdR L Xx y.fr = none := made_no h (by
  cases hm : madeB L Xx y with
  | false => rfl
  | true =>
    have := (made_iff.1 hm).2.2.2.2
    rw [e] at this
    have h2 : clsB L a = 0 := this
    omega)
theorem md_yes {L : List Rw} {Xx : List Int} {y : Rw} {a b : Int} (hF : Frm L) (h : parA L y.fr = some y) (hk : y.kd = []) (e : y.into = [a, b]) (h1 : y.fr ∉ Xx) (h2 : ¬ 0 < clsB L y.fr) (h3 : ¬ 0 < clsB L a) : mdR L Xx y.fr = some y := made_yes h (made_iff.2 ⟨hk, by rw [e]; rfl, h1, by
    rw [cls_at hF (parA_some h).1] at h2
    have := (hF.fin y (parA_some h).1).cl0
    omega, by
    rw [e]
    show clsB L a = 0
    have := (cls_bd hF a).1
    omega⟩)
theorem grown_of_drew {W W' : World} {row : Option Nat} (h : W.drew.grownBy W' row) : W.grownBy W' row := ⟨h.os, h.tape, h.output, h.size, h.block⟩
theorem grown_skip {W W' W'' : World} {M S : Nat} (h : W.grownBy W' (some M)) (k : W'.grownBy W'' (some S)) : ∀ j, j < W.heap.size → j ≠ M → j ≠ S → W''.heap[j]? = W.heap[j]? := fun j hj h1 h2 =>
  (k.block j (by have := h.size; omega) (fun e => by cases e; exact h2 rfl)).trans (h.block j hj (fun e => by cases e; exact h1 rfl))
/-- What two stores leave. -/
theorem jn_more {w0 W W7 W8 : World} {B n0 base X T P M S Ret Bb Be c9 n n' : Nat} {A9 : Option Addr} {L : List Rw} {Xx : List Int} {pre : List (Kn L)} {x : Kn L} {y : Rw} {a b : Int} {D D' d : DataW Unit} (J : JnI w0 n0 base X T P M S Ret Bb Be A9 c9 L Xx pre W) (hM : mdR L Xx x.1 = some y) (hA : y.into = [a, b]) (ha : wfR a) (hb : wfR b)
    (hp : (pairP (mkR L Xx (pre.map (·.1))) a b).2 = false) (hn : n ≤ (mkR L Xx (pre.map (·.1))).length) (hn' : n' ≤ (mkR L Xx (pre.map (·.1))).length) (hD : IsMap D) (hD' : IsMap D') (h1 : MadIs D (mkR L Xx (pre.map (·.1)))) (h2 : SecIs D' (mkR L Xx (pre.map (·.1))))
    (ho : W7.ownsMap Tryz.prog 67 (plainElem Tryz.prog 21) M (n + 1) (D.put (kl2 a b) (.lit (.int .i32 y.fr)))) (hg : W.grownBy W7 (some M)) (ho' : W8.ownsMap Tryz.prog 21 unitElem S (n' + 1) (D'.put (.int .i32 b) d)) (hg' : W7.grownBy W8 (some S))
    (q : M < B ∧ S < B ∧ base ≤ M ∧ base ≤ S ∧ base ≤ w0.heap.size) : KeepsFrom B W W8 ∧ KpO (fun _ _ => False) W W8 ∧ JnI w0 n0 base X T P M S Ret Bb Be A9 c9 L Xx (pre ++ [x]) W8 := by
  have hMl := J.bs.mad.lt
  have hSl := J.bs.sec.lt
  have hMS := J.bs.ms
  have hM7 : W7.heap[S]? = W.heap[S]? := hg.block S hSl (fun e => by cases e; exact hMS rfl)
  obtain ⟨_, _, _, oM, _⟩ := J.bs.mad
  obtain ⟨_, _, _, oS, _⟩ := J.bs.sec
  have nM : ∀ c fr t, W.heap[M]? ≠ some (.cells c fr t) := fun c fr t => map_no_cells oM _ _ _
  have nS : ∀ c fr t, W7.heap[S]? ≠ some (.cells c fr t) := fun c fr t => by rw [hM7]; exact map_no_cells oS _ _ _
  have hsz : W.heap.size ≤ W8.heap.size := Nat.le_trans hg.size hg'.size
  have hk := grown_skip hg hg'
  have hc := fun k (h1 : k < W.heap.size) (h2 : ∃ c t fr, W.heap[k]? = some (.cells c t fr)) => hk k h1 (fun e => by obtain ⟨c, t, fr, h⟩ := h2; subst e; exact nM _ _ _ h) (fun e => by obtain ⟨c, t, fr, h⟩ := h2; subst e; exact nS _ _ _ (hM7.trans h))
  have hft := fun k (h1 : k < W.heap.size) (h2 : Tr.fpT W T k) => hk k h1 (fun e => J.bs.fpM (by rw [← e]; exact h2)) (fun e => J.bs.fpS (by rw [← e]; exact h2))
  have e : mkR L Xx ((pre ++ [x]).map (·.1)) = mkR L Xx (pre.map (·.1)) ++ [y] := by rw [List.map_append, List.map_cons, List.map_nil, mkR_snoc, hM]; rfl
  have hd : Dist (mkR L Xx (pre.map (·.1)) ++ [y]) := J.dist.snoc (by rw [hA]; rfl) (by rw [hA]; exact hp)
  refine ⟨(KeepsFrom.of_grownBy hg (fun j e => by cases e; exact q.1)).trans (KeepsFrom.of_grownBy hg' (fun j e => by cases e; exact q.2.1)), (kpF_grown hg nM).trans (kpF_grown hg' nS), ?_⟩
  refine ⟨(J.bel.grown hg (Nat.le_trans q.2.2.2.2 J.bel.size) (fun k e => by cases e; exact q.2.2.1)).grown hg' (Nat.le_trans q.2.2.2.2 (Nat.le_trans J.bel.size hg.size)) (fun k e => by cases e; exact q.2.2.2.1), ?_, ?_, J.ret.on (hc Ret J.ret.lt ⟨_, _, _, J.ret.blk⟩), J.bb.on (hc Bb J.bb.lt ⟨_, _, _, J.bb.blk⟩), J.be.on (hc Be J.be.lt ⟨_, _, _, J.be.blk⟩), ints_cells hsz hc J.ints, fun k hk2 => J.fp k ((J.bs.tab.fpon hft k).1 hk2)⟩
  · rw [e]
    exact bs_more J.bs hsz hk hn hn' hD hD' h1 h2 (own_at ho (hg'.block M (by have := hg.size; omega) (fun e => by cases e; exact hMS rfl))) ho' hA ha hb hd.new
  · rw [e]
    exact hd
set_option maxRecDepth 100000 in
set_option maxHeartbeats 16000000 in
theorem join_walk (base X T P M S : Nat) (L : List Rw) (Xx : List Int) (A9 : Option Addr) (c9 : Nat) (w : World) (hF : Frm L) (hl : (knwB L).length ≤ 4096) (hB : Bs w base X T P M S L []) (hT : Ha.Tab w) (hi : Ints .i32 w A9 Xx) (hX : SInv Xx) (hb : base ≤ w.heap.size) (hgl : 0 + 1 ≤ base) :
    Calls Tryz.prog 27 #[.pointer (some ⟨X, 0, none⟩), .slice A9 Xx.length c9] w (JnP w w.heap.size base X T P M S L Xx) := by
  have hfp : ∀ k, Tr.fpT w T k → k < w.heap.size := fun k hk => (hB.tab.fpb hk).2
  obtain ⟨s1, s2, s3, s4⟩ := jn_start (c9 := c9) hB hi hb hfp
  have p1 := hB.par.lt
  have p2 := hB.mad.lt
  have p3 := hB.sec.lt
  have p4 := hB.blk.lt
  have HF := Lib.hid hF
  have HB := Lib.hid hB
  have HT := Lib.hid hT
  have HX := Lib.hid hX
  have hxl := hX.len
  clear hF hB hT hX hfp
  refine calls_marks Tryz.func27 rfl ?_
  simp only [Tryz.ntmps27, List.size_toArray, List.length_cons, List.length_nil, Nat.reduceAdd, Nat.reduceSub, Array.replicate_succ, Array.replicate_zero, List.push_toArray, List.append_toArray, List.nil_append, List.cons_append]
  have S1 := Lib.hid s1
  have S2 := Lib.hid s2
  have S3 := Lib.hid s3
  have S4 := Lib.hid s4
  clear s1 s2 s3 s4
  go_wp2_with fail
  refine (known_call _ (.pointer (some ⟨X, 0, none⟩)) rfl).mono ?_
  rintro e w1 ⟨rfl, rfl⟩
  go_wp2_with fail
  obtain ⟨W0, hW0⟩ : ∃ x, x = (((w.alloc (.cells #[.pointer (some ⟨X, 0, none⟩)] 26)).alloc (.cells #[.slice A9 Xx.length c9] 32)).alloc (.cells #[.int .i64 0] 27)).alloc (.cells #[.pointer (some ⟨X, 0, none⟩)] 26) := ⟨_, rfl⟩
  rw [← hW0] at S1 S2 S3 S4
  rw [← hW0]
  obtain ⟨Bb, hBb⟩ : ∃ x, x = w.heap.size := ⟨_, rfl⟩
  obtain ⟨Be, hBe⟩ : ∃ x, x = Bb + 1 := ⟨_, rfl⟩
  obtain ⟨Ret, hRet⟩ : ∃ x, x = Be + 1 := ⟨_, rfl⟩
  obtain ⟨Bt, hBt⟩ : ∃ x, x = Ret + 1 := ⟨_, rfl⟩
  rw [← hBb, ← hBe, ← hRet] at S1
  rw [← hBb, ← hBe, ← hRet, ← hBt] at S2
  rw [← hBb, ← hBe, ← hRet, ← hBt]
  have hsz : W0.heap.size = Bb + 4 := by rw [hBb]; exact S3.out
  have q1 : w.heap.size ≤ W0.heap.size := by rw [S3.out]; omega
  have q2 : Bb ≤ W0.heap.size := by omega
  have q3 : P < Bb ∧ M < Bb ∧ S < Bb ∧ X < Bb ∧ base ≤ Bb ∧ Ret < W0.heap.size ∧ Ret ≠ Bb ∧ Ret ≠ Be ∧ Bb < Ret := by omega
  have Q3 := Lib.hid q3
  have HBb := Lib.hid hBb
  clear hW0 hBb hBe hRet hBt hsz S3 q3
  refine rangeG (α := Kn L) (G := 35) (lb := #[.pointer (some ⟨Bt, 0, none⟩)]) rfl (enters_of Tryz.func35 (by kernel_rfl) rfl) (known_iter (fun _ _ => False) 4 Bt (.pointer (some ⟨X, 0, none⟩)) L [] W0 HF.out (by omega) (.inr ⟨base, X, T, P, M, S, rfl, HB.out.below S4.out⟩) S2.out (OwnO.none _))
    (fun h k => h.trans k) (fun W l o o' _ h ho _ => kpF_put W l o o' h ho) (Below.refl _ _) (fun _ => rfl)
    (JnI w Bb base X T P M S Ret Bb Be A9 c9 L Xx) (fun c pre W => c = .ret ∧ Below base w W ∧ Tr.Bk W Ret [.int .i64 12] 27 ∧ (pre <+: (knwB L).attach → ¬ Ba.S4 L Xx)) (jnI_from q2 hb (by have := Q3.out; omega) Q3.out.1 Q3.out.2.1 Q3.out.2.2.1)
    (fun c s A B row hs hg hr => ⟨hs.1, hs.2.1.grown hg (Nat.le_trans hb hs.2.1.size) (fun k e => by have := (hr k e).1; have := Q3.out; omega), from_bk hg hr hs.2.2.1, hs.2.2.2⟩) S1.out
    (fun tm x => (tm.setIfInBounds 14 (.int .i32 x.1)).setIfInBounds 5 (.int .i32 x.1)) ?assign ?body ?done ?stop
  case assign =>
    intro l x W K hK
    unfold encK
    gi_wp2
    exact hK
  case stop =>
    rintro D c pre W hD hp ⟨rfl, hbel, hret, hno⟩ hK
    have HK := Lib.hid hK
    have HBel := Lib.hid hbel
    have HN := Lib.hid (hno hp)
    have hre : D ≠ Ret := by have := Q3.out; omega
    have hcr := cell_put (o := .deferred none) (hret.c (i := 0) rfl) (D := D) (fun e => hre e.symm)
    clear hK hbel hret hno
    gi_wp2
    exact leave_mark HK.out (leave_nil (v := .int .i64 12) (by simp [results, Tryz.results27, go_sem, hcr]) ⟨12, rfl, ⟨fun h => by simp at h, fun h => absurd h HN.out⟩, below_put HBel.out (by have := Q3.out; omega), fun h => by simp at h⟩)
  case done =>
    rintro D ys W hD rfl hI hK
    have hI2 : Dist (mkR L Xx (knwB L)) := by have := hI.dist; rwa [att_val] at this
    have HD := Lib.hid (join_done HF.out hI2)
    have HS := Lib.hid (show Bs W base X T P M S L (prsB L Xx) by have := hI.bs; rwa [att_val, mkR_all HF.out] at this)
    have HI := Lib.hid hI
    have HK := Lib.hid hK
    have hrc := hI.ret.c (i := 0) rfl
    have hrf := hI.ret.fr 0
    have hre : D ≠ Ret := by have := Q3.out; omega
    have HKS := Lib.hid (fun v => (Below.heap_setCell W ⟨Ret, 0, none⟩ v D hre).trans HK.out)
    have hcr := cell_put (o := .deferred none) ((HI.out.ret.set 0 (.int .i64 0)).c (i := 0) rfl) (D := D) (fun e => hre e.symm)
    clear hI hI2 hK
    go_wp2_with fail
    exact leave_mark (HKS.out _) (leave_nil (v := .int .i64 0) (by simp [results, Tryz.results27, go_sem, hcr]) ⟨0, rfl, ⟨fun _ => HD.out, fun _ => rfl⟩, below_put (HI.out.bel.setCell (p := ⟨Ret, 0, none⟩) (by have := Q3.out; simp only; omega) _) (by have := Q3.out; omega),
      fun _ => bs_end HS.out HI.out.fp (by have := Q3.out; omega) HI.out.ret HK.out 0 _⟩)
  case body =>
    intro l pre x W hI hlen
    have HI := Lib.hid hI
    obtain ⟨y, hy⟩ := Option.isSome_iff_exists.1 (knw_mem.1 x.2)
    obtain ⟨hy1, hy2, hy3⟩ := parA_some hy
    have hwf : wfR x.1 := by rw [← hy3]; exact wfR_scal (HF.out.fin y hy1).fr
    obtain ⟨kd, into, A, c, hrun, hii, hm⟩ := lookup_parts hI.bs HF.out hwf
    rw [hy] at hm
    obtain ⟨rfl, rfl⟩ := hm
    have HP := Lib.hid (pair_any A c y.kd y.into W hii)
    have b0 := hI.bb.c (i := 0) rfl
    have x1 := hI.bs.blk.c (i := 1) rfl
    unfold parV at hrun HP
    have HY := Lib.hid hy
    have HYL := Lib.hid hy1
    have HYN := Lib.hid hy2
    have HYF := Lib.hid hy3
    have HW := Lib.hid hwf
    clear hI hy hy1 hy2 hy3 hwf hii
    have HB1 := Lib.hid (fun W' (hb' : Below W.heap.size W W') => HI.out.below hb' hb)
    have HFnd := Lib.hid (fun W' (hb' : Below W.heap.size W W') => found_any A9 c9 Xx x.1 W' (HI.out.ints.below hb') (by omega) HX.out.rise)
    have HCls := Lib.hid (fun r W' (hb' : Below W.heap.size W W') => class_any (.pointer (some ⟨X, 0, none⟩)) r W' HF.out (.inr ⟨base, X, T, P, M, S, rfl, HI.out.bs.below hb'⟩))
    have HKF := Lib.hid (fun W' (hb' : Below W.heap.size W W') => And.intro (kf_below (B := W0.heap.size) hb') (kpF_below hb'))
    gi_wp2
    refine ⟨trivial, CallsIn.inRound l (callsIn_wide.2 (HP.out.mono ?_))⟩
    rintro e W1 ⟨rfl, hb1⟩
    have D1 := Lib.hid hb1
    clear hb1 HP
    by_cases h2 : y.kd = [] ∧ y.into.length = 2
    · obtain ⟨hk, h2⟩ := h2
      obtain ⟨a, b, hab⟩ : ∃ a b, y.into = [a, b] := ⟨_, _, two_of h2⟩
      have HE : Hid (prE y.kd y.into = (a, b, true)) := Lib.hid (by unfold prE; rw [if_pos ⟨hk, h2⟩, hab]; rfl)
      have HK := Lib.hid hk
      have HA := Lib.hid hab
      have hwa : wfR a := wfR_scal ((HF.out.fin y HYL.out).sc a (by rw [hab]; simp))
      have hwb : wfR b := wfR_scal ((HF.out.fin y HYL.out).sc b (by rw [hab]; simp))
      have HWA := Lib.hid hwa
      have HWB := Lib.hid hwb
      have HY2 : Hid (parA L y.fr = some y) := Lib.hid (by have := HY.out; rwa [← HYF.out] at this)
      have hin := fun (h : x.1 ∈ Xx) => md_in HY2.out (by rw [HYF.out]; exact h)
      have hcl := fun (h : 0 < clsB L x.1) => md_cl (Xx := Xx) HF.out HY2.out (by rw [HYF.out]; exact h)
      have hca := fun (h : 0 < clsB L a) => md_ca (Xx := Xx) HY2.out HA.out h
      have hye := fun (h1 : x.1 ∉ Xx) (h2 : ¬ 0 < clsB L x.1) (h3 : ¬ 0 < clsB L a) => md_yes HF.out HY2.out HK.out HA.out (by rw [HYF.out]; exact h1) (by rw [HYF.out]; exact h2) h3
      rw [HYF.out] at hin hcl hca hye
      have HIN := Lib.hid hin
      have HCL := Lib.hid hcl
      have HCA := Lib.hid hca
      have HYE := Lib.hid hye
      rw [HE.out]
      unfold prV
      clear h2 hrun hk hab hwa hwb hin hcl hca hye HY2
      have D2 := Lib.hid (D1.out.alloc D1.out.size (.cells #[.int .i32 a, .int .i32 b] 67))
      have K2 : Hid (Tr.Bk (W1.alloc (.cells #[.int .i32 a, .int .i32 b] 67)) W1.heap.size [.int .i32 a, .int .i32 b] 67) := Lib.hid ⟨heap_alloc_new W1 _⟩
      have e2 := (HB1.out _ D2.out).be.c (i := 0) rfl
      gi_wp2
      refine ⟨trivial, CallsIn.inRound l (callsIn_wide.2 ((HFnd.out _ D2.out).mono ?_))⟩
      rintro e W3 ⟨rfl, hb3⟩
      have D3 := Lib.hid (D2.out.trans (hb3.mono D2.out.size))
      have K3 := Lib.hid (K2.out.below hb3)
      clear hb3 e2 K2 D2
      by_cases hf : x.1 ∈ Xx
      · have HM := Lib.hid (HIN.out hf)
        rw [decide_eq_true hf]
        clear hf
        gi_wp2
        refine ⟨trivial, ?_⟩
        gi_wp2
        refine ⟨trivial, ?_⟩
        gi_wp2
        exact ⟨(HKF.out _ D3.out).1, (HKF.out _ D3.out).2, (HB1.out _ D3.out).skip HM.out⟩
      · have HNI := Lib.hid hf
        rw [decide_eq_false hf]
        clear hf
        have b3 := (HB1.out _ D3.out).bb.c (i := 0) rfl
        gi_wp2
        refine ⟨trivial, CallsIn.inRound l (callsIn_wide.2 ((HCls.out _ _ D3.out).mono ?_))⟩
        rintro e W4 ⟨rfl, rfl⟩
        have D4 := D3
        have K4 := K3
        clear b3 K3 D3
        obtain ⟨cc, hcc⟩ : ∃ cc, cc = clsB L x.1 := ⟨_, rfl⟩
        rw [← hcc]
        have HCC := Lib.hid hcc
        clear hcc
        by_cases hf : 0 < cc
        · have HM := Lib.hid (HCL.out (by rw [← HCC.out]; exact hf))
          gi_wp2
          refine ⟨trivial, ?_⟩
          gi_wp2
          exact ⟨(HKF.out _ D4.out).1, (HKF.out _ D4.out).2, (HB1.out _ D4.out).skip HM.out⟩
        · have HN4 := Lib.hid hf
          have b4 := (HB1.out _ D4.out).bb.c (i := 0) rfl
          have k4 := K4.out.c (i := 0) rfl
          gi_wp2
          refine ⟨trivial, CallsIn.inRound l (callsIn_wide.2 ((HCls.out _ _ D4.out).mono ?_))⟩
          rintro e W5 ⟨rfl, rfl⟩
          have D5 := D4
          have K5 := K4
          clear b4 k4 K4 D4 hf
          obtain ⟨ca, hcca⟩ : ∃ ca, ca = clsB L a := ⟨_, rfl⟩
          rw [← hcca]
          have HCA2 := Lib.hid hcca
          clear hcca
          by_cases hf : 0 < ca
          · have HM := Lib.hid (HCA.out (by rw [← HCA2.out]; exact hf))
            gi_wp2
            exact ⟨(HKF.out _ D5.out).1, (HKF.out _ D5.out).2, (HB1.out _ D5.out).skip HM.out⟩
          · have HM := Lib.hid (HYE.out HNI.out (by have := HN4.out; rw [HCC.out] at this; exact this) (by have := hf; have e := HCA2.out; omega))
            have b5 := (HB1.out _ D5.out).bb.c (i := 0) rfl
            have k5 := K5.out.c (i := 0) rfl
            have k6 := K5.out.c (i := 1) rfl
            have HPr := Lib.hid (pairM_any (L := L) (mk := mkR L Xx (pre.map (·.1))) (.pointer (some ⟨X, 0, none⟩)) a b W3 (.inr ⟨base, X, T, P, M, S, rfl, (HB1.out _ D5.out).bs⟩) (HT.out.below (HB1.out _ D5.out).bel hgl) HWA.out HWB.out)
            gi_wp2
            refine ⟨trivial, CallsIn.inRound l (callsIn_wide.2 (HPr.out.mono ?_))⟩
            rintro e W6 ⟨rfl, hb6⟩
            have D6 := Lib.hid (D5.out.trans (hb6.mono D5.out.size))
            have K6 := Lib.hid (K5.out.below hb6)
            clear hb6 b5 k5 k6 K5 D5 hf HPr
            obtain ⟨pr, pf, hpr⟩ : ∃ pr pf, pairP (mkR L Xx (pre.map (·.1))) a b = (pr, pf) := ⟨_, _, rfl⟩
            have HPE := Lib.hid hpr
            rw [hpr]
            clear hpr
            unfold lkV
            have J6 := Lib.hid (HB1.out _ D6.out)
            cases pf with
            | true =>
              have r6 := J6.out.ret.c (i := 0) rfl
              have rf6 := J6.out.ret.fr 0
              gi_wp2
              refine ⟨(HKF.out _ D6.out).1.trans (kf_set (by have := Q3.out; omega) _), rfl, J6.out.bel.setCell (p := ⟨Ret, 0, none⟩) (by have := Q3.out; simp only; omega) _, J6.out.ret.set 0 _, fun hp => ?_⟩
              have hpm : pre.map (·.1) ++ [x.1] <+: knwB L := by
                have := hp.map (fun z : Kn L => z.1)
                rwa [att_val, List.map_append] at this
              exact join_fail HF.out hpm HM.out (by rw [HA.out]; show (pairP _ a b).2 = true; rw [HPE.out])
            | false =>
              have b6 := J6.out.bb.c (i := 0) rfl
              have xM := J6.out.bs.blk.c (i := 2) rfl
              have xS := J6.out.bs.blk.c (i := 3) rfl
              have k6 := K6.out.c (i := 0) rfl
              have k7 := K6.out.c (i := 1) rfl
              gi_wp2
              refine wpIn_round_still_tail 6 (by kernel_rfl) (by kernel_rfl) (by kernel_rfl) ?_
              simp only [List.take_succ_cons, List.take_zero, List.drop_succ_cons, List.drop_zero]
              repeat still_step
              refine wpStill_nil ?_
              obtain ⟨n, D, hn, ho, hmi⟩ := J6.out.bs.mad
              obtain ⟨n', D', hn', ho', hsi⟩ := J6.out.bs.sec
              have hml : (mkR L Xx (pre.map (·.1))).length < 4096 := by
                have := mkR_len (L := L) (X := Xx) (pre.map (·.1))
                rw [List.length_map] at this
                omega
              refine wpList_mapUpdate_own _ rfl _ _ _ 63 rfl 67 21 law2 Tryz.underlying63 (plainElem Tryz.prog 21) M n D rfl (own_at ho rfl) (by unfold maxLen; omega) _ _ _ rfl rfl (key2 HWA.out HWB.out) (.lit (.int .i32 x.1)) [] (plainElem_int Tryz.underlying21 HW.out) ?_
              intro W7 hown7 hgrow7
              clear b6 xM k6
              have G7 := Lib.hid (grown_of_drew hgrow7)
              have O7 := Lib.hid hown7
              have l7 := J6.out.bs.mad.lt
              have hMB : M ≠ Bb ∧ M ≠ X ∧ M ≠ W1.heap.size := ⟨fun e => J6.out.bs.mad.not_cells J6.out.bb e.symm, fun e => J6.out.bs.mad.not_cells J6.out.bs.blk e.symm, fun e => J6.out.bs.mad.not_cells K6.out e.symm⟩
              have b7 := (J6.out.bb.on (G7.out.block Bb J6.out.bb.lt (fun e => by cases e; exact hMB.1 rfl))).c (i := 0) rfl
              have x7 := (J6.out.bs.blk.on (G7.out.block X J6.out.bs.blk.lt (fun e => by cases e; exact hMB.2.1 rfl))).c (i := 3) rfl
              have k8 := (K6.out.on (G7.out.block W1.heap.size K6.out.lt (fun e => by cases e; exact hMB.2.2 rfl))).c (i := 1) rfl
              have oS7 := own_at ho' (G7.out.block S J6.out.bs.sec.lt (fun e => by cases e; exact J6.out.bs.ms rfl))
              refine (show normQ _ .normal _ _ from ?_)
              simp only [normQ, Exit.then]
              gi_wp2
              simp only [Act.put]
              refine wpIn_round_still_tail 7 (by kernel_rfl) (by kernel_rfl) (by kernel_rfl) ?_
              simp only [List.take_succ_cons, List.take_zero, List.drop_succ_cons, List.drop_zero]
              repeat still_step
              refine wpStill_nil ?_
              refine wpList_mapUpdate_own _ rfl _ _ _ 64 rfl 21 70 law21 Tryz.underlying64 unitElem S n' D' rfl (own_at oS7 rfl) (by unfold maxLen; omega) _ _ _ rfl rfl (keyR HWB.out) (.agg []) [] rfl ?_
              intro W8 hown8 hgrow8
              have hy7 : W7.ownsMap Tryz.prog 67 (plainElem Tryz.prog 21) M (n + 1) (D.put (kl2 a b) (.lit (.int .i32 y.fr))) := by rw [HYF.out]; exact O7.out
              have HJ := Lib.hid (jn_more (B := W0.heap.size) J6.out HM.out HA.out HWA.out HWB.out (by rw [HPE.out]) hn hn' ho.isMap ho'.isMap hmi hsi hy7 G7.out hown8 (grown_of_drew hgrow8) (by have := Q3.out; have := HBb.out; have := J6.out.bs.loM; have := J6.out.bs.loS; omega))
              clear hy7 hown8 hgrow8
              refine (show normQ _ .normal _ _ from ?_)
              simp only [normQ]
              gi_wp2
              exact ⟨(HKF.out _ D6.out).1.trans HJ.out.1, (HKF.out _ D6.out).2.trans HJ.out.2.1, HJ.out.2.2⟩
    · have HE : Hid (prE y.kd y.into = (0, 0, false)) := Lib.hid (by unfold prE; rw [if_neg h2])
      have HM : Hid (mdR L Xx x.1 = none) := Lib.hid (made_no HY.out (by
        cases hm : madeB L Xx y with
        | false => rfl
        | true => exact absurd ⟨(made_iff.1 hm).1, (made_iff.1 hm).2.1⟩ h2))
      rw [HE.out]
      unfold prV
      clear h2 hrun
      have D2 := Lib.hid (D1.out.alloc D1.out.size (.cells #[.int .i32 0, .int .i32 0] 67))
      have e2 := (HB1.out _ D2.out).be.c (i := 0) rfl
      gi_wp2
      refine ⟨trivial, CallsIn.inRound l (callsIn_wide.2 ((HFnd.out _ D2.out).mono ?_))⟩
      rintro e W3 ⟨rfl, hb3⟩
      have D3 := Lib.hid (D2.out.trans (hb3.mono D2.out.size))
      clear hb3 e2
      generalize decide (x.1 ∈ Xx) = f
      cases f <;> gi_wp2
      all_goals (refine ⟨trivial, ?_⟩; gi_wp2)
      all_goals (refine ⟨trivial, ?_⟩; gi_wp2)
      all_goals exact ⟨(HKF.out _ D3.out).1, (HKF.out _ D3.out).2, (HB1.out _ D3.out).skip HM.out⟩

end Go.Proofs.YtagbeioooohbgaaGreatDoor.Ba
end
section
namespace Go.Proofs.YtagbeioooohbgaaGreatDoor.Ba
open Go.RowKit Go.Maps Go.Shelf Uc Ha
open Fi (scal scal_bd)
open Tr (law21 own_keep own_one wf32 isKey_int int_ne encZ)

attribute [local go_sem] Oper.semAt_some

/-! Pairs: the characters that two make, out of Known's -/
theorem pairs_call (w : World) (bv : Value) (hv : bv.oneCell' = true) : Calls Tryz.prog 15 #[bv] w fun e w' => e = .returned (.func (.func 32) #[] #[.pointer (some ⟨w.heap.size, 0, none⟩)]) ∧ w' = w.alloc (.cells #[bv] 26) := by
  go_enter Tryz.func15, Tryz.ntmps15
  go_wp2_with fail
  go_ret
  exact ⟨rfl, rfl⟩
abbrev Pr (L : List Rw) (Xx : List Int) : Type := { z : Rw // z ∈ prsB L Xx }
def encP {L : List Rw} {Xx : List Int} (x : Pr L Xx) : Array Value := #[.int .i32 x.1.fr, .agg #[.int .i32 (x.1.into.getD 0 0), .int .i32 (x.1.into.getD 1 0)]]
def mdA {L : List Rw} (Xx : List Int) (x : Kn L) : Option (Pr L Xx) := (mdR L Xx x.1).pmap (fun z h => ⟨z, h⟩) fun _ h => (mdR_some h).1
def prA {L : List Rw} (Xx : List Int) (pre : List (Kn L)) : List (Pr L Xx) := pre.filterMap (mdA Xx)
theorem mdA_val {L : List Rw} {Xx : List Int} (x : Kn L) : (mdA Xx x).map (·.1) = mdR L Xx x.1 := by
  unfold mdA
  rw [Option.map_pmap]
  simp
theorem mdA_none {L : List Rw} {Xx : List Int} {x : Kn L} (h : mdR L Xx x.1 = none) : mdA Xx x = none := by
  have := mdA_val (Xx := Xx) x
  rw [h] at this
  simpa using this
theorem mdA_some {L : List Rw} {Xx : List Int} {x : Kn L} {z : Rw} (h : mdR L Xx x.1 = some z) : ∃ hz, mdA Xx x = some ⟨z, hz⟩ := by
  have := mdA_val (Xx := Xx) x
  rw [h] at this
  cases hm : mdA Xx x with
  | none => rw [hm] at this; cases this
  | some y =>
    rw [hm] at this
    simp only [Option.map_some, Option.some.injEq] at this
    subst this
    exact ⟨y.2, rfl⟩
theorem prA_no {L : List Rw} {Xx : List Int} {x : Kn L} (h : mdR L Xx x.1 = none) (pre : List (Kn L)) : prA Xx (pre ++ [x]) = prA Xx pre := by
  unfold prA
  rw [List.filterMap_append, List.filterMap_cons, mdA_none h]
  simp
theorem prA_yes {L : List Rw} {Xx : List Int} {x : Kn L} {z : Rw} (h : mdR L Xx x.1 = some z) (pre : List (Kn L)) : ∃ hz, prA Xx (pre ++ [x]) = prA Xx pre ++ [⟨z, hz⟩] := by
  obtain ⟨hz, e⟩ := mdA_some h
  refine ⟨hz, ?_⟩
  unfold prA
  rw [List.filterMap_append, List.filterMap_cons, e]
  simp
theorem prA_val {L : List Rw} {Xx : List Int} (pre : List (Kn L)) : (prA Xx pre).map (·.1) = mkR L Xx (pre.map (·.1)) := by
  unfold prA mkR
  rw [List.map_filterMap, List.filterMap_map]
  congr 1
  funext x
  exact mdA_val x
theorem att_valP (L : List Rw) (Xx : List Int) : (prsB L Xx).attach.map (fun x : Pr L Xx => x.1) = prsB L Xx := List.attach_map_subtype_val _
theorem prA_all {L : List Rw} {Xx : List Int} (h : Frm L) : prA Xx (knwB L).attach = (prsB L Xx).attach := by
  have h1 : (prA Xx (knwB L).attach).map (fun x : Pr L Xx => x.1) = (prsB L Xx).attach.map (fun x : Pr L Xx => x.1) := by
    rw [att_valP, prA_val, show (knwB L).attach.map (fun x : Kn L => x.1) = knwB L from List.attach_map_subtype_val _, mkR_all h]
  exact (List.map_inj_right (fun x y e => Subtype.ext e)).1 h1
theorem prA_pre {L : List Rw} {Xx : List Int} (h : Frm L) {pre : List (Kn L)} (hp : pre <+: (knwB L).attach) : prA Xx pre <+: (prsB L Xx).attach := by
  rw [← prA_all h]
  exact hp.filterMap _
theorem prA_len {L : List Rw} {Xx : List Int} (pre : List (Kn L)) : (prA Xx pre).length ≤ pre.length := List.length_filterMap_le _ _
/-- Two that are looked up make the character just where it is made of them. -/
theorem md_lk {L : List Rw} {Xx : List Int} (hF : Frm L) (h4 : S4 L Xx) {r : Int} {y : Rw} {a b : Int} (h : parA L r = some y) (e : y.into = [a, b]) : lkM (prsB L Xx) a b = some r ↔ mdR L Xx r = some y := by
  obtain ⟨h1, h2, rfl⟩ := parA_some h
  rw [makes_iff hF h4 h1 e, mem_prs]
  constructor
  · intro hm
    unfold mdR
    rw [h]
    simp [Option.filter, hm.2]
  · intro hm
    exact ⟨h1, (mem_prs.1 (mdR_some hm).1).2⟩
/-- What a round over a base's pairs keeps. -/
def KqP (n0 : Nat) (O : World → Nat → Prop) (W W' : World) : Prop := KpO O W W' ∧ Below n0 W W'
theorem kpO_below {O : World → Nat → Prop} {w V V' : World} (hO : OwnO O w) (h0 : w.heap.size ≤ V.heap.size) (h : Below V.heap.size V V') : KpO O V V' :=
  ⟨h.size, (fun k _ _ hB _ _ => h.block k hB.lt), fun k hk => .inl (hO.on V V' (fun j hj => h.block j (by omega)) k hk)⟩
theorem kpO_put {O : World → Nat → Prop} {w : World} (hO : OwnO O w) (V : World) (l : Nat) (o o' : Obj) (hl : w.heap.size ≤ l) (h : V.heap[l]? = some o) (ho : o.isCells = false) : KpO O V (V.putObj l o') :=
  ⟨by simp [World.putObj], (fun k cs t hB _ _ => World.putObj_heap_other fun e => by
    subst e
    rw [hB.blk] at h
    cases h
    cases ho), fun k hk => .inl (hO.on V _ (fun j hj => World.putObj_heap_other (by omega)) k hk)⟩
/-- What stands between the rounds of Known, in Pairs. -/
structure PaI {L : List Rw} (Xx : List Int) (J : List (Pr L Xx) → World → Prop) (w0 : World) (ws : Nat) (O : World → Nat → Prop) (Bt By : Nat) (bv yv : Value) (pre : List (Kn L)) (V : World) : Prop where
  j : J (prA Xx pre) V
  sz : ws ≤ V.heap.size
  bel : Below w0.heap.size w0 V
  bt : Tr.Bk V Bt [bv] 26
  nt : ¬ O V Bt
  by_ : Tr.Bk V By [yv] 72
  ny : ¬ O V By
theorem paI_from {L : List Rw} {Xx : List Int} {J : List (Pr L Xx) → World → Prop} {w0 w : World} {O : World → Nat → Prop} {Bt By B : Nat} {bv yv : Value} (hO : OwnO O w) (hB : w.heap.size ≤ B) (h0 : w0.heap.size ≤ B) (hJ : OwnFrom B J) :
    OwnFrom B (fun (pre : List (Kn L)) V => PaI Xx J w0 w.heap.size O Bt By bv yv pre V) := fun s V V' row hs hg hr => by
  have hon := hO.on V V' (fun k hk => hg.block k (Nat.lt_of_lt_of_le hk hs.sz) fun e => by have := (hr k e.symm).1; omega)
  exact ⟨hJ _ V V' row hs.j hg hr, Nat.le_trans hs.sz hg.size, hs.bel.grown hg hs.bel.size (fun k e => by have := (hr k e).1; omega), from_bk hg hr hs.bt, (fun h => hs.nt (hon _ h)), from_bk hg hr hs.by_, fun h => hs.ny (hon _ h)⟩
theorem pa_start {w0 W : World} {bv yv : Value} {Bt : Nat} (hb : Tr.Bk W Bt [bv] 26) (h0 : Below w0.heap.size w0 W) :
    Below W.heap.size W ((W.alloc (.cells #[yv] 72)).alloc (.cells #[bv] 26)) ∧ ((W.alloc (.cells #[yv] 72)).alloc (.cells #[bv] 26)).heap.size = W.heap.size + 2 ∧
    Tr.Bk ((W.alloc (.cells #[yv] 72)).alloc (.cells #[bv] 26)) Bt [bv] 26 ∧
    Tr.Bk ((W.alloc (.cells #[yv] 72)).alloc (.cells #[bv] 26)) W.heap.size [yv] 72 ∧
    Tr.Bk ((W.alloc (.cells #[yv] 72)).alloc (.cells #[bv] 26)) (W.heap.size + 1) [bv] 26 ∧
    Below w0.heap.size w0 ((W.alloc (.cells #[yv] 72)).alloc (.cells #[bv] 26)) := by
  obtain ⟨w1, h1⟩ : ∃ x, x = W.alloc (.cells #[yv] 72) := ⟨_, rfl⟩
  rw [← h1]
  obtain ⟨w2, h2⟩ : ∃ x, x = w1.alloc (.cells #[bv] 26) := ⟨_, rfl⟩
  rw [← h2]
  have z1 : w1.heap.size = W.heap.size + 1 := by rw [h1]; simp
  have z2 : w2.heap.size = W.heap.size + 2 := by rw [h2]; simp [z1]
  have b1 : Below W.heap.size W w1 := by rw [h1]; exact (Below.refl _ _).alloc (Nat.le_refl _) _
  have b2 : Below w1.heap.size w1 w2 := by rw [h2]; exact (Below.refl _ _).alloc (Nat.le_refl _) _
  have b12 : Below W.heap.size W w2 := b1.trans (b2.mono b1.size)
  have k1 : Tr.Bk w1 W.heap.size [yv] 72 := by rw [h1]; exact ⟨heap_alloc_new W _⟩
  have k2 : Tr.Bk w2 (W.heap.size + 1) [bv] 26 := by rw [h2, ← z1]; exact ⟨heap_alloc_new w1 _⟩
  exact ⟨b12, z2, hb.below b12, k1.below b2, k2, h0.trans (b12.mono h0.size)⟩
theorem grown_below {V V' : World} (h : Below V.heap.size V V') : V.grownBy V' none := ⟨h.os, h.tape, h.output, h.size, fun k hk _ => h.block k hk⟩
theorem PaI.step {L : List Rw} {Xx : List Int} {J : List (Pr L Xx) → World → Prop} {w0 w V V' : World} {O : World → Nat → Prop} {Bt By B : Nat} {bv yv : Value} {pre pre' : List (Kn L)} (hO : OwnO O w) (hJ : OwnFrom B J) (h : PaI Xx J w0 w.heap.size O Bt By bv yv pre V) (hb : Below V.heap.size V V') (he : prA Xx pre' = prA Xx pre) :
    PaI Xx J w0 w.heap.size O Bt By bv yv pre' V' := by
  have hon := hO.on V V' fun k hk => hb.block k (Nat.lt_of_lt_of_le hk h.sz)
  exact ⟨by rw [he]; exact hJ _ V V' none h.j (grown_below hb) (fun r e => by cases e), Nat.le_trans h.sz hb.size, h.bel.trans (hb.mono h.bel.size), h.bt.below hb, (fun k => h.nt (hon _ k)), h.by_.below hb, fun k => h.ny (hon _ k)⟩
/-- Behind a round that went on. -/
theorem PaI.next {L : List Rw} {Xx : List Int} {J : List (Pr L Xx) → World → Prop} {w0 w V V' : World} {O : World → Nat → Prop} {Bt By : Nat} {bv yv : Value} {pre : List (Kn L)} {pre' : List (Kn L)} {ys : List (Pr L Xx)} (h : PaI Xx J w0 w.heap.size O Bt By bv yv pre V) (hk : KqP w0.heap.size O V V') (hj : J ys V') (he : prA Xx pre' = ys) :
    PaI Xx J w0 w.heap.size O Bt By bv yv pre' V' :=
  ⟨by rw [he]; exact hj, Nat.le_trans h.sz hk.1.size, h.bel.trans hk.2, h.bt.on (hk.1.row _ _ _ h.bt (.inr (.inl rfl)) h.nt), (fun k => (hk.1.own _ k).elim h.nt (fun h2 => by have := h.bt.lt; omega)), h.by_.on (hk.1.row _ _ _ h.by_ (.inr (.inr rfl)) h.ny), fun k => (hk.1.own _ k).elim h.ny (fun h2 => by have := h.by_.lt; omega)⟩
set_option maxRecDepth 100000 in
set_option maxHeartbeats 16000000 in
theorem pairs_iter (O : World → Nat → Prop) (Bt : Nat) (bv : Value) (L : List Rw) (Xx : List Int) (w0 w : World) (hF : Frm L) (h4 : S4 L Xx) (hl : (knwB L).length ≤ 4096) (hB : BV w0 bv L (prsB L Xx)) (h0 : Below w0.heap.size w0 w) (hbx : Tr.Bk w Bt [bv] 26) (hO : OwnO O w) (hnt : ¬ O w Bt) :
    SeqL Tryz.prog 32 #[.pointer (some ⟨Bt, 0, none⟩)] (encP (L := L) (Xx := Xx)) (KqP w0.heap.size O) (fun ys => ys = (prsB L Xx).attach) (fun pre => pre <+: (prsB L Xx).attach) (knwB L).length w := fun l J Jx W hW hlW hJ hJx hY hJ0 => by
  have hbv := bv_one hB
  obtain ⟨s1, s2, s3, s4, s5, s6⟩ := pa_start (yv := .func (.yield l) #[] #[]) (hbx.below hW) (h0.trans (hW.mono h0.size))
  have cB := ((hbx.below hW).below ((Below.refl _ W).alloc (Nat.le_refl _) (.cells #[.func (.yield l) #[] #[]] 72))).c (i := 0) rfl
  have HF := Lib.hid hF
  have HO := Lib.hid hO
  have HB := Lib.hid hB
  have H4 := Lib.hid h4
  have HJ := Lib.hid hJ
  have HJX := Lib.hid hJx
  have HY := Lib.hid hY
  have HJ0 := Lib.hid hJ0
  have HW := Lib.hid hW
  have H0 := Lib.hid h0
  clear hF hO hB h4 hJ hJx hY hJ0 hW h0 hbx
  refine calls_marks Tryz.func32 rfl ?_
  simp only [Tryz.ntmps32, List.size_toArray, List.length_cons, List.length_nil, Nat.reduceAdd, Nat.reduceSub, Array.replicate_succ, Array.replicate_zero, List.push_toArray, List.append_toArray, List.nil_append, List.cons_append]
  have S1 := Lib.hid s1
  have S2 := Lib.hid s2
  have S3 := Lib.hid s3
  have S4 := Lib.hid s4
  have S5 := Lib.hid s5
  have S6 := Lib.hid s6
  clear s1 s2 s3 s4 s5 s6
  go_wp2_with fail
  refine (known_call _ bv hbv).mono ?_
  rintro e w1 ⟨rfl, rfl⟩
  go_wp2_with fail
  obtain ⟨W0, hW0⟩ : ∃ x, x = (W.alloc (.cells #[.func (.yield l) #[] #[]] 72)).alloc (.cells #[bv] 26) := ⟨_, rfl⟩
  rw [← hW0] at S1 S2 S3 S4 S5 S6
  rw [← hW0]
  obtain ⟨By, hBy⟩ : ∃ x, x = W.heap.size := ⟨_, rfl⟩
  obtain ⟨Bk, hBk⟩ : ∃ x, x = By + 1 := ⟨_, rfl⟩
  rw [← hBy] at S4
  rw [← hBy, ← hBk] at S5
  rw [← hBy, ← hBk]
  have hsz : W0.heap.size = By + 2 := by rw [hBy]; exact S2.out
  have q1 : w.heap.size ≤ W.heap.size := HW.out.size
  have q2 : l < By := by rw [hBy]; exact hlW
  have HQ := Lib.hid (And.intro hsz (And.intro hBy q1))
  have hO0 : OwnO O W0 := ⟨fun k hk => by
    have := HO.out.lt k (HO.out.on w W0 (fun j hj => (S1.out.block j (by omega)).trans (HW.out.block j hj)) k hk)
    omega, fun V V' h => HO.out.on V V' fun k hk => h k (by omega)⟩
  have hn0 : ∀ V, (∀ k, k < w.heap.size → V.heap[k]? = w.heap[k]?) → ∀ k, w.heap.size ≤ k → ¬ O V k := fun V hV k hk h => by
    have := HO.out.lt k (HO.out.on w V hV k h)
    omega
  have hI0 : PaI Xx J w0 w.heap.size O Bt By bv (.func (.yield l) #[] #[]) [] W0 :=
    ⟨HJ.out [] W W0 none HJ0.out (grown_below S1.out) (fun r e => by cases e), by omega, S6.out, S3.out, (fun h => hnt (HO.out.on w W0 (fun j hj => (S1.out.block j (by omega)).trans (HW.out.block j hj)) Bt h)), S4.out,
      hn0 W0 (fun j hj => (S1.out.block j (by omega)).trans (HW.out.block j hj)) By (by omega)⟩
  have HO0 := Lib.hid hO0
  have HI0 := Lib.hid hI0
  clear hW0 hBy hBk hsz hO0 hn0 hI0 cB hlW q1
  have hW0s : w.heap.size ≤ W0.heap.size := by have := HQ.out; omega
  have hw0s : w0.heap.size ≤ W0.heap.size := S6.out.size
  have hup : ∀ {f : List (Pr L Xx) → World → Prop}, OwnFrom W.heap.size f → OwnFrom W0.heap.size f := fun h s V V' row hs hg hr => h s V V' row hs hg fun r e => ⟨by have := (hr r e).1; have := S1.out.size; omega, (hr r e).2⟩
  refine rangeG (α := Kn L) (G := 35) (lb := #[.pointer (some ⟨Bk, 0, none⟩)]) rfl (enters_of Tryz.func35 (by kernel_rfl) rfl) (known_iter O 4 Bk bv L (prsB L Xx) W0 HF.out (by omega) (HB.out.below S6.out) S5.out HO0.out)
    (fun h k => h.trans k) (fun V l o o' hl h ho _ => kpO_put HO0.out V l o o' hl h ho) (Below.refl _ _) (fun _ => rfl)
    (PaI Xx J w0 w.heap.size O Bt By bv (.func (.yield l) #[] #[])) (fun c pre V => c = .ret ∧ Jx (prA Xx pre) V) (paI_from HO.out hW0s hw0s (hup HJ.out)) (fun c s A B row hs hg hr => ⟨hs.1, hup HJX.out _ A B row hs.2 hg hr⟩) HI0.out
    (fun tm x => (tm.setIfInBounds 8 (.int .i32 x.1)).setIfInBounds 3 (.int .i32 x.1)) ?assign ?body ?done ?stop
  case assign =>
    intro l x W K hK
    unfold encK
    gi_wp2
    exact hK
  case stop =>
    rintro D c pre V hD hp ⟨rfl, hx⟩ hK
    have HX := Lib.hid (HJX.out.putObj (.deferred none) hx (by have := S1.out.size; omega) hK rfl)
    have HK := Lib.hid hK
    have HP := Lib.hid (prA_pre (Xx := Xx) HF.out hp)
    clear hx hK hp
    gi_wp2
    exact leave_mark HK.out (leave_nil (results_none rfl _ _ _) ⟨⟨_, rfl⟩, .inr ⟨_, HP.out, HX.out⟩⟩)
  case done =>
    rintro D ys V hD rfl hI hK
    have HX := Lib.hid (HJ.out.putObj (.deferred none) hI.j (by have := S1.out.size; omega) hK rfl)
    have HK := Lib.hid hK
    clear hI hK
    go_wp2_with fail
    exact leave_mark HK.out (leave_nil (results_none rfl _ _ _) ⟨⟨_, rfl⟩, .inl ⟨_, prA_all HF.out, HX.out⟩⟩)
  case body =>
    intro l2 pre x V hI hlen
    rcases HB.out with ⟨rfl, rfl, _⟩ | ⟨base, X, T, P, M, S, rfl, hB0⟩
    · cases hlen
    have hB := hB0.below hI.bel
    have HBs := Lib.hid hB
    have HI := Lib.hid hI
    obtain ⟨y, hy⟩ := Option.isSome_iff_exists.1 (knw_mem.1 x.2)
    obtain ⟨hy1, hy2, hy3⟩ := parA_some hy
    have hwf : wfR x.1 := by rw [← hy3]; exact wfR_scal (HF.out.fin y hy1).fr
    obtain ⟨kd, into, A, c, hrun, hii, hm⟩ := lookup_parts hB HF.out hwf
    rw [hy] at hm
    obtain ⟨rfl, rfl⟩ := hm
    have HP := Lib.hid (pair_any A c y.kd y.into V hii)
    have b0 := hI.bt.c (i := 0) rfl
    have x1 := hB.blk.c (i := 1) rfl
    unfold parV at hrun HP
    have HY1 := Lib.hid hy
    have HYL := Lib.hid hy1
    have HYF := Lib.hid hy3
    have HWF := Lib.hid hwf
    clear hI hy hy1 hy2 hy3 hwf hii hB hB0 HB
    gi_wp2
    refine ⟨trivial, CallsIn.inRound l2 (callsIn_wide.2 (HP.out.mono ?_))⟩
    rintro e V1 ⟨rfl, hb1⟩
    have D1 := Lib.hid hb1
    clear hb1 HP
    by_cases h2 : y.kd = [] ∧ y.into.length = 2
    · obtain ⟨hk, h2⟩ := h2
      obtain ⟨a, b, hab⟩ : ∃ a b, y.into = [a, b] := ⟨_, _, two_of h2⟩
      have HE : Hid (prE y.kd y.into = (a, b, true)) := Lib.hid (by unfold prE; rw [if_pos ⟨hk, h2⟩, hab]; rfl)
      have HA := Lib.hid hab
      have HWA := Lib.hid (wfR_scal ((HF.out.fin y HYL.out).sc a (by rw [hab]; simp)))
      have HWB := Lib.hid (wfR_scal ((HF.out.fin y HYL.out).sc b (by rw [hab]; simp)))
      have HL := Lib.hid (md_lk HF.out H4.out HY1.out hab)
      rw [HE.out]
      unfold prV
      clear h2 hrun hk hab
      have D2 := Lib.hid (D1.out.alloc D1.out.size (.cells #[.int .i32 a, .int .i32 b] 67))
      have K2 : Hid (Tr.Bk (V1.alloc (.cells #[.int .i32 a, .int .i32 b] 67)) V1.heap.size [.int .i32 a, .int .i32 b] 67) := Lib.hid ⟨heap_alloc_new V1 _⟩
      have HMk := Lib.hid (fun V' (h : Below V.heap.size V V') => makes_any a b x.1 V' (HBs.out.below h) HWA.out HWB.out)
      have e2 := (HI.out.bt.below D2.out).c (i := 0) rfl
      have k2 := K2.out.c (i := 0) rfl
      have k3 := K2.out.c (i := 1) rfl
      gi_wp2
      refine ⟨trivial, CallsIn.inRound l2 (callsIn_wide.2 ((HMk.out _ D2.out).mono ?_))⟩
      rintro e V3 ⟨rfl, hb3⟩
      have D3 := Lib.hid (D2.out.trans (hb3.mono D2.out.size))
      have K3 := Lib.hid (K2.out.below hb3)
      clear hb3 e2 k2 k3 K2 D2
      by_cases hf : lkM (prsB L Xx) a b = some x.1
      · have HM := Lib.hid (HL.out.1 hf)
        rw [decide_eq_true hf]
        clear hf
        have y3 := (HI.out.by_.below D3.out).c (i := 0) rfl
        have k2 := K3.out.c (i := 0) rfl
        have k3 := K3.out.c (i := 1) rfl
        have HI3 := Lib.hid (HI.out.step (pre' := pre) HO.out HJ.out D3.out rfl)
        obtain ⟨hz, hpa⟩ := prA_yes HM.out pre
        have HPA := Lib.hid hpa
        have hye : encP (⟨y, hz⟩ : Pr L Xx) = #[.int .i32 x.1, .agg #[.int .i32 a, .int .i32 b]] := by
          unfold encP
          simp only [HYF.out, HA.out]
          rfl
        obtain ⟨fn, tmps, ac, bd, hyl, hR⟩ := HY.out (prA Xx pre) ⟨y, hz⟩ V3 HI3.out.j (Nat.lt_of_le_of_lt (prA_len pre) hlen)
        rw [hye] at hyl
        have HR := Lib.hid hR
        clear hpa hye hR
        gi_wp2
        refine (show RoundIn Fence.wide 2 _ _ _ _ _ _ _ _ from (round_wide HR.out).mono ?_)
        rintro e W3 (⟨rfl, hJ3, hk3, hkf⟩ | ⟨rfl, hJx3, hkf⟩)
        · have HJ3 := Lib.hid hJ3
          have HK3 := Lib.hid hk3
          have HKF := Lib.hid (keeps_up (B' := W0.heap.size) hkf (by have := HQ.out; omega))
          clear hJ3 hk3 hkf
          gi_wp2
          exact ⟨(kf_below D3.out).trans HKF.out, (kpO_below HO.out HI.out.sz D3.out).trans HK3.out.1, HI3.out.next HK3.out HJ3.out HPA.out⟩
        · have HJ3 := Lib.hid hJx3
          have HKF := Lib.hid (keeps_up (B' := W0.heap.size) hkf (by have := HQ.out; omega))
          clear hJx3 hkf
          gi_wp2
          exact ⟨(kf_below D3.out).trans HKF.out, rfl, by rw [HPA.out]; exact HJ3.out⟩
      · have HM : Hid (mdR L Xx x.1 = none) := Lib.hid (by
          cases hm : mdR L Xx x.1 with
          | none => rfl
          | some z =>
            have e : z = y := by
              have h1 := (mdR_some hm).2.2
              rw [HY1.out] at h1
              exact (Option.some.inj h1).symm
            subst e
            exact absurd (HL.out.2 hm) hf)
        rw [decide_eq_false hf]
        clear hf
        gi_wp2
        refine ⟨fun _ h => (by cases h), ?_⟩
        gi_wp2
        exact ⟨kf_below D3.out, kpO_below HO.out HI.out.sz D3.out, HI.out.step HO.out HJ.out D3.out (prA_no HM.out pre)⟩
    · have HE : Hid (prE y.kd y.into = (0, 0, false)) := Lib.hid (by unfold prE; rw [if_neg h2])
      have HM : Hid (mdR L Xx x.1 = none) := Lib.hid (made_no HY1.out (by
        cases hm : madeB L Xx y with
        | false => rfl
        | true => exact absurd ⟨(made_iff.1 hm).1, (made_iff.1 hm).2.1⟩ h2))
      rw [HE.out]
      unfold prV
      have D2 := Lib.hid (D1.out.alloc D1.out.size (.cells #[.int .i32 0, .int .i32 0] 67))
      clear h2 hrun
      gi_wp2
      refine ⟨trivial, ?_⟩
      gi_wp2
      refine ⟨fun _ h => (by cases h), ?_⟩
      gi_wp2
      exact ⟨kf_below D2.out, kpO_below HO.out HI.out.sz D2.out, HI.out.step HO.out HJ.out D2.out (prA_no HM.out pre)⟩

end Go.Proofs.YtagbeioooohbgaaGreatDoor.Ba
end

import Derived.Test.YtfjckdjnnbpcnaaTB
import Derived.Test.YtfjckdjnnbpcnaaCq
import Derived.WalkKit
import Derived.WalkSpells
import Derived.WalkLawsBesides
import Derived.Lib.Hide
import Derived.IntWalk
import Derived.Laws.OwnMore
import Derived.Laws.AppendOwnNone
import Derived.Deep.RegionHeld3
import Derived.Deep.RegionLaw
import Derived.Deep.DrawnRows
import Derived.Deep.AppendLies
import Derived.Deep.Heap
import Derived.Deep.Onto
import Derived.Maps.AppendAt
namespace Go.Proofs.Ytfjckdjnnbpcnaa.Tr
open Go.RowKit

/-- A block told whole. -/
structure Bk (w : World) (X : Nat) (cs : List Value) (t : TypeId) : Prop where
  blk : w.heap[X]? = some (.cells cs.toArray t (0, 0))
theorem Bk.c {w : World} {X : Nat} {cs : List Value} {t : TypeId} (h : Bk w X cs t) {i : Nat} {v : Value} (hv : cs[i]? = some v) : w.cell? ⟨X, i, none⟩ = some v := by simp [World.cell?, h.blk, hv]
theorem Bk.fr {w : World} {X : Nat} {cs : List Value} {t : TypeId} (h : Bk w X cs t) (i : Nat) : w.frozen? ⟨X, i, none⟩ = false := by simp [World.frozen?, h.blk]
theorem Bk.lt {w : World} {X : Nat} {cs : List Value} {t : TypeId} (h : Bk w X cs t) : X < w.heap.size := (Array.getElem?_eq_some_iff.1 h.blk).1
theorem Bk.on {w w' : World} {X : Nat} {cs : List Value} {t : TypeId} (h : Bk w X cs t) (hk : w'.heap[X]? = w.heap[X]?) : Bk w' X cs t := ⟨hk.trans h.blk⟩
theorem Bk.below {w w' : World} {X : Nat} {cs : List Value} {t : TypeId} (h : Bk w X cs t) (hb : Below w.heap.size w w') : Bk w' X cs t := ⟨(hb.block X h.lt).trans h.blk⟩
theorem Bk.set {w : World} {X : Nat} {cs : List Value} {t : TypeId} (h : Bk w X cs t) (i : Nat) (x : Value) : Bk (w.setCell ⟨X, i, none⟩ x) X (cs.set i x) t := ⟨by simp [World.setCell, Array.getElem?_modify, h.blk]⟩
theorem Bk.drew {w : World} {X : Nat} {cs : List Value} {t : TypeId} (h : Bk w X cs t) (n : Nat) : Bk (w.drewN n) X cs t := ⟨h.blk⟩
theorem Bk.ne {w : World} {X : Nat} {cs : List Value} {t : TypeId} (h : Bk w X cs t) {b e z n : Nat} {v' : Value} {xs : List Value} (ho : w.ownsRow b e z v' n xs) (ht : t ≠ e) : v'.ownBlock ≠ some X := by
  intro he
  rcases ho.2 with ⟨rfl, _⟩ | ⟨g, cap, cur, rfl, _, hg, _⟩
  · cases he
  · have : g = X := by injection he
    subst this
    rw [h.blk] at hg
    simp at hg
    exact ht (by first | exact hg.2.1 | exact hg.2)
theorem own_on {w w' : World} {b : Nat} {e : TypeId} {z n : Nat} {v : Value} {xs : List Value} (h : w.ownsRow b e z v n xs) (hk : ∀ g, v.ownBlock = some g → w'.heap[g]? = w.heap[g]?) : w'.ownsRow b e z v n xs := by
  refine ⟨h.1, ?_⟩
  rcases h.2 with h2 | ⟨g, cap, cur, h1, h2, h3, h4⟩
  · exact .inl h2
  · exact .inr ⟨g, cap, cur, h1, h2, (hk g (by rw [h1]; rfl)).trans h3, h4⟩
theorem own_below {w w' : World} {b : Nat} {e : TypeId} {z n : Nat} {v : Value} {xs : List Value} (h : w.ownsRow b e z v n xs) (hb : Below w.heap.size w w') : w'.ownsRow b e z v n xs :=
  own_on h fun g hg => hb.block g (h.lt g hg).2
theorem own_set {w : World} {b : Nat} {e : TypeId} {z n : Nat} {v : Value} {xs : List Value} {T o : Nat} (h : w.ownsRow b e z v n xs) (hne : v.ownBlock ≠ some T) (x : Value) : (w.setCell ⟨T, o, none⟩ x).ownsRow b e z v n xs :=
  own_on h fun g hg => Go.Deep.blk_setCell_other _ _ _ _ (fun e => hne (by rw [hg, e]))
theorem own_low {w : World} {b b' : Nat} {e : TypeId} {z n : Nat} {v : Value} {xs : List Value} (h : w.ownsRow b e z v n xs) (hb : b' ≤ b) : w.ownsRow b' e z v n xs := by
  refine ⟨h.1, ?_⟩
  rcases h.2 with h2 | ⟨g, cap, cur, h1, h2, h3⟩
  · exact .inl h2
  · exact .inr ⟨g, cap, cur, h1, by omega, h3⟩
theorem own_slice {w : World} {b e z n : Nat} {v : Value} {xs : List Value} (h : w.ownsRow b e z v n xs) : ∃ A c, v = .slice A n c ∧ (A = none ∨ ∃ g, A = some ⟨g, 0, none⟩) := by
  rcases h.2 with ⟨hv, hn⟩ | ⟨g, cap, cur, hv, _⟩
  · exact ⟨none, 0, by rw [hv, hn], .inl rfl⟩
  · exact ⟨_, _, hv, .inr ⟨g, rfl⟩⟩

def spV (s : Sp) : List Value := [.int .i32 s.1, .int .i32 s.2.1, .int .i64 s.2.2]
def spC (L : List Sp) : List Value := L.flatMap spV
theorem spC_app (a b : List Sp) : spC (a ++ b) = spC a ++ spC b := by simp [spC]
theorem spC_len : ∀ L : List Sp, (spC L).length = L.length * 3
  | [] => rfl
  | x :: l => by
    have ih := spC_len l
    have e : spC (x :: l) = spV x ++ spC l := rfl
    rw [e, List.length_append, ih, List.length_cons]
    simp [spV]; omega
theorem spC_at : ∀ (L : List Sp) (i : Nat) (hi : i < L.length) (j : Nat), j < 3 → (spC L)[i * 3 + j]? = (spV L[i])[j]?
  | x :: l, 0, _, j, hj => by
    have e : spC (x :: l) = spV x ++ spC l := rfl
    rw [e, List.getElem?_append_left (by simp [spV]; omega)]
    simp
  | x :: l, i + 1, hi, j, hj => by
    have ih := spC_at l i (by simpa using hi) j hj
    have e : spC (x :: l) = spV x ++ spC l := rfl
    rw [e, List.getElem?_append_right (by simp [spV]; omega)]
    rw [show (i + 1) * 3 + j - (spV x).length = i * 3 + j by simp [spV]; omega]
    simpa using ih
theorem spC_one (L : List Sp) : ∀ u ∈ spC L, u.oneCell' = true := by
  intro u hu
  simp only [spC, List.mem_flatMap] at hu
  obtain ⟨x, hx, hu⟩ := hu
  simp only [spV, List.mem_cons, List.not_mem_nil, or_false] at hu
  rcases hu with rfl | rfl | rfl <;> rfl
/-- Ranges in memory that is there, for reading. -/
def Sps (w : World) (A : Option Addr) (L : List Sp) : Prop :=
  ∀ i (hi : i < L.length), ∃ b off, A = some ⟨b, off, none⟩ ∧ b < w.heap.size ∧ w.cell? ⟨b, off + i * 3, none⟩ = some (.int .i32 (L[i]).1) ∧ w.cell? ⟨b, off + i * 3 + 1, none⟩ = some (.int .i32 (L[i]).2.1) ∧ w.cell? ⟨b, off + i * 3 + 2, none⟩ = some (.int .i64 (L[i]).2.2)
theorem Sps.below {w w' : World} {A : Option Addr} {L : List Sp} (h : Sps w A L) (hb : Below w.heap.size w w') : Sps w' A L := fun i hi => by
  obtain ⟨b, off, e, hl, h0, h1, h2⟩ := h i hi
  have k := fun j => hb.cell (p := ⟨b, off + i * 3 + j, none⟩) hl
  exact ⟨b, off, e, Nat.lt_of_lt_of_le hl hb.size, (k 0).trans h0, (k 1).trans h1, (k 2).trans h2⟩
theorem own_sps {w : World} {base : Nat} {v : Value} {L : List Sp} (h : w.ownsRow base 33 3 v L.length (spC L)) : ∃ A c, v = .slice A L.length c ∧ Sps w A L := by
  rcases h.2 with ⟨hv, hn⟩ | ⟨g, cap, cur, hv, hg, hh, hn, hm, hc, ht⟩
  · exact ⟨none, 0, by rw [hv, hn], fun i hi => by omega⟩
  · have hq := fun j u hj => h.cells (g := g) (by rw [hv]; rfl) j u hj
    have e : ∀ j, (⟨g, 0, none⟩ : Addr).add j = ⟨g, j, none⟩ := fun j => by unfold Addr.add; split <;> simp_all
    simp only [e] at hq
    refine ⟨some ⟨g, 0, none⟩, cap, hv, fun i hi => ?_⟩
    have hr : ∀ j u, j < 3 → (spV L[i])[j]? = some u → w.cell? ⟨g, 0 + i * 3 + j, none⟩ = some u := fun j u hj hu => by
      rw [Nat.zero_add]
      exact hq (i * 3 + j) u ((spC_at L i hi j hj).trans hu)
    exact ⟨g, 0, rfl, (h.lt g (by rw [hv]; rfl)).2, hr 0 _ (by omega) rfl, hr 1 _ (by omega) rfl, hr 2 _ (by omega) rfl⟩
theorem sp_info : (Try.prog.info? 33).map (fun i => (i.zero, i.size, i.bytes)) = some (some (.agg #[.int .i32 0, .int .i32 0, .int .i64 0]), 3, 16) := by kernel_rfl

/-- A table of the reference: its block, and the row of the ranges that were set. -/
structure Rt (w : World) (base X : Nat) (nn : Int) (L : List Sp) : Prop where
  lo : base ≤ X
  blk : ∃ v, Bk w X [.int .i64 nn, v] 29 ∧ w.ownsRow base 33 3 v L.length (spC L)
/-- The blocks that a table of the reference lies in. -/
def fpR (w : World) (X k : Nat) : Prop := k = X ∨ ∃ nn v, Bk w X [.int .i64 nn, v] 29 ∧ v.ownBlock = some k
theorem Rt.on {w w' : World} {base X : Nat} {nn : Int} {L : List Sp} (h : Rt w base X nn L) (hk : ∀ k, k < w.heap.size → fpR w X k → w'.heap[k]? = w.heap[k]?) : Rt w' base X nn L := by
  obtain ⟨v, h1, h2⟩ := h.blk
  exact ⟨h.lo, v, h1.on (hk X h1.lt (.inl rfl)), own_on h2 fun g hg => hk g (h2.lt g hg).2 (.inr ⟨nn, v, h1, hg⟩)⟩
theorem Rt.below {w w' : World} {base X : Nat} {nn : Int} {L : List Sp} (h : Rt w base X nn L) (hb : Below w.heap.size w w') : Rt w' base X nn L := h.on fun k hk _ => hb.block k hk
theorem Rt.fp {w : World} {base X : Nat} {nn : Int} {L : List Sp} (h : Rt w base X nn L) {k : Nat} (hk : fpR w X k) : base ≤ k ∧ k < w.heap.size := by
  obtain ⟨v, h1, h2⟩ := h.blk
  rcases hk with rfl | ⟨n', v', h3, h4⟩
  · exact ⟨h.lo, h1.lt⟩
  · have e := h1.blk.symm.trans h3.blk
    simp at e
    rw [← e.2] at h4
    exact h2.lt k h4
theorem fpR_on {w w' : World} {base X : Nat} {nn : Int} {L : List Sp} (h : Rt w base X nn L) (hk : w'.heap[X]? = w.heap[X]?) (k : Nat) : fpR w' X k ↔ fpR w X k := by
  constructor
  · rintro (rfl | ⟨n', v', h3, h4⟩)
    · exact .inl rfl
    · exact .inr ⟨n', v', ⟨hk.symm.trans h3.blk⟩, h4⟩
  · rintro (rfl | ⟨n', v', h3, h4⟩)
    · exact .inl rfl
    · exact .inr ⟨n', v', h3.on hk, h4⟩
/-- What a call turns: the streams are as they were, and all blocks but those of F; whose blocks F' behind it are of F, or new. -/
structure Mv (F F' : Nat → Prop) (w w' : World) : Prop where
  os : w'.os = w.os
  tape : w'.tape = w.tape
  output : w'.output = w.output
  size : w.heap.size ≤ w'.heap.size
  keep : ∀ k, k < w.heap.size → ¬ F k → w'.heap[k]? = w.heap[k]?
  fp : ∀ k, F' k → F k ∨ w.heap.size ≤ k
theorem Mv.below {F F' : Nat → Prop} {w w' : World} {B : Nat} (h : Mv F F' w w') (hF : ∀ k, F k → B ≤ k) (hB : B ≤ w.heap.size) : Below B w w' :=
  ⟨h.os, h.tape, h.output, h.size, fun k hk => h.keep k (by omega) (fun hf => by have := hF k hf; omega)⟩
theorem Mv.of_below {F : Nat → Prop} {w w' : World} (h : Below w.heap.size w w') : Mv F F w w' := ⟨h.os, h.tape, h.output, h.size, fun k hk _ => h.block k hk, fun _ h => .inl h⟩
theorem Mv.trans {F F' F'' : Nat → Prop} {a b c : World} (h : Mv F F' a b) (k : Mv F' F'' b c) : Mv F F'' a c :=
  ⟨k.os.trans h.os, k.tape.trans h.tape, k.output.trans h.output, Nat.le_trans h.size k.size,
   fun i hi hF => (k.keep i (Nat.lt_of_lt_of_le hi h.size) (fun hf => (h.fp i hf).elim hF (fun h2 => by omega))).trans (h.keep i hi hF),
   fun i hi => (k.fp i hi).elim (h.fp i) (fun h2 => .inr (Nat.le_trans h.size h2))⟩

/-- What setting a range answers, and what is set then. -/
def okS (s : Sp) : Bool := !(decide (s.1 < 0) || (decide (1114111 < s.2.1) || decide (s.2.1 < s.1)))
def setL (L : List Sp) (s : Sp) : List Sp := if okS s then L ++ [s] else L
def setE (s : Sp) : Int := if okS s then 0 else 11

theorem rset_fin {w w6 : World} {base X : Nat} {nn : Int} {L : List Sp} {s : Sp} {A : Option Addr} {c : Nat} {v6 : Value} {o : Obj} (hb : Bk w X [.int .i64 nn, .slice A L.length c] 29) (ho : w.ownsRow base 33 3 (.slice A L.length c) L.length (spC L)) (hlo : base ≤ X)
    (ho6 : w6.ownsRow base 33 3 v6 (L.length + 1) (spC L ++ spV s)) (hg6 : (w.alloc o).grownBy w6 (Value.slice A L.length c).ownBlock) (ha6 : v6.ownBlock = (Value.slice A L.length c).ownBlock ∨ v6.ownBlock = some (w.alloc o).heap.size) :
    (((Rt (w6.setCell ⟨X, 1, none⟩ v6) base X nn (L ++ [s])) ∧ w6.cell? ⟨X, 1, none⟩ = some (.slice A L.length c)) ∧ w6.frozen? ⟨X, 1, none⟩ = false) ∧ Mv (fpR w X) (fpR (w6.setCell ⟨X, 1, none⟩ v6) X) w (w6.setCell ⟨X, 1, none⟩ v6) := by
  have hne := hb.ne ho (by decide)
  have hz : (w.alloc o).heap.size = w.heap.size + 1 := by simp
  have hXl := hb.lt
  have hX6 : w6.heap[X]? = w.heap[X]? := (hg6.block X (by omega) (fun e => hne e.symm)).trans (Below.heap_alloc _ _ _ hXl)
  have hb6 := hb.on hX6
  have hne6 := hb6.ne ho6 (by decide)
  have hb7 : Bk (w6.setCell ⟨X, 1, none⟩ v6) X [.int .i64 nn, v6] 29 := hb6.set 1 v6
  have hsz := hg6.size
  refine ⟨⟨⟨⟨hlo, v6, hb7, ?_⟩, hb6.c (i := 1) rfl⟩, hb6.fr 1⟩, hg6.os, hg6.tape, hg6.output, by simp [World.setCell]; omega, fun k hk hF => ?_, fun k hk => ?_⟩
  · rw [spC_app, List.length_append]
    have e : spC [s] = spV s := by simp [spC]
    rw [e]
    exact own_set ho6 hne6 _
  · have h1 : k ≠ X := fun e => hF (.inl e)
    have h2 : (Value.slice A L.length c).ownBlock ≠ some k := fun e => hF (.inr ⟨nn, _, hb, e⟩)
    rw [Below.heap_setCell _ _ _ _ h1]
    exact (hg6.block k (by omega) (fun e => h2 e.symm)).trans (Below.heap_alloc _ _ _ hk)
  · rcases hk with rfl | ⟨n', v', h3, h4⟩
    · exact .inl (.inl rfl)
    · have e := hb7.blk.symm.trans h3.blk
      simp at e
      rw [← e.2] at h4
      rcases ha6 with h5 | h5
      · exact .inl (.inr ⟨nn, _, hb, by rw [← h5]; exact h4⟩)
      · rw [h5] at h4
        have : w.heap.size + 1 = k := by simpa using h4
        exact .inr (by omega)

set_option maxHeartbeats 4000000 in
set_option maxRecDepth 100000 in
theorem rset_any (w : World) (base X : Nat) (nn : Int) (L : List Sp) (s : Sp) (h : Rt w base X nn L) (hL : L.length ≤ 1000) :
    Calls Try.prog 13 #[.pointer (some ⟨X, 0, none⟩), .int .i32 s.1, .int .i32 s.2.1, .int .i64 s.2.2] w
      fun e w' => e = .returned (.int .i64 (setE s)) ∧ Rt w' base X nn (setL L s) ∧ Mv (fpR w X) (fpR w' X) w w' := by
  obtain ⟨f, t, u⟩ := s
  by_cases hok : okS (f, t, u) = true
  · have hE : setE (f, t, u) = 0 := by unfold setE; rw [if_pos hok]
    have hS : setL L (f, t, u) = L ++ [(f, t, u)] := by unfold setL; rw [if_pos hok]
    rw [hE, hS]
    simp only [okS, Bool.not_eq_true', Bool.or_eq_false_iff, decide_eq_false_iff_not] at hok
    obtain ⟨h1, h2, h3⟩ := hok
    obtain ⟨v, hb, ho⟩ := h.blk
    obtain ⟨A, c, rfl, _⟩ := own_slice ho
    have hbl := h.lo
    obtain ⟨i0, hi0, hz0, hz1, hz2⟩ := info_parts sp_info
    have I0 := Lib.hid hi0
    have I1 := Lib.hid hz0
    have I2 := Lib.hid hz1
    have I3 := Lib.hid hz2
    have c0 := hb.c (i := 0) rfl
    have c1 := hb.c (i := 1) rfl
    have f1 := hb.fr 1
    have HB := Lib.hid hb
    have HO := Lib.hid ho
    have HL := Lib.hid h.lo
    have hXw := hb.lt
    clear hi0 hz0 hz1 hz2 hb ho h hE hS
    go_enter Try.func13, Try.ntmps13
    go_wp2_with (at_builtin; refine wpList_append_own_at _ rfl (.tmp 24) (.tmp 29) _ rfl base 33 i0 _ 3 16 Try.underlying22 I0.out I1.out I2.out I3.out rfl (by omega) _ L.length _ rfl (HO.out.alloc _) ⟨w.heap.size, 0, none⟩ 1 1 [.int .i32 f, .int .i32 t, .int .i64 u] rfl rfl (World.news_of_block (cs := #[.int .i32 f, .int .i32 t, .int .i64 u]) (t := 33) (fr := (0, 0)) (heap_alloc_new w _)) (by simp [Value.oneCell']) (by unfold maxLen; omega) (by omega) (by simp; omega) ?_; intro v6 w6 ho6 hg6 hn6 ha6; obtain ⟨A6, c6, rfl, _⟩ := own_slice ho6; obtain ⟨q1, q2⟩ := rset_fin (s := (f, t, u)) HB.out HO.out HL.out ho6 hg6 ha6; have q3 := q1.2; have q4 := q1.1.2; have Q := Lib.hid (And.intro q1.1.1 q2); clear ho6 hg6 hn6 ha6 q1 q2)
    go_ret
    exact ⟨rfl, Q.out.1, Q.out.2⟩
  · have hE : setE (f, t, u) = 11 := by unfold setE; rw [if_neg hok]
    have hS : setL L (f, t, u) = L := by unfold setL; rw [if_neg hok]
    rw [hE, hS]
    have HR := Lib.hid h
    simp only [okS, Bool.not_eq_true', Bool.not_eq_false, Bool.or_eq_true, decide_eq_true_eq] at hok
    by_cases h1 : f < 0
    · go_enter Try.func13, Try.ntmps13
      go_wp2
      go_ret
      exact ⟨rfl, HR.out, Mv.of_below (Below.refl _ w)⟩
    · by_cases h2 : 1114111 < t
      · go_enter Try.func13, Try.ntmps13
        go_wp2
        go_ret
        exact ⟨rfl, HR.out, Mv.of_below (Below.refl _ w)⟩
      · have h3 : t < f := by omega
        go_enter Try.func13, Try.ntmps13
        go_wp2
        go_ret
        exact ⟨rfl, HR.out, Mv.of_below (Below.refl _ w)⟩

end Go.Proofs.Ytfjckdjnnbpcnaa.Tr

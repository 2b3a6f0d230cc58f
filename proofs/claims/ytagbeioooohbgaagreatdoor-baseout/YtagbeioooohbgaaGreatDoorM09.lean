import Derived.Test.YtagbeioooohbgaaGreatDoorM07
import Derived.Test.YtagbeioooohbgaaGreatDoorCq
import Derived.WalkKit
import Derived.WalkSpells
import Derived.WalkLawsBesides
import Derived.Lib.Hide
import Derived.IntWalk
import Derived.Laws.OwnMore
import Derived.Laws.AppendOwnNone
import Derived.Deep.RegionHeld3
import Derived.Deep.RegionLaw
import Derived.Deep.DrawnRows
import Derived.Deep.AppendLies
import Derived.Deep.Heap
import Derived.Deep.Onto
import Derived.Maps.AppendAt
import Derived.Lib.OthersKept
import Derived.Laws.BitsAllLaws
import Derived.Deep.QuietTactic
import Derived.BigQuiet
section
namespace Go.Proofs.YtagbeioooohbgaaGreatDoor.Tr
open Go.RowKit

/-- A block told whole. -/
structure Bk (w : World) (X : Nat) (cs : List Value) (t : TypeId) : Prop where
  blk : w.heap[X]? = some (.cells cs.toArray t (0, 0))
theorem Bk.c {w : World} {X : Nat} {cs : List Value} {t : TypeId} (h : Bk w X cs t) {i : Nat} {v : Value} (hv : cs[i]? = some v) : w.cell? ⟨X, i, none⟩ = some v := by simp [World.cell?, h.blk, hv]
theorem Bk.fr {w : World} {X : Nat} {cs : List Value} {t : TypeId} (h : Bk w X cs t) (i : Nat) : w.frozen? ⟨X, i, none⟩ = false := by simp [World.frozen?, h.blk]
theorem Bk.lt {w : World} {X : Nat} {cs : List Value} {t : TypeId} (h : Bk w X cs t) : X < w.heap.size := (Array.getElem?_eq_some_iff.1 h.blk).1
theorem Bk.on {w w' : World} {X : Nat} {cs : List Value} {t : TypeId} (h : Bk w X cs t) (hk : w'.heap[X]? = w.heap[X]?) : Bk w' X cs t := ⟨hk.trans h.blk⟩
theorem Bk.below {w w' : World} {X : Nat} {cs : List Value} {t : TypeId} (h : Bk w X cs t) (hb : Below w.heap.size w w') : Bk w' X cs t := ⟨(hb.block X h.lt).trans h.blk⟩
theorem Bk.set {w : World} {X : Nat} {cs : List Value} {t : TypeId} (h : Bk w X cs t) (i : Nat) (x : Value) : Bk (w.setCell ⟨X, i, none⟩ x) X (cs.set i x) t := ⟨by simp [World.setCell, Array.getElem?_modify, h.blk]⟩
theorem Bk.drew {w : World} {X : Nat} {cs : List Value} {t : TypeId} (h : Bk w X cs t) (n : Nat) : Bk (w.drewN n) X cs t := ⟨h.blk⟩
theorem Bk.ne {w : World} {X : Nat} {cs : List Value} {t : TypeId} (h : Bk w X cs t) {b e z n : Nat} {v' : Value} {xs : List Value} (ho : w.ownsRow b e z v' n xs) (ht : t ≠ e) : v'.ownBlock ≠ some X := by
  intro he
  rcases ho.2 with ⟨rfl, _⟩ | ⟨g, cap, cur, rfl, _, hg, _⟩
  · cases he
  · have : g = X := by injection he
    subst this
    rw [h.blk] at hg
    simp at hg
    exact ht (by first | exact hg.2.1 | exact hg.2)
theorem own_on {w w' : World} {b : Nat} {e : TypeId} {z n : Nat} {v : Value} {xs : List Value} (h : w.ownsRow b e z v n xs) (hk : ∀ g, v.ownBlock = some g → w'.heap[g]? = w.heap[g]?) : w'.ownsRow b e z v n xs := by
  refine ⟨h.1, ?_⟩
  rcases h.2 with h2 | ⟨g, cap, cur, h1, h2, h3, h4⟩
  · exact .inl h2
  · exact .inr ⟨g, cap, cur, h1, h2, (hk g (by rw [h1]; rfl)).trans h3, h4⟩
theorem own_below {w w' : World} {b : Nat} {e : TypeId} {z n : Nat} {v : Value} {xs : List Value} (h : w.ownsRow b e z v n xs) (hb : Below w.heap.size w w') : w'.ownsRow b e z v n xs :=
  own_on h fun g hg => hb.block g (h.lt g hg).2
theorem own_set {w : World} {b : Nat} {e : TypeId} {z n : Nat} {v : Value} {xs : List Value} {T o : Nat} (h : w.ownsRow b e z v n xs) (hne : v.ownBlock ≠ some T) (x : Value) : (w.setCell ⟨T, o, none⟩ x).ownsRow b e z v n xs :=
  own_on h fun g hg => Go.Deep.blk_setCell_other _ _ _ _ (fun e => hne (by rw [hg, e]))
theorem own_low {w : World} {b b' : Nat} {e : TypeId} {z n : Nat} {v : Value} {xs : List Value} (h : w.ownsRow b e z v n xs) (hb : b' ≤ b) : w.ownsRow b' e z v n xs := by
  refine ⟨h.1, ?_⟩
  rcases h.2 with h2 | ⟨g, cap, cur, h1, h2, h3⟩
  · exact .inl h2
  · exact .inr ⟨g, cap, cur, h1, by omega, h3⟩
theorem own_slice {w : World} {b e z n : Nat} {v : Value} {xs : List Value} (h : w.ownsRow b e z v n xs) : ∃ A c, v = .slice A n c ∧ (A = none ∨ ∃ g, A = some ⟨g, 0, none⟩) := by
  rcases h.2 with ⟨hv, hn⟩ | ⟨g, cap, cur, hv, _⟩
  · exact ⟨none, 0, by rw [hv, hn], .inl rfl⟩
  · exact ⟨_, _, hv, .inr ⟨g, rfl⟩⟩

def spV (s : Sp) : List Value := [.int .i32 s.1, .int .i32 s.2.1, .int .i64 s.2.2]
def spC (L : List Sp) : List Value := L.flatMap spV
theorem spC_app (a b : List Sp) : spC (a ++ b) = spC a ++ spC b := by simp [spC]
theorem spC_len : ∀ L : List Sp, (spC L).length = L.length * 3
  | [] => rfl
  | x :: l => by
    have ih := spC_len l
    have e : spC (x :: l) = spV x ++ spC l := rfl
    rw [e, List.length_append, ih, List.length_cons]
    simp [spV]; omega
theorem spC_at : ∀ (L : List Sp) (i : Nat) (hi : i < L.length) (j : Nat), j < 3 → (spC L)[i * 3 + j]? = (spV L[i])[j]?
  | x :: l, 0, _, j, hj => by
    have e : spC (x :: l) = spV x ++ spC l := rfl
    rw [e, List.getElem?_append_left (by simp [spV]; omega)]
    simp
  | x :: l, i + 1, hi, j, hj => by
    have ih := spC_at l i (by simpa using hi) j hj
    have e : spC (x :: l) = spV x ++ spC l := rfl
    rw [e, List.getElem?_append_right (by simp [spV]; omega)]
    rw [show (i + 1) * 3 + j - (spV x).length = i * 3 + j by simp [spV]; omega]
    simpa using ih
theorem spC_one (L : List Sp) : ∀ u ∈ spC L, u.oneCell' = true := by
  intro u hu
  simp only [spC, List.mem_flatMap] at hu
  obtain ⟨x, hx, hu⟩ := hu
  simp only [spV, List.mem_cons, List.not_mem_nil, or_false] at hu
  rcases hu with rfl | rfl | rfl <;> rfl
/-- Ranges in memory that is there, for reading. -/
def Sps (w : World) (A : Option Addr) (L : List Sp) : Prop :=
  ∀ i (hi : i < L.length), ∃ b off, A = some ⟨b, off, none⟩ ∧ b < w.heap.size ∧ w.cell? ⟨b, off + i * 3, none⟩ = some (.int .i32 (L[i]).1) ∧ w.cell? ⟨b, off + i * 3 + 1, none⟩ = some (.int .i32 (L[i]).2.1) ∧ w.cell? ⟨b, off + i * 3 + 2, none⟩ = some (.int .i64 (L[i]).2.2)
theorem Sps.below {w w' : World} {A : Option Addr} {L : List Sp} (h : Sps w A L) (hb : Below w.heap.size w w') : Sps w' A L := fun i hi => by
  obtain ⟨b, off, e, hl, h0, h1, h2⟩ := h i hi
  have k := fun j => hb.cell (p := ⟨b, off + i * 3 + j, none⟩) hl
  exact ⟨b, off, e, Nat.lt_of_lt_of_le hl hb.size, (k 0).trans h0, (k 1).trans h1, (k 2).trans h2⟩
/-- What a call turns: the streams are as they were, and all blocks but those of F; whose blocks F' behind it are of F, or new. -/
structure Mv (F F' : Nat → Prop) (w w' : World) : Prop where
  os : w'.os = w.os
  tape : w'.tape = w.tape
  output : w'.output = w.output
  size : w.heap.size ≤ w'.heap.size
  keep : ∀ k, k < w.heap.size → ¬ F k → w'.heap[k]? = w.heap[k]?
  fp : ∀ k, F' k → F k ∨ w.heap.size ≤ k
theorem Mv.below {F F' : Nat → Prop} {w w' : World} {B : Nat} (h : Mv F F' w w') (hF : ∀ k, F k → B ≤ k) (hB : B ≤ w.heap.size) : Below B w w' :=
  ⟨h.os, h.tape, h.output, h.size, fun k hk => h.keep k (by omega) (fun hf => by have := hF k hf; omega)⟩
theorem Mv.of_below {F : Nat → Prop} {w w' : World} (h : Below w.heap.size w w') : Mv F F w w' := ⟨h.os, h.tape, h.output, h.size, fun k hk _ => h.block k hk, fun _ h => .inl h⟩
theorem Mv.trans {F F' F'' : Nat → Prop} {a b c : World} (h : Mv F F' a b) (k : Mv F' F'' b c) : Mv F F'' a c :=
  ⟨k.os.trans h.os, k.tape.trans h.tape, k.output.trans h.output, Nat.le_trans h.size k.size,
   fun i hi hF => (k.keep i (Nat.lt_of_lt_of_le hi h.size) (fun hf => (h.fp i hf).elim hF (fun h2 => by omega))).trans (h.keep i hi hF),
   fun i hi => (k.fp i hi).elim (h.fp i) (fun h2 => .inr (Nat.le_trans h.size h2))⟩

/-- What setting a range answers, and what is set then. -/
def okS (s : Sp) : Bool := !(decide (s.1 < 0) || (decide (1114111 < s.2.1) || decide (s.2.1 < s.1)))
def setL (L : List Sp) (s : Sp) : List Sp := if okS s then L ++ [s] else L
def setE (s : Sp) : Int := if okS s then 0 else 11

theorem own_putv {w : World} {base e z n g c : Nat} {xs : List Value} (h : w.ownsRow base e z (.slice (some ⟨g, 0, none⟩) n c) n xs) (k : Nat) (y : Value) : (w.setCell ⟨g, k, none⟩ y).ownsRow base e z (.slice (some ⟨g, 0, none⟩) n c) n (xs.set k y) := by
  have h1 := h.1
  rcases h.2 with ⟨hv, _⟩ | ⟨g', cap, cur, hv, hg, hh, hn, hm, hc, ht⟩
  · cases hv
  · simp only [Value.slice.injEq, Option.some.injEq, Addr.mk.injEq, true_and, and_true] at hv
    obtain ⟨rfl, rfl⟩ := hv
    refine ⟨by rw [List.length_set]; exact h1, .inr ⟨g, c, cur.setIfInBounds k y, rfl, hg, by simp [World.setCell, Array.getElem?_modify, hh], hn, hm, by simpa using hc, ?_⟩⟩
    rw [Array.toList_setIfInBounds, List.take_set, ht]
theorem own_fz {w : World} {base e z n g c : Nat} {xs : List Value} (h : w.ownsRow base e z (.slice (some ⟨g, 0, none⟩) n c) n xs) (k : Nat) : w.frozen? ⟨g, k, none⟩ = false := by
  rcases h.2 with ⟨hv, _⟩ | ⟨g', cap, cur, hv, hg, hh, _⟩
  · cases hv
  · simp only [Value.slice.injEq, Option.some.injEq, Addr.mk.injEq, true_and, and_true] at hv
    obtain ⟨rfl, rfl⟩ := hv
    simp [World.frozen?, hh]
theorem own_cell {w : World} {base e z n g c : Nat} {xs : List Value} (h : w.ownsRow base e z (.slice (some ⟨g, 0, none⟩) n c) n xs) {k : Nat} {y : Value} (hk : xs[k]? = some y) : w.cell? ⟨g, k, none⟩ = some y := by
  have := h.cells (g := g) rfl k y hk
  have e : (⟨g, 0, none⟩ : Addr).add k = ⟨g, k, none⟩ := by unfold Addr.add; split <;> simp_all
  rw [e] at this
  exact this

end Go.Proofs.YtagbeioooohbgaaGreatDoor.Tr
end
section
namespace Go.Proofs.YtagbeioooohbgaaGreatDoor.Tr

def updS (g : Int → Int) (s : Sp) : Int → Int := if okS s then fun r => if inS s r then s.2.2 else g r else g
theorem updS_getL (nn : Int) (L : List Sp) (s : Sp) : updS (getL nn L) s = getL nn (setL L s) := by
  unfold updS setL
  split
  · funext r; rw [getL_snoc]
  · rfl
def setAll (L l : List Sp) : List Sp := l.foldl setL L
theorem setAll_take {L l : List Sp} {j : Nat} (h : j < l.length) : setAll L (l.take (j + 1)) = setL (setAll L (l.take j)) l[j] := by
  rw [List.take_succ_eq_append_getElem h]
  unfold setAll
  rw [List.foldl_append]
  rfl
theorem setL_ok {L : List Sp} {s : Sp} (h : ∀ x ∈ L, okS x = true) : ∀ x ∈ setL L s, okS x = true := by
  unfold setL
  split
  · rename_i hs
    intro x hx
    rcases List.mem_append.1 hx with hx | hx
    · exact h x hx
    · simp only [List.mem_singleton] at hx; subst hx; exact hs
  · exact h
theorem setAll_ok : ∀ (l L : List Sp), (∀ x ∈ L, okS x = true) → ∀ x ∈ setAll L l, okS x = true
  | [], _, h => h
  | s :: l, L, h => setAll_ok l (setL L s) (setL_ok h)
theorem setL_len (L : List Sp) (s : Sp) : (setL L s).length ≤ L.length + 1 := by unfold setL; split <;> simp
theorem setAll_len : ∀ (l L : List Sp), (setAll L l).length ≤ L.length + l.length
  | [], L => by simp [setAll]
  | s :: l, L => by
    have h1 := setAll_len l (setL L s)
    have h2 := setL_len L s
    have e : setAll L (s :: l) = setAll (setL L s) l := rfl
    rw [e, List.length_cons]
    omega

end Go.Proofs.YtagbeioooohbgaaGreatDoor.Tr
end
section
namespace Go.Proofs.YtagbeioooohbgaaGreatDoor.Ha
open Go.RowKit

theorem ret_int {k : IntKind} {a b : Int} (h : a = b) : Ending.returned (.int k a) = .returned (.int k b) := by rw [h]
theorem ret_bool {a b : Bool} (h : a = b) : Ending.returned (.bool a) = .returned (.bool b) := by rw [h]
theorem bel_drewN {B : Nat} {a w : World} (h : Below B a w) (n : Nat) : Below B a (w.drewN n) := ⟨h.os, h.tape, h.output, h.size, h.block⟩
theorem own_ne {w : World} {base : Nat} {e : TypeId} {size n : Nat} {v : Value} {xs : List Value} (h : w.ownsRow base e size v n xs) {b : Nat} (hb : b < base) : v.ownBlock ≠ some b := by
  intro he
  have := (h.lt b he).1
  omega
theorem below_grown {base : Nat} {w w' : World} {v : Value} {e : TypeId} {size n : Nat} {xs : List Value} (h : w.ownsRow base e size v n xs) (hg : w.grownBy w' v.ownBlock) (hb : base ≤ w.heap.size) : Below base w w' :=
  (Below.refl _ _).grown hg hb (fun k hk => (h.lt k hk).1)
theorem own_below {w w' : World} {b : Nat} {e : TypeId} {z n : Nat} {v : Value} {xs : List Value} (h : w.ownsRow b e z v n xs) (hb : Below w.heap.size w w') : w'.ownsRow b e z v n xs := by
  refine ⟨h.1, ?_⟩
  rcases h.2 with h2 | ⟨g, cap, cur, h1, h2, h3, h4⟩
  · exact .inl h2
  · exact .inr ⟨g, cap, cur, h1, h2, by rw [hb.block g (h.lt g (by rw [h1]; rfl)).2]; exact h3, h4⟩
theorem own_set {w : World} {b : Nat} {e : TypeId} {z n : Nat} {v : Value} {xs : List Value} {T o : Nat} (h : w.ownsRow b e z v n xs) (hne : v.ownBlock ≠ some T) (x : Value) : (w.setCell ⟨T, o, none⟩ x).ownsRow b e z v n xs := by
  refine ⟨h.1, ?_⟩
  rcases h.2 with h2 | ⟨g, cap, cur, h1, h2, h3, h4⟩
  · exact .inl h2
  · refine .inr ⟨g, cap, cur, h1, h2, ?_, h4⟩
    rw [Go.Deep.blk_setCell_other _ _ _ _ (fun he => hne (by have hg : g = T := he; rw [h1, hg]; rfl))]
    exact h3
def i32s (l : List Int) : List Value := l.map fun x => .int .i32 x
theorem i32s_app (a b : List Int) : i32s (a ++ b) = i32s a ++ i32s b := by simp [i32s]
theorem r_info : (Tryz.prog.info? 21).map (fun i => (i.zero, i.size, i.bytes)) = some (some (.int .i32 0), 1, 4) := by kernel_rfl
theorem own_low {w : World} {b b' : Nat} {e : TypeId} {z n : Nat} {v : Value} {xs : List Value} (h : w.ownsRow b e z v n xs) (hb : b' ≤ b) : w.ownsRow b' e z v n xs := by
  refine ⟨h.1, ?_⟩
  rcases h.2 with h2 | ⟨g, cap, cur, h1, h2, h3⟩
  · exact .inl h2
  · exact .inr ⟨g, cap, cur, h1, by omega, h3⟩
/-- A slice of numbers, in memory that is there. -/
def Ints (kd : IntKind) (w : World) (A : Option Addr) (l : List Int) : Prop :=
  ∀ i, i < l.length → ∃ b off, A = some ⟨b, off, none⟩ ∧ b < w.heap.size ∧ w.cell? ⟨b, off + i, none⟩ = some (.int kd (l.getD i 0))
theorem Ints.below {kd : IntKind} {w w' : World} {A : Option Addr} {l : List Int} (h : Ints kd w A l) (hb : Below w.heap.size w w') : Ints kd w' A l := fun i hi => by
  obtain ⟨b, off, e, hl, hc⟩ := h i hi
  exact ⟨b, off, e, Nat.lt_of_lt_of_le hl hb.size, (hb.cell (p := ⟨b, off + i, none⟩) hl).trans hc⟩
theorem take_more (l : List Int) (k : Nat) (h : k < l.length) : l.take (k + 1) = l.take k ++ [l.getD k 0] := by
  rw [List.take_succ_eq_append_getElem h]; simp [List.getD, List.getElem?_eq_getElem h]
theorem own_ints {w : World} {base : Nat} {v : Value} {l : List Int} (h : w.ownsRow base 21 1 v l.length (i32s l)) : ∃ A c, v = .slice A l.length c ∧ Ints .i32 w A l := by
  rcases h.2 with ⟨hv, hn⟩ | ⟨g, cap, cur, hv, hg, hh, hn, hm, hc, ht⟩
  · exact ⟨none, 0, by rw [hv, hn], fun i hi => by omega⟩
  · refine ⟨some ⟨g, 0, none⟩, cap, hv, fun i hi => ⟨g, 0, rfl, (h.lt g (by rw [hv]; rfl)).2, ?_⟩⟩
    have := h.cells (g := g) (by rw [hv]; rfl) i (.int .i32 (l.getD i 0)) (by simp [i32s, List.getD, List.getElem?_eq_getElem hi])
    have e : (⟨g, 0, none⟩ : Addr).add i = ⟨g, 0 + i, none⟩ := by unfold Addr.add; split <;> simp_all
    rw [e] at this
    exact this

theorem take_eq_more (l m : List Int) (k : Nat) (h : l.take k = m.take k) (hl : k < l.length) (hm : k < m.length) (he : l.getD k 0 = m.getD k 0) : l.take (k + 1) = m.take (k + 1) := by
  rw [take_more l k hl, take_more m k hm, h, he]
theorem ne_of_at (l m : List Int) (k : Nat) (he : l.getD k 0 ≠ m.getD k 0) : l ≠ m := fun h => he (by rw [h])

set_option maxRecDepth 100000 in
set_option maxHeartbeats 1000000 in
theorem eqR (A B : Option Addr) (c d : Nat) (l m : List Int) (w : World) (hl : Ints .i32 w A l) (hm : Ints .i32 w B m) (zl : l.length ≤ 100000) (_zm : m.length ≤ 100000) :
    Calls Tryz.prog 12 #[.slice A l.length c, .slice B m.length d] w fun e w' => e = .returned (.bool (decide (l = m))) ∧ Below w.heap.size w w' := by
  have HL := Lib.hid hl
  have HM := Lib.hid hm
  clear hl hm
  by_cases hn : l.length = m.length
  · have e1 : ((l.length : Int) != (m.length : Int)) = false := by rw [hn]; simp
    have HN := Lib.hid hn
    clear hn
    go_enter Tryz.func12, Tryz.ntmps12
    go_wp2_with fail
    go_loopw [5] (fun i wr => ∃ k : Nat, i = .int .i64 k ∧ k ≤ l.length ∧ Hid (l.take k = m.take k ∧ Below w.heap.size w wr)) (fun i _ => l.length - (intOf i).toNat)
    case atStart => exact ⟨0, rfl, by omega, rfl, Below.refl _ _⟩
    case round =>
      obtain ⟨k, rfl, hk, HQ⟩ := hrel
      by_cases hlt : k < l.length
      · have hlt2 : k < m.length := by rw [← HN.out]; exact hlt
        obtain ⟨b, off, rfl, hb, hc⟩ := HL.out k hlt
        obtain ⟨b2, off2, rfl, hb2, hc2⟩ := HM.out k hlt2
        have hc' : wr.cell? ⟨b, off + k, none⟩ = some (.int .i32 (l.getD k 0)) := (HQ.out.2.cell (p := ⟨b, off + k, none⟩) hb).trans hc
        have hc2' : wr.cell? ⟨b2, off2 + k, none⟩ = some (.int .i32 (m.getD k 0)) := (HQ.out.2.cell (p := ⟨b2, off2 + k, none⟩) hb2).trans hc2
        clear hc hc2
        have g1 : (k : Int) < l.length := by omega
        have g2 : (k : Int) < m.length := by omega
        generalize hx : l.getD k 0 = x at hc'
        generalize hy : m.getD k 0 = y at hc2'
        have HX := Lib.hid hx
        have HY := Lib.hid hy
        clear hx hy
        by_cases hxy : x = y
        · subst hxy
          go_wp2_with fail
          go_quiet (fail)
          go_wp2_with fail
          go_roundw
          case rel => exact ⟨k + 1, by go_num, by omega, take_eq_more l m k HQ.out.1 hlt hlt2 (by rw [HX.out, HY.out]), bel_drewN HQ.out.2 _⟩
          case measure => simp [intOf]; omega
        · have hne : (x != y) = true := by simpa using hxy
          have HE := Lib.hid (ne_of_at l m k (by rw [HX.out, HY.out]; exact hxy))
          clear hxy
          go_wp2_with fail
          go_quiet (fail)
          go_wp2_with fail
          go_ret
          exact ⟨ret_bool (by simp [HE.out]), bel_drewN HQ.out.2 _⟩
      · have g1 : ¬ (k : Int) < l.length := by omega
        have HE : Hid (l = m) := by
          have h := HQ.out.1
          have hh := HN.out
          rw [List.take_of_length_le (by omega), List.take_of_length_le (by omega)] at h
          exact h
        go_wp2
        go_ret
        exact ⟨ret_bool (by simp [HE.out]), HQ.out.2⟩
  · have e1 : ((l.length : Int) != (m.length : Int)) = true := by simp; omega
    have HE : Hid (¬ l = m) := fun h => hn (by rw [h])
    clear hn
    go_enter Tryz.func12, Tryz.ntmps12
    go_wp2
    go_ret
    exact ⟨ret_bool (by simp [HE.out]), Below.refl _ _⟩
/-- Onto a row of its own, all of another row. -/
theorem wpList_append_row {P : Program} {w : World} {ops : Array Oper} {rest : List Oper} {o : Oper} {a : Act} {Q : Exit → Act → World → Prop} (hgd : o.guard = none) (s x : Operand) (t : TypeId)
    (ho : o.op = .call { callee := .builtin .append, args := #[s, x], argTypes := #[t, t] })
    (base : Nat) (e : TypeId) (i : TypeInfo) (z : Value) (size bytes : Nat) (ht : P.underlying t = some (.slice e)) (hi : P.info? e = some i) (hz : i.zero = some z)
    (hsize : i.size = size) (hby : i.bytes = bytes) (hzs : z.cells.size = size) (hsz : 0 < size)
    (v : Value) (n : Nat) (xs : List Value) (hs : a.eval s = v) (hown : w.ownsRow base e size v n xs)
    (base2 : Nat) (v2 : Value) (m : Nat) (ys : List Value) (hx : a.eval x = v2) (hown2 : w.ownsRow base2 e size v2 m ys) (h1 : ∀ u ∈ ys, u.oneCell' = true)
    (h63 : n + m ≤ maxLen) (hbytes : (n + m) * bytes ≤ 140737488355328) (hbase : base ≤ w.heap.size)
    (h : ∀ v' w', w'.ownsRow base e size v' (n + m) (xs ++ ys) → w.grownBy w' v.ownBlock → (v'.ownBlock = v.ownBlock ∨ v'.ownBlock = some w.heap.size) → wpList P ops Q rest (a.put o.dst v') w') :
    wpList P ops Q (o :: rest) a w := by
  have hl := hown2.1
  rcases hown2.2 with ⟨rfl, rfl⟩ | ⟨g, cap, cur, rfl, _⟩
  · have : ys = [] := List.eq_nil_of_length_eq_zero (by rw [hl]; simp)
    subst this
    refine wpList_append_own_none hgd s x t ho base e i size ht hi v n xs hs hown hx ?_
    exact h v w (by simpa using hown) ⟨rfl, rfl, rfl, Nat.le_refl _, fun _ _ _ => rfl⟩ (.inl rfl)
  · refine wpList_append_own_at _ hgd s x t ho base e i z size bytes ht hi hz hsize hby hzs hsz v n xs hs hown ⟨g, 0, none⟩ m cap ys hx hl (hown2.cells (g := g) rfl) h1 h63 hbytes hbase ?_
    intro v' w' h2 h3 _ h5
    exact h v' w' h2 h3 h5
theorem i32s_one (l : List Int) : ∀ u ∈ i32s l, u.oneCell' = true := by
  intro u hu
  simp only [i32s, List.mem_map] at hu
  obtain ⟨x, _, rfl⟩ := hu
  rfl

/-- The table 'places' as it lies in memory. -/
structure Tab (w : World) : Prop where
  f0 : w.cell? ⟨0, 0, none⟩ = some (.int .i32 4352)
  l0 : w.cell? ⟨0, 1, none⟩ = some (.int .i32 4370)
  c0 : w.cell? ⟨0, 2, none⟩ = some (.int .i32 0)
  w0 : w.cell? ⟨0, 3, none⟩ = some (.int .i32 588)
  f1 : w.cell? ⟨0, 4, none⟩ = some (.int .i32 4449)
  l1 : w.cell? ⟨0, 5, none⟩ = some (.int .i32 4469)
  c1 : w.cell? ⟨0, 6, none⟩ = some (.int .i32 0)
  w1 : w.cell? ⟨0, 7, none⟩ = some (.int .i32 28)
  f2 : w.cell? ⟨0, 8, none⟩ = some (.int .i32 4520)
  l2 : w.cell? ⟨0, 9, none⟩ = some (.int .i32 4546)
  c2 : w.cell? ⟨0, 10, none⟩ = some (.int .i32 1)
  w2 : w.cell? ⟨0, 11, none⟩ = some (.int .i32 1)
theorem Tab.pos {w : World} (h : Tab w) : 0 + 1 ≤ w.heap.size := World.block_lt_of_cell? w _ h.f0
theorem Tab.below {B : Nat} {w w' : World} (h : Tab w) (hb : Below B w w') (hp : 0 + 1 ≤ B) : Tab w' := by
  have c : ∀ o, w'.cell? ⟨0, o, none⟩ = w.cell? ⟨0, o, none⟩ := fun o => hb.cell (p := ⟨0, o, none⟩) (by show 0 < B; omega)
  exact ⟨(c _).trans h.f0, (c _).trans h.l0, (c _).trans h.c0, (c _).trans h.w0, (c _).trans h.f1, (c _).trans h.l1, (c _).trans h.c1, (c _).trans h.w1, (c _).trans h.f2, (c _).trans h.l2, (c _).trans h.c2, (c _).trans h.w2⟩
theorem Tab.on {w w' : World} (h : Tab w) (hb : Below w.heap.size w w') : Tab w' := h.below hb h.pos

set_option maxHeartbeats 400000 in
theorem is_any (r : Int) (w : World) : Calls Tryz.prog 59 #[.int .i32 r] w fun e w' => e = .returned (.bool (isS r)) ∧ w = w' := by
  by_cases h1 : 44032 ≤ r
  · by_cases h2 : r ≤ 55203
    · have H := Lib.hid (show isS r = true by rw [isS_iff]; exact ⟨h1, h2⟩)
      go_enter Tryz.func59, Tryz.ntmps59
      go_wp2
      go_ret
      exact ⟨ret_bool (by simp [H.out]), rfl⟩
    · have H := Lib.hid (show isS r = false by rw [isS_no]; omega)
      go_enter Tryz.func59, Tryz.ntmps59
      go_wp2
      go_ret
      exact ⟨ret_bool (by simp [H.out]), rfl⟩
  · have H := Lib.hid (show isS r = false by rw [isS_no]; omega)
    go_enter Tryz.func59, Tryz.ntmps59
    go_wp2
    go_ret
    exact ⟨ret_bool (by simp [H.out]), rfl⟩

end Go.Proofs.YtagbeioooohbgaaGreatDoor.Ha
end
section
namespace Go.Proofs.YtagbeioooohbgaaGreatDoor.Ha
open Go.RowKit

def tl3 (r : Int) : Int := if tlN r = 0 then 0 else 4519 + tlN r
/-- A block told whole. -/
structure Bk (w : World) (X : Nat) (cs : List Value) (t : TypeId) : Prop where
  blk : w.heap[X]? = some (.cells cs.toArray t (0, 0))
theorem Bk.c {w : World} {X : Nat} {cs : List Value} {t : TypeId} (h : Bk w X cs t) {i : Nat} {v : Value} (hv : cs[i]? = some v) : w.cell? ⟨X, i, none⟩ = some v := by simp [World.cell?, h.blk, hv]
theorem Bk.fr {w : World} {X : Nat} {cs : List Value} {t : TypeId} (h : Bk w X cs t) (i : Nat) : w.frozen? ⟨X, i, none⟩ = false := by simp [World.frozen?, h.blk]
theorem Bk.lt {w : World} {X : Nat} {cs : List Value} {t : TypeId} (h : Bk w X cs t) : X < w.heap.size := (Array.getElem?_eq_some_iff.1 h.blk).1
theorem Bk.set {w : World} {X : Nat} {cs : List Value} {t : TypeId} (h : Bk w X cs t) (i : Nat) (x : Value) : Bk (w.setCell ⟨X, i, none⟩ x) X (cs.set i x) t := ⟨by simp [World.setCell, Array.getElem?_modify, h.blk]⟩
theorem Bk.drew {w : World} {X : Nat} {cs : List Value} {t : TypeId} (h : Bk w X cs t) (n : Nat) : Bk (w.drewN n) X cs t := ⟨h.blk⟩

/-- What madeOf has done so far, by the place. -/
structure MkR (w wr : World) (m0 m1 m2 : Int) : Prop where
  bel : Below w.heap.size w wr
  blk : Bk wr w.heap.size [.int .i32 m0, .int .i32 m1, .int .i32 m2] 115
theorem MkR.drew {w wr : World} {m0 m1 m2 : Int} (h : MkR w wr m0 m1 m2) (n : Nat) : MkR w (wr.drewN n) m0 m1 m2 := ⟨bel_drewN h.bel n, h.blk.drew n⟩
theorem MkR.drew1 {w wr : World} {m0 m1 m2 : Int} (h : MkR w wr m0 m1 m2) : MkR w wr.drew m0 m1 m2 := ⟨h.bel.drew, ⟨h.blk.blk⟩⟩
theorem MkR.set0 {w wr : World} {m0 m1 m2 : Int} (h : MkR w wr m0 m1 m2) (x : Int) : MkR w (wr.setCell ⟨w.heap.size, 0, none⟩ (.int .i32 x)) x m1 m2 := ⟨h.bel.setCell (Nat.le_refl _) _, h.blk.set 0 _⟩
theorem MkR.set1 {w wr : World} {m0 m1 m2 : Int} (h : MkR w wr m0 m1 m2) (x : Int) : MkR w (wr.setCell ⟨w.heap.size, 1, none⟩ (.int .i32 x)) m0 x m2 := ⟨h.bel.setCell (Nat.le_refl _) _, h.blk.set 1 _⟩
theorem MkR.set2 {w wr : World} {m0 m1 m2 : Int} (h : MkR w wr m0 m1 m2) (x : Int) : MkR w (wr.setCell ⟨w.heap.size, 2, none⟩ (.int .i32 x)) m0 m1 x := ⟨h.bel.setCell (Nat.le_refl _) _, h.blk.set 2 _⟩
set_option maxHeartbeats 4000000 in
set_option maxRecDepth 100000 in
theorem made_any (r : Int) (w : World) (hT : Tab w) (hr : isS r = true) :
    Calls Tryz.prog 60 #[.int .i32 r] w fun e w' => e = .returned (.agg #[.int .i32 (4352 + ldN r), .int .i32 (4449 + vwN r), .int .i32 (tl3 r)]) ∧ Below w.heap.size w w' := by
  have hpos := hT.pos
  have h1 := ldN_bd hr
  have h2 := vwN_bd r
  have h3 := tlN_bd r
  rw [isS_iff] at hr
  obtain ⟨x, hx⟩ : ∃ x, x = r - 44032 := ⟨_, rfl⟩
  have x0 : IntKind.i32.wrap (r - 44032) = x := by rw [IntKind.wrap_i32]; omega
  obtain ⟨a, ha⟩ : ∃ a, a = ldN r := ⟨_, rfl⟩
  obtain ⟨b, hb⟩ : ∃ b, b = vwN r := ⟨_, rfl⟩
  obtain ⟨c, hc⟩ : ∃ c, c = tlN r := ⟨_, rfl⟩
  obtain ⟨y, hy⟩ : ∃ y, y = x % 588 := ⟨_, rfl⟩
  have xa : x.tdiv 588 = a := by rw [Int.tdiv_eq_ediv_of_nonneg (by omega), ha]; unfold ldN; rw [hx]
  have xy : x.tmod 588 = y := by rw [Int.tmod_eq_emod_of_nonneg (by omega), hy]
  have yb : y.tdiv 28 = b := by rw [Int.tdiv_eq_ediv_of_nonneg (by omega), hb]; unfold vwN; rw [hy, hx]
  have yc : y.tmod 28 = c := by rw [Int.tmod_eq_emod_of_nonneg (by omega), hc]; unfold tlN; rw [hy, hx]
  have cd : c.tdiv 1 = c := by rw [Int.tdiv_one]
  have cm : c.tmod 1 = 0 := by rw [Int.tmod_one]
  have HF := Lib.hid (show tl3 r = if c = 0 then 0 else 4519 + c by rw [hc]; rfl)
  rw [← ha] at h1 ⊢
  rw [← hb] at h2 ⊢
  rw [← hc] at h3
  have hxb : 0 ≤ x ∧ x ≤ 11171 := by omega
  have hyb : 0 ≤ y ∧ y < 588 := by omega
  clear ha hb hc hy hx hr
  generalize tl3 r = tt at HF ⊢
  go_enter Tryz.func60, Tryz.ntmps60
  go_wp2_with fail
  go_loopw [3, 8] (fun left i wr => (i = .int .i64 0 ∧ left = .int .i32 x ∧ Hid (MkR w wr 0 0 0)) ∨ (i = .int .i64 1 ∧ left = .int .i32 y ∧ Hid (MkR w wr (4352 + a) 0 0)) ∨ (i = .int .i64 2 ∧ left = .int .i32 c ∧ Hid (MkR w wr (4352 + a) (4449 + b) 0)) ∨ (i = .int .i64 3 ∧ left = .int .i32 0 ∧ Hid (MkR w wr (4352 + a) (4449 + b) tt))) (fun _ i _ => 3 - (intOf i).toNat)
  case atStart => exact .inl ⟨rfl, rfl, (Below.refl _ w).alloc (Nat.le_refl _) _, ⟨heap_alloc_new w _⟩⟩
  case round =>
    rcases hrel with ⟨rfl, rfl, HM⟩ | ⟨rfl, rfl, HM⟩ | ⟨rfl, rfl, HM⟩ | ⟨rfl, rfl, HM⟩
    · have hTr := hT.on HM.out.bel
      obtain ⟨f0, -, c0, w0, -, -, -, -, -, -, -, -⟩ := hTr
      have d0 := HM.out.blk.c (i := 0) rfl
      have e0 := HM.out.blk.fr 0
      have n0 : ¬ a < 0 := by omega
      have n1 : IntKind.i32.wrap a = a := by rw [IntKind.wrap_i32]; omega
      have n2 : IntKind.i32.wrap y = y := by rw [IntKind.wrap_i32]; omega
      have n3 : IntKind.i32.wrap (4352 + a) = 4352 + a := by rw [IntKind.wrap_i32]; omega
      have n4 : IntKind.i32.wrap (4352 + a - 0) = 4352 + a := by rw [IntKind.wrap_i32]; omega
      go_wp2_with fail
      go_region
      go_wp2_with fail
      go_roundw
      case rel => exact .inr (.inl ⟨by go_num, rfl, (HM.out.set0 _).drew1⟩)
      case measure => simp [intOf]
    · have hTr := hT.on HM.out.bel
      obtain ⟨-, -, -, -, f0, -, c0, w0, -, -, -, -⟩ := hTr
      have d0 := HM.out.blk.c (i := 1) rfl
      have e0 := HM.out.blk.fr 1
      have n0 : ¬ b < 0 := by omega
      have n1 : IntKind.i32.wrap b = b := by rw [IntKind.wrap_i32]; omega
      have n2 : IntKind.i32.wrap c = c := by rw [IntKind.wrap_i32]; omega
      have n3 : IntKind.i32.wrap (4449 + b) = 4449 + b := by rw [IntKind.wrap_i32]; omega
      have n4 : IntKind.i32.wrap (4449 + b - 0) = 4449 + b := by rw [IntKind.wrap_i32]; omega
      go_wp2_with fail
      go_region
      go_wp2_with fail
      go_roundw
      case rel => exact .inr (.inr (.inl ⟨by go_num, rfl, (HM.out.set1 _).drew1⟩))
      case measure => simp [intOf]
    · have hTr := hT.on HM.out.bel
      obtain ⟨-, -, -, -, -, -, -, -, f0, -, c0, w0⟩ := hTr
      have d0 := HM.out.blk.c (i := 2) rfl
      have e0 := HM.out.blk.fr 2
      have n2 : IntKind.i32.wrap c = c := by rw [IntKind.wrap_i32]; omega
      by_cases hc0 : c = 0
      · have n0 : c < 1 := by omega
        have HE : Hid (tt = 0) := Lib.hid (by rw [HF.out, if_pos hc0])
        go_wp2_with fail
        go_roundw
        case rel => exact .inr (.inr (.inr ⟨by go_num, rfl, by rw [HE.out]; exact HM.out.set2 _⟩))
        case measure => simp [intOf]
      · have n0 : ¬ c < 1 := by omega
        have HE : Hid (tt = 4520 + c - 1) := Lib.hid (by rw [HF.out, if_neg hc0]; omega)
        have n3 : IntKind.i32.wrap (4520 + c) = 4520 + c := by rw [IntKind.wrap_i32]; omega
        have n4 : IntKind.i32.wrap (4520 + c - 1) = 4520 + c - 1 := by rw [IntKind.wrap_i32]; omega
        clear hc0
        go_wp2_with fail
        go_region
        go_wp2_with fail
        go_roundw
        case rel => exact .inr (.inr (.inr ⟨by go_num, rfl, by rw [HE.out]; exact (HM.out.set2 _).drew1⟩))
        case measure => simp [intOf]
    · have d0 := HM.out.blk.c (i := 0) rfl
      have d1 := HM.out.blk.c (i := 1) rfl
      have d2 := HM.out.blk.c (i := 2) rfl
      have e0 := HM.out.blk.fr 0
      have e1 := HM.out.blk.fr 1
      have e2 := HM.out.blk.fr 2
      go_wp2_with fail
      have HB := ((HM.out.blk.set 0 (.int .i32 (4352 + a))).set 1 (.int .i32 (4449 + b))).set 2 (.int .i32 tt)
      have q0 := HB.c (i := 0) rfl
      have q1 := HB.c (i := 1) rfl
      have q2 := HB.c (i := 2) rfl
      refine bodyPost_ret (v := .agg #[.int .i32 (4352 + a), .int .i32 (4449 + b), .int .i32 tt]) (by simp [results, Tryz.results60, go_sem, q0, q1, q2]) rfl ?_
      exact ⟨rfl, ((HM.out.bel.setCell (Nat.le_refl _) _).setCell (Nat.le_refl _) _).setCell (Nat.le_refl _) _⟩

end Go.Proofs.YtagbeioooohbgaaGreatDoor.Ha
end
section
namespace Go.Proofs.YtagbeioooohbgaaGreatDoor.Ha
open Go.RowKit

theorem ret_is {a : Int} {b c : Bool} (h : b = c) : Ending.returned (.tuple #[.int .i32 a, .bool b]) = .returned (.tuple #[.int .i32 a, .bool c]) := by rw [h]
set_option maxHeartbeats 400000 in
theorem stands0 (r : Int) (w : World) (hT : Tab w) : Calls Tryz.prog 57 #[.int .i64 0, .int .i32 r] w fun e w' => e = .returned (.bool (decide (4352 ≤ r ∧ r ≤ 4370))) ∧ w' = w := by
  have hpos := hT.pos
  obtain ⟨f, l, -, -, -, -, -, -, -, -, -, -⟩ := hT
  by_cases h1 : 4352 ≤ r
  · by_cases h2 : r ≤ 4370
    · have H := Lib.hid (show decide (4352 ≤ r ∧ r ≤ 4370) = true from decide_eq_true ⟨h1, h2⟩)
      go_enter Tryz.func57, Tryz.ntmps57
      go_wp2
      go_ret
      exact ⟨ret_bool (by simp; omega), rfl⟩
    · have H := Lib.hid (show decide (4352 ≤ r ∧ r ≤ 4370) = false from decide_eq_false (by omega))
      go_enter Tryz.func57, Tryz.ntmps57
      go_wp2
      go_ret
      exact ⟨ret_bool (by simp; omega), rfl⟩
  · have H := Lib.hid (show decide (4352 ≤ r ∧ r ≤ 4370) = false from decide_eq_false (by omega))
    go_enter Tryz.func57, Tryz.ntmps57
    go_wp2
    go_ret
    exact ⟨ret_bool (by simp; omega), rfl⟩
set_option maxHeartbeats 400000 in
theorem adds0 (r : Int) (w : World) (hT : Tab w) (hr : 4352 ≤ r ∧ r ≤ 4370) : Calls Tryz.prog 58 #[.int .i64 0, .int .i32 r] w fun e w' => e = .returned (.int .i32 ((r - 4352) * 588)) ∧ ∃ m, w' = w.drewN m := by
  have hpos := hT.pos
  obtain ⟨f, -, c, u, -, -, -, -, -, -, -, -⟩ := hT
  obtain ⟨d, hd⟩ : ∃ d, d = r - 4352 := ⟨_, rfl⟩
  have n1 : IntKind.i32.wrap (r - 4352) = d := by rw [IntKind.wrap_i32]; omega
  have n2 : IntKind.i32.wrap (d + 0) = d + 0 := by rw [IntKind.wrap_i32]; omega
  have n3 : IntKind.i32.wrap d = d := by rw [IntKind.wrap_i32]; omega
  have n4 : IntKind.i32.wrap ((d) * 588) = (d) * 588 := by rw [IntKind.wrap_i32]; omega
  have H := Lib.hid (show (d) * 588 = (r - 4352) * 588 by omega)
  clear hd hr
  go_enter Tryz.func58, Tryz.ntmps58
  go_wp2_with fail
  go_quiet (fail)
  go_wp2_with fail
  go_ret
  exact ⟨ret_int (by rw [← H.out]), _, rfl⟩
set_option maxHeartbeats 400000 in
theorem stands1 (r : Int) (w : World) (hT : Tab w) : Calls Tryz.prog 57 #[.int .i64 1, .int .i32 r] w fun e w' => e = .returned (.bool (decide (4449 ≤ r ∧ r ≤ 4469))) ∧ w' = w := by
  have hpos := hT.pos
  obtain ⟨-, -, -, -, f, l, -, -, -, -, -, -⟩ := hT
  by_cases h1 : 4449 ≤ r
  · by_cases h2 : r ≤ 4469
    · have H := Lib.hid (show decide (4449 ≤ r ∧ r ≤ 4469) = true from decide_eq_true ⟨h1, h2⟩)
      go_enter Tryz.func57, Tryz.ntmps57
      go_wp2
      go_ret
      exact ⟨ret_bool (by simp; omega), rfl⟩
    · have H := Lib.hid (show decide (4449 ≤ r ∧ r ≤ 4469) = false from decide_eq_false (by omega))
      go_enter Tryz.func57, Tryz.ntmps57
      go_wp2
      go_ret
      exact ⟨ret_bool (by simp; omega), rfl⟩
  · have H := Lib.hid (show decide (4449 ≤ r ∧ r ≤ 4469) = false from decide_eq_false (by omega))
    go_enter Tryz.func57, Tryz.ntmps57
    go_wp2
    go_ret
    exact ⟨ret_bool (by simp; omega), rfl⟩
set_option maxHeartbeats 400000 in
theorem adds1 (r : Int) (w : World) (hT : Tab w) (hr : 4449 ≤ r ∧ r ≤ 4469) : Calls Tryz.prog 58 #[.int .i64 1, .int .i32 r] w fun e w' => e = .returned (.int .i32 ((r - 4449) * 28)) ∧ ∃ m, w' = w.drewN m := by
  have hpos := hT.pos
  obtain ⟨-, -, -, -, f, -, c, u, -, -, -, -⟩ := hT
  obtain ⟨d, hd⟩ : ∃ d, d = r - 4449 := ⟨_, rfl⟩
  have n1 : IntKind.i32.wrap (r - 4449) = d := by rw [IntKind.wrap_i32]; omega
  have n2 : IntKind.i32.wrap (d + 0) = d + 0 := by rw [IntKind.wrap_i32]; omega
  have n3 : IntKind.i32.wrap d = d := by rw [IntKind.wrap_i32]; omega
  have n4 : IntKind.i32.wrap ((d) * 28) = (d) * 28 := by rw [IntKind.wrap_i32]; omega
  have H := Lib.hid (show (d) * 28 = (r - 4449) * 28 by omega)
  clear hd hr
  go_enter Tryz.func58, Tryz.ntmps58
  go_wp2_with fail
  go_quiet (fail)
  go_wp2_with fail
  go_ret
  exact ⟨ret_int (by rw [← H.out]), _, rfl⟩
set_option maxHeartbeats 400000 in
theorem stands2 (r : Int) (w : World) (hT : Tab w) : Calls Tryz.prog 57 #[.int .i64 2, .int .i32 r] w fun e w' => e = .returned (.bool (decide (4520 ≤ r ∧ r ≤ 4546))) ∧ w' = w := by
  have hpos := hT.pos
  obtain ⟨-, -, -, -, -, -, -, -, f, l, -, -⟩ := hT
  by_cases h1 : 4520 ≤ r
  · by_cases h2 : r ≤ 4546
    · have H := Lib.hid (show decide (4520 ≤ r ∧ r ≤ 4546) = true from decide_eq_true ⟨h1, h2⟩)
      go_enter Tryz.func57, Tryz.ntmps57
      go_wp2
      go_ret
      exact ⟨ret_bool (by simp; omega), rfl⟩
    · have H := Lib.hid (show decide (4520 ≤ r ∧ r ≤ 4546) = false from decide_eq_false (by omega))
      go_enter Tryz.func57, Tryz.ntmps57
      go_wp2
      go_ret
      exact ⟨ret_bool (by simp; omega), rfl⟩
  · have H := Lib.hid (show decide (4520 ≤ r ∧ r ≤ 4546) = false from decide_eq_false (by omega))
    go_enter Tryz.func57, Tryz.ntmps57
    go_wp2
    go_ret
    exact ⟨ret_bool (by simp; omega), rfl⟩
set_option maxHeartbeats 400000 in
theorem adds2 (r : Int) (w : World) (hT : Tab w) (hr : 4520 ≤ r ∧ r ≤ 4546) : Calls Tryz.prog 58 #[.int .i64 2, .int .i32 r] w fun e w' => e = .returned (.int .i32 (r - 4519)) ∧ ∃ m, w' = w.drewN m := by
  have hpos := hT.pos
  obtain ⟨-, -, -, -, -, -, -, -, f, -, c, u⟩ := hT
  obtain ⟨d, hd⟩ : ∃ d, d = r - 4520 := ⟨_, rfl⟩
  have n1 : IntKind.i32.wrap (r - 4520) = d := by rw [IntKind.wrap_i32]; omega
  have n2 : IntKind.i32.wrap (d + 1) = d + 1 := by rw [IntKind.wrap_i32]; omega
  have n3 : IntKind.i32.wrap d = d := by rw [IntKind.wrap_i32]; omega
  have n4 : IntKind.i32.wrap ((d + 1) * 1) = (d + 1) * 1 := by rw [IntKind.wrap_i32]; omega
  have H := Lib.hid (show (d + 1) * 1 = r - 4519 by omega)
  clear hd hr
  go_enter Tryz.func58, Tryz.ntmps58
  go_wp2_with fail
  go_quiet (fail)
  go_wp2_with fail
  go_ret
  exact ⟨ret_int (by rw [← H.out]; omega), _, rfl⟩

def spV (x : Int × Int × Bool) : Value := .tuple #[.int .i32 x.1, .int .i32 x.2.1, .bool x.2.2]
def jnV (x : Int × Bool) : Value := .tuple #[.int .i32 x.1, .bool x.2]
theorem spV_eq {x : Int × Int × Bool} {a b : Int} {c : Bool} (h : x = (a, b, c)) : Ending.returned (.tuple #[.int .i32 a, .int .i32 b, .bool c]) = .returned (spV x) := by subst h; rfl
theorem jnV_eq {x : Int × Bool} {a : Int} {c : Bool} (h : x = (a, c)) : Ending.returned (.tuple #[.int .i32 a, .bool c]) = .returned (jnV x) := by subst h; rfl

end Go.Proofs.YtagbeioooohbgaaGreatDoor.Ha
end
section
namespace Go.Proofs.YtagbeioooohbgaaGreatDoor.Ha
open Go.RowKit

theorem Tab.all {w : World} (h : Tab w) : ∀ W, Below w.heap.size w W → Tab W := fun _ hb => h.on hb
theorem spl_lv {r : Int} (h : isS r = true) (ht : tlN r = 0) : splE r = (4352 + ldN r, 4449 + vwN r, true) := by unfold splE; rw [if_pos h, if_pos ht]
theorem spl_st {r : Int} (h : isS r = true) (ht : tlN r ≠ 0) {t : Int} (e : t = 4519 + tlN r) : splE r = (r - (t - 4519), t, true) := by
  unfold splE
  rw [if_pos h, if_neg ht, e, show r - (4519 + tlN r - 4519) = r - tlN r by omega]
set_option maxHeartbeats 4000000 in
set_option maxRecDepth 100000 in
theorem split_any (r : Int) (w : World) (hT : Tab w) : Calls Tryz.prog 61 #[.int .i32 r] w fun e w' => e = .returned (spV (splE r)) ∧ Below w.heap.size w w' := by
  have HI := Lib.hid (is_any r w)
  have HA := Lib.hid hT.all
  cases h : isS r with
  | false =>
    rw [h] at HI
    have H := Lib.hid (split_no h)
    clear h
    go_enter Tryz.func61, Tryz.ntmps61
    go_wp2_with (go_at_call 59; refine HI.out.mono ?_; rintro e w' ⟨rfl, rfl⟩)
    exact bodyPost_ret (v := .tuple #[.int .i32 0, .int .i32 0, .bool false]) (by simp [results, Tryz.results61, go_sem]) rfl ⟨spV_eq H.out, Below.refl _ _⟩
  | true =>
    rw [h] at HI
    have HM := made_any r w hT h
    by_cases ht : tlN r = 0
    · have H := Lib.hid (spl_lv h ht)
      have e3 : tl3 r = 0 := if_pos ht
      rw [e3] at HM
      have HMM := Lib.hid HM
      clear h ht e3 HM hT
      generalize 4352 + ldN r = a at *
      generalize 4449 + vwN r = b at *
      go_enter Tryz.func61, Tryz.ntmps61
      go_wp2_with (first
        | (go_at_call 59; refine HI.out.mono ?_; rintro e w' ⟨rfl, rfl⟩)
        | (go_at_call 60; refine HMM.out.mono ?_; rintro e w1 ⟨rfl, hb⟩; have B1 := Lib.hid hb; clear hb))
      go_quiet (fail)
      go_wp2_with fail
      exact bodyPost_ret (v := .tuple #[.int .i32 a, .int .i32 b, .bool true]) (by simp [results, Tryz.results61, go_sem]) rfl ⟨spV_eq H.out, bel_drewN (B1.out.alloc B1.out.size _) _⟩
    · obtain ⟨t, ht9⟩ : ∃ t, t = 4519 + tlN r := ⟨_, rfl⟩
      have H := Lib.hid (spl_st h ht ht9)
      have hb9 := tlN_bd r
      rw [isS_iff] at h
      have e3 : tl3 r = t := by rw [ht9]; exact if_neg ht
      rw [e3] at HM
      have HMM := Lib.hid HM
      have hne : (t == 0) = false := by simp; omega
      have n1 : IntKind.i32.wrap (r - (t - 4519)) = r - (t - 4519) := by rw [IntKind.wrap_i32]; omega
      have HR := Lib.hid (show 4520 ≤ t ∧ t ≤ 4546 by omega)
      clear h ht e3 HM hT ht9 hb9
      generalize 4352 + ldN r = a at *
      generalize 4449 + vwN r = b at *
      go_enter Tryz.func61, Tryz.ntmps61
      go_wp2_with (first
        | (go_at_call 59; refine HI.out.mono ?_; rintro e w' ⟨rfl, rfl⟩)
        | (go_at_call 60; refine HMM.out.mono ?_; rintro e w1 ⟨rfl, hb⟩; have B1 := Lib.hid hb; clear hb))
      go_quiet ((go_at_call 58; exact Calls.quiet_of (adds2 _ _ (HA.out _ (bel_drewN (B1.out.alloc B1.out.size _) _)) HR.out)))
      go_wp2_with fail
      exact bodyPost_ret (v := .tuple #[.int .i32 (r - (t - 4519)), .int .i32 t, .bool true]) (by simp [results, Tryz.results61, go_sem]) rfl ⟨spV_eq H.out, bel_drewN (B1.out.alloc B1.out.size _) _⟩

end Go.Proofs.YtagbeioooohbgaaGreatDoor.Ha
end
section
namespace Go.Proofs.YtagbeioooohbgaaGreatDoor.Ha
open Go.RowKit

theorem idx0 (x y z : Value) (W : World) : (Instr.index 115 (.agg #[x, y, z]) (.int .i64 0)).run Tryz.prog W = .ok x W := by kernel_rfl
theorem idx1 (x y z : Value) (W : World) : (Instr.index 115 (.agg #[x, y, z]) (.int .i64 1)).run Tryz.prog W = .ok y W := by kernel_rfl
theorem idx2 (x y z : Value) (W : World) : (Instr.index 115 (.agg #[x, y, z]) (.int .i64 2)).run Tryz.prog W = .ok z W := by kernel_rfl
set_option maxHeartbeats 4000000 in
set_option maxRecDepth 100000 in
theorem join1 (a b : Int) (w : World) (hT : Tab w) (h1 : 4352 ≤ a ∧ a ≤ 4370) (h2 : 4449 ≤ b ∧ b ≤ 4469) : Calls Tryz.prog 28 #[.int .i32 a, .int .i32 b] w fun e w' => e = .returned (jnV (joinE a b)) ∧ Below w.heap.size w w' := by
  have HA := Lib.hid hT.all
  have H := Lib.hid (show joinE a b = (44032 + (a - 4352) * 588 + (b - 4449) * 28, true) by unfold joinE; rw [if_pos ⟨h1, h2⟩])
  have n1 : IntKind.i32.wrap (44032 + (a - 4352) * 588) = 44032 + (a - 4352) * 588 := by rw [IntKind.wrap_i32]; omega
  have n2 : IntKind.i32.wrap (44032 + (a - 4352) * 588 + (b - 4449) * 28) = 44032 + (a - 4352) * 588 + (b - 4449) * 28 := by rw [IntKind.wrap_i32]; omega
  have A0 := Lib.hid (fun W hW => adds0 a W hW h1)
  have A1 := Lib.hid (fun W hW => adds1 b W hW h2)
  have S0 := Lib.hid (show ∀ W, Tab W → Calls Tryz.prog 57 #[.int .i64 0, .int .i32 a] W fun e w' => e = .returned (.bool true) ∧ w' = W from fun W hW => by
    have h9 := stands0 a W hW
    rw [show decide (4352 ≤ a ∧ a ≤ 4370) = true by simp; omega] at h9
    exact h9)
  have S1 := Lib.hid (show ∀ W, Tab W → Calls Tryz.prog 57 #[.int .i64 1, .int .i32 b] W fun e w' => e = .returned (.bool true) ∧ w' = W from fun W hW => by
    have h9 := stands1 b W hW
    rw [show decide (4449 ≤ b ∧ b ≤ 4469) = true by simp; omega] at h9
    exact h9)
  go_enter Tryz.func28, Tryz.ntmps28
  go_wp2_with (first
    | (go_at_call 57; (with_reducible refine (S0.out _ (HA.out _ (Below.refl _ _))).mono ?_); rintro e w' ⟨rfl, rfl⟩)
    | (go_at_call 57; (with_reducible refine (S1.out _ (HA.out _ (Below.refl _ _))).mono ?_); rintro e w' ⟨rfl, rfl⟩)
    | (go_at_call 58; (with_reducible refine (A0.out _ (HA.out _ (Below.refl _ _))).mono ?_); rintro e w' ⟨rfl, m, rfl⟩)
    | (go_at_call 58; (with_reducible refine (A1.out _ (HA.out _ (bel_drewN (Below.refl _ _) _))).mono ?_); rintro e w' ⟨rfl, m2, rfl⟩))
  exact bodyPost_ret (v := .tuple #[.int .i32 (44032 + (a - 4352) * 588 + (b - 4449) * 28), .bool true]) (by simp [results, Tryz.results28, go_sem]) rfl ⟨jnV_eq H.out, (bel_drewN (Below.refl _ _) _)⟩
set_option maxHeartbeats 4000000 in
set_option maxRecDepth 100000 in
theorem join2 (a b : Int) (w : World) (hT : Tab w) (h1 : 4352 ≤ a ∧ a ≤ 4370) (h2 : ¬ (4449 ≤ b ∧ b ≤ 4469)) : Calls Tryz.prog 28 #[.int .i32 a, .int .i32 b] w fun e w' => e = .returned (jnV (joinE a b)) ∧ Below w.heap.size w w' := by
  have HA := Lib.hid hT.all
  have hs : isS a = false := by rw [isS_no]; omega
  have H := Lib.hid (show joinE a b = (0, false) by unfold joinE; rw [if_neg (by unfold lvB; omega), if_neg (by unfold stB; rw [hs]; simp)])
  have S0 := Lib.hid (show ∀ W, Tab W → Calls Tryz.prog 57 #[.int .i64 0, .int .i32 a] W fun e w' => e = .returned (.bool true) ∧ w' = W from fun W hW => by
    have h9 := stands0 a W hW
    rw [show decide (4352 ≤ a ∧ a ≤ 4370) = true by simp; omega] at h9
    exact h9)
  have S1 := Lib.hid (show ∀ W, Tab W → Calls Tryz.prog 57 #[.int .i64 1, .int .i32 b] W fun e w' => e = .returned (.bool false) ∧ w' = W from fun W hW => by
    have h9 := stands1 b W hW
    rw [show decide (4449 ≤ b ∧ b ≤ 4469) = false by simp; omega] at h9
    exact h9)
  have HI := Lib.hid (show Calls Tryz.prog 59 #[.int .i32 a] w fun e w' => e = .returned (.bool false) ∧ w = w' from by
    have h9 := is_any a w
    rw [hs] at h9
    exact h9)
  go_enter Tryz.func28, Tryz.ntmps28
  go_wp2_with (first
    | (go_at_call 57; (with_reducible refine (S0.out _ (HA.out _ (Below.refl _ _))).mono ?_); rintro e w' ⟨rfl, rfl⟩)
    | (go_at_call 57; (with_reducible refine (S1.out _ (HA.out _ (Below.refl _ _))).mono ?_); rintro e w' ⟨rfl, rfl⟩)
    | (go_at_call 59; refine HI.out.mono ?_; rintro e w' ⟨rfl, rfl⟩))
  exact bodyPost_ret (v := .tuple #[.int .i32 (0), .bool false]) (by simp [results, Tryz.results28, go_sem]) rfl ⟨jnV_eq H.out, (Below.refl _ _)⟩
set_option maxHeartbeats 4000000 in
set_option maxRecDepth 100000 in
theorem join3 (a b : Int) (w : World) (hT : Tab w) (h1 : ¬ (4352 ≤ a ∧ a ≤ 4370)) (hs : isS a = false) : Calls Tryz.prog 28 #[.int .i32 a, .int .i32 b] w fun e w' => e = .returned (jnV (joinE a b)) ∧ Below w.heap.size w w' := by
  have HA := Lib.hid hT.all
  have H := Lib.hid (show joinE a b = (0, false) by unfold joinE; rw [if_neg (by unfold lvB; omega), if_neg (by unfold stB; rw [hs]; simp)])
  have S0 := Lib.hid (show ∀ W, Tab W → Calls Tryz.prog 57 #[.int .i64 0, .int .i32 a] W fun e w' => e = .returned (.bool false) ∧ w' = W from fun W hW => by
    have h9 := stands0 a W hW
    rw [show decide (4352 ≤ a ∧ a ≤ 4370) = false by simp; omega] at h9
    exact h9)
  have HI := Lib.hid (show Calls Tryz.prog 59 #[.int .i32 a] w fun e w' => e = .returned (.bool false) ∧ w = w' from by
    have h9 := is_any a w
    rw [hs] at h9
    exact h9)
  go_enter Tryz.func28, Tryz.ntmps28
  go_wp2_with (first
    | (go_at_call 57; (with_reducible refine (S0.out _ (HA.out _ (Below.refl _ _))).mono ?_); rintro e w' ⟨rfl, rfl⟩)
    | (go_at_call 59; refine HI.out.mono ?_; rintro e w' ⟨rfl, rfl⟩))
  exact bodyPost_ret (v := .tuple #[.int .i32 (0), .bool false]) (by simp [results, Tryz.results28, go_sem]) rfl ⟨jnV_eq H.out, (Below.refl _ _)⟩
set_option maxHeartbeats 4000000 in
set_option maxRecDepth 100000 in
theorem join4 (a b : Int) (w : World) (hT : Tab w) (h1 : ¬ (4352 ≤ a ∧ a ≤ 4370)) (hs : isS a = true) (ht : tlN a ≠ 0) : Calls Tryz.prog 28 #[.int .i32 a, .int .i32 b] w fun e w' => e = .returned (jnV (joinE a b)) ∧ Below w.heap.size w w' := by
  have HA := Lib.hid hT.all
  have hix := idx2
  have HM := Lib.hid (made_any a w hT hs)
  have H := Lib.hid (show joinE a b = (0, false) by unfold joinE; rw [if_neg (by unfold lvB; omega), if_neg (by unfold stB; omega)])
  have hb9 := tlN_bd a
  have e9 : (tl3 a == 0) = false := by
    have : tl3 a = 4519 + tlN a := if_neg ht
    rw [this]; simp; omega
  have S0 := Lib.hid (show ∀ W, Tab W → Calls Tryz.prog 57 #[.int .i64 0, .int .i32 a] W fun e w' => e = .returned (.bool false) ∧ w' = W from fun W hW => by
    have h9 := stands0 a W hW
    rw [show decide (4352 ≤ a ∧ a ≤ 4370) = false by simp; omega] at h9
    exact h9)
  have HI := Lib.hid (show Calls Tryz.prog 59 #[.int .i32 a] w fun e w' => e = .returned (.bool true) ∧ w = w' from by
    have h9 := is_any a w
    rw [hs] at h9
    exact h9)
  go_enter Tryz.func28, Tryz.ntmps28
  go_wp2_with (first
    | (go_at_call 57; (with_reducible refine (S0.out _ (HA.out _ (Below.refl _ _))).mono ?_); rintro e w' ⟨rfl, rfl⟩)
    | (go_at_call 59; refine HI.out.mono ?_; rintro e w' ⟨rfl, rfl⟩)
    | (go_at_call 60; refine HM.out.mono ?_; rintro e w1 ⟨rfl, hb⟩; have B1 := Lib.hid hb; clear hb))
  exact bodyPost_ret (v := .tuple #[.int .i32 (0), .bool false]) (by simp [results, Tryz.results28, go_sem]) rfl ⟨jnV_eq H.out, B1.out⟩
set_option maxHeartbeats 4000000 in
set_option maxRecDepth 100000 in
theorem join5 (a b : Int) (w : World) (hT : Tab w) (_h1 : ¬ (4352 ≤ a ∧ a ≤ 4370)) (hs : isS a = true) (ht : tlN a = 0) (h3 : 4520 ≤ b ∧ b ≤ 4546) : Calls Tryz.prog 28 #[.int .i32 a, .int .i32 b] w fun e w' => e = .returned (jnV (joinE a b)) ∧ Below w.heap.size w w' := by
  have HA := Lib.hid hT.all
  have hix := idx2
  have HM := Lib.hid (made_any a w hT hs)
  have e3 : tl3 a = 0 := if_pos ht
  rw [e3] at HM
  have H := Lib.hid (show joinE a b = (a + (b - 4519), true) by unfold joinE; rw [if_neg (by unfold lvB; omega), if_pos ⟨⟨hs, ht⟩, h3⟩])
  have A2 := Lib.hid (fun W hW => adds2 b W hW h3)
  have h9 := (isS_iff a).1 hs
  have n1 : IntKind.i32.wrap (a + (b - 4519)) = a + (b - 4519) := by rw [IntKind.wrap_i32]; omega
  clear e3 ht
  have S0 := Lib.hid (show ∀ W, Tab W → Calls Tryz.prog 57 #[.int .i64 0, .int .i32 a] W fun e w' => e = .returned (.bool false) ∧ w' = W from fun W hW => by
    have h9 := stands0 a W hW
    rw [show decide (4352 ≤ a ∧ a ≤ 4370) = false by simp; omega] at h9
    exact h9)
  have S2 := Lib.hid (show ∀ W, Tab W → Calls Tryz.prog 57 #[.int .i64 2, .int .i32 b] W fun e w' => e = .returned (.bool true) ∧ w' = W from fun W hW => by
    have h9 := stands2 b W hW
    rw [show decide (4520 ≤ b ∧ b ≤ 4546) = true by simp; omega] at h9
    exact h9)
  have HI := Lib.hid (show Calls Tryz.prog 59 #[.int .i32 a] w fun e w' => e = .returned (.bool true) ∧ w = w' from by
    have h9 := is_any a w
    rw [hs] at h9
    exact h9)
  go_enter Tryz.func28, Tryz.ntmps28
  go_wp2_with (first
    | (go_at_call 57; (with_reducible refine (S0.out _ (HA.out _ (Below.refl _ _))).mono ?_); rintro e w' ⟨rfl, rfl⟩)
    | (go_at_call 57; (with_reducible refine (S2.out _ (HA.out _ B1.out)).mono ?_); rintro e w' ⟨rfl, rfl⟩)
    | (go_at_call 59; refine HI.out.mono ?_; rintro e w' ⟨rfl, rfl⟩)
    | (go_at_call 60; refine HM.out.mono ?_; rintro e w1 ⟨rfl, hb⟩; have B1 := Lib.hid hb; clear hb)
    | (go_at_call 58; (with_reducible refine (A2.out _ (HA.out _ B1.out)).mono ?_); rintro e w' ⟨rfl, m, rfl⟩))
  exact bodyPost_ret (v := .tuple #[.int .i32 (a + (b - 4519)), .bool true]) (by simp [results, Tryz.results28, go_sem]) rfl ⟨jnV_eq H.out, (bel_drewN B1.out _)⟩
set_option maxHeartbeats 4000000 in
set_option maxRecDepth 100000 in
theorem join6 (a b : Int) (w : World) (hT : Tab w) (h1 : ¬ (4352 ≤ a ∧ a ≤ 4370)) (hs : isS a = true) (ht : tlN a = 0) (h3 : ¬ (4520 ≤ b ∧ b ≤ 4546)) : Calls Tryz.prog 28 #[.int .i32 a, .int .i32 b] w fun e w' => e = .returned (jnV (joinE a b)) ∧ Below w.heap.size w w' := by
  have HA := Lib.hid hT.all
  have hix := idx2
  have HM := Lib.hid (made_any a w hT hs)
  have e3 : tl3 a = 0 := if_pos ht
  rw [e3] at HM
  have H := Lib.hid (show joinE a b = (0, false) by unfold joinE; rw [if_neg (by unfold lvB; omega), if_neg (by unfold stB; omega)])
  clear e3 ht
  have S0 := Lib.hid (show ∀ W, Tab W → Calls Tryz.prog 57 #[.int .i64 0, .int .i32 a] W fun e w' => e = .returned (.bool false) ∧ w' = W from fun W hW => by
    have h9 := stands0 a W hW
    rw [show decide (4352 ≤ a ∧ a ≤ 4370) = false by simp; omega] at h9
    exact h9)
  have S2 := Lib.hid (show ∀ W, Tab W → Calls Tryz.prog 57 #[.int .i64 2, .int .i32 b] W fun e w' => e = .returned (.bool false) ∧ w' = W from fun W hW => by
    have h9 := stands2 b W hW
    rw [show decide (4520 ≤ b ∧ b ≤ 4546) = false by simp; omega] at h9
    exact h9)
  have HI := Lib.hid (show Calls Tryz.prog 59 #[.int .i32 a] w fun e w' => e = .returned (.bool true) ∧ w = w' from by
    have h9 := is_any a w
    rw [hs] at h9
    exact h9)
  go_enter Tryz.func28, Tryz.ntmps28
  go_wp2_with (first
    | (go_at_call 57; (with_reducible refine (S0.out _ (HA.out _ (Below.refl _ _))).mono ?_); rintro e w' ⟨rfl, rfl⟩)
    | (go_at_call 57; (with_reducible refine (S2.out _ (HA.out _ B1.out)).mono ?_); rintro e w' ⟨rfl, rfl⟩)
    | (go_at_call 59; refine HI.out.mono ?_; rintro e w' ⟨rfl, rfl⟩)
    | (go_at_call 60; refine HM.out.mono ?_; rintro e w1 ⟨rfl, hb⟩; have B1 := Lib.hid hb; clear hb))
  exact bodyPost_ret (v := .tuple #[.int .i32 (0), .bool false]) (by simp [results, Tryz.results28, go_sem]) rfl ⟨jnV_eq H.out, B1.out⟩
theorem join_any (a b : Int) (w : World) (hT : Tab w) : Calls Tryz.prog 28 #[.int .i32 a, .int .i32 b] w fun e w' => e = .returned (jnV (joinE a b)) ∧ Below w.heap.size w w' := by
  by_cases h1 : 4352 ≤ a ∧ a ≤ 4370
  · by_cases h2 : 4449 ≤ b ∧ b ≤ 4469
    · exact join1 a b w hT h1 h2
    · exact join2 a b w hT h1 h2
  · cases hs : isS a with
    | false => exact join3 a b w hT h1 hs
    | true =>
      by_cases ht : tlN a = 0
      · by_cases h3 : 4520 ≤ b ∧ b ≤ 4546
        · exact join5 a b w hT h1 hs ht h3
        · exact join6 a b w hT h1 hs ht h3
      · exact join4 a b w hT h1 hs ht

end Go.Proofs.YtagbeioooohbgaaGreatDoor.Ha
end
section
namespace Go.Proofs.YtagbeioooohbgaaGreatDoor.Ha
open Go.RowKit

theorem of_any (a b c : Int) (w : World) (ha : -1 ≤ a ∧ a ≤ 20) (hb : 0 ≤ b ∧ b ≤ 21) (hc : 0 ≤ c ∧ c ≤ 28) :
    Calls Tryz.prog 67 #[.int .i64 a, .int .i64 b, .int .i64 c] w fun e w' => e = .returned (.int .i32 (44032 + 588 * a + 28 * b + c)) ∧ w = w' := by
  have n1 : wrap64 (588 * a) = 588 * a := by unfold wrap64; omega
  have n2 : wrap64 (44032 + 588 * a) = 44032 + 588 * a := by unfold wrap64; omega
  have n3 : wrap64 (28 * b) = 28 * b := by unfold wrap64; omega
  have n4 : wrap64 (44032 + 588 * a + 28 * b) = 44032 + 588 * a + 28 * b := by unfold wrap64; omega
  have n5 : wrap64 (44032 + 588 * a + 28 * b + c) = 44032 + 588 * a + 28 * b + c := by unfold wrap64; omega
  have n6 : IntKind.i32.wrap (44032 + 588 * a + 28 * b + c) = 44032 + 588 * a + 28 * b + c := by rw [IntKind.wrap_i32]; omega
  go_enter Tryz.func67, Tryz.ntmps67
  go_wp2
  go_ret
  exact ⟨rfl, rfl⟩

/-- What Find answers. -/
def findE (r : Int) : Int × Int × Int × Bool := if isS r = true then (ldN r, vwN r, tlN r, true) else (0, 0, 0, false)
def fdV (x : Int × Int × Int × Bool) : Value := .tuple #[.int .i64 x.1, .int .i64 x.2.1, .int .i64 x.2.2.1, .bool x.2.2.2]
theorem fdV_eq {x : Int × Int × Int × Bool} {a b c : Int} {d : Bool} (h : x = (a, b, c, d)) : Ending.returned (.tuple #[.int .i64 a, .int .i64 b, .int .i64 c, .bool d]) = .returned (fdV x) := by subst h; rfl
theorem find_at {r a b c : Int} (ha : 0 ≤ a ∧ a < 19) (hb : 0 ≤ b ∧ b < 21) (hc : 0 ≤ c ∧ c < 28) (h : 44032 + 588 * a + 28 * b + c = r) : findE r = (a, b, c, true) := by
  obtain ⟨h1, h2, h3⟩ := parts_of (a := a) hb hc
  rw [h] at h1 h2 h3
  unfold findE
  rw [if_pos (by rw [isS_iff]; omega), h1, h2, h3]
theorem find_no {r : Int} (h : ¬ (44032 ≤ r ∧ r ≤ 55203)) : findE r = (0, 0, 0, false) := by
  unfold findE
  rw [if_neg (by rw [isS_iff]; exact h)]

set_option maxHeartbeats 4000000 in
set_option maxRecDepth 100000 in
theorem find_any (r : Int) (w : World) : Calls Tryz.prog 66 #[.int .i32 r] w fun e w' => e = .returned (fdV (findE r)) ∧ w = w' := by
  go_enter Tryz.func66, Tryz.ntmps66
  go_wp2_with fail
  go_loop [6] (fun i => ∃ a : Int, i = .int .i64 a ∧ 0 ≤ a ∧ a ≤ 19 ∧ (r < 44032 ∨ 44032 + 588 * a ≤ r)) (fun i => (19 - intOf i).toNat)
  case atStart => exact ⟨0, rfl, by omega, by omega, by omega⟩
  case round =>
    obtain ⟨a, rfl, a0, a1, hr⟩ := hrel
    have m1 : wrap64 (a + 1) = a + 1 := by unfold wrap64; omega
    by_cases hlt : a < 19
    · have O1 := Lib.hid (of_any a 0 0 w (by omega) (by omega) (by omega))
      have O2 := Lib.hid (of_any (a + 1) 0 0 w (by omega) (by omega) (by omega))
      by_cases h1 : r < 44032 + 588 * a
      · go_wp2_with (first
          | (go_at_call 67; (with_reducible refine O1.out.mono ?_); rintro e w' ⟨rfl, rfl⟩)
          | (go_at_call 67; (with_reducible refine O2.out.mono ?_); rintro e w' ⟨rfl, rfl⟩))
        go_round
        case rel => exact ⟨a + 1, rfl, by omega, by omega, by omega⟩
        case measure => simp [intOf]; omega
      · by_cases h2 : 44032 + 588 * (a + 1) ≤ r
        · go_wp2_with (first
            | (go_at_call 67; (with_reducible refine O1.out.mono ?_); rintro e w' ⟨rfl, rfl⟩)
            | (go_at_call 67; (with_reducible refine O2.out.mono ?_); rintro e w' ⟨rfl, rfl⟩))
          go_round
          case rel => exact ⟨a + 1, rfl, by omega, by omega, by omega⟩
          case measure => simp [intOf]; omega
        · go_wp2_with (first
            | (go_at_call 67; (with_reducible refine O1.out.mono ?_); rintro e w' ⟨rfl, rfl⟩)
            | (go_at_call 67; (with_reducible refine O2.out.mono ?_); rintro e w' ⟨rfl, rfl⟩))
          go_loop [7] (fun i => ∃ b : Int, i = .int .i64 b ∧ 0 ≤ b ∧ b ≤ 21 ∧ 44032 + 588 * a + 28 * b ≤ r) (fun i => (21 - intOf i).toNat)
          case atStart => exact ⟨0, rfl, by omega, by omega, by omega⟩
          case round =>
            obtain ⟨b, rfl, b0, b1, hb⟩ := hrel
            have m2 : wrap64 (b + 1) = b + 1 := by unfold wrap64; omega
            by_cases hlt2 : b < 21
            · go_wp2_with fail
              go_loop [8] (fun i => ∃ c : Int, i = .int .i64 c ∧ 0 ≤ c ∧ c ≤ 28 ∧ 44032 + 588 * a + 28 * b + c ≤ r) (fun i => (28 - intOf i).toNat)
              case atStart => exact ⟨0, rfl, by omega, by omega, by omega⟩
              case round =>
                obtain ⟨c, rfl, c0, c1, hc⟩ := hrel
                have m3 : wrap64 (c + 1) = c + 1 := by unfold wrap64; omega
                by_cases hlt3 : c < 28
                · have O3 := Lib.hid (of_any a b c w (by omega) (by omega) (by omega))
                  by_cases he : 44032 + 588 * a + 28 * b + c = r
                  · have hE := find_at ⟨a0, hlt⟩ ⟨b0, hlt2⟩ ⟨c0, hlt3⟩ he
                    have H := Lib.hid hE
                    have hbe : (44032 + 588 * a + 28 * b + c == r) = true := by simp [he]
                    clear hE he
                    go_wp2_with (go_at_call 67; (with_reducible refine O3.out.mono ?_); rintro e w' ⟨rfl, rfl⟩)
                    exact bodyPost_ret (v := .tuple #[.int .i64 a, .int .i64 b, .int .i64 c, .bool true]) (by simp [results, Tryz.results66, go_sem]) rfl ⟨fdV_eq H.out, rfl⟩
                  · have hbe : (44032 + 588 * a + 28 * b + c == r) = false := by simp [he]
                    go_wp2_with (go_at_call 67; (with_reducible refine O3.out.mono ?_); rintro e w' ⟨rfl, rfl⟩)
                    go_round
                    case rel => exact ⟨c + 1, rfl, by omega, by omega, by omega⟩
                    case measure => simp [intOf]; omega
                · go_wp2_with fail
                  go_round
                  case rel => exact ⟨b + 1, rfl, by omega, by omega, by omega⟩
                  case measure => simp [intOf]; omega
            · exfalso
              omega
    · have H := Lib.hid (find_no (r := r) (by omega))
      go_wp2_with fail
      exact bodyPost_ret (v := .tuple #[.int .i64 0, .int .i64 0, .int .i64 0, .bool false]) (by simp [results, Tryz.results66, go_sem]) rfl ⟨fdV_eq H.out, rfl⟩

end Go.Proofs.YtagbeioooohbgaaGreatDoor.Ha
end

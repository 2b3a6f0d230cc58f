import Derived.Test.YtajhgbcgbgpcjaaDoorFHa
namespace Go.Proofs.YtajhgbcgbgpcjaaDoor.Fi
open Go.RowKit

/-- A variable of one cell in a block of its own. -/
structure One (w : World) (X : Nat) (v : Value) (t : TypeId) : Prop where
  blk : w.heap[X]? = some (.cells #[v] t (0, 0))
theorem One.c {w : World} {X : Nat} {v : Value} {t : TypeId} (h : One w X v t) : w.cell? ⟨X, 0, none⟩ = some v := by simp [World.cell?, h.blk]
theorem One.fr {w : World} {X : Nat} {v : Value} {t : TypeId} (h : One w X v t) : w.frozen? ⟨X, 0, none⟩ = false := by simp [World.frozen?, h.blk]
theorem One.lt {w : World} {X : Nat} {v : Value} {t : TypeId} (h : One w X v t) : X < w.heap.size := (Array.getElem?_eq_some_iff.1 h.blk).1
theorem One.ne {w : World} {X : Nat} {v : Value} {t : TypeId} (h : One w X v t) {b e z n : Nat} {v' : Value} {xs : List Value} (ho : w.ownsRow b e z v' n xs) (ht : t ≠ e) : v'.ownBlock ≠ some X := by
  intro he
  rcases ho.2 with ⟨rfl, _⟩ | ⟨g, cap, cur, rfl, _, hg, _⟩
  · cases he
  · have : g = X := by injection he
    subst this
    rw [h.blk] at hg
    simp at hg
    exact ht hg.2
theorem One.below {w w' : World} {X : Nat} {v : Value} {t : TypeId} (h : One w X v t) (hb : Below w.heap.size w w') : One w' X v t := ⟨(hb.block X h.lt).trans h.blk⟩
theorem One.grown {w w' : World} {X : Nat} {v : Value} {t : TypeId} (h : One w X v t) {r : Option Nat} (hg : w.grownBy w' r) (hr : r ≠ some X) : One w' X v t := ⟨(hg.block X h.lt (fun e => hr e.symm)).trans h.blk⟩
theorem One.alloc {w : World} {X : Nat} {v : Value} {t : TypeId} (h : One w X v t) (o : Obj) : One (w.alloc o) X v t := ⟨(Below.heap_alloc _ _ _ h.lt).trans h.blk⟩
theorem One.set {w : World} {X : Nat} {v : Value} {t : TypeId} (h : One w X v t) (x : Value) : One (w.setCell ⟨X, 0, none⟩ x) X x t := ⟨by simp [World.setCell, Array.getElem?_modify, h.blk]⟩
theorem One.other {w : World} {X : Nat} {v : Value} {t : TypeId} (h : One w X v t) {Y : Nat} (hn : X ≠ Y) (x : Value) : One (w.setCell ⟨Y, 0, none⟩ x) X v t := ⟨(Go.Deep.blk_setCell_other _ _ _ _ hn).trans h.blk⟩
theorem One.drew {w : World} {X : Nat} {v : Value} {t : TypeId} (h : One w X v t) (n : Nat) : One (w.drewN n) X v t := ⟨h.blk⟩
theorem own_set {w : World} {b : Nat} {e : TypeId} {z n : Nat} {v : Value} {xs : List Value} {T o : Nat} (h : w.ownsRow b e z v n xs) (hne : v.ownBlock ≠ some T) (x : Value) : (w.setCell ⟨T, o, none⟩ x).ownsRow b e z v n xs := by
  refine ⟨h.1, ?_⟩
  rcases h.2 with h2 | ⟨g, cap, cur, h1, h2, h3, h4⟩
  · exact .inl h2
  · refine .inr ⟨g, cap, cur, h1, h2, ?_, h4⟩
    rw [Go.Deep.blk_setCell_other _ _ _ _ (fun he => hne (by have hg : g = T := he; rw [h1, hg]; rfl))]
    exact h3
theorem own_drew {w : World} {b : Nat} {e : TypeId} {z n : Nat} {v : Value} {xs : List Value} (h : w.ownsRow b e z v n xs) (m : Nat) : (w.drewN m).ownsRow b e z v n xs := h

def fnV (X M : Nat) : Value := .func (.func 83) #[] #[.pointer (some ⟨M, 0, none⟩), .pointer (some ⟨X, 0, none⟩)]
set_option maxHeartbeats 1000000 in
theorem takeOff_any (s : ByteArray) (w : World) :
    Calls Tryd.prog 60 #[.string s] w fun e w' => e = .returned (.func (.func 83) #[] #[.pointer (some ⟨w.heap.size + 1, 0, none⟩), .pointer (some ⟨w.heap.size, 0, none⟩)]) ∧ One w' w.heap.size (.string s) 9 ∧ One w' (w.heap.size + 1) (.bool true) 4 ∧ Below w.heap.size w w' := by
  go_enter Tryd.func60, Tryd.ntmps60
  go_wp2_with fail
  go_ret
  refine ⟨rfl, ?_, ?_, ?_⟩
  · exact One.alloc ⟨heap_alloc_new w _⟩ _
  · exact ⟨by have := heap_alloc_new (w.alloc (.cells #[.string s] 9)) (.cells #[.bool true] 4); simpa using this⟩
  · exact ((Below.refl _ w).alloc (Nat.le_refl _) _).alloc (by simp) _

/-- The next line, and how the two variables stand behind it. -/
structure Tk (w w' : World) (X M : Nat) (t r : ByteArray) (f : Bool) : Prop where
  eq : ∃ n, w' = ((w.drewN n).setCell ⟨X, 0, none⟩ (.string r)).setCell ⟨M, 0, none⟩ (.bool f)
set_option maxHeartbeats 1000000 in
theorem take_end (X M : Nat) (_t : ByteArray) (w : World) (hM : One w M (.bool false) 4) :
    Calls Tryd.prog 83 #[.pointer (some ⟨M, 0, none⟩), .pointer (some ⟨X, 0, none⟩)] w fun e w' => e = .returned (.tuple #[.string ⟨#[]⟩, .bool false]) ∧ w = w' := by
  have c1 := hM.c
  go_enter Tryd.func83, Tryd.ntmps83
  go_wp2_with fail
  go_ret2
  exact ⟨rfl, rfl⟩
set_option maxHeartbeats 1000000 in
theorem take_next (X M : Nat) (t : ByteArray) (w : World) (hX : One w X (.string t) 9) (hM : One w M (.bool true) 4) (hne : X ≠ M) (hL : Ml w) (hs : t.size < 4294967281) :
    Calls Tryd.prog 83 #[.pointer (some ⟨M, 0, none⟩), .pointer (some ⟨X, 0, none⟩)] w fun e w' => e = .returned (.tuple #[.string ⟨(Lib.cut t.data.toList [10]).1.toArray⟩, .bool true]) ∧ Tk w w' X M t ⟨(Lib.cut t.data.toList [10]).2.1.toArray⟩ (Lib.cut t.data.toList [10]).2.2 := by
  obtain ⟨m, hm⟩ := hL
  have HC := Lib.hid (Tryd.strings_Cut t ⟨#[10]⟩ m w hs hm)
  rw [show (⟨#[10]⟩ : ByteArray).data.toList = [10] from rfl] at HC
  obtain ⟨x, hx⟩ : ∃ x, x = Lib.cut t.data.toList [10] := ⟨_, rfl⟩
  rw [← hx] at HC ⊢
  clear hx hm
  obtain ⟨a, b, f⟩ := x
  have c1 := hM.c
  have c2 := hX.c
  have f1 := hM.fr
  have f2 := hX.fr
  go_enter Tryd.func83, Tryd.ntmps83
  go_wp2_with (go_at_call 47; refine HC.out.mono ?_; rintro e w1 ⟨rfl, n, rfl⟩; have d1 := (hM.drew n).c; have d2 := (hX.drew n).c; have d3 := (hM.drew n).fr; have d4 := (hX.drew n).fr; have d5 := ((hM.drew n).other (Ne.symm hne) (.string ⟨b.toArray⟩)).c; have d6 := ((hM.drew n).other (Ne.symm hne) (.string ⟨b.toArray⟩)).fr)
  go_ret2
  exact ⟨rfl, ⟨_, rfl⟩⟩

end Go.Proofs.YtajhgbcgbgpcjaaDoor.Fi

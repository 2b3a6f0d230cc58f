import Derived.Test.YtimjggcfkkibbaaDoorJL
import Derived.Test.YtimjggcfkkibbaaDoorJJ
namespace Go.Proofs.YtimjggcfkkibbaaDoor.Ha
open Go.RowKit

theorem ints_new (l : List Int) (t : TypeId) (w : World) : Ints .i32 (w.alloc (.cells (l.map (Value.int .i32)).toArray t)) (some ⟨w.heap.size, 0, none⟩) l := fun i hi => by
  refine ⟨w.heap.size, 0, rfl, by simp, ?_⟩
  have := World.news_of_block (w := w.alloc (.cells (l.map (Value.int .i32)).toArray t)) (cs := (l.map (Value.int .i32)).toArray) (t := t) (fr := (0, 0)) (heap_alloc_new w _) i (.int .i32 (l.getD i 0)) (by simp [List.getD, List.getElem?_eq_getElem hi])
  have e : (⟨w.heap.size, 0, none⟩ : Addr).add i = ⟨w.heap.size, 0 + i, none⟩ := by unfold Addr.add; split <;> simp_all
  rw [e] at this
  exact this
theorem bel_new (w : World) (o : Obj) : Below w.heap.size w (w.alloc o) := (Below.refl _ _).alloc (Nat.le_refl _) _
theorem split_call {r a b : Int} {f : Bool} (h : splE r = (a, b, f)) (w : World) (hT : Tab w) : Calls Tryd.prog 9 #[.int .i32 r] w fun e w' => e = .returned (.tuple #[.int .i32 a, .int .i32 b, .bool f]) ∧ Below w.heap.size w w' := by
  have := split_any r w hT
  rw [h] at this
  exact this
theorem rsplit_call {r a b : Int} {f : Bool} (h : splE r = (a, b, f)) (w : World) : Calls Tryd.prog 10 #[.int .i32 r] w fun e w' => e = .returned (.tuple #[.int .i32 a, .int .i32 b, .bool f]) ∧ w = w' := by
  have := rsplit_any r w
  rw [h] at this
  exact this
theorem join_call {a b s : Int} {f : Bool} (h : joinE a b = (s, f)) (w : World) (hT : Tab w) : Calls Tryd.prog 16 #[.int .i32 a, .int .i32 b] w fun e w' => e = .returned (.tuple #[.int .i32 s, .bool f]) ∧ Below w.heap.size w w' := by
  have := join_any a b w hT
  rw [h] at this
  exact this
theorem rjoin_call {a b s : Int} {f : Bool} (h : joinE a b = (s, f)) (w : World) : Calls Tryd.prog 17 #[.int .i32 a, .int .i32 b] w fun e w' => e = .returned (.tuple #[.int .i32 s, .bool f]) ∧ w = w' := by
  have := rjoin_any a b w
  rw [h] at this
  exact this
theorem is_call {r : Int} {f : Bool} (h : isS r = f) (w : World) : Calls Tryd.prog 11 #[.int .i32 r] w fun e w' => e = .returned (.bool f) ∧ w = w' := by
  have := is_any r w
  rw [h] at this
  exact this
/-- A call that makes a row of numbers: the row as a slice for reading. -/
def RowI (w : World) (l : List Int) (e : Ending) (w' : World) : Prop := ∃ A c, e = .returned (.slice A l.length c) ∧ Ints .i32 w' A l ∧ Below w.heap.size w w'
theorem RowP.i {w : World} {l : List Int} {e : Ending} {w' : World} (h : RowP w l e w') : RowI w l e w' := by
  obtain ⟨v, rfl, ho, hb⟩ := h
  obtain ⟨A, c, rfl, hi⟩ := own_ints ho
  exact ⟨A, c, rfl, hi, hb⟩
theorem full_call (r : Int) (w : World) (hT : Tab w) : Calls Tryd.prog 13 #[.int .i32 r] w (RowI w (fullL r)) := (full_any r w hT).mono fun _ _ h => h.i
theorem rfull_call (r : Int) (w : World) : Calls Tryd.prog 14 #[.int .i32 r] w (RowI w (fullL r)) := (rfull_any r w).mono fun _ _ h => h.i
theorem parts_call (A : Option Addr) (c : Nat) (l : List Int) (w : World) (hT : Tab w) (hl : Ints .i32 w A l) (zl : l.length ≤ 10000) : Calls Tryd.prog 18 #[.slice A l.length c] w (RowI w (partsL l)) := (parts_any A c l w hT hl zl).mono fun _ _ h => h.i
theorem rparts_call (A : Option Addr) (c : Nat) (l : List Int) (w : World) (hl : Ints .i32 w A l) (zl : l.length ≤ 10000) : Calls Tryd.prog 19 #[.slice A l.length c] w (RowI w (partsL l)) := (rparts_any A c l w hl zl).mono fun _ _ h => h.i
theorem syl_call (A : Option Addr) (c : Nat) (l : List Int) (w : World) (hT : Tab w) (hl : Ints .i32 w A l) (zl : l.length ≤ 10000) : Calls Tryd.prog 20 #[.slice A l.length c] w (RowI w (sylL l)) := (syl_any A c l w hT hl zl).mono fun _ _ h => h.i
theorem rsyl_call (A : Option Addr) (c : Nat) (l : List Int) (w : World) (hl : Ints .i32 w A l) (zl : l.length ≤ 10000) : Calls Tryd.prog 21 #[.slice A l.length c] w (RowI w (sylL l)) := (rsyl_any A c l w hl zl).mono fun _ _ h => h.i
theorem eq_call {l m : List Int} {f : Bool} (h : decide (l = m) = f) (A B : Option Addr) (c d : Nat) (w : World) (hl : Ints .i32 w A l) (hm : Ints .i32 w B m) (zl : l.length ≤ 100000) (zm : m.length ≤ 100000) :
    Calls Tryd.prog 12 #[.slice A l.length c, .slice B m.length d] w fun e w' => e = .returned (.bool f) ∧ Below w.heap.size w w' := by
  have := eqR A B c d l m w hl hm zl zm
  rw [h] at this
  exact this

theorem eq_same {l : List Int} (A B : Option Addr) (c d : Nat) (w : World) (hl : Ints .i32 w A l) (hm : Ints .i32 w B l) (zl : l.length ≤ 100000) :
    Calls Tryd.prog 12 #[.slice A l.length c, .slice B l.length d] w fun e w' => e = .returned (.bool true) ∧ Below w.heap.size w w' := eq_call (by simp) A B c d w hl hm zl zl

set_option maxRecDepth 100000 in
set_option maxHeartbeats 4000000 in
theorem awake_any (w : World) (hT : Tab w) : Calls Tryd.prog 15 #[] w fun e w' => e = .returned (.bool true) ∧ Below w.heap.size w w' := by
  have HA := Lib.hid hT.all
  have H1 := Lib.hid (split_call (r := 44033) (a := 44032) (b := 4520) (f := true) (by decide) w hT)
  have H2 := Lib.hid (fun W hW => join_call (a := 4370) (b := 4469) (s := 55176) (f := true) (by decide) W hW)
  have h3 := fun W hW => full_call 55203 W hW
  rw [show fullL 55203 = [4370, 4469, 4546] by decide] at h3
  have H3 := Lib.hid h3
  clear h3 hT
  go_enter Tryd.func15, Tryd.ntmps15
  go_wp2_with fail
  refine H1.out.mono ?_
  rintro e w1 ⟨rfl, hb⟩
  have D1 := Lib.hid hb
  clear hb
  go_wp2_with fail
  refine (H2.out _ (HA.out _ D1.out)).mono ?_
  rintro e w2 ⟨rfl, hb⟩
  have D2 := Lib.hid (D1.out.trans (hb.mono D1.out.size))
  clear hb
  go_wp2_with fail
  refine (H3.out _ (HA.out _ D2.out)).mono ?_
  rintro e w3 ⟨A, c, rfl, hi, hb⟩
  have D3 := Lib.hid (D2.out.trans (hb.mono D2.out.size))
  have I3 := Lib.hid hi
  clear hb hi
  go_wp2_with fail
  refine (eq_call (l := [4370, 4469, 4546]) (m := [4370, 4469, 4546]) (f := true) (by decide) A _ c 3 _ (I3.out.below (bel_new _ _)) (ints_new [4370, 4469, 4546] _ w3) (by decide) (by decide)).mono ?_
  rintro e w4 ⟨rfl, hb⟩
  have D4 := Lib.hid ((D3.out.trans ((bel_new _ _).mono D3.out.size)).trans (hb.mono (D3.out.trans ((bel_new _ _).mono D3.out.size)).size))
  clear hb
  go_wp2_with fail
  go_ret
  exact ⟨rfl, D4.out⟩

end Go.Proofs.YtimjggcfkkibbaaDoor.Ha

import Derived.Test.YtohjkpdelopknaaDoorRows
import Derived.WalkKit
import Derived.WalkSpells
import Derived.WalkLawsBesides
import Derived.Lib.Hide
namespace Go.Proofs.YtohjkpdelopknaaDoor
open Go.RowKit

/-- The table 'layouts' as it lies in memory: the cells of block 0 from the first kind on. -/
structure Tab (w : World) : Prop where
  z1 : w.cell? ⟨0, 3, none⟩ = some (.int .i64 2)
  l1 : w.cell? ⟨0, 4, none⟩ = some (.bool true)
  p1 : w.cell? ⟨0, 5, none⟩ = some (.bool true)
  z2 : w.cell? ⟨0, 6, none⟩ = some (.int .i64 2)
  l2 : w.cell? ⟨0, 7, none⟩ = some (.bool false)
  p2 : w.cell? ⟨0, 8, none⟩ = some (.bool true)
  z3 : w.cell? ⟨0, 9, none⟩ = some (.int .i64 4)
  l3 : w.cell? ⟨0, 10, none⟩ = some (.bool true)
  p3 : w.cell? ⟨0, 11, none⟩ = some (.bool false)
  z4 : w.cell? ⟨0, 12, none⟩ = some (.int .i64 4)
  l4 : w.cell? ⟨0, 13, none⟩ = some (.bool false)
  p4 : w.cell? ⟨0, 14, none⟩ = some (.bool false)
theorem Tab.pos {w : World} (h : Tab w) : 1 ≤ w.heap.size := World.block_lt_of_cell? w _ h.z1
theorem Tab.below {B : Nat} {w w' : World} (h : Tab w) (hb : Below B w w') (hp : 1 ≤ B) : Tab w' := by
  have c : ∀ o, w'.cell? ⟨0, o, none⟩ = w.cell? ⟨0, o, none⟩ := fun o => hb.cell (p := ⟨0, o, none⟩) (by show 0 < B; omega)
  exact ⟨(c _).trans h.z1, (c _).trans h.l1, (c _).trans h.p1, (c _).trans h.z2, (c _).trans h.l2, (c _).trans h.p2, (c _).trans h.z3, (c _).trans h.l3, (c _).trans h.p3, (c _).trans h.z4, (c _).trans h.l4, (c _).trans h.p4⟩

def scal (r : Int) : Bool := (0 ≤ r && r < 55296) || (57343 < r && r ≤ 1114111)
theorem ret_int {k : IntKind} {a b : Int} (h : a = b) : Ending.returned (.int k a) = .returned (.int k b) := by rw [h]
theorem ret_bool {a b : Bool} (h : a = b) : Ending.returned (.bool a) = .returned (.bool b) := by rw [h]
theorem scal_bd {r : Int} (h : scal r = true) : 0 ≤ r ∧ r ≤ 1114111 := by simp [scal] at h; omega

set_option maxHeartbeats 400000 in
theorem scalar_any (r : Int) (w : World) : Calls Tryd.prog 18 #[.int .i32 r] w fun e w' => e = .returned (.bool (scal r)) ∧ w = w' := by
  unfold scal
  by_cases h1 : 0 ≤ r
  · by_cases h2 : r < 55296
    · go_enter Tryd.func18, Tryd.ntmps18
      go_wp2
      go_ret
      exact ⟨by simp [h1, h2], rfl⟩
    · by_cases h3 : 57343 < r
      · by_cases h4 : r ≤ 1114111
        · go_enter Tryd.func18, Tryd.ntmps18
          go_wp2
          go_ret
          exact ⟨by simp, rfl⟩
        · go_enter Tryd.func18, Tryd.ntmps18
          go_wp2
          go_ret
          exact ⟨by simp; omega, rfl⟩
      · go_enter Tryd.func18, Tryd.ntmps18
        go_wp2
        go_ret
        exact ⟨by simp; omega, rfl⟩
  · have h3 : ¬ 57343 < r := by omega
    go_enter Tryd.func18, Tryd.ntmps18
    go_wp2
    go_ret
    exact ⟨by simp; omega, rfl⟩

/-- What is told of a kind: the unit's size, whether the lowest byte is the first, whether there are pairs. -/
def szK (k : Nat) : Nat := if k ≤ 2 then 2 else 4
def loK (k : Nat) : Bool := k % 2 == 1
def prK (k : Nat) : Bool := decide (k ≤ 2)
def LV (k : Nat) : Value := .agg #[.int .i64 (szK k : Int), .bool (loK k), .bool (prK k)]

set_option maxHeartbeats 400000 in
theorem layout_no (k : Int) (w : World) (h : k < 1 ∨ 4 < k) : Calls Tryd.prog 26 #[.int .i64 k] w fun e w' => e = .returned (.tuple #[.agg #[.int .i64 0, .bool false, .bool false], .bool false]) ∧ Below w.heap.size w w' := by
  rcases h with h | h
  · go_enter Tryd.func26, Tryd.ntmps26
    go_wp2
    exact bodyPost_ret (v := .tuple #[.agg #[.int .i64 0, .bool false, .bool false], .bool false]) (by simp [results, Tryd.results26, go_sem]) rfl ⟨rfl, (Below.refl _ _).alloc (Nat.le_refl _) _⟩
  · have h' : ¬ k < 1 := by omega
    go_enter Tryd.func26, Tryd.ntmps26
    go_wp2
    exact bodyPost_ret (v := .tuple #[.agg #[.int .i64 0, .bool false, .bool false], .bool false]) (by simp [results, Tryd.results26, go_sem]) rfl ⟨rfl, (Below.refl _ _).alloc (Nat.le_refl _) _⟩
set_option maxHeartbeats 400000 in
theorem layout1 (w : World) (hT : Tab w) : Calls Tryd.prog 26 #[.int .i64 1] w fun e w' => e = .returned (.tuple #[.agg #[.int .i64 2, .bool true, .bool true], .bool true]) ∧ Below w.heap.size w w' := by
  have hp0 : 0 < w.heap.size := hT.pos
  obtain ⟨z1, l1, p1, -, -, -, -, -, -, -, -, -⟩ := hT
  go_enter Tryd.func26, Tryd.ntmps26
  go_wp2
  exact bodyPost_ret (v := .tuple #[.agg #[.int .i64 2, .bool true, .bool true], .bool true]) (by simp [results, Tryd.results26, go_sem]) rfl ⟨rfl, (Below.refl _ _).alloc (Nat.le_refl _) _⟩
set_option maxHeartbeats 400000 in
theorem layout2 (w : World) (hT : Tab w) : Calls Tryd.prog 26 #[.int .i64 2] w fun e w' => e = .returned (.tuple #[.agg #[.int .i64 2, .bool false, .bool true], .bool true]) ∧ Below w.heap.size w w' := by
  have hp0 : 0 < w.heap.size := hT.pos
  obtain ⟨-, -, -, z2, l2, p2, -, -, -, -, -, -⟩ := hT
  go_enter Tryd.func26, Tryd.ntmps26
  go_wp2
  exact bodyPost_ret (v := .tuple #[.agg #[.int .i64 2, .bool false, .bool true], .bool true]) (by simp [results, Tryd.results26, go_sem]) rfl ⟨rfl, (Below.refl _ _).alloc (Nat.le_refl _) _⟩
set_option maxHeartbeats 400000 in
theorem layout3 (w : World) (hT : Tab w) : Calls Tryd.prog 26 #[.int .i64 3] w fun e w' => e = .returned (.tuple #[.agg #[.int .i64 4, .bool true, .bool false], .bool true]) ∧ Below w.heap.size w w' := by
  have hp0 : 0 < w.heap.size := hT.pos
  obtain ⟨-, -, -, -, -, -, z3, l3, p3, -, -, -⟩ := hT
  go_enter Tryd.func26, Tryd.ntmps26
  go_wp2
  exact bodyPost_ret (v := .tuple #[.agg #[.int .i64 4, .bool true, .bool false], .bool true]) (by simp [results, Tryd.results26, go_sem]) rfl ⟨rfl, (Below.refl _ _).alloc (Nat.le_refl _) _⟩
set_option maxHeartbeats 400000 in
theorem layout4 (w : World) (hT : Tab w) : Calls Tryd.prog 26 #[.int .i64 4] w fun e w' => e = .returned (.tuple #[.agg #[.int .i64 4, .bool false, .bool false], .bool true]) ∧ Below w.heap.size w w' := by
  have hp0 : 0 < w.heap.size := hT.pos
  obtain ⟨-, -, -, -, -, -, -, -, -, z4, l4, p4⟩ := hT
  go_enter Tryd.func26, Tryd.ntmps26
  go_wp2
  exact bodyPost_ret (v := .tuple #[.agg #[.int .i64 4, .bool false, .bool false], .bool true]) (by simp [results, Tryd.results26, go_sem]) rfl ⟨rfl, (Below.refl _ _).alloc (Nat.le_refl _) _⟩
/-- A kind, by cases. -/
theorem kinds {k : Nat} (h1 : 1 ≤ k) (h4 : k ≤ 4) : k = 1 ∨ k = 2 ∨ k = 3 ∨ k = 4 := by omega
theorem layout_any (k : Nat) (w : World) (hT : Tab w) (h1 : 1 ≤ k) (h4 : k ≤ 4) : Calls Tryd.prog 26 #[.int .i64 (k : Int)] w fun e w' => e = .returned (.tuple #[.agg #[.int .i64 (szK k : Int), .bool (loK k), .bool (prK k)], .bool true]) ∧ Below w.heap.size w w' := by
  rcases kinds h1 h4 with rfl | rfl | rfl | rfl
  · exact layout1 w hT
  · exact layout2 w hT
  · exact layout3 w hT
  · exact layout4 w hT
theorem szK_bd (k : Nat) : 2 ≤ szK k ∧ szK k ≤ 4 ∧ (szK k = 2 ∨ szK k = 4) := by unfold szK; split <;> omega
end Go.Proofs.YtohjkpdelopknaaDoor

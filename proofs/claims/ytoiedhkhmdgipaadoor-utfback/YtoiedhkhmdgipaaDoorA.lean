import Derived.Test.YtoiedhkhmdgipaaDoorRows
import Derived.WalkKit
import Derived.WalkSpells
import Derived.WalkLawsBesides
import Derived.Lib.Hide
namespace Go.Proofs.YtoiedhkhmdgipaaDoor
open Go.RowKit

/-- The table 'shapes' as it lies in memory: fifteen cells of block 0. -/
structure Tab (w : World) : Prop where
  l1 : w.cell? ⟨0, 3, none⟩ = some (.int .i32 127)
  l2 : w.cell? ⟨0, 6, none⟩ = some (.int .i32 2047)
  l3 : w.cell? ⟨0, 9, none⟩ = some (.int .i32 65535)
  l4 : w.cell? ⟨0, 12, none⟩ = some (.int .i32 1114111)
  d1 : w.cell? ⟨0, 4, none⟩ = some (.int .u8 0)
  d2 : w.cell? ⟨0, 7, none⟩ = some (.int .u8 192)
  d3 : w.cell? ⟨0, 10, none⟩ = some (.int .u8 224)
  d4 : w.cell? ⟨0, 13, none⟩ = some (.int .u8 240)
  b1 : w.cell? ⟨0, 5, none⟩ = some (.int .i64 7)
  b2 : w.cell? ⟨0, 8, none⟩ = some (.int .i64 5)
  b3 : w.cell? ⟨0, 11, none⟩ = some (.int .i64 4)
  b4 : w.cell? ⟨0, 14, none⟩ = some (.int .i64 3)

def scal (r : Int) : Bool := (0 ≤ r && r < 55296) || (57343 < r && r ≤ 1114111)
def lenI (r : Int) : Int := if scal r then (if r ≤ 127 then 1 else if r ≤ 2047 then 2 else if r ≤ 65535 then 3 else 4) else 0

set_option maxHeartbeats 400000 in
theorem scalar_any (r : Int) (w : World) : Calls Tryd.prog 15 #[.int .i32 r] w fun e w' => e = .returned (.bool (scal r)) ∧ w = w' := by
  unfold scal
  by_cases h1 : 0 ≤ r
  · by_cases h2 : r < 55296
    · go_enter Tryd.func15, Tryd.ntmps15
      go_wp2
      go_ret
      exact ⟨by simp [h1, h2], rfl⟩
    · by_cases h3 : 57343 < r
      · by_cases h4 : r ≤ 1114111
        · go_enter Tryd.func15, Tryd.ntmps15
          go_wp2
          go_ret
          exact ⟨by simp [h2, h3, h4], rfl⟩
        · go_enter Tryd.func15, Tryd.ntmps15
          go_wp2
          go_ret
          exact ⟨by simp [h2, h3, h4], rfl⟩
      · go_enter Tryd.func15, Tryd.ntmps15
        go_wp2
        go_ret
        exact ⟨by simp; omega, rfl⟩
  · have h3 : ¬ 57343 < r := by omega
    go_enter Tryd.func15, Tryd.ntmps15
    go_wp2
    go_ret
    exact ⟨by simp; omega, rfl⟩

theorem ret_int {k : IntKind} {a b : Int} (h : a = b) : Ending.returned (.int k a) = .returned (.int k b) := by rw [h]
theorem ret_bool {a b : Bool} (h : a = b) : Ending.returned (.bool a) = .returned (.bool b) := by rw [h]
theorem lenI_no {r : Int} (h : scal r = false) : 0 = lenI r := by simp [lenI, h]
theorem lenI_yes {r : Int} (h : scal r = true) : (if r ≤ 127 then 1 else if r ≤ 2047 then 2 else if r ≤ 65535 then 3 else 4) = lenI r := by simp [lenI, h]
theorem scal_bd {r : Int} (h : scal r = true) : 0 ≤ r ∧ r ≤ 1114111 := by simp [scal] at h; omega

set_option maxHeartbeats 400000 in
theorem len_any (r : Int) (w : World) (hT : Tab w) : Calls Tryd.prog 17 #[.int .i32 r] w fun e w' => e = .returned (.int .i64 (lenI r)) ∧ w = w' := by
  obtain ⟨l1, l2, l3, l4, -, -, -, -, -, -, -, -⟩ := hT
  cases hs : scal r
  · have H := Lib.hid (lenI_no hs)
    go_enter Tryd.func17, Tryd.ntmps17
    go_wp2_with fail
    refine (scalar_any _ _).mono ?_
    rw [hs]
    rintro e w' ⟨rfl, rfl⟩
    go_wp2
    go_ret
    exact ⟨ret_int H.out, rfl⟩
  · have H := Lib.hid (lenI_yes hs)
    obtain ⟨g0, g1⟩ := scal_bd hs
    have HS := Lib.hid hs
    clear hs
    go_enter Tryd.func17, Tryd.ntmps17
    go_wp2_with fail
    refine (scalar_any _ _).mono ?_
    rw [HS.out]
    rintro e w' ⟨rfl, rfl⟩
    go_wp2_with fail
    go_loop [3] (fun n => ∃ k : Int, n = .int .i64 k ∧ 1 ≤ k ∧ k ≤ 4 ∧ (1 < k → 127 < r) ∧ (2 < k → 2047 < r) ∧ (3 < k → 65535 < r)) (fun n => (4 - intOf n).toNat)
    case atStart => exact ⟨1, rfl, by omega, by omega, by omega, by omega, by omega⟩
    case round =>
      obtain ⟨k, rfl, k1, k4, a1, a2, a3⟩ := hrel
      have hk : k = 1 ∨ k = 2 ∨ k = 3 ∨ k = 4 := by omega
      rcases hk with rfl | rfl | rfl | rfl
      · clear a1 a2 a3 k1 k4
        by_cases hr : r ≤ 127
        · go_wp2
          go_ret
          exact ⟨ret_int (by rw [← H.out, if_pos hr]), rfl⟩
        · go_wp2
          go_round
          case rel => exact ⟨2, rfl, by omega, by omega, by omega, by omega, by omega⟩
          case measure => simp [intOf]
      · replace a1 := a1 (by omega)
        clear a2 a3 k1 k4
        by_cases hr : r ≤ 2047
        · go_wp2
          go_ret
          exact ⟨ret_int (by rw [← H.out, if_neg (by omega), if_pos hr]), rfl⟩
        · go_wp2
          go_round
          case rel => exact ⟨3, rfl, by omega, by omega, by omega, by omega, by omega⟩
          case measure => simp [intOf]
      · replace a2 := a2 (by omega)
        clear a1 a3 k1 k4
        by_cases hr : r ≤ 65535
        · go_wp2
          go_ret
          exact ⟨ret_int (by rw [← H.out, if_neg (by omega), if_neg (by omega), if_pos hr]), rfl⟩
        · go_wp2
          go_round
          case rel => exact ⟨4, rfl, by omega, by omega, by omega, by omega, by omega⟩
          case measure => simp [intOf]
      · replace a3 := a3 (by omega)
        clear a1 a2 k1 k4
        go_wp2
        go_ret
        exact ⟨ret_int (by rw [← H.out, if_neg (by omega), if_neg (by omega), if_neg (by omega)]), rfl⟩

end Go.Proofs.YtoiedhkhmdgipaaDoor

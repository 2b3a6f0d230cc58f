import Derived.Test.YtajhgbcgbgpcjaaDoorFP
import Derived.Test.YtajhgbcgbgpcjaaDoorFN
namespace Go.Proofs.YtajhgbcgbgpcjaaDoor.Fi
open Go.RowKit

theorem spl_head (c : UInt8) (l : List UInt8) : ∃ r, spl c [] l = (Lib.cut l [c]).1 :: r := by
  rw [spl_cut]
  cases h : (Lib.cut l [c]).2.2 with
  | true => exact ⟨_, by simp; rfl⟩
  | false => exact ⟨[], by rw [(cut_miss h).1]; simp⟩
theorem splitK_spl (c : UInt8) : ∀ (k : Nat) (l : List UInt8), l.count c = k → Lib.splitK [c] 0 k l = spl c [] l
  | 0, l, h => by
    rw [spl_cut]
    have hm : (Lib.cut l [c]).2.2 = false := by
      have hx : Lib.index l [c] = -1 := by
        have := Lib.count_one c l
        by_cases hh : Lib.index l [c] = -1
        · exact hh
        · have hge := Lib.index_ge l [c]
          obtain ⟨j, hj⟩ : ∃ j : Nat, Lib.index l [c] = j := ⟨(Lib.index l [c]).toNat, by omega⟩
          rw [Lib.count_hit (by simp) hj] at this
          omega
      simp [Lib.cut, hx]
    rw [hm]
    simp [Lib.splitK]
  | k + 1, l, h => by
    have hcn := Lib.count_one c l
    have hge := Lib.index_ge l [c]
    have hne : Lib.index l [c] ≠ -1 := by
      intro hh
      rw [Lib.count_miss hh] at hcn
      omega
    obtain ⟨j, hj⟩ : ∃ j : Nat, Lib.index l [c] = j := ⟨(Lib.index l [c]).toNat, by omega⟩
    have hct : Lib.cut l [c] = (l.take j, l.drop (j + 1), true) := by
      unfold Lib.cut
      rw [hj, if_pos (by omega)]
      rfl
    rw [Lib.count_hit (by simp) hj] at hcn
    have hc2 : (l.drop (j + 1)).count c = k := by
      have := Lib.count_one c (l.drop (j + 1))
      simp only [List.length_singleton] at hcn
      omega
    rw [spl_cut, hct, Lib.splitK, hj, if_neg (by simp), splitK_spl c k _ (by simpa using hc2)]
    simp
theorem split_spl (s : ByteArray) (c : UInt8) : (Lib.splitB ⟨#[c]⟩ 0 (Lib.countB s ⟨#[c]⟩) s).map (fun x => x.data.toList) = spl c [] s.data.toList := by
  rw [Lib.splitB_data]
  exact splitK_spl c _ _ (Lib.count_one c s.data.toList).symm
theorem countB_one (s : ByteArray) (c : UInt8) : Lib.countB s ⟨#[c]⟩ = s.data.toList.count c := Lib.count_one c s.data.toList
/-- The cells of a row of texts, the first ones bare. -/
def brs (ls : List (List UInt8)) (k : Nat) : List Value := svs ((ls.take k).map bareL ++ ls.drop k)
theorem brs_len (ls : List (List UInt8)) (k : Nat) : (brs ls k).length = ls.length := by simp [brs, svs, List.length_take]; omega
theorem brs_at (ls : List (List UInt8)) (k : Nat) (h : k < ls.length) : (brs ls k)[k]? = some (.string ⟨(ls[k]).toArray⟩) := by
  unfold brs svs
  rw [List.getElem?_map, List.getElem?_append_right (by simp [List.length_take]; omega)]
  simp [List.length_take, Nat.min_eq_left (Nat.le_of_lt h), List.getElem?_drop, List.getElem?_eq_getElem h]
theorem brs_set (ls : List (List UInt8)) (k : Nat) (h : k < ls.length) : (brs ls k).set k (.string ⟨(bareL ls[k]).toArray⟩) = brs ls (k + 1) := by
  have e0 : brs ls k = svs ((ls.take k).map bareL) ++ .string ⟨(ls[k]).toArray⟩ :: svs (ls.drop (k + 1)) := by
    unfold brs
    rw [svs_app, List.drop_eq_getElem_cons h]
    rfl
  have e1 : brs ls (k + 1) = svs ((ls.take k).map bareL) ++ .string ⟨(bareL ls[k]).toArray⟩ :: svs (ls.drop (k + 1)) := by
    unfold brs
    rw [svs_app, List.take_succ_eq_append_getElem h, List.map_append, svs_app, List.append_assoc]
    rfl
  have hl : (svs ((ls.take k).map bareL)).length = k := by simp [svs, List.length_take]; omega
  rw [e0, e1, List.set_append_right _ _ (by omega), hl, Nat.sub_self, List.set_cons_zero]
theorem brs_end (ls : List (List UInt8)) : brs ls ls.length = svs (ls.map bareL) := by unfold brs; simp
theorem brs_zero (ls : List (List UInt8)) : brs ls 0 = svs ls := by unfold brs; simp
structure Rw (w : World) (g : Nat) (vs : List Value) : Prop where
  blk : w.heap[g]? = some (.cells vs.toArray 9 (0, 0))
theorem Rw.lt {w : World} {g : Nat} {vs : List Value} (h : Rw w g vs) : g < w.heap.size := (Array.getElem?_eq_some_iff.1 h.blk).1
theorem Rw.cell {w : World} {g : Nat} {vs : List Value} (h : Rw w g vs) {k : Nat} {v : Value} (hv : vs[k]? = some v) : w.cell? ⟨g, k, none⟩ = some v := by simp [World.cell?, h.blk, hv]
theorem Rw.fr {w : World} {g : Nat} {vs : List Value} (h : Rw w g vs) (k : Nat) : w.frozen? ⟨g, k, none⟩ = false := by simp [World.frozen?, h.blk]
theorem Rw.below {w w' : World} {g : Nat} {vs : List Value} (h : Rw w g vs) (hb : Below w.heap.size w w') : Rw w' g vs := ⟨(hb.block g h.lt).trans h.blk⟩
theorem Rw.set {w : World} {g : Nat} {vs : List Value} (h : Rw w g vs) (k : Nat) (v : Value) : Rw (w.setCell ⟨g, k, none⟩ v) g (vs.set k v) := ⟨by simp [World.setCell, Array.getElem?_modify, h.blk]⟩
theorem Rw.own {w : World} {g b cap : Nat} {vs : List Value} (h : Rw w g vs) (hb : b ≤ g) (hn : vs.length = cap) (hm : cap ≤ maxLen) : w.ownsRow b 9 1 (.slice (some ⟨g, 0, none⟩) cap cap) cap vs :=
  ⟨by omega, .inr ⟨g, cap, vs.toArray, rfl, hb, h.blk, Nat.le_refl _, hm, by simpa using hn, by rw [Nat.mul_one, ← hn]; simp⟩⟩

end Go.Proofs.YtajhgbcgbgpcjaaDoor.Fi

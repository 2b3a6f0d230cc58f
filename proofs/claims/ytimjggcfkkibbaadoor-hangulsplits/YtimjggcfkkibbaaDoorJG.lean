import Derived.Test.YtimjggcfkkibbaaDoorJF
namespace Go.Proofs.YtimjggcfkkibbaaDoor.Ha
open Go.RowKit

theorem u26 : Tryd.prog.underlying 26 = some (.slice 21) := Tryd.underlying26
theorem info_parts {P : Program} {t : TypeId} {z : Value} {s b : Nat} (h : (P.info? t).map (fun i => (i.zero, i.size, i.bytes)) = some (some z, s, b)) : ∃ i, P.info? t = some i ∧ i.zero = some z ∧ i.size = s ∧ i.bytes = b := by
  cases hi : P.info? t with
  | none => rw [hi] at h; cases h
  | some i =>
    rw [hi] at h
    simp at h
    exact ⟨i, rfl, h.1, h.2.1, h.2.2⟩
/-- What Full has so far. -/
def fullK (a b t : Int) : Nat → List Int
  | 0 => []
  | 1 => [a]
  | 2 => [a, b]
  | _ => if t = 0 then [a, b] else [a, b, t]
theorem full_no {r : Int} (h : isS r = false) : fullL r = [] := by simp [fullL, h]
theorem full_is {r : Int} (h : isS r = true) : fullL r = fullK (4352 + ldN r) (4449 + vwN r) (tl3 r) 3 := by
  have hb := tlN_bd r
  unfold fullL fullK tl3
  rw [if_pos h]
  by_cases ht : tlN r = 0
  · rw [if_pos ht, if_pos ht]; simp
  · rw [if_neg ht, if_neg ht]; simp; omega

/-- What a call answers that makes a row of numbers. -/
def RowP (w : World) (l : List Int) (e : Ending) (w' : World) : Prop := ∃ v, e = .returned v ∧ w'.ownsRow w.heap.size 21 1 v l.length (i32s l) ∧ Below w.heap.size w w'
theorem cell_one_new (w : World) (v : Value) (t : TypeId) : ∀ (j : Nat) u, ([v] : List Value)[j]? = some u → (w.alloc (.cells #[v] t)).cell? ((⟨w.heap.size, 0, none⟩ : Addr).add j) = some u := fun j u hj => World.news_of_block (heap_alloc_new w _) j u hj
structure RowS (w wr : World) (v : Value) (l : List Int) : Prop where
  bel : Below w.heap.size w wr
  own : wr.ownsRow w.heap.size 21 1 v l.length (i32s l)

theorem RowS.app {w wr w3 : World} {v v2 : Value} {l : List Int} {x : Int} {cs : Array Value} {t : TypeId} (h : RowS w wr v l) (ho : w3.ownsRow w.heap.size 21 1 v2 (l.length + 1) (i32s l ++ [.int .i32 x])) (hg : (wr.alloc (.cells cs t)).grownBy w3 v.ownBlock) : RowS w w3 v2 (l ++ [x]) :=
  ⟨(h.bel.alloc h.bel.size _).grown hg (by have := h.bel.size; simp; omega) (fun q hq => (h.own.lt q hq).1), by rw [List.length_append, i32s_app]; exact ho⟩

set_option maxHeartbeats 4000000 in
set_option maxRecDepth 100000 in
theorem full_any (r : Int) (w : World) (hT : Tab w) : Calls Tryd.prog 13 #[.int .i32 r] w (RowP w (fullL r)) := by
  obtain ⟨i0, hi0, hz0, hz1, hz2⟩ := info_parts r_info
  have I0 := Lib.hid hi0
  have I1 := Lib.hid hz0
  have I2 := Lib.hid hz1
  have I3 := Lib.hid hz2
  clear hi0 hz0 hz1 hz2
  have HI := Lib.hid (is_any r w)
  cases h : isS r with
  | false =>
    rw [h] at HI
    rw [full_no h]
    clear h
    go_enter Tryd.func13, Tryd.ntmps13
    go_wp2_with (go_at_call 11; refine HI.out.mono ?_; rintro e w' ⟨rfl, rfl⟩)
    go_ret
    exact ⟨_, rfl, World.ownsRow_nil _ _ _ _, Below.refl _ _⟩
  | true =>
    rw [h] at HI
    have HM := Lib.hid (made_any r w hT h)
    have h1 := ldN_bd h
    have h2 := vwN_bd r
    have h3 := tlN_bd r
    have H := Lib.hid (full_is h)
    have hix0 := idx0
    have hix1 := idx1
    have hix2 := idx2
    have na : ((4352 + ldN r) != 0) = true := by simp; omega
    have nb : ((4449 + vwN r) != 0) = true := by simp; omega
    clear h hT h1 h2 h3
    generalize 4352 + ldN r = a at *
    generalize 4449 + vwN r = b at *
    generalize tl3 r = t at *
    go_enter Tryd.func13, Tryd.ntmps13
    go_wp2_with (first
      | (go_at_call 11; refine HI.out.mono ?_; rintro e w' ⟨rfl, rfl⟩)
      | (go_at_call 22; refine HM.out.mono ?_; rintro e w1 ⟨rfl, hb⟩; have B1 := Lib.hid hb; clear hb))
    go_loopw [3, 11] (fun v i wr => ∃ k : Nat, k ≤ 3 ∧ i = .int .i64 k ∧ Hid (RowS w wr v (fullK a b t k))) (fun _ i _ => 3 - (intOf i).toNat)
    case atStart => exact ⟨0, by omega, rfl, B1.out, World.ownsRow_nil _ _ _ _⟩
    case round =>
      obtain ⟨k, hk, rfl, HR⟩ := hrel
      have hk4 : k = 0 ∨ k = 1 ∨ k = 2 ∨ k = 3 := by omega
      clear hk
      rcases hk4 with rfl | rfl | rfl | rfl
      · have HS : Hid (RowS w wr u3 ([] : List Int)) := HR
        have HO := Lib.hid HS.out.own
        have hsz := HS.out.bel.size
        go_wp2_with (at_builtin; refine wpList_append_own_at _ rfl (.tmp 16) (.tmp 18) _ rfl w.heap.size 21 i0 _ 1 4 Tryd.underlying26 I0.out I1.out I2.out I3.out rfl (by omega) u3 ([] : List Int).length _ rfl (HO.out.alloc _) ⟨wr.heap.size, 0, none⟩ 1 1 [_] rfl rfl (cell_one_new _ _ _) (by simp [Value.oneCell']) (by unfold maxLen; simp) (by simp) (by simp; omega) ?_; intro v2 w3 ho3 hg3 hn3 ha3; have O3 := Lib.hid ho3; have G3 := Lib.hid hg3; clear ho3 hg3 hn3 ha3)
        go_roundw
        case rel => exact ⟨1, by omega, by go_num, HS.out.app O3.out G3.out⟩
        case measure => simp [intOf]
      · have HS : Hid (RowS w wr u3 [a]) := HR
        have HO := Lib.hid HS.out.own
        have hsz := HS.out.bel.size
        go_wp2_with (at_builtin; refine wpList_append_own_at _ rfl (.tmp 16) (.tmp 18) _ rfl w.heap.size 21 i0 _ 1 4 Tryd.underlying26 I0.out I1.out I2.out I3.out rfl (by omega) u3 [a].length _ rfl (HO.out.alloc _) ⟨wr.heap.size, 0, none⟩ 1 1 [_] rfl rfl (cell_one_new _ _ _) (by simp [Value.oneCell']) (by unfold maxLen; simp) (by simp) (by simp; omega) ?_; intro v2 w3 ho3 hg3 hn3 ha3; have O3 := Lib.hid ho3; have G3 := Lib.hid hg3; clear ho3 hg3 hn3 ha3)
        go_roundw
        case rel => exact ⟨2, by omega, by go_num, HS.out.app O3.out G3.out⟩
        case measure => simp [intOf]
      · by_cases ht : t = 0
        · have hne : (t != 0) = false := by simp [ht]
          have HS : Hid (RowS w wr u3 [a, b]) := HR
          have H3 : Hid (fullK a b t 3 = [a, b]) := Lib.hid (by simp [fullK, ht])
          clear ht
          go_wp2_with fail
          go_roundw
          case rel => exact ⟨3, by omega, by go_num, by rw [H3.out]; exact HS⟩
          case measure => simp [intOf]
        · have hne : (t != 0) = true := by simp [ht]
          have HS : Hid (RowS w wr u3 [a, b]) := HR
          have H3 : Hid (fullK a b t 3 = [a, b] ++ [t]) := Lib.hid (by simp [fullK, ht])
          have HO := Lib.hid HS.out.own
          have hsz := HS.out.bel.size
          clear ht
          go_wp2_with (at_builtin; refine wpList_append_own_at _ rfl (.tmp 16) (.tmp 18) _ rfl w.heap.size 21 i0 _ 1 4 Tryd.underlying26 I0.out I1.out I2.out I3.out rfl (by omega) u3 [a, b].length _ rfl (HO.out.alloc _) ⟨wr.heap.size, 0, none⟩ 1 1 [_] rfl rfl (cell_one_new _ _ _) (by simp [Value.oneCell']) (by unfold maxLen; simp) (by simp) (by simp; omega) ?_; intro v2 w3 ho3 hg3 hn3 ha3; have O3 := Lib.hid ho3; have G3 := Lib.hid hg3; clear ho3 hg3 hn3 ha3)
          go_roundw
          case rel => exact ⟨3, by omega, by go_num, by rw [H3.out]; exact HS.out.app O3.out G3.out⟩
          case measure => simp [intOf]
      · have HE := H.out
        go_wp2_with fail
        go_ret
        rw [HE]
        exact ⟨_, rfl, HR.out.own, HR.out.bel⟩

end Go.Proofs.YtimjggcfkkibbaaDoor.Ha

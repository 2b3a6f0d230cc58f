import Derived.Test.YtimjggcfkkibbaaDoorJH
namespace Go.Proofs.YtimjggcfkkibbaaDoor.Ha
open Go.RowKit

theorem full_len (r : Int) : (fullL r).length ≤ 3 := by unfold fullL; split <;> (try split) <;> simp
theorem pt_len (r : Int) : (pt r).length ≤ 3 := by
  unfold pt
  split
  · exact full_len r
  · simp
theorem parts_take {l : List Int} {k : Nat} (h : k < l.length) : partsL (l.take (k + 1)) = partsL (l.take k) ++ pt (l.getD k 0) := by
  rw [take_more l k h]
  unfold partsL
  rw [List.flatMap_append]
  simp
theorem parts_len : ∀ (l : List Int), (partsL l).length ≤ 3 * l.length
  | [] => by simp [partsL]
  | x :: l => by
    have h1 := parts_len l
    have h2 := pt_len x
    simp only [partsL, List.flatMap_cons, List.length_append, List.length_cons] at h1 ⊢
    omega
theorem parts_lent (l : List Int) (k : Nat) : (partsL (l.take k)).length ≤ 3 * l.length := by
  have h1 := parts_len (l.take k)
  have h2 : (l.take k).length ≤ l.length := by rw [List.length_take]; omega
  omega
theorem full_pos {r : Int} (h : isS r = true) : 0 < (fullL r).length := by unfold fullL; rw [if_pos h]; split <;> simp
theorem RowS.row {w wr w2 w3 : World} {v v2 : Value} {l m : List Int} (h : RowS w wr v l) (hb : Below wr.heap.size wr w2) (ho : w3.ownsRow w.heap.size 21 1 v2 (l.length + m.length) (i32s l ++ i32s m)) (hg : w2.grownBy w3 v.ownBlock) : RowS w w3 v2 (l ++ m) :=
  ⟨(h.bel.trans (hb.mono h.bel.size)).grown hg (by have := h.bel.size; have := hb.size; omega) (fun q hq => (h.own.lt q hq).1), by rw [List.length_append, i32s_app]; exact ho⟩

theorem RowS.on {w wr w2 : World} {v : Value} {l : List Int} (h : RowS w wr v l) (hb : Below wr.heap.size wr w2) : RowS w w2 v l := ⟨h.bel.trans (hb.mono h.bel.size), own_below h.own hb⟩
set_option maxHeartbeats 4000000 in
set_option maxRecDepth 100000 in
theorem parts_any (A : Option Addr) (c : Nat) (l : List Int) (w : World) (hT : Tab w) (hl : Ints .i32 w A l) (zl : l.length ≤ 10000) : Calls Tryd.prog 18 #[.slice A l.length c] w (RowP w (partsL l)) := by
  obtain ⟨i0, hi0, hz0, hz1, hz2⟩ := info_parts r_info
  have I0 := Lib.hid hi0
  have I1 := Lib.hid hz0
  have I2 := Lib.hid hz1
  have I3 := Lib.hid hz2
  clear hi0 hz0 hz1 hz2
  have HL := Lib.hid hl
  have HA := Lib.hid hT.all
  clear hT
  clear hl
  go_enter Tryd.func18, Tryd.ntmps18
  go_wp2_with fail
  go_loopw [3, 8] (fun v i wr => ∃ k : Nat, i = .int .i64 k ∧ k ≤ l.length ∧ Hid (RowS w wr v (partsL (l.take k)))) (fun _ i _ => l.length - (intOf i).toNat)
  case atStart => exact ⟨0, rfl, by omega, Below.refl _ _, World.ownsRow_nil _ _ _ _⟩
  case round =>
    obtain ⟨k, rfl, hk, HR⟩ := hrel
    by_cases hlt : k < l.length
    · obtain ⟨b, off, rfl, hb, hc⟩ := HL.out k hlt
      have hc' := (HR.out.bel.cell (p := ⟨b, off + k, none⟩) hb).trans hc
      have hst := parts_take hlt
      have hpl := parts_lent l k
      generalize l.getD k 0 = x at hc hc' hst
      generalize partsL (l.take k) = P at HR hst hpl
      have HST := Lib.hid hst
      have hfl := full_len x
      have hsz := HR.out.bel.size
      have hgt : (k : Int) < l.length := by omega
      clear hst hc
      have HI := Lib.hid (is_any x wr)
      cases hs : isS x with
      | false =>
        rw [hs] at HI
        have HP := Lib.hid (pt_no hs)
        have HO := Lib.hid HR.out.own
        clear hs
        go_wp2_with (first
          | (go_at_call 11; refine HI.out.mono ?_; rintro e w' ⟨rfl, rfl⟩)
          | (at_builtin; refine wpList_append_own_at _ rfl (.tmp 18) (.tmp 20) _ rfl w.heap.size 21 i0 _ 1 4 Tryd.underlying26 I0.out I1.out I2.out I3.out rfl (by omega) u3 P.length _ rfl (HO.out.alloc _) ⟨wr.heap.size, 0, none⟩ 1 1 [_] rfl rfl (cell_one_new _ _ _) (by simp [Value.oneCell']) (by unfold maxLen; omega) (by omega) (by simp; omega) ?_; intro v2 w3 ho3 hg3 hn3 ha3; have O3 := Lib.hid ho3; have G3 := Lib.hid hg3; clear ho3 hg3 hn3 ha3))
        go_roundw
        case rel => exact ⟨k + 1, by go_num, by omega, by rw [HST.out, HP.out]; exact HR.out.app O3.out G3.out⟩
        case measure => simp [intOf]; omega
      | true =>
        rw [hs] at HI
        have HP := Lib.hid (pt_is hs)
        have HF := Lib.hid (full_any x wr (HA.out _ HR.out.bel))
        clear hs
        go_wp2_with (first
          | (go_at_call 11; refine HI.out.mono ?_; rintro e w' ⟨rfl, rfl⟩)
          | (go_at_call 13; refine HF.out.mono ?_; rintro e w2 ⟨v5, rfl, hr2, hb2⟩; have R2 := Lib.hid hr2; have B2 := Lib.hid hb2; have O2 := Lib.hid (own_below HR.out.own hb2); have z2 := hb2.size; clear hr2 hb2)
          | (at_builtin; refine wpList_append_row rfl (.tmp 14) (.tmp 16) _ rfl w.heap.size 21 i0 _ 1 4 Tryd.underlying26 I0.out I1.out I2.out I3.out rfl (by omega) u3 P.length _ rfl O2.out wr.heap.size v5 (fullL x).length _ rfl R2.out (i32s_one _) (by unfold maxLen; omega) (by omega) (by omega) ?_; intro v2 w3 ho3 hg3 ha3; have O3 := Lib.hid ho3; have G3 := Lib.hid hg3; clear ho3 hg3 ha3))
        go_roundw
        case rel => exact ⟨k + 1, by go_num, by omega, by rw [HST.out, HP.out]; exact HR.out.row B2.out O3.out G3.out⟩
        case measure => simp [intOf]; omega
    · obtain rfl : k = l.length := by omega
      have hgt : ¬ (l.length : Int) < l.length := by omega
      rw [List.take_length] at HR
      go_wp2_with fail
      go_ret
      exact ⟨_, rfl, HR.out.own, HR.out.bel⟩

end Go.Proofs.YtimjggcfkkibbaaDoor.Ha

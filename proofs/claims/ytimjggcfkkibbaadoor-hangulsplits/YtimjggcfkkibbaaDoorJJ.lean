import Derived.Test.YtimjggcfkkibbaaDoorJI
namespace Go.Proofs.YtimjggcfkkibbaaDoor.Ha
open Go.RowKit

set_option maxHeartbeats 4000000 in
set_option maxRecDepth 100000 in
theorem rparts_any (A : Option Addr) (c : Nat) (l : List Int) (w : World) (hl : Ints .i32 w A l) (zl : l.length ≤ 10000) : Calls Tryd.prog 19 #[.slice A l.length c] w (RowP w (partsL l)) := by
  obtain ⟨i0, hi0, hz0, hz1, hz2⟩ := info_parts r_info
  have I0 := Lib.hid hi0
  have I1 := Lib.hid hz0
  have I2 := Lib.hid hz1
  have I3 := Lib.hid hz2
  clear hi0 hz0 hz1 hz2
  have HL := Lib.hid hl
  clear hl
  go_enter Tryd.func19, Tryd.ntmps19
  go_wp2_with fail
  go_loopw [3, 4] (fun v i wr => ∃ k : Nat, i = .int .i64 k ∧ k ≤ l.length ∧ Hid (RowS w wr v (partsL (l.take k)))) (fun _ i _ => l.length - (intOf i).toNat)
  case atStart => exact ⟨0, rfl, by omega, Below.refl _ _, World.ownsRow_nil _ _ _ _⟩
  case round =>
    obtain ⟨k, rfl, hk, HR⟩ := hrel
    by_cases hlt : k < l.length
    · obtain ⟨b, off, rfl, hb, hc⟩ := HL.out k hlt
      have hc' := (HR.out.bel.cell (p := ⟨b, off + k, none⟩) hb).trans hc
      have hst := parts_take hlt
      have hpl := parts_lent l k
      generalize l.getD k 0 = x at hc hc' hst
      generalize partsL (l.take k) = P at HR hst hpl
      have HST := Lib.hid hst
      have hfl := full_len x
      have hsz := HR.out.bel.size
      have hgt : (k : Int) < l.length := by omega
      clear hst hc
      cases hs : isS x with
      | false =>
        have HP := Lib.hid (pt_no hs)
        have HF := Lib.hid (rfull_no x wr hs)
        have HO := Lib.hid HR.out.own
        clear hs hfl
        go_wp2_with (first
          | (go_at_call 14; refine HF.out.mono ?_; rintro e w2 ⟨rfl, rfl⟩)
          | (at_builtin; refine wpList_append_own_at _ rfl (.tmp 20) (.tmp 25) _ rfl w.heap.size 21 i0 _ 1 4 Tryd.underlying26 I0.out I1.out I2.out I3.out rfl (by omega) u3 P.length _ rfl (HO.out.alloc _) ⟨wr.heap.size, 0, none⟩ 1 1 [_] rfl rfl (cell_one_new _ _ _) (by simp [Value.oneCell']) (by unfold maxLen; omega) (by omega) (by simp; omega) ?_; intro v2 w3 ho3 hg3 hn3 ha3; have O3 := Lib.hid ho3; have G3 := Lib.hid hg3; clear ho3 hg3 hn3 ha3)
          | (at_builtin; refine wpList_append_own_none rfl (.tmp 27) (.tmp 28) _ rfl w.heap.size 21 i0 1 Tryd.underlying26 I0.out v2 (P.length + 1) _ rfl O3.out rfl ?_))
        go_roundw
        case rel => exact ⟨k + 1, by go_num, by omega, by rw [HST.out, HP.out]; exact HR.out.app O3.out G3.out⟩
        case measure => simp [intOf]; omega
      | true =>
        have HF := Lib.hid (rfull_any x wr)
        have HP := Lib.hid (pt_is hs)
        have hfp := full_pos hs
        have hfe : (((fullL x).length : Int) == 0) = false := by rw [beq_eq_false_iff_ne]; omega
        clear hs
        go_wp2_with (first
          | (go_at_call 14; refine HF.out.mono ?_; rintro e w2 ⟨v5, rfl, hr2, hb2⟩; have R2 := Lib.hid hr2; obtain ⟨A5, c5, rfl, -⟩ := own_ints hr2; have B2 := Lib.hid hb2; have O2 := Lib.hid (own_below HR.out.own hb2); have z2 := hb2.size; have hc2 := (hb2.cell (p := ⟨b, off + k, none⟩) (Nat.lt_of_lt_of_le hb hsz)).trans hc'; clear hr2 hb2)
          | (at_builtin; refine wpList_append_row rfl (.tmp 27) (.tmp 28) _ rfl w.heap.size 21 i0 _ 1 4 Tryd.underlying26 I0.out I1.out I2.out I3.out rfl (by omega) u3 P.length _ rfl O2.out wr.heap.size _ (fullL x).length _ rfl R2.out (i32s_one _) (by unfold maxLen; omega) (by omega) (by omega) ?_; intro v2 w3 ho3 hg3 ha3; have O3 := Lib.hid ho3; have G3 := Lib.hid hg3; clear ho3 hg3 ha3))
        go_roundw
        case rel => exact ⟨k + 1, by go_num, by omega, by rw [HST.out, HP.out]; exact HR.out.row B2.out O3.out G3.out⟩
        case measure => simp [intOf]; omega
    · obtain rfl : k = l.length := by omega
      have hgt : ¬ (l.length : Int) < l.length := by omega
      rw [List.take_length] at HR
      go_wp2_with fail
      go_ret
      exact ⟨_, rfl, HR.out.own, HR.out.bel⟩

end Go.Proofs.YtimjggcfkkibbaaDoor.Ha

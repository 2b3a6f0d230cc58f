import Derived.Test.YtimjggcfkkibbaaDoorJK
namespace Go.Proofs.YtimjggcfkkibbaaDoor.Ha
open Go.RowKit

set_option maxHeartbeats 4000000 in
set_option maxRecDepth 100000 in
theorem rsyl_any (A : Option Addr) (c : Nat) (l : List Int) (w : World) (hl : Ints .i32 w A l) (zl : l.length ≤ 10000) : Calls Tryd.prog 21 #[.slice A l.length c] w (RowP w (sylL l)) := by
  obtain ⟨i0, hi0, hz0, hz1, hz2⟩ := info_parts r_info
  have I0 := Lib.hid hi0
  have I1 := Lib.hid hz0
  have I2 := Lib.hid hz1
  have I3 := Lib.hid hz2
  clear hi0 hz0 hz1 hz2
  have HL := Lib.hid hl
  clear hl
  go_enter Tryd.func21, Tryd.ntmps21
  go_wp2_with fail
  go_loopw [3, 4] (fun v i wr => ∃ k : Nat, i = .int .i64 k ∧ k ≤ l.length ∧ Hid (RowS w wr v (sylL (l.take k)))) (fun _ i _ => l.length - (intOf i).toNat)
  case atStart => exact ⟨0, rfl, by omega, Below.refl _ _, World.ownsRow_nil _ _ _ _⟩
  case round =>
    obtain ⟨k, rfl, hk, HR⟩ := hrel
    by_cases hlt : k < l.length
    · obtain ⟨b, off, rfl, hb, hc⟩ := HL.out k hlt
      have hc' := (HR.out.bel.cell (p := ⟨b, off + k, none⟩) hb).trans hc
      have hst := syl_take hlt
      have hpl := syl_lent l k
      generalize l.getD k 0 = x at hc hc' hst
      generalize sylL (l.take k) = P at HR hst hpl
      have hsz := HR.out.bel.size
      have hgt : (k : Int) < l.length := by omega
      clear hc
      rcases List.eq_nil_or_concat P with rfl | ⟨M, y, hMy⟩
      · have HST := Lib.hid (show sylL (l.take (k + 1)) = [] ++ [x] from hst)
        obtain ⟨A3, c3, rfl, -⟩ := own_ints HR.out.own
        have HO := Lib.hid HR.out.own
        have HRR := Lib.hid HR.out
        clear hst
        go_wp2_with (first
          | (at_builtin; refine wpList_append_own_at _ rfl (.tmp 37) (.tmp 42) _ rfl w.heap.size 21 i0 _ 1 4 Tryd.underlying26 I0.out I1.out I2.out I3.out rfl (by omega) (.slice A3 0 c3) ([] : List Int).length _ rfl (HO.out.alloc _) ⟨wr.heap.size, 0, none⟩ 1 1 [_] rfl rfl (cell_one_new _ _ _) (by simp [Value.oneCell']) (by unfold maxLen; omega) (by omega) (by simp; omega) ?_; intro v2 w3 ho3 hg3 hn3 ha3; have O3 := Lib.hid ho3; have G3 := Lib.hid hg3; clear ho3 hg3 hn3 ha3)
          | fail)
        go_roundw
        case rel => exact ⟨k + 1, by go_num, by omega, by rw [HST.out]; exact HRR.out.app O3.out G3.out⟩
        case measure => simp [intOf]; omega
      · rw [List.concat_eq_append] at hMy
        subst hMy
        have hst2 : sylL (l.take (k + 1)) = sylS (M ++ [y]) x := hst
        rw [sylS_at] at hst2
        have hMl : M.length + 1 ≤ l.length := by simpa using hpl
        obtain ⟨g, cap, rfl, hg, hcl, hfz, hset⟩ := row_last HR.out
        have HSET := Lib.hid hset
        have n1 : wrap64 ((M.length : Int) + 1 - 1) = M.length := by unfold wrap64; omega
        have n2 : (M.length : Int) < (M.length : Int) + 1 := by omega
        have n3 : (0 : Int) ≤ (M.length : Int) := by omega
        have n4 : (0 : Int) < (M.length : Int) + 1 := by omega
        have n5 : (M.length : Int) < ((M.length + 1 : Nat) : Int) := by omega
        clear hst hset hpl
        have hj := fun W => rjoin_any y x W
        generalize joinE y x = j at hj hst2
        obtain ⟨s, f⟩ := j
        simp only [jnV] at hj hst2
        have HJ := Lib.hid (fun W => (hj W).mono (by rintro e w' ⟨rfl, rfl⟩; exact ⟨rfl, rfl⟩ : ∀ e w', _ → e = .returned (.tuple #[.int .i32 s, .bool f]) ∧ w' = W))
        clear hj
        cases f with
        | true =>
          rw [if_pos rfl] at hst2
          have HST := Lib.hid hst2
          clear hst2
          have HRR := Lib.hid HR.out
          go_wp2_with fail
          go_quiet ((go_at_call 17; exact Calls.quiet_of_same (HJ.out _)))
          go_wp2_with fail
          go_roundw
          case rel => exact ⟨k + 1, by go_num, by omega, by rw [HST.out]; exact HSET.out _ _ (bel_drewN (Below.refl _ _) _)⟩
          case measure => simp [intOf]; omega
        | false =>
          rw [if_neg (by simp)] at hst2
          have HST := Lib.hid hst2
          clear hst2
          have HRR := Lib.hid HR.out
          have hl1 : (M ++ [y]).length = M.length + 1 := by simp
          have HL1 := Lib.hid hl1
          clear hl1
          go_wp2_with fail
          go_quiet ((go_at_call 17; exact Calls.quiet_of_same (HJ.out _)))
          have HO := Lib.hid (show (wr.drewN nq).ownsRow w.heap.size 21 1 _ (M.length + 1) _ from by have h9 := (HRR.out.drewN nq).own; rw [HL1.out] at h9; exact h9)
          go_wp2_with (first
            | (at_builtin; refine wpList_append_own_at _ rfl (.tmp 37) (.tmp 42) _ rfl w.heap.size 21 i0 _ 1 4 Tryd.underlying26 I0.out I1.out I2.out I3.out rfl (by omega) (.slice (some ⟨g, 0, none⟩) (M.length + 1) cap) (M.length + 1) _ rfl (HO.out.alloc _) ⟨wr.heap.size, 0, none⟩ 1 1 [_] rfl rfl (cell_one_new _ _ _) (by simp [Value.oneCell']) (by unfold maxLen; omega) (by omega) (by simp; omega) ?_; intro v2 w3 ho3 hg3 hn3 ha3; have O3 := Lib.hid ho3; have G3 := Lib.hid hg3; clear ho3 hg3 hn3 ha3))
          go_roundw
          case rel => exact ⟨k + 1, by go_num, by omega, by rw [HST.out]; exact (HRR.out.drewN nq).app (by rw [HL1.out]; exact O3.out) G3.out⟩
          case measure => simp [intOf]; omega
    · obtain rfl : k = l.length := by omega
      have hgt : ¬ (l.length : Int) < l.length := by omega
      rw [List.take_length] at HR
      go_wp2_with fail
      go_ret
      exact ⟨_, rfl, HR.out.own, HR.out.bel⟩

end Go.Proofs.YtimjggcfkkibbaaDoor.Ha

import Derived.Test.YtimjggcfkkibbaaDoorJI
namespace Go.Proofs.YtimjggcfkkibbaaDoor.Ha
open Go.RowKit

theorem own_putv {w : World} {base e z n g c : Nat} {xs : List Value} (h : w.ownsRow base e z (.slice (some ⟨g, 0, none⟩) n c) n xs) (k : Nat) (y : Value) : (w.setCell ⟨g, k, none⟩ y).ownsRow base e z (.slice (some ⟨g, 0, none⟩) n c) n (xs.set k y) := by
  have h1 := h.1
  rcases h.2 with ⟨hv, _⟩ | ⟨g', cap, cur, hv, hg, hh, hn, hm, hc, ht⟩
  · cases hv
  · simp only [Value.slice.injEq, Option.some.injEq, Addr.mk.injEq, true_and, and_true] at hv
    obtain ⟨rfl, rfl⟩ := hv
    refine ⟨by rw [List.length_set]; exact h1, .inr ⟨g, c, cur.setIfInBounds k y, rfl, hg, by simp [World.setCell, Array.getElem?_modify, hh], hn, hm, by simpa using hc, ?_⟩⟩
    rw [Array.toList_setIfInBounds, List.take_set, ht]
theorem own_fz {w : World} {base e z n g c : Nat} {xs : List Value} (h : w.ownsRow base e z (.slice (some ⟨g, 0, none⟩) n c) n xs) (k : Nat) : w.frozen? ⟨g, k, none⟩ = false := by
  rcases h.2 with ⟨hv, _⟩ | ⟨g', cap, cur, hv, hg, hh, _⟩
  · cases hv
  · simp only [Value.slice.injEq, Option.some.injEq, Addr.mk.injEq, true_and, and_true] at hv
    obtain ⟨rfl, rfl⟩ := hv
    simp [World.frozen?, hh]
theorem syl_take {l : List Int} {k : Nat} (h : k < l.length) : sylL (l.take (k + 1)) = sylS (sylL (l.take k)) (l.getD k 0) := by
  rw [take_more l k h]
  unfold sylL
  rw [List.foldl_append]
  rfl
theorem syl_lent (l : List Int) (k : Nat) : (sylL (l.take k)).length ≤ l.length := by
  have h1 := syl_len (l.take k)
  have h2 : (l.take k).length ≤ l.length := by rw [List.length_take]; omega
  omega
/-- A row whose last number is y. -/
theorem row_last {w wr : World} {v : Value} {M : List Int} {y : Int} (h : RowS w wr v (M ++ [y])) : ∃ g cap, v = .slice (some ⟨g, 0, none⟩) (M.length + 1) cap ∧ w.heap.size ≤ g ∧ wr.cell? ⟨g, M.length, none⟩ = some (.int .i32 y) ∧ wr.frozen? ⟨g, M.length, none⟩ = false ∧
    ∀ s W, Below wr.heap.size wr W → RowS w (W.setCell ⟨g, M.length, none⟩ (.int .i32 s)) v (M ++ [s]) := by
  have ho := h.own
  have hl : (M ++ [y]).length = M.length + 1 := by simp
  rw [hl] at ho
  rcases ho.2 with ⟨_, hn⟩ | ⟨g, cap, cur, rfl, hg, hh⟩
  · omega
  · have hc := ho.cells (g := g) rfl M.length (.int .i32 y) (by simp [i32s])
    have e : (⟨g, 0, none⟩ : Addr).add M.length = ⟨g, M.length, none⟩ := by unfold Addr.add; split <;> simp_all
    rw [e] at hc
    refine ⟨g, cap, rfl, hg, hc, own_fz ho _, fun s W hb => ⟨(h.bel.trans (hb.mono h.bel.size)).setCell hg _, ?_⟩⟩
    have hp := own_putv (own_below ho hb) M.length (.int .i32 s)
    have he : (i32s (M ++ [y])).set M.length (.int .i32 s) = i32s (M ++ [s]) := by
      rw [i32s_app, i32s_app]
      have : M.length = (i32s M).length := by simp [i32s]
      rw [this, List.set_append_right _ _ (Nat.le_refl _)]
      simp [i32s]
    rw [he] at hp
    simpa using hp
theorem RowS.drewN {w wr : World} {v : Value} {l : List Int} (h : RowS w wr v l) (n : Nat) : RowS w (wr.drewN n) v l := h.on (bel_drewN (Below.refl _ _) n)

theorem Below.frz {w w' : World} {g o : Nat} (hb : Below w.heap.size w w') (hg : g < w.heap.size) (h : w.frozen? ⟨g, o, none⟩ = false) : w'.frozen? ⟨g, o, none⟩ = false := by
  unfold World.frozen? at *
  rw [hb.block g hg]
  exact h
set_option maxHeartbeats 4000000 in
set_option maxRecDepth 100000 in
theorem syl_any (A : Option Addr) (c : Nat) (l : List Int) (w : World) (hT : Tab w) (hl : Ints .i32 w A l) (zl : l.length ≤ 10000) : Calls Tryd.prog 20 #[.slice A l.length c] w (RowP w (sylL l)) := by
  obtain ⟨i0, hi0, hz0, hz1, hz2⟩ := info_parts r_info
  have I0 := Lib.hid hi0
  have I1 := Lib.hid hz0
  have I2 := Lib.hid hz1
  have I3 := Lib.hid hz2
  clear hi0 hz0 hz1 hz2
  have HL := Lib.hid hl
  have HA := Lib.hid hT.all
  clear hT
  clear hl
  go_enter Tryd.func20, Tryd.ntmps20
  go_wp2_with fail
  go_loopw [3, 11] (fun v i wr => ∃ k : Nat, i = .int .i64 k ∧ k ≤ l.length ∧ Hid (RowS w wr v (sylL (l.take k)))) (fun _ i _ => l.length - (intOf i).toNat)
  case atStart => exact ⟨0, rfl, by omega, Below.refl _ _, World.ownsRow_nil _ _ _ _⟩
  case round =>
    obtain ⟨k, rfl, hk, HR⟩ := hrel
    by_cases hlt : k < l.length
    · obtain ⟨b, off, rfl, hb, hc⟩ := HL.out k hlt
      have hc' := (HR.out.bel.cell (p := ⟨b, off + k, none⟩) hb).trans hc
      have hst := syl_take hlt
      have hpl := syl_lent l k
      generalize l.getD k 0 = x at hc hc' hst
      generalize sylL (l.take k) = P at HR hst hpl
      have hsz := HR.out.bel.size
      have hgt : (k : Int) < l.length := by omega
      clear hc
      rcases List.eq_nil_or_concat P with rfl | ⟨M, y, hMy⟩
      · have HST := Lib.hid (show sylL (l.take (k + 1)) = [] ++ [x] from hst)
        obtain ⟨A3, c3, rfl, -⟩ := own_ints HR.out.own
        have HO := Lib.hid HR.out.own
        have HRR := Lib.hid HR.out
        clear hst
        go_wp2_with (first
          | (at_builtin; refine wpList_append_own_at _ rfl (.tmp 34) (.tmp 36) _ rfl w.heap.size 21 i0 _ 1 4 Tryd.underlying26 I0.out I1.out I2.out I3.out rfl (by omega) (.slice A3 0 c3) ([] : List Int).length _ rfl (HO.out.alloc _) ⟨wr.heap.size, 0, none⟩ 1 1 [_] rfl rfl (cell_one_new _ _ _) (by simp [Value.oneCell']) (by unfold maxLen; omega) (by omega) (by simp; omega) ?_; intro v2 w3 ho3 hg3 hn3 ha3; have O3 := Lib.hid ho3; have G3 := Lib.hid hg3; clear ho3 hg3 hn3 ha3)
          | fail)
        go_roundw
        case rel => exact ⟨k + 1, by go_num, by omega, by rw [HST.out]; exact HRR.out.app O3.out G3.out⟩
        case measure => simp [intOf]; omega
      · rw [List.concat_eq_append] at hMy
        subst hMy
        have hst2 : sylL (l.take (k + 1)) = sylS (M ++ [y]) x := hst
        rw [sylS_at] at hst2
        have hMl : M.length + 1 ≤ l.length := by simpa using hpl
        obtain ⟨g, cap, rfl, hg, hcl, hfz, hset⟩ := row_last HR.out
        have HSET := Lib.hid hset
        have n1 : wrap64 ((M.length : Int) + 1 - 1) = M.length := by unfold wrap64; omega
        have n2 : (M.length : Int) < (M.length : Int) + 1 := by omega
        have n3 : (0 : Int) ≤ (M.length : Int) := by omega
        have n4 : (0 : Int) < (M.length : Int) + 1 := by omega
        have n5 : (M.length : Int) < ((M.length + 1 : Nat) : Int) := by omega
        clear hst hset hpl
        have hj := join_any y x wr (HA.out _ HR.out.bel)
        generalize joinE y x = j at hj hst2
        obtain ⟨s, f⟩ := j
        simp only [jnV] at hj hst2
        have HJ := Lib.hid hj
        clear hj
        cases f with
        | true =>
          rw [if_pos rfl] at hst2
          have HST := Lib.hid hst2
          clear hst2
          have HRR := Lib.hid HR.out
          go_wp2_with (first
            | (go_at_call 16; refine HJ.out.mono ?_; rintro e w2 ⟨rfl, hb2⟩; have B2 := Lib.hid hb2; have hlg : g < wr.heap.size := (HRR.out.own.lt g rfl).2; have hc2 := (hb2.cell (p := ⟨g, M.length, none⟩) hlg).trans hcl; have hf2 := Below.frz hb2 hlg hfz; clear hb2)
            | fail)
          go_roundw
          case rel => exact ⟨k + 1, by go_num, by omega, by rw [HST.out]; exact HSET.out _ _ B2.out⟩
          case measure => simp [intOf]; omega
        | false =>
          rw [if_neg (by simp)] at hst2
          have HST := Lib.hid hst2
          clear hst2
          have HRR := Lib.hid HR.out
          have hl1 : (M ++ [y]).length = M.length + 1 := by simp
          have HL1 := Lib.hid hl1
          clear hl1
          go_wp2_with (first
            | (go_at_call 16; refine HJ.out.mono ?_; rintro e w2 ⟨rfl, hb2⟩; have B2 := Lib.hid hb2; have HO := Lib.hid (show w2.ownsRow w.heap.size 21 1 _ (M.length + 1) _ from by have h9 := own_below HRR.out.own hb2; rw [HL1.out] at h9; exact h9); have z2 := hb2.size; clear hb2)
            | (at_builtin; refine wpList_append_own_at _ rfl (.tmp 34) (.tmp 36) _ rfl w.heap.size 21 i0 _ 1 4 Tryd.underlying26 I0.out I1.out I2.out I3.out rfl (by omega) (.slice (some ⟨g, 0, none⟩) (M.length + 1) cap) (M.length + 1) _ rfl (HO.out.alloc _) ⟨w2.heap.size, 0, none⟩ 1 1 [_] rfl rfl (cell_one_new _ _ _) (by simp [Value.oneCell']) (by unfold maxLen; omega) (by omega) (by simp; omega) ?_; intro v2 w3 ho3 hg3 hn3 ha3; have O3 := Lib.hid ho3; have G3 := Lib.hid hg3; clear ho3 hg3 hn3 ha3))
          go_roundw
          case rel => exact ⟨k + 1, by go_num, by omega, by rw [HST.out]; exact (HRR.out.on B2.out).app (by rw [HL1.out]; exact O3.out) G3.out⟩
          case measure => simp [intOf]; omega
    · obtain rfl : k = l.length := by omega
      have hgt : ¬ (l.length : Int) < l.length := by omega
      rw [List.take_length] at HR
      go_wp2_with fail
      go_ret
      exact ⟨_, rfl, HR.out.own, HR.out.bel⟩

end Go.Proofs.YtimjggcfkkibbaaDoor.Ha

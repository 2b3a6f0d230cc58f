import Derived.Test.YtfjckdjnnbpcnaaTD
namespace Go.Proofs.Ytfjckdjnnbpcnaa.Tr
open Go.RowKit

theorem edg_snoc (r o : Int) (L : List Sp) (s : Sp) : edgF r (L ++ [s]) o = edgS r (edgF r L o) s := by unfold edgF; rw [List.foldl_append]; rfl
theorem edg_take {r o : Int} {L : List Sp} {j : Nat} (h : j < L.length) : edgF r (L.take (j + 1)) o = edgS r (edgF r (L.take j) o) L[j] := by
  rw [List.take_succ_eq_append_getElem h, edg_snoc]

set_option maxHeartbeats 4000000 in
set_option maxRecDepth 100000 in
theorem redge_any (w : World) (base X : Nat) (nn : Int) (L : List Sp) (r : Int) (h : Rt w base X nn L) (hL : L.length ≤ 1000) (hok : ∀ s ∈ L, okS s = true) :
    Calls Try.prog 34 #[.pointer (some ⟨X, 0, none⟩), .int .i32 r] w
      fun e w' => e = .returned (.int .i32 (edge L r)) ∧ w = w' := by
  obtain ⟨v, hb, ho⟩ := h.blk
  obtain ⟨A, c, rfl, hs⟩ := own_sps ho
  have HS := Lib.hid hs
  have HOK := Lib.hid hok
  have c1 := hb.c (i := 1) rfl
  clear hb ho hs h hok
  go_enter Try.func34, Try.ntmps34
  go_wp2_with fail
  go_loopw [5, 6, 7, 8] (fun o i _ _ wr => ∃ k : Nat, i = .int .i64 k ∧ k ≤ L.length ∧ wr = w ∧ o = .int .i32 (edgF r (L.take k) 1114112)) (fun _ i _ _ _ => L.length - (intOf i).toNat)
  case atStart => exact ⟨0, rfl, by omega, rfl, rfl⟩
  case round =>
    obtain ⟨k, rfl, hk, rfl, rfl⟩ := hrel
    by_cases hlt : k < L.length
    · obtain ⟨b, off, rfl, hbl, p0, p1, p2⟩ := HS.out k hlt
      have hn := edg_take (r := r) (o := 1114112) (L := L) (j := k) hlt
      have h9 := HOK.out L[k] (List.getElem_mem hlt)
      generalize L[k] = y at *
      generalize edgF r (L.take k) 1114112 = o at *
      obtain ⟨f, t, u⟩ := y
      simp only at p0 p1 p2 hn
      simp only [okS, Bool.not_eq_true', Bool.or_eq_false_iff, decide_eq_false_iff_not] at h9
      obtain ⟨n1, n2, n3⟩ := h9
      have HN := Lib.hid hn
      have g2 : (k : Int) < L.length := by omega
      clear hn
      have hw : IntKind.i32.wrap (t + 1) = t + 1 := by rw [IntKind.wrap_i32]; omega
      by_cases a : r < f ∧ f < o
      · obtain ⟨a1, a2⟩ := a
        have b1 : r < t + 1 := by omega
        have b2 : ¬ t + 1 < f := by omega
        go_wp2_with fail
        go_roundw
        case rel => exact ⟨k + 1, by go_num, by omega, trivial, by rw [HN.out]; congr 1; show _ = edgS _ _ _; unfold edgS; simp only; rw [if_pos (⟨a1, a2⟩ : r < f ∧ f < o), if_neg (by omega)]⟩
        case measure => simp [intOf] <;> omega
      · have ha := Lib.hid a
        clear a
        by_cases b1 : r < t + 1
        · by_cases b2 : t + 1 < o
          · by_cases a1 : r < f
            · have a2 : ¬ f < o := fun h => ha.out ⟨a1, h⟩
              omega
            · go_wp2_with fail
              go_roundw
              case rel => exact ⟨k + 1, by go_num, by omega, trivial, by rw [HN.out]; congr 1; show _ = edgS _ _ _; unfold edgS; simp only; rw [if_neg ha.out, if_pos ⟨b1, b2⟩]⟩
              case measure => simp [intOf] <;> omega
          · by_cases a1 : r < f
            · have a2 : ¬ f < o := fun h => ha.out ⟨a1, h⟩
              go_wp2_with fail
              go_roundw
              case rel => exact ⟨k + 1, by go_num, by omega, trivial, by rw [HN.out]; congr 1; show _ = edgS _ _ _; unfold edgS; simp only; rw [if_neg ha.out, if_neg (fun h => b2 h.2)]⟩
              case measure => simp [intOf] <;> omega
            · go_wp2_with fail
              go_roundw
              case rel => exact ⟨k + 1, by go_num, by omega, trivial, by rw [HN.out]; congr 1; show _ = edgS _ _ _; unfold edgS; simp only; rw [if_neg ha.out, if_neg (fun h => b2 h.2)]⟩
              case measure => simp [intOf] <;> omega
        · have a1 : ¬ r < f := by omega
          go_wp2_with fail
          go_roundw
          case rel => exact ⟨k + 1, by go_num, by omega, trivial, by rw [HN.out]; congr 1; show _ = edgS _ _ _; unfold edgS; simp only; rw [if_neg ha.out, if_neg (fun h => b1 h.1)]⟩
          case measure => simp [intOf] <;> omega
    · obtain rfl : k = L.length := by omega
      go_wp2_with fail
      go_ret
      exact ⟨by rw [List.take_length]; rfl, rfl⟩

end Go.Proofs.Ytfjckdjnnbpcnaa.Tr

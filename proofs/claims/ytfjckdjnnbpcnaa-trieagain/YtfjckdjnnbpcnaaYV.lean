import Derived.Test.YtfjckdjnnbpcnaaYS
import Derived.Test.YtfjckdjnnbpcnaaXT
namespace Go.Proofs.Ytfjckdjnnbpcnaa.Tr
open Go.RowKit Go.Maps Go.Shelf

attribute [local go_sem] Oper.semAt_some

/-- A row of the program's ranges, for reading. -/
theorem own_spsP {w : World} {base : Nat} {v : Value} {L : List Sp} (h : w.ownsRow base 73 3 v L.length (spC L)) : ∃ A c, v = .slice A L.length c ∧ Sps w A L := by
  rcases h.2 with ⟨hv, hn⟩ | ⟨g, cap, cur, hv, hg, hh, hn, hm, hc, ht⟩
  · exact ⟨none, 0, by rw [hv, hn], fun i hi => by omega⟩
  · have hq := fun j u hj => h.cells (g := g) (by rw [hv]; rfl) j u hj
    have e : ∀ j, (⟨g, 0, none⟩ : Addr).add j = ⟨g, j, none⟩ := fun j => by unfold Addr.add; split <;> simp_all
    simp only [e] at hq
    refine ⟨some ⟨g, 0, none⟩, cap, hv, fun i hi => ?_⟩
    have hr : ∀ j u, j < 3 → (spV L[i])[j]? = some u → w.cell? ⟨g, 0 + i * 3 + j, none⟩ = some u := fun j u hj hu => by
      rw [Nat.zero_add]
      exact hq (i * 3 + j) u ((spC_at L i hi j hj).trans hu)
    exact ⟨g, 0, rfl, (h.lt g (by rw [hv]; rfl)).2, hr 0 _ (by omega) rfl, hr 1 _ (by omega) rfl, hr 2 _ (by omega) rfl⟩

theorem all_call (w : World) (base X : Nat) (nn : Int) (g : Int → Int) (h : Tab w base X nn g) :
    Calls Try.prog 16 #[.pointer (some ⟨X, 0, none⟩)] w fun e w' => ∃ B A c, e = .returned (.func (.func 33) #[] #[.pointer (some ⟨B, 0, none⟩)]) ∧ B < w'.heap.size ∧ w'.cell? ⟨B, 0, none⟩ = some (.slice A (allG g nn).length c) ∧ Sps w' A (allG g nn) ∧ Below w.heap.size w w' := by
  have HS := Lib.hid (spans_any w base X nn g h)
  clear h
  go_enter Try.func16, Try.ntmps16
  go_wp2_with fail
  refine HS.out.mono ?_
  rintro e w1 ⟨v, rfl, ho, hb⟩
  obtain ⟨A, c, rfl, hs⟩ := own_spsP ho
  have HB := Lib.hid hb
  have HP := Lib.hid hs
  clear hb hs ho
  go_wp2_with fail
  go_ret
  have ha : ∀ W : World, W = w1 → Below w1.heap.size w1 (W.alloc (.cells #[.slice A (allG g nn).length c] 69)) := fun W e => by rw [e]; exact (Below.refl _ _).alloc (Nat.le_refl _) _
  exact ⟨w1.heap.size, A, c, rfl, by simp, by simp, HP.out.below (ha _ rfl), HB.out.alloc HB.out.size _⟩
set_option maxRecDepth 100000 in
set_option maxHeartbeats 4000000 in
theorem all_iter (n B : Nat) (A : Option Addr) (c : Nat) (L : List Sp) (w : World) (hB : B < w.heap.size) (hc : w.cell? ⟨B, 0, none⟩ = some (.slice A L.length c)) (hs : Sps w A L) (hl : L.length ≤ 1114112) :
    SeqStopsK Fence.wide n Try.prog 33 #[.pointer (some ⟨B, 0, none⟩)] encS (Below w.heap.size) (fun ys => ys = L) (fun pre => pre <+: L) L.length w := fun l J Jx W hW hJo _ hY h0 => by
  have hc' := (hW.cell (p := ⟨B, 0, none⟩) hB).trans hc
  have HP := Lib.hid hs
  have HW := Lib.hid hW
  clear hs hW
  refine callsIn_of_wp Try.func33 rfl trivial ?_ rfl
  simp only [Try.ntmps33, List.size_toArray, List.length_cons, List.length_nil, Nat.reduceAdd, Nat.reduceSub, Array.replicate_succ, Array.replicate_zero, List.push_toArray, List.append_toArray, List.nil_append, List.cons_append]
  gi_wp2
  gi_loopw [7] (fun i wr => ∃ k : Nat, i = .int .i64 k ∧ k ≤ L.length ∧ Hid (Below w.heap.size w wr) ∧ J (L.take k) wr) (fun i _ => L.length - (intOf i).toNat)
  case atStart => exact ⟨0, rfl, Nat.zero_le _, HW, h0⟩
  case round =>
    obtain ⟨k, rfl, hk, HB, hJ⟩ := hrel
    by_cases hlt : k < L.length
    · have hltI : (k : Int) < L.length := by omega
      obtain ⟨b, off, rfl, hb, d0, d1, d2⟩ := HP.out k hlt
      obtain ⟨x, hx⟩ : ∃ x, x = L[k] := ⟨_, rfl⟩
      rw [← hx] at d0 d1 d2
      have e0 := (HB.out.cell (p := ⟨b, off + k * 3, none⟩) hb).trans d0
      have e1 := (HB.out.cell (p := ⟨b, off + k * 3 + 1, none⟩) hb).trans d1
      have e2 := (HB.out.cell (p := ⟨b, off + k * 3 + 2, none⟩) hb).trans d2
      have HN : Hid (L.take (k + 1) = L.take k ++ [x]) := Lib.hid (by rw [List.take_succ_eq_append_getElem hlt, hx])
      have HX := Lib.hid hx
      clear hx d0 d1 d2
      have hkl : (L.take k).length = k := by rw [List.length_take]; omega
      obtain ⟨x0, x1, x2⟩ := x
      simp only at e0 e1 e2
      obtain ⟨W1, hW1⟩ : ∃ W1, W1 = wr.alloc (.cells #[.int .i32 x0, .int .i32 x1, .int .i64 x2] 73) := ⟨_, rfl⟩
      have hal : Below wr.heap.size wr W1 := by rw [hW1]; exact (Below.refl _ _).alloc (Nat.le_refl _) _
      have hJ1 : J (L.take k) W1 := hJo _ wr W1 none hJ ⟨hal.os, hal.tape, hal.output, hal.size, fun i hi _ => hal.block i hi⟩ (fun r e => by cases e)
      obtain ⟨fn, tmps, assign, body, hy, hR⟩ := hY _ (x0, x1, x2) W1 hJ1 (by omega)
      have HB1 := Lib.hid (HB.out.trans (hal.mono (Nat.le_trans HB.out.size (Nat.le_refl _))))
      rw [hW1] at hy HB1
      clear hkl hal hJ1
      unfold encS at hy
      simp only at hy
      gi_wp2
      rw [hW1] at hR
      refine ⟨fun h => (by cases h), hR.mono ?_⟩
      rintro e W3 (⟨rfl, hJ3, hk3⟩ | ⟨rfl, hJx3⟩)
      · have HK3 := Lib.hid hk3
        clear hk3
        gi_wp2
        go_roundw
        case rel => exact ⟨k + 1, by go_num, by omega, Lib.hid (HB1.out.trans HK3.out), by rw [HN.out]; exact hJ3⟩
        case measure => simp [intOf]; omega
      · gi_wp2
        refine bodyPost_ret (results_none rfl _ _ _) rfl ?_
        exact ⟨⟨_, rfl⟩, .inr ⟨_, by rw [← HN.out]; exact List.take_prefix _ _, hJx3⟩⟩
    · have hltI : ¬ (k : Int) < L.length := by omega
      gi_wp2
      go_end0
      refine ⟨⟨_, rfl⟩, .inl ?_⟩
      have hke : k = L.length := by omega
      rw [hke, List.take_length] at hJ
      exact hJ
theorem tab_all (w : World) (base X : Nat) (nn : Int) (g : Int → Int) (h : Tab w base X nn g) :
    Calls Try.prog 16 #[.pointer (some ⟨X, 0, none⟩)] w fun e w' => ∃ G lb, e = .returned (.func (.func G) #[] lb) ∧ (∀ args W', (callFunc G args).run Try.prog W' = .ok (.enter G args) W') ∧
    SeqStopsK Fence.wide 4 Try.prog G lb encS (Below w'.heap.size) (fun ys => ys = allG g nn) (fun pre => pre <+: allG g nn) (allG g nn).length w' ∧ Below w.heap.size w w' := by
  refine (all_call w base X nn g h).mono ?_
  rintro e w' ⟨B, A, c, rfl, hB, hc, hs, hb⟩
  exact ⟨_, _, rfl, enters_of Try.func33 (by kernel_rfl) rfl, all_iter 4 B A c _ w' hB hc hs (scan_len _ _ _), hb⟩

end Go.Proofs.Ytfjckdjnnbpcnaa.Tr

import Derived.Test.YtfjckdjnnbpcnaaTE
namespace Go.Proofs.Ytfjckdjnnbpcnaa.Tr
open Go.RowKit

theorem own_putv {w : World} {base e z n g c : Nat} {xs : List Value} (h : w.ownsRow base e z (.slice (some ⟨g, 0, none⟩) n c) n xs) (k : Nat) (y : Value) : (w.setCell ⟨g, k, none⟩ y).ownsRow base e z (.slice (some ⟨g, 0, none⟩) n c) n (xs.set k y) := by
  have h1 := h.1
  rcases h.2 with ⟨hv, _⟩ | ⟨g', cap, cur, hv, hg, hh, hn, hm, hc, ht⟩
  · cases hv
  · simp only [Value.slice.injEq, Option.some.injEq, Addr.mk.injEq, true_and, and_true] at hv
    obtain ⟨rfl, rfl⟩ := hv
    refine ⟨by rw [List.length_set]; exact h1, .inr ⟨g, c, cur.setIfInBounds k y, rfl, hg, by simp [World.setCell, Array.getElem?_modify, hh], hn, hm, by simpa using hc, ?_⟩⟩
    rw [Array.toList_setIfInBounds, List.take_set, ht]
theorem own_fz {w : World} {base e z n g c : Nat} {xs : List Value} (h : w.ownsRow base e z (.slice (some ⟨g, 0, none⟩) n c) n xs) (k : Nat) : w.frozen? ⟨g, k, none⟩ = false := by
  rcases h.2 with ⟨hv, _⟩ | ⟨g', cap, cur, hv, hg, hh, _⟩
  · cases hv
  · simp only [Value.slice.injEq, Option.some.injEq, Addr.mk.injEq, true_and, and_true] at hv
    obtain ⟨rfl, rfl⟩ := hv
    simp [World.frozen?, hh]
theorem own_cell {w : World} {base e z n g c : Nat} {xs : List Value} (h : w.ownsRow base e z (.slice (some ⟨g, 0, none⟩) n c) n xs) {k : Nat} {y : Value} (hk : xs[k]? = some y) : w.cell? ⟨g, k, none⟩ = some y := by
  have := h.cells (g := g) rfl k y hk
  have e : (⟨g, 0, none⟩ : Addr).add k = ⟨g, k, none⟩ := by unfold Addr.add; split <;> simp_all
  rw [e] at this
  exact this
theorem spC_set (m : List Sp) (s : Sp) (x : Int) : (spC (m ++ [s])).set (m.length * 3 + 1) (.int .i32 x) = spC (m ++ [(s.1, x, s.2.2)]) := by
  rw [spC_app, spC_app, List.set_append_right _ _ (by rw [spC_len]; omega), spC_len]
  rw [show m.length * 3 + 1 - m.length * 3 = 1 by omega]
  rfl
theorem spC_last (m : List Sp) (s : Sp) (j : Nat) (hj : j < 3) : (spC (m ++ [s]))[m.length * 3 + j]? = (spV s)[j]? := by
  have := spC_at (m ++ [s]) m.length (by simp) j hj
  rw [this]
  simp
theorem push_len {nn : Int} {l : List Sp} {r v : Int} : (push nn l r v).length ≤ l.length + 1 := by
  unfold push
  split
  · omega
  · split
    · simp
    · split
      · simp
      · simp
theorem scan_len (g : Int → Int) (nn : Int) : ∀ n : Nat, (scan g nn n).length ≤ n
  | 0 => by simp [scan]
  | n + 1 => by
    have := scan_len g nn n
    have h := @push_len nn (scan g nn n) n (g n)
    rw [scan]
    omega
theorem push_new {nn : Int} {l : List Sp} {r e v : Int} (hv : v ≠ nn) (h : ∀ m s, l = m ++ [s] → ¬ (s.2.1 = r - 1 ∧ s.2.2 = v)) : pushS nn l r e v = l ++ [(r, e - 1, v)] := by
  unfold pushS
  rw [if_neg hv]
  cases hg : l.getLast? with
  | none => rfl
  | some s =>
    obtain ⟨m, hm⟩ : ∃ m, l = m ++ [s] := by rw [List.getLast?_eq_some_iff] at hg; exact hg
    simp only
    rw [if_neg (h m s hm)]
theorem push_old {nn : Int} {m : List Sp} {s : Sp} {r e v : Int} (hv : v ≠ nn) (h : s.2.1 = r - 1 ∧ s.2.2 = v) : pushS nn (m ++ [s]) r e v = m ++ [(s.1, e - 1, s.2.2)] := by
  unfold pushS
  rw [if_neg hv, List.getLast?_concat]
  simp only
  rw [if_pos h, List.dropLast_concat]
theorem snoc_cases {α : Type} (l : List α) : l = [] ∨ ∃ m s, l = m ++ [s] := by
  by_cases h : l = []
  · exact .inl h
  · exact .inr ⟨l.dropLast, l.getLast h, (List.dropLast_concat_getLast h).symm⟩
def AllP (w : World) (l : List Sp) (e : Ending) (w' : World) : Prop := ∃ v, e = .returned v ∧ w'.ownsRow w.heap.size 33 3 v l.length (spC l) ∧ Below w.heap.size w w'

set_option maxHeartbeats 8000000 in
set_option maxRecDepth 1000000 in
theorem rall_any (w : World) (base X : Nat) (nn : Int) (L : List Sp) (h : Rt w base X nn L) (hL : L.length ≤ 1000) (hok : ∀ s ∈ L, okS s = true) :
    Calls Try.prog 18 #[.pointer (some ⟨X, 0, none⟩)] w (AllP w (allG (getL nn L) nn)) := by
  obtain ⟨i0, hi0, hz0, hz1, hz2⟩ := info_parts sp_info
  have I0 := Lib.hid hi0
  have I1 := Lib.hid hz0
  have I2 := Lib.hid hz1
  have I3 := Lib.hid hz2
  have HR := Lib.hid h
  have HE := Lib.hid (fun (W : World) (hb : Below w.heap.size w W) (r : Int) => redge_any W base X nn L r (h.below hb) hL hok)
  have HG := Lib.hid (fun (W : World) (hb : Below w.heap.size w W) (r : Int) => rget_any W base X nn L r (h.below hb) hL)
  obtain ⟨v0, hb0, _⟩ := h.blk
  have HB := Lib.hid hb0
  have HSL := Lib.hid (scan_len (getL nn L) nn)
  obtain ⟨M, hM⟩ : ∃ M : Nat, M = 1114112 := ⟨_, rfl⟩
  have HM := Lib.hid hM
  have HST := Lib.hid (fun (k : Nat) (hk : k < M) => And.intro (@all_step nn L k (by omega)) (edge_spec L (r := (k : Int)) (by omega)))
  obtain ⟨RES, hRES⟩ : ∃ x, x = allG (getL nn L) nn := ⟨_, rfl⟩
  rw [← hRES]
  have HX := Lib.hid (fun (k : Nat) (hk : k = M) => show scan (getL nn L) nn k = RES by rw [hRES, hk, hM]; rfl)
  clear hi0 hz0 hz1 hz2 h hb0 hok hRES hM
  go_enter Try.func18, Try.ntmps18
  go_wp2_with fail
  go_loopw [3, 4, 5, 6, 7] (fun o r _ _ _ wr => ∃ k : Nat, r = .int .i32 k ∧ k ≤ M ∧ Hid (wr.ownsRow w.heap.size 33 3 o (scan (getL nn L) nn k).length (spC (scan (getL nn L) nn k)) ∧ Below w.heap.size w wr)) (fun _ r _ _ _ _ => M - (intOf r).toNat)
  case atStart => exact ⟨0, rfl, by omega, World.ownsRow_nil _ _ _ _, Below.refl _ _⟩
  case round =>
    obtain ⟨k, rfl, hk, HQ⟩ := hrel
    by_cases hlt : k < M
    · have g1 : (k : Int) < 1114112 := by have := HM.out; omega
      obtain ⟨hst, he1, he2, _⟩ := HST.out k hlt
      have hsl := HSL.out k
      have hE := HE.out wr HQ.out.2 k
      have hG := HG.out wr HQ.out.2 k
      have c0 := (HB.out.below HQ.out.2).c (i := 0) rfl
      generalize edge L k = ee at *
      generalize getL nn L k = v at *
      obtain ⟨k', rfl⟩ : ∃ k' : Nat, ee = k' := ⟨ee.toNat, by omega⟩
      rw [show ((k' : Int)).toNat = k' by omega] at hst
      have hO := HQ.out.1
      have HN := Lib.hid hst
      generalize scan (getL nn L) nn k = l at *
      generalize hl' : scan (getL nn L) nn k' = l' at *
      clear hst
      have hEE := Lib.hid hE
      have hGG := Lib.hid hG
      have hOO := Lib.hid hO
      have HB2 := Lib.hid HQ.out.2
      clear hE hG hO HQ
      by_cases hv : v = nn
      · have e1 : (v != nn) = false := by simpa using hv
        obtain ⟨A, c, rfl, _⟩ := own_slice hOO.out
        go_wp2_with (first | (go_at_call 34; refine hEE.out.mono ?_; rintro e w' ⟨rfl, rfl⟩) | (go_at_call 35; refine hGG.out.mono ?_; rintro e w' ⟨rfl, rfl⟩))
        go_roundw
        case measure => simp only [intOf]; have := HM.out; omega
        case rel =>
          refine ⟨k', rfl, by have := HM.out; omega, ?_⟩
          rw [hl']
          have e9 : l' = l := by rw [HN.out]; unfold pushS; rw [if_pos hv]
          rw [e9]
          exact ⟨hOO.out, HB2.out⟩
      · have e1 : (v != nn) = true := by simpa using hv
        rcases snoc_cases l with rfl | ⟨m, s, rfl⟩
        · obtain ⟨A, c, rfl, _⟩ := own_slice hOO.out
          simp only [List.length_nil] at hOO ⊢
          go_wp2_with (first | (go_at_call 34; refine hEE.out.mono ?_; rintro e w' ⟨rfl, rfl⟩) | (go_at_call 35; refine hGG.out.mono ?_; rintro e w' ⟨rfl, rfl⟩) | (at_builtin; refine wpList_append_own_at _ rfl _ _ _ (by rfl) w.heap.size 33 i0 _ 3 16 Try.underlying22 I0.out I1.out I2.out I3.out rfl (by omega) _ 0 _ (by rfl) (hOO.out.alloc _) ⟨wr.heap.size, 0, none⟩ 1 1 [.int .i32 k, .int .i32 ((k' : Int) - 1), .int .i64 v] (by rfl) rfl (World.news_of_block (cs := #[.int .i32 k, .int .i32 ((k' : Int) - 1), .int .i64 v]) (t := 33) (fr := (0, 0)) (heap_alloc_new wr _)) (by simp [Value.oneCell']) (by unfold maxLen; omega) (by omega) (by have := HB2.out.size; simp; omega) ?_; intro v6 w6 ho6 hg6 hn6 ha6; obtain ⟨A6, c6, rfl, _⟩ := own_slice ho6; have O6 := Lib.hid ho6; have B6 := Lib.hid ((HB2.out.alloc HB2.out.size (.cells #[.int .i32 k, .int .i32 ((k' : Int) - 1), .int .i64 v] 33)).grown hg6 (by have := HB2.out.size; simp; omega) (fun z hz => (hOO.out.lt z hz).1)); clear ho6 hg6 hn6 ha6))
          go_roundw
          case measure => simp only [intOf]; have := HM.out; omega
          case rel =>
            refine ⟨k', rfl, by have := HM.out; omega, ?_⟩
            rw [hl']
            have e9 : l' = [] ++ [((k : Int), (k' : Int) - 1, v)] := by rw [HN.out]; exact push_new hv (fun m s h => by simp at h)
            rw [e9]
            exact ⟨by rw [spC_app]; exact O6.out, B6.out⟩
        · have hgA : ∃ g c, u3 = .slice (some ⟨g, 0, none⟩) (m.length + 1) c := by
            have h9 := hOO.out
            rcases h9.2 with ⟨_, hn⟩ | ⟨g, cap, cur, hv9, _⟩
            · simp at hn
            · exact ⟨g, cap, by rw [hv9]; simp⟩
          obtain ⟨g, c, rfl⟩ := hgA
          have hO9 := hOO.out
          have hml : (m ++ [s]).length = m.length + 1 := by simp
          rw [hml] at hO9 hsl
          have r1 := own_cell hO9 (spC_last m s 1 (by omega))
          have r2 := own_cell hO9 (spC_last m s 2 (by omega))
          have hfz := own_fz hO9 (m.length * 3 + 1)
          have hOO := Lib.hid hO9
          have HP := Lib.hid (fun x => own_putv hO9 (m.length * 3 + 1) (.int .i32 x))
          have hgl := (hO9.lt g rfl).1
          have e2 : ((m.length : Int) + 1 == 0) = false := by simp; omega
          have g5 : (0 : Int) < (m.length : Int) + 1 := by omega
          have g6 : (m.length : Int) < (m.length : Int) + 1 := by omega
          have hw1 : IntKind.i32.wrap ((k : Int) - 1) = (k : Int) - 1 := by rw [IntKind.wrap_i32]; omega
          have hw2 : IntKind.i32.wrap ((k' : Int) - 1) = (k' : Int) - 1 := by rw [IntKind.wrap_i32]; omega
          obtain ⟨f, t, u⟩ := s
          clear hO9 hml
          have r1 : wr.cell? ⟨g, m.length * 3 + 1, none⟩ = some (.int .i32 t) := r1
          have r2 : wr.cell? ⟨g, m.length * 3 + 2, none⟩ = some (.int .i64 u) := r2
          by_cases ht : t = (k : Int) - 1
          · by_cases hu : u = v
            · subst ht
              subst hu
              go_wp2_with (first | (go_at_call 34; refine hEE.out.mono ?_; rintro e w' ⟨rfl, rfl⟩) | (go_at_call 35; refine hGG.out.mono ?_; rintro e w' ⟨rfl, rfl⟩))
              go_roundw
              case measure => simp only [intOf]; have := HM.out; omega
              case rel =>
                refine ⟨k', rfl, by have := HM.out; omega, ?_⟩
                rw [hl']
                have e9 : l' = m ++ [(f, (k' : Int) - 1, u)] := by rw [HN.out]; exact push_old hv ⟨rfl, rfl⟩
                rw [e9]
                exact ⟨by rw [List.length_append]; have := HP.out ((k' : Int) - 1); rw [spC_set] at this; exact this, HB2.out.setCell (p := ⟨g, m.length * 3 + 1, none⟩) hgl _⟩
            · have e3 : (t == (k : Int) - 1) = true := by simpa using ht
              have e4 : (u == v) = false := by simpa using hu
              subst ht
              go_wp2_with (first | (go_at_call 34; refine hEE.out.mono ?_; rintro e w' ⟨rfl, rfl⟩) | (go_at_call 35; refine hGG.out.mono ?_; rintro e w' ⟨rfl, rfl⟩) | (at_builtin; refine wpList_append_own_at _ rfl _ _ _ (by rfl) w.heap.size 33 i0 _ 3 16 Try.underlying22 I0.out I1.out I2.out I3.out rfl (by omega) _ (m.length + 1) _ (by rfl) (hOO.out.alloc _) ⟨wr.heap.size, 0, none⟩ 1 1 [.int .i32 k, .int .i32 ((k' : Int) - 1), .int .i64 v] (by rfl) rfl (World.news_of_block (cs := #[.int .i32 k, .int .i32 ((k' : Int) - 1), .int .i64 v]) (t := 33) (fr := (0, 0)) (heap_alloc_new wr _)) (by simp [Value.oneCell']) (by unfold maxLen; omega) (by omega) (by have := HB2.out.size; simp; omega) ?_; intro v6 w6 ho6 hg6 hn6 ha6; obtain ⟨A6, c6, rfl, _⟩ := own_slice ho6; have O6 := Lib.hid ho6; have B6 := Lib.hid ((HB2.out.alloc HB2.out.size (.cells #[.int .i32 k, .int .i32 ((k' : Int) - 1), .int .i64 v] 33)).grown hg6 (by have := HB2.out.size; simp; omega) (fun z hz => (hOO.out.lt z hz).1)); clear ho6 hg6 hn6 ha6))
              go_roundw
              case measure => simp only [intOf]; have := HM.out; omega
              case rel =>
                refine ⟨k', rfl, by have := HM.out; omega, ?_⟩
                rw [hl']
                have e9 : l' = (m ++ [(f, (k : Int) - 1, u)]) ++ [((k : Int), (k' : Int) - 1, v)] := by rw [HN.out]; exact push_new hv (fun m2 s2 h => by obtain ⟨_, h3⟩ := List.append_inj' h rfl; simp only [List.cons.injEq, and_true] at h3; subst h3; exact fun h4 => hu h4.2)
                rw [e9]
                exact ⟨by rw [spC_app, List.length_append, List.length_append]; exact O6.out, B6.out⟩
          · have e3 : (t == (k : Int) - 1) = false := by simpa using ht
            go_wp2_with (first | (go_at_call 34; refine hEE.out.mono ?_; rintro e w' ⟨rfl, rfl⟩) | (go_at_call 35; refine hGG.out.mono ?_; rintro e w' ⟨rfl, rfl⟩) | (at_builtin; refine wpList_append_own_at _ rfl _ _ _ (by rfl) w.heap.size 33 i0 _ 3 16 Try.underlying22 I0.out I1.out I2.out I3.out rfl (by omega) _ (m.length + 1) _ (by rfl) (hOO.out.alloc _) ⟨wr.heap.size, 0, none⟩ 1 1 [.int .i32 k, .int .i32 ((k' : Int) - 1), .int .i64 v] (by rfl) rfl (World.news_of_block (cs := #[.int .i32 k, .int .i32 ((k' : Int) - 1), .int .i64 v]) (t := 33) (fr := (0, 0)) (heap_alloc_new wr _)) (by simp [Value.oneCell']) (by unfold maxLen; omega) (by omega) (by have := HB2.out.size; simp; omega) ?_; intro v6 w6 ho6 hg6 hn6 ha6; obtain ⟨A6, c6, rfl, _⟩ := own_slice ho6; have O6 := Lib.hid ho6; have B6 := Lib.hid ((HB2.out.alloc HB2.out.size (.cells #[.int .i32 k, .int .i32 ((k' : Int) - 1), .int .i64 v] 33)).grown hg6 (by have := HB2.out.size; simp; omega) (fun z hz => (hOO.out.lt z hz).1)); clear ho6 hg6 hn6 ha6))
            go_roundw
            case measure => simp only [intOf]; have := HM.out; omega
            case rel =>
              refine ⟨k', rfl, by have := HM.out; omega, ?_⟩
              rw [hl']
              have e9 : l' = (m ++ [(f, t, u)]) ++ [((k : Int), (k' : Int) - 1, v)] := by rw [HN.out]; exact push_new hv (fun m2 s2 h => by obtain ⟨_, h3⟩ := List.append_inj' h rfl; simp only [List.cons.injEq, and_true] at h3; subst h3; exact fun h4 => ht h4.1)
              rw [e9]
              exact ⟨by rw [spC_app, List.length_append, List.length_append]; exact O6.out, B6.out⟩
    · have g1 : ¬ (k : Int) < 1114112 := by have := HM.out; omega
      have h9 := HQ.out.1
      rw [HX.out k (by omega)] at h9
      have B9 := Lib.hid HQ.out.2
      obtain ⟨A, c, rfl, _⟩ := own_slice h9
      have O9 := Lib.hid h9
      clear HQ h9
      go_wp2_with fail
      go_ret
      exact ⟨_, rfl, O9.out, B9.out⟩

end Go.Proofs.Ytfjckdjnnbpcnaa.Tr

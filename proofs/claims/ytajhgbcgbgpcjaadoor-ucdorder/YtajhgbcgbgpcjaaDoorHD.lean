import Derived.Test.YtajhgbcgbgpcjaaDoorHC
import Derived.Test.YtajhgbcgbgpcjaaDoorFN
import Derived.Shelf.Spec.SlicesInsertGrow
namespace Go.Proofs.YtajhgbcgbgpcjaaDoor.Uc
open Go.RowKit Fi Go.Lib

/-- A row's block, told whole. -/
structure Blk (w : World) (g cap : Nat) (cs : List Value) : Prop where
  blk : ∃ cur : Array Value, w.heap[g]? = some (.cells cur 21 (0, 0)) ∧ cur.size = cap ∧ cur.toList.take cs.length = cs
  cap : cs.length ≤ cap
theorem Blk.lt {w : World} {g cap : Nat} {cs : List Value} (h : Blk w g cap cs) : g < w.heap.size := by
  obtain ⟨cur, hh, _⟩ := h.blk
  exact (Array.getElem?_eq_some_iff.1 hh).1
theorem Blk.cell {w : World} {g cap : Nat} {cs : List Value} (h : Blk w g cap cs) {j : Nat} {v : Value} (hv : cs[j]? = some v) : w.cell? ⟨g, j, none⟩ = some v := by
  obtain ⟨cur, hh, _, ht⟩ := h.blk
  have hj : j < cs.length := (List.getElem?_eq_some_iff.1 hv).1
  rw [← ht, List.getElem?_take, if_pos hj, Array.getElem?_toList] at hv
  simp [World.cell?, hh, hv]
theorem Blk.some {w : World} {g cap : Nat} {cs : List Value} (h : Blk w g cap cs) {j : Nat} (hj : j < cap) : (w.cell? ⟨g, j, none⟩).isSome = true := by
  obtain ⟨cur, hh, hc, _⟩ := h.blk
  simp [World.cell?, hh, Array.getElem?_eq_getElem (show j < cur.size by omega)]
theorem Blk.fr {w : World} {g cap : Nat} {cs : List Value} (h : Blk w g cap cs) (j : Nat) : w.frozen? ⟨g, j, none⟩ = false := by
  obtain ⟨cur, hh, _⟩ := h.blk
  simp [World.frozen?, hh]
theorem Blk.shape {w : World} {g cap : Nat} {cs : List Value} (h : Blk w g cap cs) : w.shape? g = Option.some (21, cap) := by
  obtain ⟨cur, hh, hc, _⟩ := h.blk
  simp [World.shape?, hh, hc]
theorem blk_of {w : World} {base n : Nat} {v : Value} {xs : List Value} (h : w.ownsRow base 21 1 v n xs) (h0 : 0 < n) : ∃ g cap, v = .slice (Option.some ⟨g, 0, none⟩) n cap ∧ base ≤ g ∧ n ≤ cap ∧ cap ≤ maxLen ∧ xs.length = n ∧ Blk w g cap xs := by
  have hl := h.1
  rcases h.2 with ⟨_, hn⟩ | ⟨g, cap, cur, hv, hg, hh, hn, hm, hc, ht⟩
  · omega
  · refine ⟨g, cap, hv, hg, hn, hm, by omega, ⟨cur, hh, by omega, ?_⟩, by omega⟩
    rw [show xs.length = n * 1 by omega]
    exact ht
theorem cur_of_setCells (b : Nat) (t : TypeId) : ∀ (vs : List Value) (o : Nat) (w : World) (cur : Array Value), w.heap[b]? = Option.some (.cells cur t (0, 0)) → o + vs.length ≤ cur.size →
    ∃ cur' : Array Value, (w.setCells b o vs).heap[b]? = Option.some (.cells cur' t (0, 0)) ∧ cur'.toList = cur.toList.take o ++ (vs ++ cur.toList.drop (o + vs.length))
  | [], o, w, cur, h, hl => ⟨cur, h, by simp⟩
  | v :: vs, o, w, cur, h, hl => by
    simp only [List.length_cons] at hl
    have h1 : (w.setCell ⟨b, o, none⟩ v).heap[b]? = Option.some (.cells (cur.setIfInBounds o v) t (0, 0)) := by simp [World.setCell, Array.getElem?_modify, h]
    obtain ⟨cur', h2, h3⟩ := cur_of_setCells b t vs (o + 1) (w.setCell ⟨b, o, none⟩ v) (cur.setIfInBounds o v) h1 (by simp; omega)
    refine ⟨cur', h2, ?_⟩
    rw [h3, Array.toList_setIfInBounds]
    have hlt : o < cur.toList.length := by simp; omega
    have e1 : (cur.toList.set o v).take (o + 1) = cur.toList.take o ++ [v] := by
      rw [List.take_set, List.take_succ_eq_append_getElem hlt, List.set_append_right _ _ (by simp; omega)]
      have e9 : (cur.toList.take o).length = o := by rw [List.length_take]; omega
      rw [e9, Nat.sub_self]
      rfl
    have e2 : (cur.toList.set o v).drop (o + 1 + vs.length) = cur.toList.drop (o + (v :: vs).length) := by
      rw [List.drop_set_of_lt (by omega)]
      congr 1
      simp
      omega
    rw [e1, e2]
    simp
theorem setCells_size (b : Nat) : ∀ (vs : List Value) (o : Nat) (w : World), (w.setCells b o vs).heap.size = w.heap.size
  | [], _, _ => rfl
  | v :: vs, o, w => by
    rw [World.setCells, setCells_size b vs]
    simp
theorem setCells_grown (b : Nat) : ∀ (vs : List Value) (o : Nat) (w : World), w.grownBy (w.setCells b o vs) (Option.some b)
  | [], _, _ => ⟨rfl, rfl, rfl, Nat.le_refl _, fun _ _ _ => rfl⟩
  | v :: vs, o, w => by
    have h := setCells_grown b vs (o + 1) (w.setCell ⟨b, o, none⟩ v)
    have hz := h.size
    have e : w.setCells b o (v :: vs) = (w.setCell ⟨b, o, none⟩ v).setCells b (o + 1) vs := rfl
    rw [e]
    refine ⟨h.os, h.tape, h.output, by simpa using hz, fun k hk hne => (h.block k (by simpa using hk) hne).trans ?_⟩
    exact Go.Deep.blk_setCell_other _ _ _ _ (fun e => hne (by rw [e]))
def InP (w : World) (base : Nat) (v : Value) (l : List Int) (e : Ending) (w' : World) : Prop := ∃ v', e = .returned v' ∧ w'.ownsRow base 21 1 v' l.length (i32s l) ∧ w.grownBy w' v.ownBlock
theorem i32s_take (l : List Int) (n : Nat) : (i32s l).take n = i32s (l.take n) := by simp [i32s, List.map_take]
theorem i32s_drop (l : List Int) (n : Nat) : (i32s l).drop n = i32s (l.drop n) := by simp [i32s, List.map_drop]
theorem i32s_app (l m : List Int) : i32s (l ++ m) = i32s l ++ i32s m := by simp [i32s]
theorem i32s_len (l : List Int) : (i32s l).length = l.length := by simp [i32s]

set_option maxHeartbeats 4000000 in
set_option maxRecDepth 100000 in
/-- At the end. -/
theorem ins_end (w : World) (base base2 : Nat) (v u : Value) (s l : List Int) (hs : w.ownsRow base 21 1 v s.length (i32s s)) (hl : w.ownsRow base2 21 1 u l.length (i32s l)) (h0 : 0 < l.length) (hz : s.length ≤ 10000) (hy : l.length ≤ 10000) (hb : base ≤ w.heap.size) :
    Calls Tryd.prog 30 #[v, .int .i64 s.length, u] w (InP w base v (s ++ l)) := by
  obtain ⟨i0, hi0, hz0, hz1, hz2⟩ := info_parts r_info
  have I0 := Lib.hid hi0
  have I1 := Lib.hid hz0
  have I2 := Lib.hid hz1
  have I3 := Lib.hid hz2
  obtain ⟨A, c, rfl, _⟩ := own_ints hs
  obtain ⟨B, d, rfl, _⟩ := own_ints hl
  have HS := Lib.hid hs
  have HL := Lib.hid hl
  have hA : A = none ∨ ∃ g, A = some ⟨g, 0, none⟩ := by
    rcases hs.2 with ⟨h, _⟩ | ⟨g, cap, cur, h, _⟩
    · left; injection h
    · right; injection h with h1; exact ⟨g, h1⟩
  have hn : (s.length : Int) ≤ c := by
    rcases hs.2 with ⟨h, h2⟩ | ⟨g, cap, cur, h, _, _, h2, _⟩
    · omega
    · injection h with _ _ h3; omega
  have hc : c ≤ maxLen := by
    rcases hs.2 with ⟨h, h2⟩ | ⟨g, cap, cur, h, _, _, _, h2, _⟩
    · injection h with _ _ h3; unfold maxLen; omega
    · injection h with _ _ h3; omega
  unfold maxLen at hc
  have e1 : ¬ ((l.length : Int) = 0) := by omega
  clear hs hl hi0 hz0 hz1 hz2
  rcases hA with rfl | ⟨g, rfl⟩
  all_goals
    go_enter Tryd.func30, Tryd.ntmps30
    go_wp2_with (at_builtin; refine wpList_append_row rfl (.tmp 23) (.tmp 24) _ rfl base 21 i0 _ 1 4 Tryd.underlying31 I0.out I1.out I2.out I3.out rfl (by omega) _ s.length _ rfl HS.out base2 _ l.length _ rfl HL.out (i32s_one l) (by unfold maxLen; omega) (by omega) hb ?_; intro v6 w6 ho6 hg6 hn6; have O6 := Lib.hid ho6; have G6 := Lib.hid hg6; clear ho6 hg6 hn6)
    all_goals (go_ret; exact ⟨_, rfl, by rw [List.length_append, i32s_app]; exact O6.out, G6.out⟩)

set_option maxHeartbeats 4000000 in
set_option maxRecDepth 100000 in
/-- In the midst, with room. -/
theorem ins_shift (w : World) (g vb n c i m vc : Nat) (cs vs : List Value) (hg : Blk w g c cs) (hv : Blk w vb vc vs) (hne : vb ≠ g) (hcl : cs.length = n) (hvl : vs.length = m) (hi : i < n) (hm : 0 < m) (hroom : n + m ≤ c) (hc63 : c ≤ maxLen)
    (h1c : ∀ v ∈ cs, v.oneCell' = true) (h1v : ∀ v ∈ vs, v.oneCell' = true) :
    Calls Tryd.prog 30 #[.slice (Option.some ⟨g, 0, none⟩) n c, .int .i64 i, .slice (Option.some ⟨vb, 0, none⟩) m vc] w fun e w' =>
      e = .returned (.slice (Option.some ⟨g, 0, none⟩) (n + m) c) ∧ w' = (w.drew.setCells g (i + m) (cs.drop i)).setCells g i vs := by
  unfold maxLen at hc63
  have hz1 : ¬ ((m : Int) = 0) := by omega
  have hz2 : ¬ ((i : Int) = (n : Int)) := by omega
  have hsz : (Tryd.prog.info? 21).map (·.size) = Option.some 1 := by
    obtain ⟨i0, hi0, h0, h1, h2⟩ := info_parts r_info
    rw [hi0]; simp [h1]
  have hov : ∀ lb cb, (callFunc 53 #[.slice (Option.some ⟨vb, 0, none⟩) m vc, .slice (Option.some ⟨g, i + m, none⟩) lb cb]).run Tryd.prog w = .ok (.value (.bool false)) w := fun lb cb => by
    rw [run_callFunc_extern Tryd.func53 (by kernel_rfl) (by kernel_rfl) (by kernel_rfl) (e := Extern.SlicesOverlaps.overlaps #[31, 31] #[4]) (by kernel_rfl),
      Lib.run_overlaps_apart w 31 4 21 Tryd.underlying31 1 Tryd.sizeOf21 ⟨vb, 0, none⟩ ⟨g, i + m, none⟩ m vc lb cb hne _ _ vc c hv.shape hg.shape (by omega) (hv.fr 0) (hv.fr vc)]
    rfl
  have hdl : (cs.drop i).length = n - i := by rw [List.length_drop, hcl]
  have hw1 : IntKind.i64.wrap ((i : Int) + (m : Int)) = (i : Int) + (m : Int) := by rw [IntKind.wrap_i64]; omega
  have hb1 : (0 : Int) ≤ (i : Int) + (m : Int) := by omega
  have hin : i ≤ n := by omega
  have htn : ((i : Int) + (m : Int)).toNat = i + m := by omega
  have hb2 : ¬ (c = i + m) := by omega
  have hb3 : (i : Int) ≤ (n : Int) + (m : Int) := by omega
  have hb4 : ¬ (c = i) := by omega
  have hcp1 : ∀ ty dc sc, (Builtin.copy_ #[31, 31] ty #[.slice (Option.some ⟨g, i + m, none⟩) (n + m - (i + m)) dc, .slice (Option.some ⟨g, i, none⟩) (n + m - i) sc]).run Tryd.prog w.drew = .ok (goInt (cs.drop i).length) (w.drew.setCells g (i + m) (cs.drop i)) := fun ty dc sc =>
    run_copy_cells w.drew _ _ ty 21 g (i + m) (n + m - (i + m)) dc ⟨g, i, none⟩ (n + m - i) sc (cs.drop i) Tryd.underlying31 hsz (by rw [hdl]; simp only [Nat.min_def]; split <;> omega)
      (fun j v hj => by rw [Addr.add_lit]; exact hg.cell (by rwa [List.getElem?_drop] at hj))
      (fun j hj => hg.some (by omega)) (fun j hj => hg.fr _) (fun v hv => h1c v (List.mem_of_mem_drop hv))
  obtain ⟨W1, hW1⟩ : ∃ W1, W1 = w.drew.setCells g (i + m) (cs.drop i) := ⟨_, rfl⟩
  have hsp1 : ∀ k, k < n + m → (W1.cell? ⟨g, k, none⟩).isSome = true := fun k hk => by
    rw [hW1]
    have hS : ∀ j, j < c → (w.drew.cell? ⟨g, j, none⟩).isSome = true := fun j hj => hg.some hj
    exact isSome_setCells g _ _ _ (fun j hj => hS _ (by rw [hdl] at hj; omega)) _ (hS k (by omega))
  have hcp2 : ∀ (W : World), (∀ x, W.cell? x = W1.cell? x) → (∀ x, W.frozen? x = W1.frozen? x) → ∀ ty dc, (Builtin.copy_ #[31, 31] ty #[.slice (Option.some ⟨g, i, none⟩) (n + m - i) dc, .slice (Option.some ⟨vb, 0, none⟩) m vc]).run Tryd.prog W = .ok (goInt vs.length) (W.setCells g i vs) := fun W hWc hWf ty dc =>
    run_copy_cells W _ _ ty 21 g i (n + m - i) dc ⟨vb, 0, none⟩ m vc vs Tryd.underlying31 hsz (by rw [hvl]; simp only [Nat.min_def]; split <;> omega)
      (fun j v hj => by
        rw [Addr.add_lit, hWc, hW1, World.cell?_setCells_out g _ _ _ _ (fun h _ => absurd h hne), Nat.zero_add]
        exact hv.cell hj)
      (fun j hj => by rw [hWc]; exact hsp1 _ (by omega)) (fun j hj => by rw [hWf, hW1, World.frozen?_setCells]; exact hg.fr _) h1v
  rw [← hW1] at hcp1
  go_enter Tryd.func30, Tryd.ntmps30
  go_wp2_with (simp only [hov])
  go_region_law (refine step_copy_runI rfl _ _ 31 31 rfl _ _ (by simp [Act.eval, Act.put]) (by simp [Act.eval, Act.put]) (hcp1 _ _ _) ?_)
  go_wp2_with (at_builtin; refine wpList_copy_runI _ rfl _ _ 31 31 rfl _ _ rfl rfl (hcp2 _ (fun _ => rfl) (fun _ => rfl) _ _) ?_)
  go_ret
  first | exact ⟨rfl, rfl⟩ | exact ⟨rfl, by rw [hW1]⟩

end Go.Proofs.YtajhgbcgbgpcjaaDoor.Uc

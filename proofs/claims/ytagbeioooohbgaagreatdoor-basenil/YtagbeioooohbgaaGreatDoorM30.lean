import Derived.Test.YtagbeioooohbgaaGreatDoorM06
import Derived.Test.YtagbeioooohbgaaGreatDoorM03
import Derived.Shelf.Spec.SlicesInsertGrow
section
namespace Go.Proofs.YtagbeioooohbgaaGreatDoor.Uc
open Go.RowKit Fi Go.Lib

/-- A row's block, told whole. -/
structure Blk (w : World) (g cap : Nat) (cs : List Value) : Prop where
  blk : ∃ cur : Array Value, w.heap[g]? = some (.cells cur 21 (0, 0)) ∧ cur.size = cap ∧ cur.toList.take cs.length = cs
  cap : cs.length ≤ cap
theorem Blk.lt {w : World} {g cap : Nat} {cs : List Value} (h : Blk w g cap cs) : g < w.heap.size := by
  obtain ⟨cur, hh, _⟩ := h.blk
  exact (Array.getElem?_eq_some_iff.1 hh).1
theorem Blk.cell {w : World} {g cap : Nat} {cs : List Value} (h : Blk w g cap cs) {j : Nat} {v : Value} (hv : cs[j]? = some v) : w.cell? ⟨g, j, none⟩ = some v := by
  obtain ⟨cur, hh, _, ht⟩ := h.blk
  have hj : j < cs.length := (List.getElem?_eq_some_iff.1 hv).1
  rw [← ht, List.getElem?_take, if_pos hj, Array.getElem?_toList] at hv
  simp [World.cell?, hh, hv]
theorem Blk.some {w : World} {g cap : Nat} {cs : List Value} (h : Blk w g cap cs) {j : Nat} (hj : j < cap) : (w.cell? ⟨g, j, none⟩).isSome = true := by
  obtain ⟨cur, hh, hc, _⟩ := h.blk
  simp [World.cell?, hh, Array.getElem?_eq_getElem (show j < cur.size by omega)]
theorem Blk.fr {w : World} {g cap : Nat} {cs : List Value} (h : Blk w g cap cs) (j : Nat) : w.frozen? ⟨g, j, none⟩ = false := by
  obtain ⟨cur, hh, _⟩ := h.blk
  simp [World.frozen?, hh]
theorem Blk.shape {w : World} {g cap : Nat} {cs : List Value} (h : Blk w g cap cs) : w.shape? g = Option.some (21, cap) := by
  obtain ⟨cur, hh, hc, _⟩ := h.blk
  simp [World.shape?, hh, hc]
theorem blk_of {w : World} {base n : Nat} {v : Value} {xs : List Value} (h : w.ownsRow base 21 1 v n xs) (h0 : 0 < n) : ∃ g cap, v = .slice (Option.some ⟨g, 0, none⟩) n cap ∧ base ≤ g ∧ n ≤ cap ∧ cap ≤ maxLen ∧ xs.length = n ∧ Blk w g cap xs := by
  have hl := h.1
  rcases h.2 with ⟨_, hn⟩ | ⟨g, cap, cur, hv, hg, hh, hn, hm, hc, ht⟩
  · omega
  · refine ⟨g, cap, hv, hg, hn, hm, by omega, ⟨cur, hh, by omega, ?_⟩, by omega⟩
    rw [show xs.length = n * 1 by omega]
    exact ht
theorem cur_of_setCells (b : Nat) (t : TypeId) : ∀ (vs : List Value) (o : Nat) (w : World) (cur : Array Value), w.heap[b]? = Option.some (.cells cur t (0, 0)) → o + vs.length ≤ cur.size →
    ∃ cur' : Array Value, (w.setCells b o vs).heap[b]? = Option.some (.cells cur' t (0, 0)) ∧ cur'.toList = cur.toList.take o ++ (vs ++ cur.toList.drop (o + vs.length))
  | [], o, w, cur, h, hl => ⟨cur, h, by simp⟩
  | v :: vs, o, w, cur, h, hl => by
    simp only [List.length_cons] at hl
    have h1 : (w.setCell ⟨b, o, none⟩ v).heap[b]? = Option.some (.cells (cur.setIfInBounds o v) t (0, 0)) := by simp [World.setCell, Array.getElem?_modify, h]
    obtain ⟨cur', h2, h3⟩ := cur_of_setCells b t vs (o + 1) (w.setCell ⟨b, o, none⟩ v) (cur.setIfInBounds o v) h1 (by simp; omega)
    refine ⟨cur', h2, ?_⟩
    rw [h3, Array.toList_setIfInBounds]
    have hlt : o < cur.toList.length := by simp; omega
    have e1 : (cur.toList.set o v).take (o + 1) = cur.toList.take o ++ [v] := by
      rw [List.take_set, List.take_succ_eq_append_getElem hlt, List.set_append_right _ _ (by simp; omega)]
      have e9 : (cur.toList.take o).length = o := by rw [List.length_take]; omega
      rw [e9, Nat.sub_self]
      rfl
    have e2 : (cur.toList.set o v).drop (o + 1 + vs.length) = cur.toList.drop (o + (v :: vs).length) := by
      rw [List.drop_set_of_lt (by omega)]
      congr 1
      simp
      omega
    rw [e1, e2]
    simp
theorem setCells_size (b : Nat) : ∀ (vs : List Value) (o : Nat) (w : World), (w.setCells b o vs).heap.size = w.heap.size
  | [], _, _ => rfl
  | v :: vs, o, w => by
    rw [World.setCells, setCells_size b vs]
    simp
theorem setCells_grown (b : Nat) : ∀ (vs : List Value) (o : Nat) (w : World), w.grownBy (w.setCells b o vs) (Option.some b)
  | [], _, _ => ⟨rfl, rfl, rfl, Nat.le_refl _, fun _ _ _ => rfl⟩
  | v :: vs, o, w => by
    have h := setCells_grown b vs (o + 1) (w.setCell ⟨b, o, none⟩ v)
    have hz := h.size
    have e : w.setCells b o (v :: vs) = (w.setCell ⟨b, o, none⟩ v).setCells b (o + 1) vs := rfl
    rw [e]
    refine ⟨h.os, h.tape, h.output, by simpa using hz, fun k hk hne => (h.block k (by simpa using hk) hne).trans ?_⟩
    exact Go.Deep.blk_setCell_other _ _ _ _ (fun e => hne (by rw [e]))
def InP (w : World) (base : Nat) (v : Value) (l : List Int) (e : Ending) (w' : World) : Prop := ∃ v', e = .returned v' ∧ w'.ownsRow base 21 1 v' l.length (i32s l) ∧ w.grownBy w' v.ownBlock
theorem i32s_take (l : List Int) (n : Nat) : (i32s l).take n = i32s (l.take n) := by simp [i32s, List.map_take]
theorem i32s_drop (l : List Int) (n : Nat) : (i32s l).drop n = i32s (l.drop n) := by simp [i32s, List.map_drop]
theorem i32s_app (l m : List Int) : i32s (l ++ m) = i32s l ++ i32s m := by simp [i32s]
theorem i32s_len (l : List Int) : (i32s l).length = l.length := by simp [i32s]

set_option maxHeartbeats 4000000 in
set_option maxRecDepth 100000 in
/-- At the end. -/
theorem ins_end (w : World) (base base2 : Nat) (v u : Value) (s l : List Int) (hs : w.ownsRow base 21 1 v s.length (i32s s)) (hl : w.ownsRow base2 21 1 u l.length (i32s l)) (h0 : 0 < l.length) (hz : s.length ≤ 10000) (hy : l.length ≤ 10000) (hb : base ≤ w.heap.size) :
    Calls Tryz.prog 52 #[v, .int .i64 s.length, u] w (InP w base v (s ++ l)) := by
  obtain ⟨i0, hi0, hz0, hz1, hz2⟩ := info_parts r_info
  have I0 := Lib.hid hi0
  have I1 := Lib.hid hz0
  have I2 := Lib.hid hz1
  have I3 := Lib.hid hz2
  obtain ⟨A, c, rfl, _⟩ := own_ints hs
  obtain ⟨B, d, rfl, _⟩ := own_ints hl
  have HS := Lib.hid hs
  have HL := Lib.hid hl
  have hA : A = none ∨ ∃ g, A = some ⟨g, 0, none⟩ := by
    rcases hs.2 with ⟨h, _⟩ | ⟨g, cap, cur, h, _⟩
    · left; injection h
    · right; injection h with h1; exact ⟨g, h1⟩
  have hn : (s.length : Int) ≤ c := by
    rcases hs.2 with ⟨h, h2⟩ | ⟨g, cap, cur, h, _, _, h2, _⟩
    · omega
    · injection h with _ _ h3; omega
  have hc : c ≤ maxLen := by
    rcases hs.2 with ⟨h, h2⟩ | ⟨g, cap, cur, h, _, _, _, h2, _⟩
    · injection h with _ _ h3; unfold maxLen; omega
    · injection h with _ _ h3; omega
  unfold maxLen at hc
  have e1 : ¬ ((l.length : Int) = 0) := by omega
  clear hs hl hi0 hz0 hz1 hz2
  rcases hA with rfl | ⟨g, rfl⟩
  all_goals
    go_enter Tryz.func52, Tryz.ntmps52
    go_wp2_with (at_builtin; refine wpList_append_row rfl (.tmp 23) (.tmp 24) _ rfl base 21 i0 _ 1 4 Tryz.underlying32 I0.out I1.out I2.out I3.out rfl (by omega) _ s.length _ rfl HS.out base2 _ l.length _ rfl HL.out (i32s_one l) (by unfold maxLen; omega) (by omega) hb ?_; intro v6 w6 ho6 hg6 hn6; have O6 := Lib.hid ho6; have G6 := Lib.hid hg6; clear ho6 hg6 hn6)
    all_goals (go_ret; exact ⟨_, rfl, by rw [List.length_append, i32s_app]; exact O6.out, G6.out⟩)

set_option maxHeartbeats 4000000 in
set_option maxRecDepth 100000 in
/-- In the midst, with room. -/
theorem ins_shift (w : World) (g vb n c i m vc : Nat) (cs vs : List Value) (hg : Blk w g c cs) (hv : Blk w vb vc vs) (hne : vb ≠ g) (hcl : cs.length = n) (hvl : vs.length = m) (hi : i < n) (hm : 0 < m) (hroom : n + m ≤ c) (hc63 : c ≤ maxLen)
    (h1c : ∀ v ∈ cs, v.oneCell' = true) (h1v : ∀ v ∈ vs, v.oneCell' = true) :
    Calls Tryz.prog 52 #[.slice (Option.some ⟨g, 0, none⟩) n c, .int .i64 i, .slice (Option.some ⟨vb, 0, none⟩) m vc] w fun e w' =>
      e = .returned (.slice (Option.some ⟨g, 0, none⟩) (n + m) c) ∧ w' = (w.drew.setCells g (i + m) (cs.drop i)).setCells g i vs := by
  unfold maxLen at hc63
  have hz1 : ¬ ((m : Int) = 0) := by omega
  have hz2 : ¬ ((i : Int) = (n : Int)) := by omega
  have hsz : (Tryz.prog.info? 21).map (·.size) = Option.some 1 := by
    obtain ⟨i0, hi0, h0, h1, h2⟩ := info_parts r_info
    rw [hi0]; simp [h1]
  have hov : ∀ lb cb, (callFunc 82 #[.slice (Option.some ⟨vb, 0, none⟩) m vc, .slice (Option.some ⟨g, i + m, none⟩) lb cb]).run Tryz.prog w = .ok (.value (.bool false)) w := fun lb cb => by
    rw [run_callFunc_extern Tryz.func82 (by kernel_rfl) (by kernel_rfl) (by kernel_rfl) (e := Extern.SlicesOverlaps.overlaps #[32, 32] #[4]) (by kernel_rfl),
      Lib.run_overlaps_apart w 32 4 21 Tryz.underlying32 1 Tryz.sizeOf21 ⟨vb, 0, none⟩ ⟨g, i + m, none⟩ m vc lb cb hne _ _ vc c hv.shape hg.shape (by omega) (hv.fr 0) (hv.fr vc)]
    rfl
  have hdl : (cs.drop i).length = n - i := by rw [List.length_drop, hcl]
  have hw1 : IntKind.i64.wrap ((i : Int) + (m : Int)) = (i : Int) + (m : Int) := by rw [IntKind.wrap_i64]; omega
  have hb1 : (0 : Int) ≤ (i : Int) + (m : Int) := by omega
  have hin : i ≤ n := by omega
  have htn : ((i : Int) + (m : Int)).toNat = i + m := by omega
  have hb2 : ¬ (c = i + m) := by omega
  have hb3 : (i : Int) ≤ (n : Int) + (m : Int) := by omega
  have hb4 : ¬ (c = i) := by omega
  have hcp1 : ∀ ty dc sc, (Builtin.copy_ #[32, 32] ty #[.slice (Option.some ⟨g, i + m, none⟩) (n + m - (i + m)) dc, .slice (Option.some ⟨g, i, none⟩) (n + m - i) sc]).run Tryz.prog w.drew = .ok (goInt (cs.drop i).length) (w.drew.setCells g (i + m) (cs.drop i)) := fun ty dc sc =>
    run_copy_cells w.drew _ _ ty 21 g (i + m) (n + m - (i + m)) dc ⟨g, i, none⟩ (n + m - i) sc (cs.drop i) Tryz.underlying32 hsz (by rw [hdl]; simp only [Nat.min_def]; split <;> omega)
      (fun j v hj => by rw [Addr.add_lit]; exact hg.cell (by rwa [List.getElem?_drop] at hj))
      (fun j hj => hg.some (by omega)) (fun j hj => hg.fr _) (fun v hv => h1c v (List.mem_of_mem_drop hv))
  obtain ⟨W1, hW1⟩ : ∃ W1, W1 = w.drew.setCells g (i + m) (cs.drop i) := ⟨_, rfl⟩
  have hsp1 : ∀ k, k < n + m → (W1.cell? ⟨g, k, none⟩).isSome = true := fun k hk => by
    rw [hW1]
    have hS : ∀ j, j < c → (w.drew.cell? ⟨g, j, none⟩).isSome = true := fun j hj => hg.some hj
    exact isSome_setCells g _ _ _ (fun j hj => hS _ (by rw [hdl] at hj; omega)) _ (hS k (by omega))
  have hcp2 : ∀ (W : World), (∀ x, W.cell? x = W1.cell? x) → (∀ x, W.frozen? x = W1.frozen? x) → ∀ ty dc, (Builtin.copy_ #[32, 32] ty #[.slice (Option.some ⟨g, i, none⟩) (n + m - i) dc, .slice (Option.some ⟨vb, 0, none⟩) m vc]).run Tryz.prog W = .ok (goInt vs.length) (W.setCells g i vs) := fun W hWc hWf ty dc =>
    run_copy_cells W _ _ ty 21 g i (n + m - i) dc ⟨vb, 0, none⟩ m vc vs Tryz.underlying32 hsz (by rw [hvl]; simp only [Nat.min_def]; split <;> omega)
      (fun j v hj => by
        rw [Addr.add_lit, hWc, hW1, World.cell?_setCells_out g _ _ _ _ (fun h _ => absurd h hne), Nat.zero_add]
        exact hv.cell hj)
      (fun j hj => by rw [hWc]; exact hsp1 _ (by omega)) (fun j hj => by rw [hWf, hW1, World.frozen?_setCells]; exact hg.fr _) h1v
  rw [← hW1] at hcp1
  go_enter Tryz.func52, Tryz.ntmps52
  go_wp2_with (simp only [hov])
  go_region_law (refine step_copy_runI rfl _ _ 32 32 rfl _ _ (by simp [Act.eval, Act.put]) (by simp [Act.eval, Act.put]) (hcp1 _ _ _) ?_)
  go_wp2_with (at_builtin; refine wpList_copy_runI _ rfl _ _ 32 32 rfl _ _ rfl rfl (hcp2 _ (fun _ => rfl) (fun _ => rfl) _ _) ?_)
  go_ret
  first | exact ⟨rfl, rfl⟩ | exact ⟨rfl, by rw [hW1]⟩

end Go.Proofs.YtagbeioooohbgaaGreatDoor.Uc
end
section
namespace Go.Proofs.YtagbeioooohbgaaGreatDoor.Uc
open Go.RowKit Fi Go.Lib

set_option maxHeartbeats 4000000 in
set_option maxRecDepth 100000 in
/-- In the midst, without room. -/
theorem ins_grow (w : World) (g vb n c i m vc : Nat) (cs vs : List Value) (hg : Blk w g c cs) (hv : Blk w vb vc vs) (hcl : cs.length = n) (hvl : vs.length = m) (hi : i < n) (hm : 0 < m) (hroom : c < n + m) (hnc : n ≤ c) (hbig : n + m ≤ 30000)
    (h1c : ∀ v ∈ cs, v.oneCell' = true) (h1v : ∀ v ∈ vs, v.oneCell' = true) :
    Calls Tryz.prog 52 #[.slice (Option.some ⟨g, 0, none⟩) n c, .int .i64 i, .slice (Option.some ⟨vb, 0, none⟩) m vc] w fun e w' =>
      e = .returned (.slice (Option.some ⟨w.heap.size, 0, none⟩) (n + m) (grownCap w (n + m) c 21)) ∧
      w' = (((w.alloc (.cells ((cs.take i).toArray ++ Builtin.zeroCells (Value.int .i32 0).cells (n + m - i) ++ Builtin.zeroCells (Value.int .i32 0).cells (grownCap w (n + m) c 21 - (n + m))) 21)).drew.setCells w.heap.size i vs).drew).setCells w.heap.size (i + m) (cs.drop i) := by
  obtain ⟨i0, hi0, hz0, hzs, hzb⟩ := info_parts r_info
  have hz1 : ¬ ((m : Int) = 0) := by omega
  have hz2 : ¬ ((i : Int) = (n : Int)) := by omega
  have hz3 : (c : Int) < (n : Int) + (m : Int) := by omega
  have hsz : (Tryz.prog.info? 21).map (·.size) = Option.some 1 := by rw [hi0]; simp [hzs]
  have hbw : g < w.heap.size := hg.lt
  have hvw : vb < w.heap.size := hv.lt
  have hkk : (n : Int) + (m : Int) - (i : Int) = ((n + m - i : Nat) : Int) := by omega
  have hik : i + (n + m - i) = n + m := by omega
  have hold : (Builtin.firstCells i0.size i (.slice (Option.some ⟨g, 0, none⟩) i c)).run Tryz.prog w.drew = .ok (cs.take i).toArray w.drew := by
    rw [hzs]
    exact run_firstCells_some w.drew 1 i ⟨g, 0, none⟩ i c (cs.take i) (by rw [List.length_take]; omega) (fun j v hj => by
      rw [Addr.add_lit, Nat.zero_add]
      rw [List.getElem?_take] at hj
      split at hj
      · exact hg.cell hj
      · cases hj)
  have hrz : ∀ ty, (Builtin.append_ #[32, 3] ty #[.slice (Option.some ⟨g, 0, none⟩) i c, .int .i64 ((n : Int) + (m : Int) - (i : Int))]).run Tryz.prog w =
      .ok (.slice (Option.some ⟨w.heap.size, 0, none⟩) (n + m) (grownCap w (n + m) c 21)) (w.drew.alloc (.cells ((cs.take i).toArray ++ Builtin.zeroCells (Value.int .i32 0).cells (n + m - i) ++ Builtin.zeroCells (Value.int .i32 0).cells (grownCap w (n + m) c 21 - (n + m))) 21)) := fun ty => by
    have h := Lib.run_append_grow_zeros w 32 3 ty 21 i0 _ .i64 .i64 Tryz.underlying32 Tryz.underlying3 hi0 hz0 (Option.some ⟨g, 0, none⟩) i c (cs.take i) hold (n + m - i) (by omega) (by omega) (by omega) (by omega) (by rw [hzb]; omega) (by rw [hzb, hik]; exact growslice_fits hroom (by omega))
    rw [hik] at h
    rw [hkk]
    exact h
  obtain ⟨G, hG⟩ : ∃ G, G = grownCap w (n + m) c 21 := ⟨_, rfl⟩
  obtain ⟨ROW, hROW⟩ : ∃ ROW : Array Value, ROW = (cs.take i).toArray ++ Builtin.zeroCells (Value.int .i32 0).cells (n + m - i) ++ Builtin.zeroCells (Value.int .i32 0).cells (G - (n + m)) := ⟨_, rfl⟩
  rw [← hG] at hrz ⊢
  rw [← hROW] at hrz ⊢
  have hRl : n + m ≤ ROW.size := by
    rw [hROW]
    simp [Builtin.zeroCells, Value.cells]
    omega
  obtain ⟨W1, hW1⟩ : ∃ W1, W1 = w.drew.alloc (.cells ROW 21) := ⟨_, rfl⟩
  rw [← hW1] at hrz
  have hN : ∀ j, j < n + m → (W1.cell? ⟨w.heap.size, j, none⟩).isSome = true := fun j hj => by
    rw [hW1, World.cell?_alloc_at (w := w.drew) ROW _ w.heap.size j rfl, Array.getElem?_eq_getElem (by omega)]; rfl
  have hNf : ∀ j, W1.frozen? ⟨w.heap.size, j, none⟩ = false := fun j => by rw [hW1]; exact World.frozen?_alloc_at (w := w.drew) ROW _ w.heap.size j rfl
  have hOb : ∀ j v, w.cell? ⟨g, j, none⟩ = Option.some v → W1.cell? ⟨g, j, none⟩ = Option.some v := fun j v h => by rw [hW1, World.cell?_alloc_past (w := w.drew) _ g j hbw]; exact h
  have hOv : ∀ j v, w.cell? ⟨vb, j, none⟩ = Option.some v → W1.cell? ⟨vb, j, none⟩ = Option.some v := fun j v h => by rw [hW1, World.cell?_alloc_past (w := w.drew) _ vb j hvw]; exact h
  have hcpA : ∀ (W : World), (∀ x, W.cell? x = W1.cell? x) → (∀ x, W.frozen? x = W1.frozen? x) → ∀ ty dc, (Builtin.copy_ #[32, 32] ty #[.slice (Option.some ⟨w.heap.size, i, none⟩) (n + m - i) dc, .slice (Option.some ⟨vb, 0, none⟩) m vc]).run Tryz.prog W = .ok (goInt vs.length) (W.setCells w.heap.size i vs) := fun W hWc hWf ty dc =>
    run_copy_cells W _ _ ty 21 w.heap.size i (n + m - i) dc ⟨vb, 0, none⟩ m vc vs Tryz.underlying32 hsz (by rw [hvl]; simp only [Nat.min_def]; split <;> omega)
      (fun j v hj => by rw [Addr.add_lit, hWc, Nat.zero_add]; exact hOv _ v (hv.cell hj))
      (fun j hj => by rw [hWc]; exact hN _ (by omega)) (fun j hj => by rw [hWf]; exact hNf _) h1v
  have hGn : n + m ≤ G := by rw [hG]; exact grownCap_ge w _ _ _
  have hG63 : G ≤ 9223372036854775807 := by
    have := grownCap_le_maxLen w (n + m) c 21 (by unfold maxLen; omega)
    rw [← hG] at this
    unfold maxLen at this
    omega
  have hGi : ¬ (G = i) := by omega
  have hGim : ¬ (G = i + m) := by omega
  have hci : ¬ (c = i) := by omega
  have hbN : g ≠ w.heap.size := by omega
  have hdl : (cs.drop i).length = n - i := by rw [List.length_drop, hcl]
  have hcpB : ∀ (W : World), (∀ x, W.cell? x = (W1.setCells w.heap.size i vs).cell? x) → (∀ x, W.frozen? x = (W1.setCells w.heap.size i vs).frozen? x) → ∀ ty dc sc, (Builtin.copy_ #[32, 32] ty #[.slice (Option.some ⟨w.heap.size, i + m, none⟩) (n + m - (i + m)) dc, .slice (Option.some ⟨g, i, none⟩) (n - i) sc]).run Tryz.prog W = .ok (goInt (cs.drop i).length) (W.setCells w.heap.size (i + m) (cs.drop i)) := fun W hWc hWf ty dc sc =>
    run_copy_cells W _ _ ty 21 w.heap.size (i + m) (n + m - (i + m)) dc ⟨g, i, none⟩ (n - i) sc (cs.drop i) Tryz.underlying32 hsz (by rw [hdl]; simp only [Nat.min_def]; split <;> omega)
      (fun j v hj => by
        rw [Addr.add_lit, hWc, World.cell?_setCells_out _ _ _ _ _ (fun h _ => absurd h hbN)]
        exact hOb _ v (hg.cell (by rwa [List.getElem?_drop] at hj)))
      (fun j hj => by rw [hWc]; exact isSome_setCells _ _ _ _ (fun t ht => hN _ (by omega)) _ (hN _ (by omega)))
      (fun j hj => by rw [hWf, World.frozen?_setCells]; exact hNf _) (fun v hv => h1c v (List.mem_of_mem_drop hv))
  subst hW1
  have hE1 : ∀ x, ((w.alloc (.cells ROW 21)).drew).cell? x = (w.drew.alloc (.cells ROW 21)).cell? x := fun x => rfl
  have hE2 : ∀ x, ((w.alloc (.cells ROW 21)).drew).frozen? x = (w.drew.alloc (.cells ROW 21)).frozen? x := fun x => rfl
  have hF1 : ∀ x, (((w.alloc (.cells ROW 21)).drew.setCells w.heap.size i vs).drew).cell? x = ((w.drew.alloc (.cells ROW 21)).setCells w.heap.size i vs).cell? x := fun x => rfl
  have hF2 : ∀ x, (((w.alloc (.cells ROW 21)).drew.setCells w.heap.size i vs).drew).frozen? x = ((w.drew.alloc (.cells ROW 21)).setCells w.heap.size i vs).frozen? x := fun x => rfl
  have hw1 : IntKind.i64.wrap ((i : Int) + (m : Int)) = (i : Int) + (m : Int) := by rw [IntKind.wrap_i64]; omega
  have hb1 : (0 : Int) ≤ (i : Int) + (m : Int) := by omega
  have hin : i ≤ n := by omega
  have htn : ((i : Int) + (m : Int)).toNat = i + m := by omega
  have hb3 : (i : Int) ≤ (n : Int) := by omega
  clear hkk hik hold hROW hG hRl
  go_enter Tryz.func52, Tryz.ntmps52
  go_wp2_with (first
    | (at_builtin; refine Lib.wpList_append_run _ rfl _ _ _ _ rfl _ _ rfl rfl _ _ (hrz _) ?_)
    | (at_builtin; refine wpList_copy_runI _ rfl _ _ 32 32 rfl _ _ rfl rfl (hcpA _ hE1 hE2 _ _) ?_)
    | (at_builtin; refine wpList_copy_runI _ rfl _ _ 32 32 rfl _ _ rfl rfl (hcpB _ (fun _ => rfl) (fun _ => rfl) _ _ _) ?_))
  go_region_law (refine step_copy_runI rfl _ _ 32 32 rfl (.slice (Option.some ⟨w.heap.size, i + m, none⟩) (n + m - (i + m)) (G - (i + m))) (.slice (Option.some ⟨g, i, none⟩) (n - i) (c - i)) (by simp [Act.eval, Act.put]) (by simp [Act.eval, Act.put]) (hcpB _ hF1 hF2 3 (G - (i + m)) (c - i)) ?_)
  go_wp2
  go_ret
  exact ⟨rfl, rfl⟩

/-- Two rows laid over one that is long enough. -/
theorem lay_two (cur a v b : List Value) (i m n : Nat) (ha : cur.take i = a) (hi : a.length = i) (hv : v.length = m) (hb : b.length = n) (hl : i + m + n ≤ cur.length)
    {c1 c2 : List Value} (h1 : c1 = cur.take (i + m) ++ (b ++ cur.drop (i + m + b.length))) (h2 : c2 = c1.take i ++ (v ++ c1.drop (i + v.length))) : c2.take (i + m + n) = a ++ (v ++ b) ∧ c2.length = cur.length := by
  have e1 : c1.take i = a := by
    rw [h1, List.take_append_of_le_length (by rw [List.length_take]; omega), List.take_take, Nat.min_eq_left (by omega), ha]
  have e2 : c1.drop (i + v.length) = b ++ cur.drop (i + m + b.length) := by
    rw [h1, hv, List.drop_append_of_le_length (by rw [List.length_take]; omega), List.drop_eq_nil_of_le (by rw [List.length_take]; omega), List.nil_append]
  constructor
  · rw [h2, e1, e2, ← List.append_assoc, ← List.append_assoc, List.take_append_of_le_length (by simp; omega), List.take_of_length_le (by simp; omega), List.append_assoc]
  · rw [h2, e1, e2]
    simp
    omega
theorem lay_two' (cur a v b : List Value) (i m n : Nat) (ha : cur.take i = a) (hi : a.length = i) (hv : v.length = m) (hb : b.length = n) (hl : i + m + n ≤ cur.length)
    {c1 c2 : List Value} (h1 : c1 = cur.take i ++ (v ++ cur.drop (i + v.length))) (h2 : c2 = c1.take (i + m) ++ (b ++ c1.drop (i + m + b.length))) : c2.take (i + m + n) = a ++ (v ++ b) ∧ c2.length = cur.length := by
  have e1 : c1.take (i + m) = a ++ v := by
    rw [h1, ha, ← List.append_assoc, List.take_append_of_le_length (by simp; omega), List.take_of_length_le (by simp; omega)]
  have e2 : c1.length = cur.length := by
    rw [h1, ha]
    simp
    omega
  constructor
  · rw [h2, e1, ← List.append_assoc, List.take_append_of_le_length (by simp; omega), List.take_of_length_le (by simp; omega), List.append_assoc]
  · rw [h2, e1]
    simp
    omega
theorem zero_len (v : Value) (h : v.cells.size = 1) (n : Nat) : (Builtin.zeroCells v.cells n).size = n := by
  simp [Builtin.zeroCells, h]
theorem grown_trans {a b c : World} {r : Option Nat} (h : a.grownBy b r) (k : b.grownBy c r) : a.grownBy c r := ⟨k.os.trans h.os, k.tape.trans h.tape, k.output.trans h.output, Nat.le_trans h.size k.size, fun j hj hn => (k.block j (Nat.lt_of_lt_of_le hj h.size) hn).trans (h.block j hj hn)⟩
theorem grown_drew {a b : World} {r : Option Nat} (h : a.grownBy b r) : a.grownBy b.drew r := ⟨h.os, h.tape, h.output, h.size, h.block⟩
/-- What lies in a new block may be anything. -/
theorem grown_new {a b c : World} {r : Option Nat} (h : a.grownBy b r) (k : b.grownBy c (Option.some a.heap.size)) : a.grownBy c r := ⟨k.os.trans h.os, k.tape.trans h.tape, k.output.trans h.output, Nat.le_trans h.size k.size, fun j hj hn => (k.block j (Nat.lt_of_lt_of_le hj h.size) (fun e => by injection e with e; omega)).trans (h.block j hj hn)⟩
theorem ins_any (w : World) (base base2 i : Nat) (v u : Value) (s l : List Int) (hs : w.ownsRow base 21 1 v s.length (i32s s)) (hl : w.ownsRow base2 21 1 u l.length (i32s l)) (hne : ∀ g, u.ownBlock = Option.some g → v.ownBlock ≠ Option.some g) (h0 : 0 < l.length) (hz : s.length ≤ 10000) (hy : l.length ≤ 10000) (hb : base ≤ w.heap.size) (hi : i ≤ s.length) :
    Calls Tryz.prog 52 #[v, .int .i64 i, u] w (InP w base v (s.take i ++ (l ++ s.drop i))) := by
  by_cases he : i = s.length
  · subst he
    have e : s.take s.length ++ (l ++ s.drop s.length) = s ++ l := by simp
    rw [e]
    exact ins_end w base base2 v u s l hs hl h0 hz hy hb
  · obtain ⟨g, c, rfl, hgb, hnc, hcm, hcl, hg⟩ := blk_of hs (by omega)
    obtain ⟨vb, vc, rfl, _, _, _, hvl, hv⟩ := blk_of hl h0
    have hgv : vb ≠ g := fun e => hne vb rfl (by rw [e]; rfl)
    have ex : (s.take i ++ (l ++ s.drop i)).length = s.length + l.length := by simp; omega
    have ey : i32s (s.take i ++ (l ++ s.drop i)) = (i32s s).take i ++ (i32s l ++ (i32s s).drop i) := by rw [i32s_app, i32s_app, i32s_take, i32s_drop]
    have et : ((i32s s).take i).length = i := by rw [List.length_take, i32s_len]; omega
    have ed : ((i32s s).drop i).length = s.length - i := by rw [List.length_drop, i32s_len]
    by_cases hr : s.length + l.length ≤ c
    · refine (ins_shift w g vb s.length c i l.length vc (i32s s) (i32s l) hg hv hgv hcl hvl (by omega) h0 hr hcm (i32s_one s) (i32s_one l)).mono ?_
      rintro e w' ⟨rfl, rfl⟩
      obtain ⟨cur, hh, hcs, ht⟩ := hg.blk
      obtain ⟨c1, h1, k1⟩ := cur_of_setCells g 21 ((i32s s).drop i) (i + l.length) w.drew cur hh (by rw [ed]; omega)
      have z1 : c1.size = cur.size := by
        rw [← Array.length_toList, k1, ← Array.length_toList]
        simp only [List.length_append, List.length_take, List.length_drop, Array.length_toList, i32s_len]
        omega
      obtain ⟨c2, h2, k2⟩ := cur_of_setCells g 21 (i32s l) i _ c1 h1 (by rw [i32s_len, z1]; omega)
      have hti : cur.toList.take i = (i32s s).take i := by
        rw [← ht, List.take_take, Nat.min_eq_left (by rw [i32s_len]; omega)]
      obtain ⟨q1, q2⟩ := lay_two cur.toList ((i32s s).take i) (i32s l) ((i32s s).drop i) i l.length (s.length - i) hti et (i32s_len l) ed (Nat.le_trans (by omega) (Nat.le_of_eq (Array.length_toList (xs := cur)).symm)) k1 k2
      refine ⟨_, rfl, ?_, ?_⟩
      · rw [ex]
        refine ⟨by rw [i32s_len, ex]; omega, .inr ⟨g, c, c2, rfl, hgb, h2, hr, hcm, ?_, ?_⟩⟩
        · rw [← Array.length_toList, q2, Array.length_toList]; omega
        · rw [ey, ← q1]; congr 1; omega
      · have a1 : w.grownBy w.drew (Value.ownBlock (.slice (Option.some ⟨g, 0, none⟩) s.length c)) := ⟨rfl, rfl, rfl, Nat.le_refl _, fun _ _ _ => rfl⟩
        exact grown_trans (grown_trans a1 (setCells_grown g _ _ _)) (setCells_grown g _ _ _)
    · refine (ins_grow w g vb s.length c i l.length vc (i32s s) (i32s l) hg hv hcl hvl (by omega) h0 (by omega) hnc (by omega) (i32s_one s) (i32s_one l)).mono ?_
      rintro e w' ⟨rfl, rfl⟩
      have hGn := grownCap_ge w (s.length + l.length) c 21
      have hG63 := grownCap_le_maxLen w (s.length + l.length) c 21 (by unfold maxLen; omega)
      generalize grownCap w (s.length + l.length) c 21 = G at *
      obtain ⟨ROW, hROW⟩ : ∃ ROW : Array Value, ROW = ((i32s s).take i).toArray ++ Builtin.zeroCells (Value.int .i32 0).cells (s.length + l.length - i) ++ Builtin.zeroCells (Value.int .i32 0).cells (G - (s.length + l.length)) := ⟨_, rfl⟩
      rw [← hROW]
      have zR : ROW.size = G := by
        rw [hROW, Array.size_append, Array.size_append, zero_len _ rfl, zero_len _ rfl, List.size_toArray, et]
        omega
      have hti : ROW.toList.take i = (i32s s).take i := by
        rw [hROW, Array.toList_append, Array.toList_append, List.append_assoc, List.take_append_of_le_length (by simp [et])]
        rw [List.take_of_length_le (by simp [et])]
      obtain ⟨W, hW⟩ : ∃ W, W = (w.alloc (.cells ROW 21)).drew := ⟨_, rfl⟩
      rw [← hW]
      have hh : W.heap[w.heap.size]? = Option.some (.cells ROW 21 (0, 0)) := by rw [hW]; exact heap_alloc_new w _
      obtain ⟨c1, h1, k1⟩ := cur_of_setCells w.heap.size 21 (i32s l) i W ROW hh (by rw [i32s_len, zR]; omega)
      have z1 : c1.size = ROW.size := by
        rw [← Array.length_toList, k1, ← Array.length_toList]
        simp only [List.length_append, List.length_take, List.length_drop, Array.length_toList, i32s_len]
        omega
      obtain ⟨c2, h2, k2⟩ := cur_of_setCells w.heap.size 21 ((i32s s).drop i) (i + l.length) (W.setCells w.heap.size i (i32s l)).drew c1 h1 (by rw [ed, z1, zR]; omega)
      obtain ⟨q1, q2⟩ := lay_two' ROW.toList ((i32s s).take i) (i32s l) ((i32s s).drop i) i l.length (s.length - i) hti et (i32s_len l) ed (Nat.le_trans (by omega) (Nat.le_of_eq (Array.length_toList (xs := ROW)).symm)) k1 k2
      refine ⟨_, rfl, ?_, ?_⟩
      · rw [ex]
        refine ⟨by rw [i32s_len, ex]; omega, .inr ⟨w.heap.size, G, c2, rfl, hb, h2, hGn, hG63, ?_, ?_⟩⟩
        · rw [← Array.length_toList, q2, Array.length_toList, zR]; omega
        · rw [ey, ← q1]; congr 1; omega
      · have a1 : w.grownBy W (Value.ownBlock (.slice (Option.some ⟨g, 0, none⟩) s.length c)) := by rw [hW]; exact grown_drew (World.grownBy_alloc w _ _)
        refine grown_new (grown_drew (grown_new a1 (setCells_grown w.heap.size (i32s l) i W))) ?_
        exact setCells_grown w.heap.size _ _ _

end Go.Proofs.YtagbeioooohbgaaGreatDoor.Uc
end

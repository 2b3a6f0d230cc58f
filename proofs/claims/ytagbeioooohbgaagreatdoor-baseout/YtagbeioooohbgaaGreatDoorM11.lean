import Derived.Test.YtagbeioooohbgaaGreatDoorM09
import Derived.Recover
import Derived.Defers
import Derived.Maps.OwnSet
import Derived.Maps.RangeWalk
import Derived.Maps.OwnOps
section
namespace Go.Proofs.YtagbeioooohbgaaGreatDoor.Tr
open Go.RowKit

/-! number, same (whose deferred function recovers from nothing) -/
def numB (r : Int) : Bool := decide (0 ≤ r) && decide (r ≤ 1114111)
theorem number_any (r : Int) (w : World) : Calls Tryz.prog 62 #[.int .i32 r] w fun e w' => e = .returned (.bool (numB r)) ∧ w = w' := by
  by_cases h : 0 ≤ r
  · have h1 : decide (0 ≤ r) = true := by simpa using h
    go_enter Tryz.func62, Tryz.ntmps62
    go_wp2
    go_ret
    exact ⟨by simp [numB, h], rfl⟩
  · have h1 : decide (0 ≤ r) = false := by simpa using h
    go_enter Tryz.func62, Tryz.ntmps62
    go_wp2
    go_ret
    exact ⟨by simp [numB]; omega, rfl⟩
theorem idle_any (w : World) : CallsD Tryz.prog 104 #[] .returning w fun e u' w' => e = .returned (.tuple #[]) ∧ u' = .returning ∧ w' = w := by
  refine callsD_of_wpS Tryz.func104 rfl fun c₀ cs hu => ?_
  apply wpS_region
  simp [wpOpsS, go_sem, recoverD, hu, Tryz.ntmps104, bodyPostS, results, Tryz.results104]
  cases c₀
  simp_all
theorem sameV_any (a b : Int) (w : World) : Calls Tryz.prog 84 #[.int .u8 a, .int .u8 b] w fun e w' => e = .returned (.bool (a == b)) ∧ w = w' := by
  go_enter_defers Tryz.func84, Tryz.ntmps84
  go_wp2
  refine leaves_cons (f := 104) (args := #[]) (by simp) (by simp [go_sem]) ?_
  refine (idle_any _).mono ?_
  rintro e u' w'' ⟨rfl, rfl, rfl⟩
  exact ⟨_, results_tmp rfl _ _ _, rfl, rfl⟩

end Go.Proofs.YtagbeioooohbgaaGreatDoor.Tr
end
section
namespace Go.Proofs.YtagbeioooohbgaaGreatDoor.Tr
open Go.RowKit Go.Maps Go.WideShapes
open Go.WideElems (Fit rd rg pl rd_key rd_val rg_of other_key)

/-! What a block of the program holds: 256 cells, each told or not. -/
def celP (p : Bool × Int) : List Value := [.bool p.1, .int .u8 p.2]
def blkC (h : Nat → Bool × Int) : List Value := (List.range 256).flatMap fun j => celP (h j)
theorem flat2_len (h : Nat → Bool × Int) : ∀ n : Nat, ((List.range n).flatMap fun j => celP (h j)).length = n * 2
  | 0 => rfl
  | n + 1 => by
    rw [List.range_succ, List.flatMap_append, List.length_append, flat2_len h n]
    simp [celP]; omega
theorem flat2_at (h : Nat → Bool × Int) (i : Nat) (hi : i < 2) : ∀ (n j : Nat), j < n → ((List.range n).flatMap fun j => celP (h j))[j * 2 + i]? = (celP (h j))[i]?
  | 0, j, hj => by omega
  | n + 1, j, hj => by
    have hl := flat2_len h n
    rw [List.range_succ, List.flatMap_append]
    by_cases hjn : j < n
    · rw [List.getElem?_append_left (by omega), flat2_at h i hi n j hjn]
    · obtain rfl : j = n := by omega
      rw [List.getElem?_append_right (by omega), hl, show j * 2 + i - j * 2 = i by omega]
      simp
theorem blkC_at (h : Nat → Bool × Int) (j i : Nat) (hj : j < 256) (hi : i < 2) : (blkC h)[j * 2 + i]? = (celP (h j))[i]? := flat2_at h i hi 256 j hj
theorem blkC_len (h : Nat → Bool × Int) : (blkC h).length = 512 := flat2_len h 256
theorem blkC_set (h : Nat → Bool × Int) (j : Nat) (c : Bool × Int) (hj : j < 256) :
    ((blkC h).set (j * 2) (.bool c.1)).set (j * 2 + 1) (.int .u8 c.2) = blkC (fun k => if k = j then c else h k) := by
  apply List.ext_getElem?
  intro q
  by_cases hq : q < 512
  · obtain ⟨k, i, hi, rfl⟩ : ∃ k i, i < 2 ∧ q = k * 2 + i := ⟨q / 2, q % 2, by omega, by omega⟩
    rw [blkC_at _ k i (by omega) hi]
    simp only [List.getElem?_set, List.length_set, blkC_len]
    by_cases hk : k = j
    · subst hk
      rcases Nat.lt_or_ge i 1 with h1 | h1
      · obtain rfl : i = 0 := by omega
        rw [if_neg (by omega), if_pos (by omega), if_pos (by omega), if_pos rfl]
        rfl
      · obtain rfl : i = 1 := by omega
        rw [if_pos rfl, if_pos (by omega), if_pos rfl]
        rfl
    · rw [if_neg (by omega), if_neg (by omega), if_neg hk, blkC_at _ k i (by omega) hi]
  · rw [List.getElem?_eq_none (by simp only [List.length_set, blkC_len]; omega), List.getElem?_eq_none (by rw [blkC_len]; omega)]
theorem blkC_same {h h' : Nat → Bool × Int} (e : ∀ j, j < 256 → h j = h' j) : blkC h = blkC h' := by
  unfold blkC
  rw [List.flatMap_def, List.flatMap_def, List.map_congr_left fun j hj => by rw [e j (List.mem_range.1 hj)]]
/-- The cell of a number. -/
def celF (g : Int → Int) (nn : Int) (i j : Nat) : Bool × Int := if g ((i * 256 + j : Nat) : Int) = nn then (false, 0) else (true, g ((i * 256 + j : Nat) : Int))

/-! The map of blocks. -/
theorem law21 : Keyed Tryz.prog 21 := int_keyed Tryz.underlying21
def ptrE (v : Value) : Option (DataW Unit × List MemPlace) :=
  match v with
  | .pointer none => some (.nil, [])
  | .pointer (some ⟨b, 0, none⟩) => some (.lit (.int .i64 b), [])
  | _ => none
theorem ptrE_nil : ptrE (.pointer none) = some (.nil, []) := rfl
theorem ptrE_some (b : Nat) : ptrE (.pointer (some ⟨b, 0, none⟩)) = some (.lit (.int .i64 b), []) := rfl
theorem ptrE_inv {v : Value} {y : DataW Unit × List MemPlace} (h : ptrE v = some y) : (v = .pointer none ∧ y = (.nil, [])) ∨ ∃ b : Nat, v = .pointer (some ⟨b, 0, none⟩) ∧ y = (.lit (.int .i64 b), []) := by
  unfold ptrE at h
  split at h
  · exact .inl ⟨rfl, by cases h; rfl⟩
  · exact .inr ⟨_, rfl, by cases h; rfl⟩
  · cases h
/-- What the map says of a block's place. -/
def ptrD : Option Nat → DataW Unit
  | some b => .lit (.int .i64 b)
  | none => .nil
theorem ptrE_D {v : Value} {o : Option Nat} {ps : List MemPlace} (h : ptrE v = some (ptrD o, ps)) : v = .pointer (o.map fun b => ⟨b, 0, none⟩) := by
  rcases ptrE_inv h with ⟨rfl, e⟩ | ⟨b, rfl, e⟩
  · cases o with
    | none => rfl
    | some b => simp [ptrD] at e
  · cases o with
    | none => simp [ptrD] at e
    | some b' =>
      simp only [ptrD, Prod.mk.injEq, DataW.lit.injEq, Lit.int.injEq, true_and] at e
      have : b' = b := by omega
      subst this; rfl
/-- The map says where the blocks lie. -/
structure MapIs (D : DataW Unit) (bm : Nat → Option Nat) : Prop where
  at_ : ∀ i : Nat, i < 4352 → D.atKey (.int .i32 i) .nil = ptrD (bm i)
  has : ∀ i : Nat, i < 4352 → Maps.has D (.int .i32 i) = (bm i).isSome
  key : ∀ x : Int, Maps.has D (.int .i32 x) = true → ∃ i : Nat, x = i ∧ i < 4352
theorem mapIs_empty : MapIs (.map []) (fun _ => none) := ⟨fun _ _ => rfl, fun _ _ => rfl, fun _ h => by cases h⟩
theorem isKey_int (x : Int) : WideAt.IsKeyLit (.int .i32 x) := by trivial
theorem int_ne {x y : Int} (h : x ≠ y) : Lit.int .i32 x ≠ .int .i32 y := fun e => h (by cases e; rfl)
theorem MapIs.put {D : DataW Unit} {bm : Nat → Option Nat} (h : MapIs D bm) (hD : IsMap D) {i : Nat} (hi : i < 4352) (b : Nat) : MapIs (D.put (.int .i32 i) (.lit (.int .i64 b))) (fun k => if k = i then some b else bm k) := by
  refine ⟨fun k hk => ?_, fun k hk => ?_, fun x hx => ?_⟩
  · by_cases e : k = i
    · subst e; rw [if_pos rfl, atKey_put_same hD (isKey_int _)]; rfl
    · rw [if_neg e, atKey_put_other (int_ne (by omega)), h.at_ k hk]
  · by_cases e : k = i
    · subst e; rw [if_pos rfl, has_put_same hD (isKey_int _)]; rfl
    · rw [if_neg e, has_put_other (int_ne (by omega)), h.has k hk]
  · by_cases e : x = i
    · exact ⟨i, e, hi⟩
    · rw [has_put_other (int_ne e)] at hx
      exact h.key x hx
theorem MapIs.del {D : DataW Unit} {bm : Nat → Option Nat} (h : MapIs D bm) {i : Nat} : MapIs (D.del (.int .i32 i)) (fun k => if k = i then none else bm k) := by
  refine ⟨fun k hk => ?_, fun k hk => ?_, fun x hx => ?_⟩
  · by_cases e : k = i
    · subst e; rw [if_pos rfl, atKey_del_same]; rfl
    · rw [if_neg e, atKey_del_other (int_ne (by omega)), h.at_ k hk]
  · by_cases e : k = i
    · subst e; rw [if_pos rfl, has_del_same]; rfl
    · rw [if_neg e, has_del_other (int_ne (by omega)), h.has k hk]
  · by_cases e : x = i
    · rw [e, has_del_same] at hx; cases hx
    · rw [has_del_other (int_ne e)] at hx
      exact h.key x hx
theorem own_tight {w : World} {R : Value → Option (DataW Unit × List MemPlace)} {b n : Nat} {D : DataW Unit} (h : w.ownsMap Tryz.prog 21 R b n D) : w.ownsMap Tryz.prog 21 R b (Maps.size D) D := by
  obtain ⟨es, clock, hb, F, hs, rfl⟩ := h
  exact ⟨es, clock, hb, F, by simp [Maps.size, length_sorted], rfl⟩
theorem own_one {w : World} {R : Value → Option (DataW Unit × List MemPlace)} {b n n' : Nat} {D D' : DataW Unit} (h : w.ownsMap Tryz.prog 21 R b n D) (h' : w.ownsMap Tryz.prog 21 R b n' D') : D = D' := by
  obtain ⟨es, clock, hb, F, hs, rfl⟩ := h
  obtain ⟨es', clock', hb', F', hs', rfl⟩ := h'
  rw [hb] at hb'
  cases hb'
  rfl
theorem own_keep {w w' : World} {R : Value → Option (DataW Unit × List MemPlace)} {b n : Nat} {D : DataW Unit} (h : w.ownsMap Tryz.prog 21 R b n D) (hk : w'.heap[b]? = w.heap[b]?) : w'.ownsMap Tryz.prog 21 R b n D := by
  obtain ⟨es, clock, hb, r⟩ := h
  exact ⟨es, clock, hk.trans hb, r⟩
theorem own_keys {w : World} {R : Value → Option (DataW Unit × List MemPlace)} {b n : Nat} {D : DataW Unit} (h : w.ownsMap Tryz.prog 21 R b n D) : ∃ es, D = .map es ∧ es.Pairwise (fun p q => p.1 ≠ q.1) ∧ ∀ p ∈ es, ∃ x, p.1 = .int .i32 x := by
  obtain ⟨es, clock, _, F, _, rfl⟩ := h
  refine ⟨_, rfl, ((sorted_perm _).pairwise_iff (fun {_ _} hne => Ne.symm hne)).2 (Maps.fit_apart law21 F), fun p hp => ?_⟩
  obtain ⟨x, hx, rfl⟩ := List.mem_map.1 (mem_sorted.1 hp)
  obtain ⟨y, hy⟩ := F.reads x hx
  rw [rg_of hy]
  obtain ⟨z, _, e, _⟩ := Maps.keyOf_int_inv Tryz.underlying21 (rd_key hy)
  exact ⟨z, e⟩
/-- The keys, as numbers. -/
def keyN : Lit → Int
  | .int _ x => x
  | _ => 0
def keysD : DataW Unit → List Int
  | .map es => es.map fun p => keyN p.1
  | _ => []
theorem keys_perm {w : World} {R : Value → Option (DataW Unit × List MemPlace)} {b n : Nat} {D : DataW Unit} {bm : Nat → Option Nat} (h : w.ownsMap Tryz.prog 21 R b n D) (hm : MapIs D bm) :
    (keysD D).Perm (((List.range 4352).filter fun i => (bm i).isSome).map fun i : Nat => (i : Int)) := by
  obtain ⟨es, rfl, hp, hk⟩ := own_keys h
  have h1 : (keysD (.map es)).Nodup := by
    unfold keysD
    rw [List.nodup_iff_pairwise_ne, List.pairwise_map]
    refine hp.imp_of_mem fun {p q} hp hq hne e => hne ?_
    obtain ⟨x, hx⟩ := hk p hp
    obtain ⟨y, hy⟩ := hk q hq
    rw [hx, hy] at e ⊢
    simp only [keyN] at e
    rw [e]
  have h2 : (((List.range 4352).filter fun i => (bm i).isSome).map fun i : Nat => (i : Int)).Nodup := by
    rw [List.nodup_iff_pairwise_ne, List.pairwise_map]
    exact (List.nodup_range.filter _).imp fun hne e => hne (by omega)
  refine (List.perm_ext_iff_of_nodup h1 h2).2 fun x => ?_
  have hx : x ∈ keysD (.map es) ↔ Maps.has (.map es) (.int .i32 x) = true := by
    unfold keysD
    rw [List.mem_map, has_eq, List.any_eq_true]
    constructor
    · rintro ⟨p, hp, rfl⟩
      obtain ⟨y, hy⟩ := hk p hp
      exact ⟨p, hp, by rw [hy]; exact WideAt.sameKey_self (isKey_int _)⟩
    · rintro ⟨p, hp, he⟩
      exact ⟨p, hp, by rw [WideAt.sameKey_eq he]; rfl⟩
  rw [hx, List.mem_map]
  constructor
  · intro hh
    obtain ⟨i, rfl, hi⟩ := hm.key x hh
    exact ⟨i, List.mem_filter.2 ⟨List.mem_range.2 hi, (hm.has i hi).symm.trans hh⟩, rfl⟩
  · rintro ⟨i, hi, rfl⟩
    obtain ⟨h3, h4⟩ := List.mem_filter.1 hi
    rw [hm.has i (List.mem_range.1 h3)]
    exact h4
theorem size_keys (D : DataW Unit) : (keysD D).length = Maps.size D := by cases D <;> simp [keysD, Maps.size]
theorem size_mapIs {w : World} {R : Value → Option (DataW Unit × List MemPlace)} {b n : Nat} {D : DataW Unit} {bm : Nat → Option Nat} (h : w.ownsMap Tryz.prog 21 R b n D) (hm : MapIs D bm) :
    Maps.size D = (List.range 4352).countP fun i => (bm i).isSome := by
  rw [← size_keys, (keys_perm h hm).length_eq, List.length_map, List.countP_eq_length_filter]
theorem size_le {w : World} {R : Value → Option (DataW Unit × List MemPlace)} {b n : Nat} {D : DataW Unit} {bm : Nat → Option Nat} (h : w.ownsMap Tryz.prog 21 R b n D) (hm : MapIs D bm) : Maps.size D ≤ 4352 := by
  rw [size_mapIs h hm]
  have := List.countP_le_length (p := fun i => (bm i).isSome) (l := List.range 4352)
  simpa using this

end Go.Proofs.YtagbeioooohbgaaGreatDoor.Tr
end
section
namespace Go.Proofs.YtagbeioooohbgaaGreatDoor.Tr
open Go.RowKit Go.Maps

theorem Mv.refl (F : Nat → Prop) (w : World) : Mv F F w w := Mv.of_below (Below.refl _ _)
theorem Mv.drew {F F' : Nat → Prop} {w w' : World} (h : Mv F F' w w') (n : Nat) : Mv F F' w (w'.drewN n) := ⟨h.os, h.tape, h.output, h.size, h.keep, h.fp⟩
theorem Mv.set {w w' : World} {B : Nat} (h : Mv (· = B) (· = B) w w') (o : Nat) (v : Value) : Mv (· = B) (· = B) w (w'.setCell ⟨B, o, none⟩ v) :=
  ⟨h.os, h.tape, h.output, by simpa [World.setCell] using h.size, fun k hk hF => (Below.heap_setCell _ _ _ _ hF).trans (h.keep k hk hF), h.fp⟩
def lo (k f : Int) : Int := if f - k * 256 < 0 then 0 else f - k * 256
def hi (k t : Int) : Int := if 255 < t - k * 256 then 255 else t - k * 256
theorem fill_step {w wr : World} {B S L j : Nat} {h : Nat → Bool × Int} {c1 : Bool} {c2 : Int} (hS : B ≠ S) (hj : j < 256) (hL : L ≤ j)
    (H : Bk wr B (blkC fun q => if L ≤ q ∧ q < j then (c1, c2) else h q) 162 ∧ Bk wr S [.bool c1, .int .u8 c2] 122 ∧ Mv (· = B) (· = B) w wr) :
    Bk ((wr.setCell ⟨B, j * 2, none⟩ (.bool c1)).setCell ⟨B, j * 2 + 1, none⟩ (.int .u8 c2)).drew B (blkC fun q => if L ≤ q ∧ q < j + 1 then (c1, c2) else h q) 162 ∧
      Bk ((wr.setCell ⟨B, j * 2, none⟩ (.bool c1)).setCell ⟨B, j * 2 + 1, none⟩ (.int .u8 c2)).drew S [.bool c1, .int .u8 c2] 122 ∧
      Mv (· = B) (· = B) w ((wr.setCell ⟨B, j * 2, none⟩ (.bool c1)).setCell ⟨B, j * 2 + 1, none⟩ (.int .u8 c2)).drew := by
  obtain ⟨h1, h2, h3⟩ := H
  refine ⟨?_, (h2.on (Below.heap_setCell _ _ _ _ (fun e => hS e.symm))).on (Below.heap_setCell _ _ _ _ (fun e => hS e.symm)), ((h3.set _ _).set _ _).drew 1⟩
  have h4 := (h1.set (j * 2) (.bool c1)).set (j * 2 + 1) (.int .u8 c2)
  rw [blkC_set _ j (c1, c2) hj] at h4
  rw [blkC_same (h' := fun k => if k = j then (c1, c2) else if L ≤ k ∧ k < j then (c1, c2) else h k) fun q hq => by
    by_cases e : q = j
    · subst e; rw [if_pos ⟨hL, by omega⟩, if_pos rfl]
    · rw [if_neg e]
      by_cases e2 : L ≤ q ∧ q < j
      · rw [if_pos (by omega), if_pos e2]
      · rw [if_neg (by omega), if_neg e2]]
  exact h4.drew 1
set_option maxHeartbeats 4000000 in
set_option maxRecDepth 100000 in
theorem fill_any (w : World) (B : Nat) (h : Nat → Bool × Int) (k f t : Int) (c1 : Bool) (c2 : Int) (hB : Bk w B (blkC h) 162) (hk0 : 0 ≤ k) (hk1 : f / 256 ≤ k) (hk2 : k ≤ t / 256) (hf : 0 ≤ f) (hft : f ≤ t) (ht : t ≤ 1114111) :
    Calls Tryz.prog 105 #[.pointer (some ⟨B, 0, none⟩), .int .i32 k, .int .i32 f, .int .i32 t, .agg #[.bool c1, .int .u8 c2]] w
      fun e w' => e = .returned (.tuple #[]) ∧ Bk w' B (blkC fun j => if f ≤ k * 256 + j ∧ k * 256 + j ≤ t then (c1, c2) else h j) 162 ∧ Mv (· = B) (· = B) w w' := by
  have HB := Lib.hid hB
  have hBS : B ≠ w.heap.size := by have := hB.lt; omega
  have hk3 : k ≤ 4351 := by omega
  clear hB
  have hlo : (0 ≤ f - k * 256 ∧ lo k f = f - k * 256) ∨ (f - k * 256 < 0 ∧ lo k f = 0) := by unfold lo; split <;> omega
  have hhi : (t - k * 256 ≤ 255 ∧ hi k t = t - k * 256) ∨ (255 < t - k * 256 ∧ hi k t = 255) := by unfold hi; split <;> omega
  obtain ⟨L, hL⟩ : ∃ L : Nat, (L : Int) = lo k f := ⟨(lo k f).toNat, by omega⟩
  obtain ⟨H, hH⟩ : ∃ H : Nat, (H : Int) = hi k t := ⟨(hi k t).toNat, by omega⟩
  have hL2 : L ≤ 255 := by omega
  have hH2 : H ≤ 255 := by omega
  have hLH : L ≤ H + 1 := by omega
  have HE : Hid (∀ j : Nat, j < 256 → ((f ≤ k * 256 + j ∧ k * 256 + j ≤ t) ↔ (L ≤ j ∧ j ≤ H))) := by
    have h1 : ∀ j : Nat, j < 256 → ((f ≤ k * 256 + j ∧ k * 256 + j ≤ t) ↔ (L ≤ j ∧ j ≤ H)) := fun j hj => by omega
    exact Lib.hid h1
  have hlo2 : (0 ≤ f - k * 256 ∧ f - k * 256 = (L : Int)) ∨ (f - k * 256 < 0 ∧ (0 : Int) = (L : Int)) := by omega
  have hhi2 : (t - k * 256 ≤ 255 ∧ t - k * 256 = (H : Int)) ∨ (255 < t - k * 256 ∧ (255 : Int) = (H : Int)) := by omega
  clear hlo hhi hL hH
  go_enter Tryz.func105, Tryz.ntmps105
  rcases hlo2 with ⟨hlo, hlo3⟩ | ⟨hlo, hlo3⟩
  all_goals
    have HLO := Lib.hid hlo3
    clear hlo3
    go_wp2_with fail
    go_loopw [11] (fun i wr => ∃ j : Nat, i = .int .i32 j ∧ L ≤ j ∧ j ≤ H + 1 ∧ Hid (Bk wr B (blkC fun q => if L ≤ q ∧ q < j then (c1, c2) else h q) 162 ∧ Bk wr w.heap.size [.bool c1, .int .u8 c2] 122 ∧ Mv (· = B) (· = B) w wr)) (fun i _ => 256 - (intOf i).toNat)
    case atStart =>
      refine ⟨L, by rw [HLO.out], Nat.le_refl _, hLH, ?_, ⟨heap_alloc_new w _⟩, Mv.of_below ((Below.refl _ w).alloc (Nat.le_refl _) _)⟩
      have e : (blkC fun q => if L ≤ q ∧ q < L then (c1, c2) else h q) = blkC h := blkC_same fun j _ => by rw [if_neg (by omega)]
      rw [e]
      exact HB.out.below ((Below.refl _ w).alloc (Nat.le_refl _) _)
    case round =>
      obtain ⟨j, rfl, hj0, hj1, HR⟩ := hrel
      by_cases hlt : j ≤ H
      · have b0 := HR.out.1.c (i := j * 2) ((blkC_at _ j 0 (by omega) (by omega)))
        have b1 := HR.out.1.c (i := j * 2 + 1) ((blkC_at _ j 1 (by omega) (by omega)))
        have fr := HR.out.1.fr
        have x0 := HR.out.2.1.c (i := 0) rfl
        have x1 := HR.out.2.1.c (i := 1) rfl
        rcases hhi2 with ⟨hhi, hhi3⟩ | ⟨hhi, hhi3⟩
        all_goals
          have g : (j : Int) ≤ t - k * 256 ∧ (j : Int) ≤ 255 := by omega
          obtain ⟨g1, g2⟩ := g
          clear hhi3
          go_wp2_with fail
          go_region
          all_goals
            go_wp2_with fail
            go_roundw
            case measure => simp [intOf] <;> omega
            case rel =>
              refine ⟨j + 1, by go_num, by omega, by omega, ?_⟩
              exact Lib.hid (fill_step hBS (by omega) hj0 HR.out)
      · have g : ¬ ((j : Int) ≤ t - k * 256 ∧ (j : Int) ≤ 255) := by omega
        rcases hhi2 with ⟨hhi, hhi3⟩ | ⟨hhi, hhi3⟩
        · have g1 : ¬ (j : Int) ≤ t - k * 256 := by omega
          clear hhi3
          go_wp2_with fail
          go_end0
          refine ⟨rfl, ?_, HR.out.2.2⟩
          obtain rfl : j = H + 1 := by omega
          rw [blkC_same (h' := fun q => if L ≤ q ∧ q < H + 1 then (c1, c2) else h q) fun q hq => by
            have h1 := HE.out q hq
            by_cases h2 : L ≤ q ∧ q < H + 1
            · rw [if_pos (h1.2 (by omega)), if_pos h2]
            · rw [if_neg (fun h3 => h2 (by have := h1.1 h3; omega)), if_neg h2]]
          exact HR.out.1
        · have g1 : ¬ (j : Int) ≤ 255 := by omega
          clear hhi3
          go_wp2_with fail
          go_end0
          refine ⟨rfl, ?_, HR.out.2.2⟩
          obtain rfl : j = H + 1 := by omega
          rw [blkC_same (h' := fun q => if L ≤ q ∧ q < H + 1 then (c1, c2) else h q) fun q hq => by
            have h1 := HE.out q hq
            by_cases h2 : L ≤ q ∧ q < H + 1
            · rw [if_pos (h1.2 (by omega)), if_pos h2]
            · rw [if_neg (fun h3 => h2 (by have := h1.1 h3; omega)), if_neg h2]]
          exact HR.out.1

end Go.Proofs.YtagbeioooohbgaaGreatDoor.Tr
end
section
namespace Go.Proofs.YtagbeioooohbgaaGreatDoor.Tr
open Go.RowKit Go.Maps

/-- Does a block tell something? -/
def telB (h : Nat → Bool × Int) (n : Nat) : Bool := (List.range n).any fun j => (h j).1
theorem telB_one (h : Nat → Bool × Int) (n : Nat) : telB h (n + 1) = (telB h n || (h n).1) := by unfold telB; rw [List.range_succ, List.any_append]; simp
theorem telB_yes {h : Nat → Bool × Int} {j : Nat} (hj : j < 256) (he : (h j).1 = true) : telB h 256 = true := List.any_eq_true.2 ⟨j, List.mem_range.2 hj, he⟩
set_option maxHeartbeats 4000000 in
set_option maxRecDepth 100000 in
theorem tells_any (w : World) (B : Nat) (h : Nat → Bool × Int) (hB : Bk w B (blkC h) 162) :
    Calls Tryz.prog 106 #[.pointer (some ⟨B, 0, none⟩)] w fun e w' => e = .returned (.bool (!telB h 256)) ∧ w = w' := by
  have HB := Lib.hid hB
  clear hB
  go_enter Tryz.func106, Tryz.ntmps106
  go_wp2_with fail
  go_loop [3, 4] (fun _ i => ∃ j : Nat, i = .int .i64 j ∧ j ≤ 256 ∧ Hid (telB h j = false)) (fun _ i => 256 - (intOf i).toNat)
  case atStart => exact ⟨0, rfl, by omega, rfl⟩
  case round =>
    obtain ⟨j, rfl, hj, HR⟩ := hrel
    by_cases hlt : j < 256
    · have b0 := HB.out.c (i := j * 2) ((blkC_at _ j 0 hlt (by omega)))
      have hl : (j : Int) < 256 := by omega
      have HT := Lib.hid (telB_one h j)
      have HY := Lib.hid (telB_yes (h := h) hlt)
      cases hb : (h j).1 with
      | true =>
        simp only [hb] at b0
        have hh := HY.out hb
        have HH := Lib.hid hh
        clear hh hb
        go_wp2_with fail
        go_ret
        exact ⟨by rw [HH.out]; rfl, rfl⟩
      | false =>
        simp only [hb] at b0
        have HN := Lib.hid (show telB h (j + 1) = false by rw [HT.out, HR.out, hb]; rfl)
        clear hb
        go_wp2_with fail
        go_round
        case measure => simp [intOf] <;> omega
        case rel => exact ⟨j + 1, by go_num, by omega, HN⟩
    · obtain rfl : j = 256 := by omega
      have hl : ¬ ((256 : Nat) : Int) < 256 := by omega
      go_wp2_with fail
      go_ret
      exact ⟨by rw [HR.out]; rfl, rfl⟩

set_option maxHeartbeats 4000000 in
theorem new_any (w : World) (nn : Int) : Calls Tryz.prog 54 #[.int .u8 nn] w fun e w' => e = .returned (.pointer (some ⟨w.heap.size + 1, 0, none⟩)) ∧ w' = (w.alloc (.map #[] 0)).alloc (.cells #[.int .u8 nn, .map (some w.heap.size)] 119) := by
  have hmm := @run_makeMap Tryz.prog
  go_enter Tryz.func54, Tryz.ntmps54
  go_wp2_with fail
  go_ret
  exact ⟨by simp, rfl⟩

end Go.Proofs.YtagbeioooohbgaaGreatDoor.Tr
end
section
namespace Go.Proofs.YtagbeioooohbgaaGreatDoor.Tr
open Go.RowKit Go.Maps

/-- A table of the program, but for its map's block: what its blocks hold, and where they lie. -/
structure Tb1 (w : World) (base X M : Nat) (nn : Int) (hs : Nat → Nat → Bool × Int) (D : DataW Unit) (bm : Nat → Option Nat) : Prop where
  lo : base ≤ X
  loM : base ≤ M
  blk : Bk w X [.int .u8 nn, .map (some M)] 119
  mp : MapIs D bm
  at_ : ∀ i b, i < 4352 → bm i = some b → base ≤ b ∧ Bk w b (blkC (hs i)) 162
  inj : ∀ i j b, i < 4352 → j < 4352 → bm i = some b → bm j = some b → i = j
/-- A table of the program. -/
def Tab (w : World) (base X : Nat) (nn : Int) (g : Int → Int) : Prop :=
  ∃ M D bm, Tb1 w base X M nn (celF g nn) D bm ∧ (∀ i, i < 4352 → (bm i).isSome = nzB g nn i) ∧ w.ownsMap Tryz.prog 21 ptrE M (Maps.size D) D
/-- The blocks that a table lies in. -/
def fpT (w : World) (X k : Nat) : Prop :=
  k = X ∨ ∃ nn M, Bk w X [.int .u8 nn, .map (some M)] 119 ∧ (k = M ∨ ∃ n D, w.ownsMap Tryz.prog 21 ptrE M n D ∧ ∃ i : Nat, i < 4352 ∧ D.atKey (.int .i32 i) .nil = .lit (.int .i64 k))
def FB (X M : Nat) (bm : Nat → Option Nat) (k : Nat) : Prop := k = X ∨ k = M ∨ ∃ i, i < 4352 ∧ bm i = some k
theorem Tb1.on {w w' : World} {base X M : Nat} {nn : Int} {hs : Nat → Nat → Bool × Int} {D : DataW Unit} {bm : Nat → Option Nat} (h : Tb1 w base X M nn hs D bm) (hX : w'.heap[X]? = w.heap[X]?)
    (hb : ∀ i b, i < 4352 → bm i = some b → w'.heap[b]? = w.heap[b]?) : Tb1 w' base X M nn hs D bm :=
  ⟨h.lo, h.loM, h.blk.on hX, h.mp, fun i b hi e => ⟨(h.at_ i b hi e).1, (h.at_ i b hi e).2.on (hb i b hi e)⟩, h.inj⟩
theorem bk_inj {w : World} {X : Nat} {cs cs' : List Value} {t t' : TypeId} (h : Bk w X cs t) (h' : Bk w X cs' t') : cs = cs' ∧ t = t' := by
  have e := h.blk.symm.trans h'.blk
  simp at e
  exact e
theorem ptrD_at {D : DataW Unit} {bm : Nat → Option Nat} {i k : Nat} (h : MapIs D bm) (hi : i < 4352) : D.atKey (.int .i32 i) .nil = .lit (.int .i64 k) ↔ bm i = some k := by
  rw [h.at_ i hi]
  cases bm i with
  | none => simp [ptrD]
  | some b =>
    simp only [ptrD, DataW.lit.injEq, Lit.int.injEq, true_and, Option.some.injEq]
    omega
theorem fpT_iff {w : World} {base X M : Nat} {nn : Int} {hs : Nat → Nat → Bool × Int} {D : DataW Unit} {bm : Nat → Option Nat} {n : Nat} (h : Tb1 w base X M nn hs D bm) (ho : w.ownsMap Tryz.prog 21 ptrE M n D) (k : Nat) :
    fpT w X k ↔ FB X M bm k := by
  constructor
  · rintro (rfl | ⟨n', M', h1, h2⟩)
    · exact .inl rfl
    · obtain ⟨e, _⟩ := bk_inj h.blk h1
      have : M' = M := by
        have e1 := congrArg (fun l : List Value => l[1]?) e
        simp only [List.getElem?_cons_succ, List.getElem?_cons_zero, Option.some.injEq, Value.map.injEq] at e1
        exact e1.symm
      subst this
      rcases h2 with rfl | ⟨n2, D2, h3, i, hi, h4⟩
      · exact .inr (.inl rfl)
      · have := own_one ho h3
        subst this
        exact .inr (.inr ⟨i, hi, (ptrD_at h.mp hi).1 h4⟩)
  · rintro (rfl | rfl | ⟨i, hi, e⟩)
    · exact .inl rfl
    · exact .inr ⟨nn, _, h.blk, .inl rfl⟩
    · exact .inr ⟨nn, M, h.blk, .inr ⟨n, D, ho, i, hi, (ptrD_at h.mp hi).2 e⟩⟩
theorem Tab.on {w w' : World} {base X : Nat} {nn : Int} {g : Int → Int} (h : Tab w base X nn g) (hk : ∀ k, k < w.heap.size → fpT w X k → w'.heap[k]? = w.heap[k]?) : Tab w' base X nn g := by
  obtain ⟨M, D, bm, h1, hz, h2⟩ := h
  have hf := fpT_iff h1 h2
  exact ⟨M, D, bm, h1.on (hk X h1.blk.lt ((hf X).2 (.inl rfl))) (fun i b hi e => hk b (h1.at_ i b hi e).2.lt ((hf b).2 (.inr (.inr ⟨i, hi, e⟩)))), hz, own_keep h2 (hk M h2.lt ((hf M).2 (.inr (.inl rfl))))⟩
theorem Tab.fpon {w w' : World} {base X : Nat} {nn : Int} {g : Int → Int} (h : Tab w base X nn g) (hk : ∀ k, k < w.heap.size → fpT w X k → w'.heap[k]? = w.heap[k]?) (k : Nat) : fpT w' X k ↔ fpT w X k := by
  obtain ⟨M, D, bm, h1, hz, h2⟩ := h
  have hf := fpT_iff h1 h2
  have h1' := h1.on (hk X h1.blk.lt ((hf X).2 (.inl rfl))) (fun i b hi e => hk b (h1.at_ i b hi e).2.lt ((hf b).2 (.inr (.inr ⟨i, hi, e⟩))))
  have h2' := own_keep h2 (hk M h2.lt ((hf M).2 (.inr (.inl rfl))))
  rw [hf, fpT_iff h1' h2']
theorem Tab.fpb {w : World} {base X : Nat} {nn : Int} {g : Int → Int} {k : Nat} (h : Tab w base X nn g) (hk : fpT w X k) : base ≤ k ∧ k < w.heap.size := by
  obtain ⟨M, D, bm, h1, hz, h2⟩ := h
  rcases (fpT_iff h1 h2 k).1 hk with rfl | rfl | ⟨i, hi, e⟩
  · exact ⟨h1.lo, h1.blk.lt⟩
  · exact ⟨h1.loM, h2.lt⟩
  · exact ⟨(h1.at_ i k hi e).1, (h1.at_ i k hi e).2.lt⟩
theorem Tab.below {w w' : World} {base X : Nat} {nn : Int} {g : Int → Int} (h : Tab w base X nn g) (hb : Below w.heap.size w w') : Tab w' base X nn g := h.on fun k hk _ => hb.block k hk
theorem zero64 (w : World) : (zeroValue 120).run Tryz.prog w = .ok (.pointer none) w := by kernel_rfl

theorem wf32 {x : Int} (h0 : -2147483648 ≤ x) (h1 : x ≤ 2147483647) : (Lit.int .i32 x).wf = true := by
  simp [Lit.wf, IntKind.min, IntKind.max, IntKind.signed, IntKind.bits]
  omega
/-- A character's value. -/
def gE (g : Int → Int) (nn r : Int) : Int := if 0 ≤ r ∧ r ≤ 1114111 then g r else nn
/-- 'm[k]' at the map of blocks: the pointer's shape is written out. -/
theorem wpList_lookup_ptr {P : Program} (w : World) {ops : Array Oper} {rest : List Oper} {o : Oper} {a : Act} {Q : Exit → Act → World → Prop}
    (hg : o.guard = none) (m x : Operand) (t : TypeId) (hop : o.op = Op.lookup t m x false)
    (k e : TypeId) (K : Keyed P k) (ht : P.underlying t = some (.map k e)) (hz : (zeroValue e).run P w = .ok (.pointer none) w) (b n : Nat) (D : DataW Unit)
    (hm : a.eval m = .map (some b)) (hown : w.ownsMap P k ptrE b n D) (key : Value) (kl : Lit) (hx : a.eval x = key) (hkey : keyOf P k key = some kl) (oo : Option Nat) (hat : D.atKey kl .nil = ptrD oo)
    (hK : wpList P ops Q rest (a.put o.dst (.pointer (oo.map fun b => ⟨b, 0, none⟩))) w) :
    wpList P ops Q (o :: rest) a w := by
  refine wpList_plain hg fun K' hK' => ?_
  obtain ⟨v, ps, hrun, hv⟩ := hown.lookup K ht hz ptrE_nil hkey
  rw [hat] at hv
  obtain rfl := ptrE_D hv
  unfold Oper.wp
  simp [execOp, hop, hm, hx, hrun, Result.andThen]
  exact hK' _ _ hK
set_option maxHeartbeats 4000000 in
theorem get_any (w : World) (base X : Nat) (nn : Int) (g : Int → Int) (h : Tab w base X nn g) (r : Int) : Calls Tryz.prog 31 #[.pointer (some ⟨X, 0, none⟩), .int .i32 r] w
    fun e w' => e = .returned (.int .u8 (gE g nn r)) ∧ w = w' := by
  obtain ⟨M, D, bm, h1, hz, h2⟩ := h
  have c0 := h1.blk.c (i := 0) rfl
  have c1 := h1.blk.c (i := 1) rfl
  have HO := Lib.hid h2
  cases hn : numB r with
  | false =>
    have HR : Hid (gE g nn r = nn) := by
      have : ¬ (0 ≤ r ∧ r ≤ 1114111) := by simp [numB] at hn; omega
      exact Lib.hid (by unfold gE; exact if_neg this)
    have HN := number_any r w
    rw [hn] at HN
    clear h1 h2 hz hn
    go_enter Tryz.func31, Tryz.ntmps31
    go_wp2_with (go_at_call 62; refine HN.mono ?_; rintro e w' ⟨rfl, rfl⟩)
    go_ret
    exact ⟨by rw [HR.out]; rfl, rfl⟩
  | true =>
    have hr : 0 ≤ r ∧ r ≤ 1114111 := by simpa [numB] using hn
    obtain ⟨hr0, hr1⟩ := hr
    have HN := number_any r w
    rw [hn] at HN
    obtain ⟨i, hi⟩ : ∃ i : Nat, (i : Int) = r / 256 := ⟨(r / 256).toNat, by omega⟩
    obtain ⟨j, hj⟩ : ∃ j : Nat, (j : Int) = r % 256 := ⟨(r % 256).toNat, by omega⟩
    have hi2 : i < 4352 := by omega
    have hj2 : j < 256 := by omega
    have hij : ((i * 256 + j : Nat) : Int) = r := by omega
    have HR : Hid (gE g nn r = g r) := Lib.hid (by unfold gE; exact if_pos ⟨hr0, hr1⟩)
    have hat := h1.mp.at_ i hi2
    have HK : keyOf Tryz.prog 21 (.int .i32 (r / 256)) = some (.int .i32 (r / 256)) := keyOf_int_mk Tryz.underlying21 (wf32 (by omega) (by omega))
    cases hb : bm i with
    | none =>
      rw [hb, hi] at hat
      have HG : Hid (g r = nn) := by
        have h5 := hz i hi2
        rw [hb] at h5
        have h6 : nzB g nn i = false := h5.symm
        unfold nzB at h6
        have h7 := (List.any_eq_false.1 h6) j (List.mem_range.2 hj2)
        rw [hij] at h7
        exact Lib.hid (by simpa using h7)
      have HA := Lib.hid hat
      clear h1 h2 hz hn hb hat
      go_enter Tryz.func31, Tryz.ntmps31
      go_wp2_with (first
        | (go_at_call 62; refine HN.mono ?_; rintro e w' ⟨rfl, rfl⟩)
        | (at_lookup; refine wpList_lookup_ptr _ rfl _ _ 117 rfl 21 120 law21 Tryz.underlying117 (zero64 _) M (Maps.size D) D rfl HO.out _ _ rfl HK none HA.out ?_))
      go_ret
      exact ⟨by rw [HR.out, HG.out]; rfl, rfl⟩
    | some b =>
      rw [hb, hi] at hat
      have HA := Lib.hid hat
      have hB := (h1.at_ i b hi2 hb).2
      have b0 := hB.c (i := j * 2) (blkC_at _ j 0 hj2 (by omega))
      have b1 := hB.c (i := j * 2 + 1) (blkC_at _ j 1 hj2 (by omega))
      have hjt : (r % 256).toNat = j := by omega
      have hmod : (r.tmod 256) = (j : Int) := by rw [Int.tmod_eq_emod_of_nonneg hr0]; omega
      have hcel : celF g nn i j = if g r = nn then (false, 0) else (true, g r) := by unfold celF; rw [hij]
      rw [hcel] at b0 b1
      by_cases hg : g r = nn
      · rw [if_pos hg] at b0 b1
        have HG := Lib.hid hg
        clear h1 h2 hz hn hb hat hB b1 hg hcel hjt hj
        change w.cell? ⟨b, j * 2, none⟩ = some (.bool false) at b0
        go_enter Tryz.func31, Tryz.ntmps31
        go_wp2_with (first
          | (go_at_call 62; refine HN.mono ?_; rintro e w' ⟨rfl, rfl⟩)
          | (at_lookup; refine wpList_lookup_ptr _ rfl _ _ 117 rfl 21 120 law21 Tryz.underlying117 (zero64 _) M (Maps.size D) D rfl HO.out _ _ rfl HK (some b) HA.out ?_))
        go_ret
        exact ⟨by rw [HR.out, HG.out]; rfl, rfl⟩
      · rw [if_neg hg] at b0 b1
        clear h1 h2 hz hn hb hat hB hg hcel hjt hj
        change w.cell? ⟨b, j * 2, none⟩ = some (.bool true) at b0
        change w.cell? ⟨b, j * 2 + 1, none⟩ = some (.int .u8 (g r)) at b1
        go_enter Tryz.func31, Tryz.ntmps31
        go_wp2_with (first
          | (go_at_call 62; refine HN.mono ?_; rintro e w' ⟨rfl, rfl⟩)
          | (at_lookup; refine wpList_lookup_ptr _ rfl _ _ 117 rfl 21 120 law21 Tryz.underlying117 (zero64 _) M (Maps.size D) D rfl HO.out _ _ rfl HK (some b) HA.out ?_))
        go_ret
        exact ⟨by rw [HR.out]; rfl, rfl⟩

end Go.Proofs.YtagbeioooohbgaaGreatDoor.Tr
end
section
namespace Go.Proofs.YtagbeioooohbgaaGreatDoor.Tr
open Go.RowKit Go.Maps

theorem Mv.iff {F F' G G' : Nat → Prop} {w w' : World} (h : Mv F F' w w') (e : ∀ k, G k ↔ F k) (e' : ∀ k, G' k ↔ F' k) : Mv G G' w w' :=
  ⟨h.os, h.tape, h.output, h.size, fun k hk hG => h.keep k hk (fun hF => hG ((e k).2 hF)), fun k hk => (h.fp k ((e' k).1 hk)).imp (e k).2 id⟩
/-- The values on the way: the range is set up to a block. -/
def gk (g : Int → Int) (f t v : Int) (k : Nat) (r : Int) : Int := if f ≤ r ∧ r ≤ t ∧ r < k * 256 then v else g r
/-- A block is filled. -/
theorem Tb1.filled {w w' : World} {base X M : Nat} {nn : Int} {hs : Nat → Nat → Bool × Int} {D : DataW Unit} {bm : Nat → Option Nat} {k b n : Nat} {h' : Nat → Bool × Int} (h : Tb1 w base X M nn hs D bm) (ho : w.ownsMap Tryz.prog 21 ptrE M n D)
    (hk : k < 4352) (hb : bm k = some b) (hB : Bk w' b (blkC h') 162) (hm : Mv (· = b) (· = b) w w') :
    Tb1 w' base X M nn (fun i => if i = k then h' else hs i) D bm ∧ w'.ownsMap Tryz.prog 21 ptrE M n D ∧ Mv (FB X M bm) (FB X M bm) w w' := by
  have hX : X ≠ b := fun e => by subst e; exact absurd (bk_inj h.blk (h.at_ k _ hk hb).2).2 (by decide)
  have hM : M ≠ b := fun e => by
    subst e
    obtain ⟨es, clock, hb2, _⟩ := ho
    have := hb2.symm.trans (h.at_ k _ hk hb).2.blk
    cases this
  refine ⟨⟨h.lo, h.loM, h.blk.on (hm.keep X h.blk.lt hX), h.mp, fun i c hi e => ?_, h.inj⟩, own_keep ho (hm.keep M ho.lt hM), hm.os, hm.tape, hm.output, hm.size, fun j hj hF => hm.keep j hj (fun e => hF (.inr (.inr ⟨k, hk, by rw [e]; exact hb⟩))), fun j hj => .inl hj⟩
  by_cases e2 : i = k
  · subst e2
    rw [hb] at e
    cases e
    simp only [if_pos]
    exact ⟨(h.at_ i b hi hb).1, hB⟩
  · simp only [if_neg e2]
    exact ⟨(h.at_ i c hi e).1, (h.at_ i c hi e).2.on (hm.keep c (h.at_ i c hi e).2.lt (fun e3 => e2 (h.inj i k b hi hk (by rw [← e3]; exact e) hb)))⟩

theorem zero68 : Tryz.zeroCells162 = (blkC fun _ => (false, 0)).toArray := by kernel_rfl
/-- A new block under a new key. -/
theorem Tb1.added {w w' : World} {base X M : Nat} {nn : Int} {hs : Nat → Nat → Bool × Int} {D : DataW Unit} {bm : Nat → Option Nat} {k b : Nat} {h' : Nat → Bool × Int} (h : Tb1 w base X M nn hs D bm) (hk : k < 4352) (hbase : base ≤ w.heap.size)
    (hB : Bk w' b (blkC h') 162) (hbl : w.heap.size ≤ b) (hg : ∀ j, j < w.heap.size → j ≠ M → w'.heap[j]? = w.heap[j]?) (hM : X ≠ M) (hMb : ∀ i c, i < 4352 → bm i = some c → c ≠ M)
    (hD : IsMap D) : Tb1 w' base X M nn (fun i => if i = k then h' else hs i) (D.put (.int .i32 k) (.lit (.int .i64 b))) (fun i => if i = k then some b else bm i) := by
  refine ⟨h.lo, h.loM, h.blk.on (hg X h.blk.lt hM), h.mp.put hD hk b, fun i c hi e => ?_, fun i j c hi hj e1 e2 => ?_⟩
  · by_cases e2 : i = k
    · subst e2
      simp only [if_pos] at e ⊢
      cases e
      exact ⟨by omega, hB⟩
    · simp only [if_neg e2] at e ⊢
      obtain ⟨h1, h2⟩ := h.at_ i c hi e
      exact ⟨h1, h2.on (hg c h2.lt (hMb i c hi e))⟩
  · by_cases e3 : i = k <;> by_cases e4 : j = k
    · rw [e3, e4]
    · simp only [if_pos e3, if_neg e4] at e1 e2
      cases e1
      have := (h.at_ j _ hj e2).2.lt
      omega
    · simp only [if_neg e3, if_pos e4] at e1 e2
      cases e2
      have := (h.at_ i _ hi e1).2.lt
      omega
    · simp only [if_neg e3, if_neg e4] at e1 e2
      exact h.inj i j c hi hj e1 e2
theorem own_not_cells {w : World} {R : Value → Option (DataW Unit × List MemPlace)} {M n : Nat} {D : DataW Unit} {c : Nat} {cs : List Value} {t : TypeId} (ho : w.ownsMap Tryz.prog 21 R M n D) (hB : Bk w c cs t) : c ≠ M := fun e => by
  subst e
  obtain ⟨es, clock, hb2, _⟩ := ho
  have := hb2.symm.trans hB.blk
  cases this
theorem nz_cel (g : Int → Int) (nn : Int) (i : Nat) : nzB g nn i = telB (celF g nn i) 256 := by
  unfold nzB telB
  congr 1
  funext j
  unfold celF
  by_cases h : g ((i * 256 + j : Nat) : Int) = nn
  · rw [if_pos h]; simpa using h
  · rw [if_neg h]; simpa using h
theorem gk_cel {g : Int → Int} {f t v nn : Int} {k j : Nat} (hj : j < 256) (hv : v ≠ nn) : (if f ≤ (k : Int) * 256 + j ∧ (k : Int) * 256 + j ≤ t then (true, v) else celF (gk g f t v k) nn k j) = celF (gk g f t v (k + 1)) nn k j := by
  have e1 : gk g f t v k ((k * 256 + j : Nat) : Int) = g ((k * 256 + j : Nat) : Int) := by unfold gk; rw [if_neg (by omega)]
  have e2 : gk g f t v (k + 1) ((k * 256 + j : Nat) : Int) = if f ≤ (k : Int) * 256 + j ∧ (k : Int) * 256 + j ≤ t then v else g ((k * 256 + j : Nat) : Int) := by
    unfold gk
    by_cases h : f ≤ (k : Int) * 256 + j ∧ (k : Int) * 256 + j ≤ t
    · rw [if_pos h, if_pos (by omega)]
    · rw [if_neg h, if_neg (by omega)]
  unfold celF
  rw [e1, e2]
  by_cases h : f ≤ (k : Int) * 256 + j ∧ (k : Int) * 256 + j ≤ t
  · rw [if_pos h, if_pos h, if_neg hv]
  · rw [if_neg h, if_neg h]
theorem gk_oth {g : Int → Int} {f t v nn : Int} {k i j : Nat} (hj : j < 256) (hi : i ≠ k) : celF (gk g f t v k) nn i j = celF (gk g f t v (k + 1)) nn i j := by
  have e1 : gk g f t v k ((i * 256 + j : Nat) : Int) = gk g f t v (k + 1) ((i * 256 + j : Nat) : Int) := by
    unfold gk
    by_cases h : f ≤ ((i * 256 + j : Nat) : Int) ∧ ((i * 256 + j : Nat) : Int) ≤ t ∧ ((i * 256 + j : Nat) : Int) < k * 256
    · rw [if_pos h, if_pos (by omega)]
    · rw [if_neg h, if_neg (by omega)]
  unfold celF
  rw [e1]
theorem telB_same {h h' : Nat → Bool × Int} (e : ∀ j, j < 256 → h j = h' j) : telB h 256 = telB h' 256 := by
  unfold telB
  rw [Bool.eq_iff_iff, List.any_eq_true, List.any_eq_true]
  constructor
  · rintro ⟨j, hj, h1⟩; exact ⟨j, hj, by rw [← e j (List.mem_range.1 hj)]; exact h1⟩
  · rintro ⟨j, hj, h1⟩; exact ⟨j, hj, by rw [e j (List.mem_range.1 hj)]; exact h1⟩
theorem gk_nz {g : Int → Int} {f t v nn : Int} {k : Nat} (hv : v ≠ nn) (hft : f ≤ t) (hk0 : f / 256 ≤ k) (hk1 : (k : Int) ≤ t / 256) : nzB (gk g f t v (k + 1)) nn k = true := by
  obtain ⟨j, hj⟩ : ∃ j : Nat, (j : Int) = (if f - k * 256 < 0 then 0 else f - k * 256) := ⟨(if f - k * 256 < 0 then 0 else f - k * 256).toNat, by split <;> omega⟩
  have hj2 : j < 256 ∧ f ≤ (k : Int) * 256 + j ∧ (k : Int) * 256 + j ≤ t := by split at hj <;> omega
  rw [nz_cel]
  refine telB_yes hj2.1 ?_
  rw [← gk_cel hj2.1 hv, if_pos hj2.2]
theorem Tb1.same {w : World} {base X M : Nat} {nn : Int} {hs hs' : Nat → Nat → Bool × Int} {D : DataW Unit} {bm : Nat → Option Nat} (h : Tb1 w base X M nn hs D bm) (e : ∀ i j, i < 4352 → j < 256 → hs i j = hs' i j) : Tb1 w base X M nn hs' D bm :=
  ⟨h.lo, h.loM, h.blk, h.mp, fun i b hi hb => ⟨(h.at_ i b hi hb).1, by rw [blkC_same (h' := hs i) fun j hj => (e i j hi hj).symm]; exact (h.at_ i b hi hb).2⟩, h.inj⟩
theorem tell_end {w : World} {base X M n : Nat} {nn : Int} {g : Int → Int} {f t v : Int} {k : Nat} {h' : Nat → Bool × Int} {D : DataW Unit} {bm bm0 : Nat → Option Nat} (hv : v ≠ nn) (hft : f ≤ t) (hk0 : f / 256 ≤ k) (hk1 : (k : Int) ≤ t / 256)
    (h : Tb1 w base X M nn (fun i => if i = k then h' else celF (gk g f t v k) nn i) D bm) (ho : w.ownsMap Tryz.prog 21 ptrE M n D) (hz : ∀ i, i < 4352 → (bm0 i).isSome = nzB (gk g f t v k) nn i)
    (hb : ∀ i, i ≠ k → bm i = bm0 i) (hbk : (bm k).isSome = true) (hh : ∀ j, j < 256 → h' j = if f ≤ (k : Int) * 256 + j ∧ (k : Int) * 256 + j ≤ t then (true, v) else celF (gk g f t v k) nn k j) :
    Tab w base X nn (gk g f t v (k + 1)) := by
  refine ⟨M, D, bm, h.same fun i j hi hj => ?_, fun i hi => ?_, own_tight ho⟩
  · by_cases e : i = k
    · subst e; simp only [if_pos]; rw [hh j hj, gk_cel hj hv]
    · simp only [if_neg e]; exact gk_oth hj e
  · by_cases e : i = k
    · subst e; rw [hbk, gk_nz hv hft hk0 hk1]
    · rw [hb i e, hz i hi, nz_cel, nz_cel]
      exact telB_same fun j hj => gk_oth hj e
theorem gk_done {g : Int → Int} {f t v : Int} {k : Nat} (hk : t / 256 < k) (hf : 0 ≤ f) (hft : f ≤ t) (ht : t ≤ 1114111) : gk g f t v k = updS g (f, t, v) := by
  funext r
  have hok : okS (f, t, v) = true := by simp [okS]; omega
  unfold gk updS inS
  rw [if_pos hok]
  by_cases h : f ≤ r ∧ r ≤ t
  · rw [if_pos (by omega)]; simp [h.1, h.2]
  · rw [if_neg (by omega)]
    have : (decide (f ≤ r) && decide (r ≤ t)) = false := by simp; omega
    simp only [this]
    rfl
set_option maxHeartbeats 8000000 in
set_option maxRecDepth 100000 in
theorem tell_any (w : World) (base X : Nat) (nn : Int) (g : Int → Int) (f t v : Int) (h : Tab w base X nn g) (hf : 0 ≤ f) (hft : f ≤ t) (ht : t ≤ 1114111) (hv : v ≠ nn) :
    Calls Tryz.prog 86 #[.pointer (some ⟨X, 0, none⟩), .int .i32 f, .int .i32 t, .int .u8 v] w
      fun e w' => e = .returned (.tuple #[]) ∧ Tab w' base X nn (updS g (f, t, v)) ∧ Mv (fpT w X) (fpT w' X) w w' := by
  have HT := Lib.hid h
  have HV := Lib.hid hv
  clear h hv
  go_enter Tryz.func86, Tryz.ntmps86
  go_wp2_with fail
  go_loopw [8] (fun i wr => ∃ k : Nat, i = .int .i32 k ∧ f / 256 ≤ k ∧ (k : Int) ≤ t / 256 + 1 ∧ Hid (Tab wr base X nn (gk g f t v k) ∧ Mv (fpT w X) (fpT wr X) w wr)) (fun i _ => (t / 256 + 1 - intOf i).toNat)
  case atStart =>
    refine ⟨(f / 256).toNat, by congr 1; omega, by omega, by omega, ?_, Mv.refl _ _⟩
    have e : gk g f t v (f / 256).toNat = g := by
      funext r
      unfold gk
      rw [if_neg (by omega)]
    rw [e]
    exact HT.out
  case round =>
    obtain ⟨k, rfl, hk0, hk1, HR⟩ := hrel
    by_cases hlt : (k : Int) ≤ t / 256
    · obtain ⟨M, D, bm, h1, hz, h2⟩ := HR.out.1
      have c1 := h1.blk.c (i := 1) rfl
      have hXl := h1.blk.lt
      have hk2 : k < 4352 := by omega
      have HK : keyOf Tryz.prog 21 (.int .i32 (k : Int)) = some (.int .i32 (k : Int)) := keyOf_int_mk Tryz.underlying21 (wf32 (by omega) (by omega))
      have HA := Lib.hid (h1.mp.at_ k hk2)
      have HO := Lib.hid h2
      have H1 := Lib.hid h1
      have HZ := Lib.hid hz
      have HSZ := Lib.hid (size_le h2 h1.mp)
      clear h1 hz h2
      cases hb : bm k with
      | none =>
        rw [hb] at HA
        have HB := Lib.hid hb
        clear hb
        go_wp2_with (first
          | (at_lookup; refine wpList_lookup_ptr _ rfl _ _ 117 rfl 21 120 law21 Tryz.underlying117 (zero64 _) M (Maps.size D) D rfl HO.out _ _ rfl HK none HA.out ?_)
          | (at_mapUpdate; refine wpList_mapUpdate_own _ rfl _ _ _ 117 rfl 21 120 law21 Tryz.underlying117 ptrE M (Maps.size D) D rfl (HO.out.alloc _) (by have := HSZ.out; unfold maxLen; omega) _ _ _ rfl rfl HK (.lit (.int .i64 wr.heap.size)) [] (ptrE_some _) ?_; intro w1 hown1 hgrow1; have O1 := Lib.hid hown1; have G1 := Lib.hid hgrow1; have hq := hgrow1.size; clear hown1 hgrow1))
        have hl0 : ∀ j, j < wr.heap.size → j ≠ M → w1.heap[j]? = wr.heap[j]? := fun j hj hm => (G1.out.block j (by simp; omega) (by simpa using hm)).trans (Below.heap_alloc _ _ _ hj)
        have hMl := HO.out.lt
        have hBn : Bk w1 wr.heap.size (blkC fun _ => (false, 0)) 162 := ⟨(G1.out.block _ (by simp) (by simp; omega)).trans (by rw [heap_alloc_new, zero68])⟩
        have hT1 := H1.out.added (h' := fun _ => (false, 0)) hk2 (by have := H1.out.lo; omega) hBn (Nat.le_refl _) hl0 (own_not_cells HO.out H1.out.blk) (fun i c hi e => own_not_cells HO.out (H1.out.at_ i c hi e).2) HO.out.isMap
        have T1 := Lib.hid hT1
        have N1 := Lib.hid (show Mv (FB X M bm) (FB X M (fun i => if i = k then some wr.heap.size else bm i)) wr w1 from
          ⟨G1.out.os, G1.out.tape, G1.out.output, by simp at hq; omega, fun j hj hF => hl0 j hj (fun e => hF (.inr (.inl e))), fun j hj => by
            rcases hj with rfl | rfl | ⟨i, hi, e⟩
            · exact .inl (.inl rfl)
            · exact .inl (.inr (.inl rfl))
            · by_cases e2 : i = k
              · simp only [if_pos e2] at e; cases e; exact .inr (Nat.le_refl _)
              · simp only [if_neg e2] at e; exact .inl (.inr (.inr ⟨i, hi, e⟩))⟩)
        have B1 := Lib.hid hBn
        clear hl0 hBn hT1 hMl
        refine (fill_any w1 wr.heap.size _ (k : Int) f t true v B1.out (by omega) hk0 hlt hf hft ht).mono ?_
        rintro e w2 ⟨rfl, hB2, hm2⟩
        obtain ⟨h2, hh2⟩ : ∃ h2 : Nat → Bool × Int, h2 = fun j : Nat => if f ≤ (k : Int) * 256 + j ∧ (k : Int) * 256 + j ≤ t then (true, v) else (false, 0) := ⟨_, rfl⟩
        have B2 : Hid (Bk w2 wr.heap.size (blkC h2) 162) := by rw [hh2]; exact Lib.hid hB2
        have HH2 := Lib.hid hh2
        have M2 := Lib.hid hm2
        clear hB2 hm2 hh2
        go_wp2_with fail
        go_roundw
        case measure => simp [intOf]; omega
        case rel =>
          refine ⟨k + 1, by go_num, by omega, by omega, ?_⟩
          obtain ⟨p1, p2, p3⟩ := T1.out.filled O1.out hk2 (if_pos rfl) B2.out M2.out
          have p1' : Tb1 w2 base X M nn (fun i => if i = k then h2 else celF (gk g f t v k) nn i) (D.put (.int .i32 k) (.lit (.int .i64 wr.heap.size))) (fun i => if i = k then some wr.heap.size else bm i) := p1.same fun i j _ _ => by
            by_cases e : i = k
            · simp only [if_pos e]
            · simp only [if_neg e]
          have hT := tell_end (h' := h2) HV.out hft hk0 hlt p1' p2 HZ.out (fun i hi => if_neg hi) (by simp) (fun j hj => (by
            have hz : nzB (gk g f t v k) nn k = false := by rw [← HZ.out k hk2, HB.out]; rfl
            rw [nz_cel] at hz
            have hz2 := (List.any_eq_false.1 hz) j (List.mem_range.2 hj)
            have hz3 : celF (gk g f t v k) nn k j = (false, 0) := by
              unfold celF at hz2 ⊢
              split
              · rfl
              · rename_i h9; rw [if_neg h9] at hz2; simp at hz2
            rw [hz3, HH2.out]))
          exact Lib.hid ⟨hT, HR.out.2.trans ((N1.out.trans p3).iff (fpT_iff H1.out HO.out) (fpT_iff p1 p2))⟩
      | some b =>
        have HB := Lib.hid hb
        have HBB := Lib.hid (H1.out.at_ k b hk2 hb).2
        rw [hb] at HA
        clear hb
        go_wp2_with (first
          | (at_lookup; refine wpList_lookup_ptr _ rfl _ _ 117 rfl 21 120 law21 Tryz.underlying117 (zero64 _) M (Maps.size D) D rfl HO.out _ _ rfl HK (some b) HA.out ?_)
          | (go_at_call 105; refine (fill_any _ b _ (k : Int) f t true v HBB.out (by omega) hk0 hlt hf hft ht).mono ?_; rintro e w2 ⟨rfl, hB2, hm2⟩; have B2 := Lib.hid hB2; have M2 := Lib.hid hm2; clear hB2 hm2))
        go_roundw
        case measure => simp [intOf]; omega
        case rel =>
          refine ⟨k + 1, by go_num, by omega, by omega, ?_⟩
          obtain ⟨p1, p2, p3⟩ := H1.out.filled HO.out hk2 HB.out B2.out M2.out
          have hT := tell_end HV.out hft hk0 hlt p1 p2 HZ.out (fun i hi => rfl) (by rw [HB.out]; rfl) (fun j hj => rfl)
          exact Lib.hid ⟨hT, HR.out.2.trans (p3.iff (fpT_iff H1.out HO.out) (fpT_iff p1 p2))⟩
    · have e : (k : Int) = t / 256 + 1 := by omega
      have hq := Lib.hid (gk_done (g := g) (v := v) (k := k) (by omega) hf hft ht)
      go_wp2_with fail
      go_end0
      rw [← hq.out]
      exact ⟨rfl, HR.out.1, HR.out.2⟩

end Go.Proofs.YtagbeioooohbgaaGreatDoor.Tr
end

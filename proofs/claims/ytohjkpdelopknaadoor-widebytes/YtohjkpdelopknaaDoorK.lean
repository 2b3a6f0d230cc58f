import Derived.Test.YtohjkpdelopknaaDoorJ
import Derived.Laws.BytesArg
namespace Go.Proofs.YtohjkpdelopknaaDoor
open Go.RowKit
/-- A slice of numbers, in memory that is there. -/
def Ints (kd : IntKind) (w : World) (A : Option Addr) (l : List Int) : Prop :=
  ∀ i, i < l.length → ∃ b off, A = some ⟨b, off, none⟩ ∧ b < w.heap.size ∧ w.cell? ⟨b, off + i, none⟩ = some (.int kd (l.getD i 0))
theorem Ints.below {kd : IntKind} {w w' : World} {A : Option Addr} {l : List Int} (h : Ints kd w A l) (hb : Below w.heap.size w w') : Ints kd w' A l := fun i hi => by
  obtain ⟨b, off, e, hl, hc⟩ := h i hi
  exact ⟨b, off, e, Nat.lt_of_lt_of_le hl hb.size, (hb.cell (p := ⟨b, off + i, none⟩) hl).trans hc⟩
theorem ints_new (kd : IntKind) (l : List Int) (t : TypeId) (w : World) : Ints kd (w.alloc (.cells (l.map (Value.int kd)).toArray t)) (some ⟨w.heap.size, 0, none⟩) l := fun i hi => by
  refine ⟨w.heap.size, 0, rfl, by simp, ?_⟩
  have := World.news_of_block (w := w.alloc (.cells (l.map (Value.int kd)).toArray t)) (cs := (l.map (Value.int kd)).toArray) (t := t) (fr := (0, 0)) (heap_alloc_new w _) i (.int kd (l.getD i 0)) (by simp [List.getD, List.getElem?_eq_getElem hi])
  have e : (⟨w.heap.size, 0, none⟩ : Addr).add i = ⟨w.heap.size, 0 + i, none⟩ := by unfold Addr.add; split <;> simp_all
  rw [e] at this
  exact this
/-- Numbers as a string's bytes. -/
def strB (l : List Nat) : ByteArray := strOfNums (l.map fun x : Nat => (x : Int))
theorem strB_size (l : List Nat) : (strB l).size = l.length := by simp [strB, strOfNums_size]
theorem run_string_own (base : Nat) (v : Value) (n : Nat) (ys : List Nat) (w : World) (h : w.ownsRow base 5 1 v n (u8v ys)) :
    (convert 64 9 v).run Tryd.prog w = .ok (.string (strB ys)) w := by
  have hl : ys.length = n := by have := h.1; simpa [u8v] using this
  rcases h.2 with ⟨rfl, rfl⟩ | ⟨g, cap, cur, rfl, hg, hh, hn, hm, hc, ht⟩
  · have : ys = [] := List.eq_nil_of_length_eq_zero hl
    subst this
    exact run_convert_bytes_nil w 64 5 Tryd.underlying64 Tryd.underlying5 0 0 9 Tryd.underlying9
  · refine run_convert_bytes_arg w 64 5 Tryd.underlying64 Tryd.underlying5 g 0 n cap (ys.map fun x : Nat => (x : Int)) (by simpa using hl) (fun i hi => ?_) 9 Tryd.underlying9
    have hi' : i < ys.length := by omega
    have := h.cells (g := g) rfl i (.int .u8 ((ys.map fun x : Nat => (x : Int)).getD i 0)) (by simp [u8v, List.getD, List.getElem?_eq_getElem hi'])
    have e : (⟨g, 0, none⟩ : Addr).add i = ⟨g, 0 + i, none⟩ := by unfold Addr.add; split <;> simp_all
    rw [e] at this
    exact this

def chL (k : Nat) (l : List Int) : List Nat := l.flatMap fun r => chB k r.toNat
/-- What Encode answers. -/
def encV (k : Nat) (l : List Int) : Value := if l.all scal = true then .tuple #[.string (strB (chL k l)), .int .i64 0] else .tuple #[.string ⟨#[]⟩, .int .i64 11]
theorem chL_le (k : Nat) (h4 : k ≤ 4) (l : List Int) : (chL k l).length ≤ 4 * l.length := by
  induction l with
  | nil => simp [chL]
  | cons a t ih =>
    have := (chB_len k a.toNat h4).2
    simp only [chL, List.flatMap_cons, List.length_append, List.length_cons] at ih ⊢
    omega
theorem chL_ge (k : Nat) (h4 : k ≤ 4) (l : List Int) : l.length ≤ (chL k l).length := by
  induction l with
  | nil => simp [chL]
  | cons a t ih =>
    have := (chB_len k a.toNat h4).1
    simp only [chL, List.flatMap_cons, List.length_append, List.length_cons] at ih ⊢
    omega
theorem take_more (l : List Int) (k : Nat) (h : k < l.length) : l.take (k + 1) = l.take k ++ [l.getD k 0] := by
  rw [List.take_succ_eq_append_getElem h]; simp [List.getD, List.getElem?_eq_getElem h]
theorem chL_more (k : Nat) (l : List Int) (i : Nat) (h : i < l.length) : chL k (l.take (i + 1)) = chL k (l.take i) ++ chB k (l.getD i 0).toNat := by
  rw [take_more l i h]; simp [chL]
theorem all_more (l : List Int) (k : Nat) (h : k < l.length) (ha : (l.take k).all scal = true) (hs : scal (l.getD k 0) = true) : (l.take (k + 1)).all scal = true := by
  rw [take_more l k h, List.all_append, ha]; simp [List.getD] at hs ⊢; exact hs
theorem encV_no (k : Nat) (l : List Int) (i : Nat) (h : i < l.length) (hs : scal (l.getD i 0) = false) : encV k l = .tuple #[.string ⟨#[]⟩, .int .i64 11] := by
  unfold encV
  rw [if_neg]
  intro ha
  rw [List.all_eq_true] at ha
  have := ha (l.getD i 0) (by simp [List.getD, List.getElem?_eq_getElem h])
  rw [hs] at this
  cases this
theorem encV_yes (k : Nat) (l : List Int) (ha : l.all scal = true) : encV k l = .tuple #[.string (strB (chL k l)), .int .i64 0] := by rw [encV, if_pos ha]

set_option maxRecDepth 100000 in
set_option maxHeartbeats 1000000 in
theorem encode_any (k : Nat) (A : Option Addr) (c : Nat) (l : List Int) (w : World) (hT : Tab w) (h1 : 1 ≤ k) (h4 : k ≤ 4) (hr : Ints .i32 w A l) (hlen : l.length ≤ 100000) :
    Calls Tryd.prog 15 #[.int .i64 (k : Int), .slice A l.length c] w fun e w' => e = .returned (encV k l) ∧ Below w.heap.size w w' := by
  have HL := Lib.hid (layout_any k w hT h1 h4)
  have HR := Lib.hid hr
  clear hr hT
  have HP := Lib.hid (fun base T v m xs r W => put_any k base T v m xs r W h1 h4)
  have HE := Lib.hid (fun i h hs => encV_no k l i h hs)
  have HY := Lib.hid (fun ha => encV_yes k l ha)
  have HM := Lib.hid (fun i h => chL_more k l i h)
  have HLe := Lib.hid (fun i => chL_le k h4 (l.take i))
  have HCh : Hid (chL k [] = []) := rfl
  generalize hC : chL k = C at *
  generalize encV k l = V at *
  generalize hz : (szK k : Int) = z at *
  generalize loK k = lo at *
  generalize prK k = pr at *
  clear hC hz
  go_enter Tryd.func15, Tryd.ntmps15
  go_wp2_with fail
  refine HL.out.mono ?_
  rintro e w1 ⟨rfl, hb1⟩
  have B1 := Lib.hid hb1
  have z1 := hb1.size
  clear hb1
  go_wp2_with fail
  have hB2 : Hid (Below w.heap.size w ((w1.alloc (.cells #[.int .i64 z, .bool lo, .bool pr] 56)).alloc (.cells #[.int .i64 z, .bool lo, .bool pr, .slice none 0 0] 66))) := (B1.out.alloc z1 _).alloc (by simp; omega) _
  have hT2 : Hid (Tgt ((w1.alloc (.cells #[.int .i64 z, .bool lo, .bool pr] 56)).alloc (.cells #[.int .i64 z, .bool lo, .bool pr, .slice none 0 0] 66)) (w1.heap.size + 1) z lo pr (.slice none 0 0)) := ⟨by have := heap_alloc_new (w1.alloc (.cells #[.int .i64 z, .bool lo, .bool pr] 56)) (.cells #[.int .i64 z, .bool lo, .bool pr, .slice none 0 0] 66); simpa using this⟩
  go_loopw [22] (fun i wr => ∃ j : Nat, i = .int .i64 j ∧ j ≤ l.length ∧ ∃ v, Hid ((l.take j).all scal = true ∧ Below w.heap.size w wr ∧ Tgt wr (w1.heap.size + 1) z lo pr v ∧ wr.ownsRow w.heap.size 5 1 v (C (l.take j)).length (u8v (C (l.take j))))) (fun i _ => l.length - (intOf i).toNat)
  case atStart => exact ⟨0, rfl, by omega, _, rfl, hB2.out, hT2.out, by rw [List.take_zero, HCh.out]; exact World.ownsRow_nil _ _ _ _⟩
  case round =>
    obtain ⟨j, rfl, hj, v, HQ⟩ := hrel
    have hsz := HQ.out.2.1.size
    by_cases hlt : j < l.length
    · obtain ⟨b, off, rfl, hb, hc⟩ := HR.out j hlt
      have hc' : wr.cell? ⟨b, off + j, none⟩ = some (.int .i32 (l.getD j 0)) := (HQ.out.2.1.cell (p := ⟨b, off + j, none⟩) hb).trans hc
      clear hc
      have hlt' : (j : Int) < l.length := by omega
      generalize hrk : l.getD j 0 = r at hc'
      have Hrk := Lib.hid hrk
      clear hrk
      cases hs : scal r
      · have HEE := Lib.hid (HE.out j hlt (by rw [Hrk.out]; exact hs))
        have HS := Lib.hid hs
        clear hs
        go_wp2_with fail
        refine (scalar_any _ _).mono ?_
        rw [HS.out]
        rintro e w' ⟨rfl, rfl⟩
        go_wp2_with fail
        go_ret2
        exact ⟨(congrArg Ending.returned HEE.out).symm, HQ.out.2.1⟩
      · have HS := Lib.hid hs
        obtain ⟨g0, g1⟩ := scal_bd hs
        clear hs
        obtain ⟨n, rfl⟩ := Int.eq_ofNat_of_zero_le g0
        go_wp2_with fail
        refine (scalar_any _ _).mono ?_
        rw [HS.out]
        rintro e w' ⟨rfl, rfl⟩
        go_wp2_with fail
        refine (HP.out w.heap.size (w1.heap.size + 1) v _ _ n _ HQ.out.2.2.1 (by omega) HQ.out.2.2.2 (by have := HLe.out j; have := List.length_take_le j l; omega) (by omega)).mono ?_
        rintro e w2 ⟨v2, rfl, ho2, hT3, hb2⟩
        have A1 := Lib.hid ho2
        have A2 := Lib.hid hT3
        have A3 := Lib.hid hb2
        clear ho2 hT3 hb2
        go_wp2_with fail
        go_roundw
        case rel =>
          refine ⟨j + 1, by go_num, by omega, v2, all_more l j hlt HQ.out.1 (by rw [Hrk.out]; exact HS.out), HQ.out.2.1.trans A3.out, A2.out, ?_⟩
          rw [HM.out j hlt, Hrk.out, Int.toNat_natCast, u8v_app, List.length_append]
          exact A1.out
        case measure => simp [intOf]; omega
    · have hlt' : ¬ (j : Int) < l.length := by omega
      obtain rfl : j = l.length := by omega
      have hq := HQ.out
      rw [List.take_length] at hq
      have HEE := Lib.hid (HY.out hq.1)
      have hrun := run_string_own _ _ _ _ _ hq.2.2.2
      have c3 := hq.2.2.1.c3
      have HB := Lib.hid hq.2.1
      clear hq
      go_wp2
      go_ret2
      exact ⟨(congrArg Ending.returned HEE.out).symm, HB.out⟩
set_option maxRecDepth 100000 in
set_option maxHeartbeats 1000000 in
theorem encode_no (k : Int) (A : Option Addr) (n c : Nat) (w : World) (h : k < 1 ∨ 4 < k) :
    Calls Tryd.prog 15 #[.int .i64 k, .slice A n c] w fun e w' => e = .returned (.tuple #[.string ⟨#[]⟩, .int .i64 16]) ∧ Below w.heap.size w w' := by
  go_enter Tryd.func15, Tryd.ntmps15
  go_wp2_with fail
  refine (layout_no k w h).mono ?_
  rintro e w1 ⟨rfl, hb1⟩
  have B1 := Lib.hid hb1
  have z1 := hb1.size
  clear hb1
  go_wp2_with fail
  go_ret2
  exact ⟨rfl, B1.out.alloc z1 _⟩
/-- A kind's mark. -/
def mkB (k : Nat) : List Nat := unB k 65279
set_option maxRecDepth 100000 in
set_option maxHeartbeats 1000000 in
theorem mark_any (k : Nat) (w : World) (hT : Tab w) (h1 : 1 ≤ k) (h4 : k ≤ 4) :
    Calls Tryd.prog 16 #[.int .i64 (k : Int)] w fun e w' => e = .returned (.string (strB (mkB k))) ∧ Below w.heap.size w w' := by
  have b1 : Below w.heap.size w (w.alloc (.cells #[.int .i32 65279] 21)) := (Below.refl _ _).alloc (Nat.le_refl _) _
  have hpos := hT.pos
  have HT := Lib.hid hT
  have hE : encV k [65279] = .tuple #[.string (strB (mkB k)), .int .i64 0] := by
    rw [encV_yes k _ (by decide)]
    have : chL k [65279] = mkB k := by
      unfold chL mkB
      simp only [List.flatMap_cons, List.flatMap_nil, List.append_nil]
      unfold chB
      rw [if_pos (by right; decide)]
      rfl
    rw [this]
  have HE := Lib.hid hE
  have B1 := Lib.hid b1
  clear hE hT b1
  go_enter Tryd.func16, Tryd.ntmps16
  go_wp2_with fail
  refine (encode_any k (some ⟨w.heap.size, 0, none⟩) 1 [65279] _ (HT.out.below B1.out hpos) h1 h4 (ints_new .i32 [65279] 21 w) (by simp)).mono ?_
  rw [HE.out]
  rintro e w1 ⟨rfl, hb1⟩
  have B2 := Lib.hid (B1.out.trans (hb1.mono (by simp)))
  clear hb1
  go_wp2_with fail
  go_ret
  exact ⟨rfl, B2.out⟩
set_option maxRecDepth 100000 in
set_option maxHeartbeats 1000000 in
theorem mark_no (k : Int) (w : World) (h : k < 1 ∨ 4 < k) :
    Calls Tryd.prog 16 #[.int .i64 k] w fun e w' => e = .returned (.string ⟨#[]⟩) ∧ Below w.heap.size w w' := by
  have B1 := Lib.hid (show Below w.heap.size w (w.alloc (.cells #[.int .i32 65279] 21)) from (Below.refl _ _).alloc (Nat.le_refl _) _)
  go_enter Tryd.func16, Tryd.ntmps16
  go_wp2_with fail
  refine (encode_no k (some ⟨w.heap.size, 0, none⟩) 1 1 _ h).mono ?_
  rintro e w1 ⟨rfl, hb1⟩
  have B2 := Lib.hid (B1.out.trans (hb1.mono (by simp)))
  clear hb1
  go_wp2_with fail
  go_ret
  exact ⟨rfl, B2.out⟩
end Go.Proofs.YtohjkpdelopknaaDoor

import Derived.Test.YthnfopjjghohcaaDoorRows
import Derived.Test.YthnfopjjghohcaaDoorSh
import Derived.WalkKit
import Derived.WalkSpells
import Derived.WalkLawsBesides
import Derived.Lib.Hide
import Derived.Lib.Strings
import Derived.Lib.IndexBytes
import Derived.IntWalk
import Derived.Laws.BitsAllLaws
import Derived.Laws.BytesArg
import Derived.Laws.OwnMore
import Derived.Laws.AppendOwnNone
import Derived.Deep.QuietTactic
import Derived.BigQuiet
import Derived.Deep.RegionHeld3
import Derived.Deep.RegionLaw
import Derived.Deep.DrawnRows
import Derived.Deep.AppendLies
import Derived.Deep.Heap
import Derived.Deep.Onto
import Derived.Maps.AppendAt
namespace Go.Proofs.YthnfopjjghohcaaDoor
open Go.RowKit

def scal (r : Int) : Bool := (0 ≤ r && r < 55296) || (57343 < r && r ≤ 1114111)
theorem ret_int {k : IntKind} {a b : Int} (h : a = b) : Ending.returned (.int k a) = .returned (.int k b) := by rw [h]
theorem ret_bool {a b : Bool} (h : a = b) : Ending.returned (.bool a) = .returned (.bool b) := by rw [h]
theorem scal_bd {r : Int} (h : scal r = true) : 0 ≤ r ∧ r ≤ 1114111 := by simp [scal] at h; omega

set_option maxHeartbeats 400000 in
theorem scalar_any (r : Int) (w : World) : Calls Tryd.prog 79 #[.int .i32 r] w fun e w' => e = .returned (.bool (scal r)) ∧ w = w' := by
  unfold scal
  by_cases h1 : 0 ≤ r
  · by_cases h2 : r < 55296
    · go_enter Tryd.func79, Tryd.ntmps79
      go_wp2
      go_ret
      exact ⟨by simp [h1, h2], rfl⟩
    · by_cases h3 : 57343 < r
      · by_cases h4 : r ≤ 1114111
        · go_enter Tryd.func79, Tryd.ntmps79
          go_wp2
          go_ret
          exact ⟨by simp, rfl⟩
        · go_enter Tryd.func79, Tryd.ntmps79
          go_wp2
          go_ret
          exact ⟨by simp; omega, rfl⟩
      · go_enter Tryd.func79, Tryd.ntmps79
        go_wp2
        go_ret
        exact ⟨by simp; omega, rfl⟩
  · have h3 : ¬ 57343 < r := by omega
    go_enter Tryd.func79, Tryd.ntmps79
    go_wp2
    go_ret
    exact ⟨by simp; omega, rfl⟩

theorem ret2 {k l : IntKind} {a b c d : Int} (h : a = b) (h' : c = d) : Ending.returned (.tuple #[.int k a, .int l c]) = .returned (.tuple #[.int k b, .int l d]) := by rw [h, h']
/-- A string's bytes as numbers. -/
def bs (s : ByteArray) : List Nat := s.data.toList.map UInt8.toNat
theorem bs_len (s : ByteArray) : (bs s).length = s.size := by simp [bs]
theorem bs_at (s : ByteArray) (k : Nat) (h : k < s.size) : (bs s)[k]'(by rw [bs_len]; exact h) = s[k].toNat := by simp [bs]; rfl
theorem bs_cut (s : ByteArray) (k : Nat) (h : k < s.size) : (bs s).drop k = s[k].toNat :: (bs s).drop (k + 1) := by
  rw [List.drop_eq_getElem_cons (by rw [bs_len]; exact h), bs_at s k h]
theorem bs_end (s : ByteArray) (k : Nat) (h : s.size ≤ k) : (bs s).drop k = [] := List.drop_eq_nil_of_le (by rw [bs_len]; exact h)
theorem bs_nil (s : ByteArray) (h : s.size = 0) : bs s = [] := List.eq_nil_of_length_eq_zero (by rw [bs_len]; exact h)
theorem bs_from (s : ByteArray) (k : Nat) : bs (s.extract k s.size) = (bs s).drop k := by
  unfold bs
  rw [Lib.extract_to_end, List.map_drop]
theorem ext_from (s : ByteArray) (k : Nat) : (s.extract k s.size).size = s.size - k := by
  have := bs_len (s.extract k s.size)
  rw [bs_from, List.length_drop, bs_len] at this
  omega
theorem bs_ext (s : ByteArray) (a b : Nat) : bs (s.extract a b) = ((bs s).drop a).take (b - a) := by
  unfold bs
  rw [Lib.extract_data, List.map_take, List.map_drop]
theorem bs_app (s t : ByteArray) : bs (s ++ t) = bs s ++ bs t := by simp [bs]
def allB (l : List Nat) : Prop := ∀ v ∈ l, v < 256
theorem bs_B (s : ByteArray) : allB (bs s) := by
  intro v hv
  simp only [bs, List.mem_map] at hv
  obtain ⟨u, _, rfl⟩ := hv
  exact u.toNat_lt
theorem allB_drop {l : List Nat} (h : allB l) (n : Nat) : allB (l.drop n) := fun v hv => h v (List.mem_of_mem_drop hv)
theorem allB_take {l : List Nat} (h : allB l) (n : Nat) : allB (l.take n) := fun v hv => h v (List.mem_of_mem_take hv)

theorem allB_app {a b : List Nat} (ha : allB a) (hb : allB b) : allB (a ++ b) := by
  intro v hv
  rcases List.mem_append.1 hv with h | h
  · exact ha v h
  · exact hb v h
theorem bel_drewN {B : Nat} {a w : World} (h : Below B a w) (n : Nat) : Below B a (w.drewN n) := ⟨h.os, h.tape, h.output, h.size, h.block⟩
/-- What Next answers, as a value. -/
def nxV (x : Int × Int × Int) : Value := .tuple #[.int .i32 x.1, .int .i64 x.2.1, .int .i64 x.2.2]
theorem nxV_eq {x : Int × Int × Int} {a b c : Int} (h : x = (a, b, c)) : Ending.returned (.tuple #[.int .i32 a, .int .i64 b, .int .i64 c]) = .returned (nxV x) := by subst h; rfl
theorem u8_info : (Tryd.prog.info? 5).map (fun i => (i.zero, i.size, i.bytes)) = some (some (.int .u8 0), 1, 1) := by kernel_rfl
theorem own_ne {w : World} {base : Nat} {e : TypeId} {size n : Nat} {v : Value} {xs : List Value} (h : w.ownsRow base e size v n xs) {b : Nat} (hb : b < base) : v.ownBlock ≠ some b := by
  intro he
  have := (h.lt b he).1
  omega
theorem below_grown {base : Nat} {w w' : World} {v : Value} {e : TypeId} {size n : Nat} {xs : List Value} (h : w.ownsRow base e size v n xs) (hg : w.grownBy w' v.ownBlock) (hb : base ≤ w.heap.size) : Below base w w' :=
  (Below.refl _ _).grown hg hb (fun k hk => (h.lt k hk).1)
theorem own_below {w w' : World} {b : Nat} {e : TypeId} {z n : Nat} {v : Value} {xs : List Value} (h : w.ownsRow b e z v n xs) (hb : Below w.heap.size w w') : w'.ownsRow b e z v n xs := by
  refine ⟨h.1, ?_⟩
  rcases h.2 with h2 | ⟨g, cap, cur, h1, h2, h3, h4⟩
  · exact .inl h2
  · exact .inr ⟨g, cap, cur, h1, h2, by rw [hb.block g (h.lt g (by rw [h1]; rfl)).2]; exact h3, h4⟩
theorem own_set {w : World} {b : Nat} {e : TypeId} {z n : Nat} {v : Value} {xs : List Value} {T o : Nat} (h : w.ownsRow b e z v n xs) (hne : v.ownBlock ≠ some T) (x : Value) : (w.setCell ⟨T, o, none⟩ x).ownsRow b e z v n xs := by
  refine ⟨h.1, ?_⟩
  rcases h.2 with h2 | ⟨g, cap, cur, h1, h2, h3, h4⟩
  · exact .inl h2
  · refine .inr ⟨g, cap, cur, h1, h2, ?_, h4⟩
    rw [Go.Deep.blk_setCell_other _ _ _ _ (fun he => hne (by have hg : g = T := he; rw [h1, hg]; rfl))]
    exact h3
/-- A slice of numbers, in memory that is there. -/
def Ints (kd : IntKind) (w : World) (A : Option Addr) (l : List Int) : Prop :=
  ∀ i, i < l.length → ∃ b off, A = some ⟨b, off, none⟩ ∧ b < w.heap.size ∧ w.cell? ⟨b, off + i, none⟩ = some (.int kd (l.getD i 0))
theorem Ints.below {kd : IntKind} {w w' : World} {A : Option Addr} {l : List Int} (h : Ints kd w A l) (hb : Below w.heap.size w w') : Ints kd w' A l := fun i hi => by
  obtain ⟨b, off, e, hl, hc⟩ := h i hi
  exact ⟨b, off, e, Nat.lt_of_lt_of_le hl hb.size, (hb.cell (p := ⟨b, off + i, none⟩) hl).trans hc⟩
theorem ints_new (kd : IntKind) (l : List Int) (t : TypeId) (w : World) : Ints kd (w.alloc (.cells (l.map (Value.int kd)).toArray t)) (some ⟨w.heap.size, 0, none⟩) l := fun i hi => by
  refine ⟨w.heap.size, 0, rfl, by simp, ?_⟩
  have := World.news_of_block (w := w.alloc (.cells (l.map (Value.int kd)).toArray t)) (cs := (l.map (Value.int kd)).toArray) (t := t) (fr := (0, 0)) (heap_alloc_new w _) i (.int kd (l.getD i 0)) (by simp [List.getD, List.getElem?_eq_getElem hi])
  have e : (⟨w.heap.size, 0, none⟩ : Addr).add i = ⟨w.heap.size, 0 + i, none⟩ := by unfold Addr.add; split <;> simp_all
  rw [e] at this
  exact this
theorem take_more (l : List Int) (k : Nat) (h : k < l.length) : l.take (k + 1) = l.take k ++ [l.getD k 0] := by
  rw [List.take_succ_eq_append_getElem h]; simp [List.getD, List.getElem?_eq_getElem h]
theorem all_more (l : List Int) (k : Nat) (h : k < l.length) (ha : (l.take k).all scal = true) (hs : scal (l.getD k 0) = true) : (l.take (k + 1)).all scal = true := by
  rw [take_more l k h, List.all_append, ha]; simp [List.getD] at hs ⊢; exact hs
/-- Numbers as a string's bytes. -/
def strB (l : List Nat) : ByteArray := strOfNums (l.map fun x : Nat => (x : Int))
theorem strB_size (l : List Nat) : (strB l).size = l.length := by simp [strB, strOfNums_size]
theorem strB_app (a b : List Nat) : strB a ++ strB b = strB (a ++ b) := by
  apply ByteArray.ext
  simp [strB, strOfNums]
theorem bs_strB (l : List Nat) (h : allB l) : bs (strB l) = l := by
  unfold bs strB
  rw [strOfNums_data, List.map_map, List.map_map]
  conv => rhs; rw [← List.map_id l]
  apply List.map_congr_left
  intro v hv
  have := h v hv
  simp
  omega
theorem str_of_bs (s : ByteArray) (l : List Nat) (h : bs s = l) : strB l = s := by
  apply ByteArray.ext
  apply Array.toList_inj.1
  unfold strB
  rw [strOfNums_data, ← h]
  unfold bs
  rw [List.map_map, List.map_map]
  conv => rhs; rw [← List.map_id s.data.toList]
  apply List.map_congr_left
  intro v _
  simp
def u8v (l : List Nat) : List Value := l.map fun x : Nat => .int .u8 (x : Int)
theorem u8v_app (a b : List Nat) : u8v (a ++ b) = u8v a ++ u8v b := by simp [u8v]
theorem run_string_own (base : Nat) (v : Value) (n : Nat) (ys : List Nat) (w : World) (h : w.ownsRow base 5 1 v n (u8v ys)) :
    (convert 92 9 v).run Tryd.prog w = .ok (.string (strB ys)) w := by
  have hl : ys.length = n := by have := h.1; simpa [u8v] using this
  rcases h.2 with ⟨rfl, rfl⟩ | ⟨g, cap, cur, rfl, hg, hh, hn, hm, hc, ht⟩
  · have : ys = [] := List.eq_nil_of_length_eq_zero hl
    subst this
    exact run_convert_bytes_nil w 92 5 Tryd.underlying92 Tryd.underlying5 0 0 9 Tryd.underlying9
  · refine run_convert_bytes_arg w 92 5 Tryd.underlying92 Tryd.underlying5 g 0 n cap (ys.map fun x : Nat => (x : Int)) (by simpa using hl) (fun i hi => ?_) 9 Tryd.underlying9
    have hi' : i < ys.length := by omega
    have := h.cells (g := g) rfl i (.int .u8 ((ys.map fun x : Nat => (x : Int)).getD i 0)) (by simp [u8v, List.getD, List.getElem?_eq_getElem hi'])
    have e : (⟨g, 0, none⟩ : Addr).add i = ⟨g, 0 + i, none⟩ := by unfold Addr.add; split <;> simp_all
    rw [e] at this
    exact this

def Strs (w : World) (A : Option Addr) (c : Nat) (xs : List ByteArray) : Prop :=
  xs = [] ∨ ∃ bk o, A = some ⟨bk, o, none⟩ ∧ bk < w.heap.size ∧ xs.length ≤ c ∧ ∀ (j : Nat) x, xs[j]? = some x → w.cell? ⟨bk, o + j, none⟩ = some (.string x)
theorem Strs.below {w w' : World} {A : Option Addr} {c : Nat} {xs : List ByteArray} (h : Strs w A c xs) (hb : Below w.heap.size w w') : Strs w' A c xs := by
  rcases h with h | ⟨bk, o, e, h1, h2, h3⟩
  · exact .inl h
  · exact .inr ⟨bk, o, e, Nat.lt_of_lt_of_le h1 hb.size, h2, fun j x hx => (hb.cell (p := ⟨bk, o + j, none⟩) h1).trans (h3 j x hx)⟩
def catB (xs : List ByteArray) : ByteArray := ⟨((xs.map (·.data.toList)).flatten).toArray⟩
theorem join_cat (xs : List (List UInt8)) : Lib.join xs [] = xs.flatten := by
  cases xs with
  | nil => rfl
  | cons x r => rw [Lib.join_cons]; simp [Lib.joinTail]
theorem catB_bs (xs : List ByteArray) : bs (catB xs) = (xs.map bs).flatten := by
  simp [bs, catB, List.map_flatten]; rfl
theorem catB_one (s : ByteArray) : catB [s] = s := by
  simp [catB]
theorem join_any (A : Option Addr) (c : Nat) (xs : List ByteArray) (w : World) (hs : Strs w A c xs) (hn : xs.length ≤ 100000) (hl : (catB xs).size ≤ 100000) :
    Calls Tryd.prog 54 #[.slice A xs.length c, .string ⟨#[]⟩] w fun e w' => e = .returned (.string (catB xs)) ∧ Below w.heap.size w w' := by
  rcases hs with rfl | ⟨bk, o, rfl, h1, h2, h3⟩
  · exact (Tryd.strings_Join_none A c ⟨#[]⟩ w).mono fun e w' ⟨he, hw⟩ => ⟨he, hw ▸ Below.refl _ _⟩
  · have hj : (Lib.join (xs.map (·.data.toList)) ((⟨#[]⟩ : ByteArray).data.toList)) = (xs.map (·.data.toList)).flatten := join_cat _
    have hz : (catB xs).size = ((xs.map (·.data.toList)).flatten).length := by simp [catB, ByteArray.size]
    have := Tryd.strings_Join bk o c xs ⟨#[]⟩ w h3 h1 (by omega) h2 (by rw [hj]; omega)
    rw [hj] at this
    exact this

def i32s (l : List Int) : List Value := l.map fun x => .int .i32 x
def flts (l : List (Nat × Nat)) : List Value := l.flatMap fun x => [.int .i64 x.1, .int .i64 x.2]
theorem i32s_app (a b : List Int) : i32s (a ++ b) = i32s a ++ i32s b := by simp [i32s]
theorem flts_app (a b : List (Nat × Nat)) : flts (a ++ b) = flts a ++ flts b := by simp [flts]
/-- Two rows of different element types lie in different blocks. -/
theorem own_apart {w : World} {b b' : Nat} {e e' : TypeId} {z z' n n' : Nat} {v v' : Value} {xs xs' : List Value} (h : w.ownsRow b e z v n xs) (h' : w.ownsRow b' e' z' v' n' xs') (hne : e ≠ e') : v.ownBlock = none ∨ v.ownBlock ≠ v'.ownBlock := by
  rcases h.2 with ⟨rfl, _⟩ | ⟨g, cap, cur, rfl, _, hg, _⟩
  · exact .inl rfl
  · right
    rcases h'.2 with ⟨rfl, _⟩ | ⟨g', cap', cur', rfl, _, hg', _⟩
    · simp [Value.ownBlock]
    · simp only [Value.ownBlock, ne_eq, Option.some.injEq]
      intro hh
      have hh' : g = g' := hh
      subst hh'
      rw [hg] at hg'
      simp at hg'
      exact hne hg'.2
theorem r_info : (Tryd.prog.info? 21).map (fun i => (i.zero, i.size, i.bytes)) = some (some (.int .i32 0), 1, 4) := by kernel_rfl
theorem f_info : (Tryd.prog.info? 50).map (fun i => (i.zero, i.size, i.bytes)) = some (some (.agg #[.int .i64 0, .int .i64 0]), 2, 16) := by kernel_rfl

/-- What a decoder answers. -/
def DecPost (w : World) (d : List Int × List (Nat × Nat) × Int) (e : Ending) (w' : World) : Prop :=
  ∃ v1 v2, e = .returned (.tuple #[v1, v2, .int .i64 d.2.2]) ∧ w'.ownsRow w.heap.size 21 1 v1 d.1.length (i32s d.1) ∧ w'.ownsRow w.heap.size 50 2 v2 d.2.1.length (flts d.2.1) ∧ Below w.heap.size w w'
theorem DecPost.mono {w w2 : World} {d : List Int × List (Nat × Nat) × Int} {e : Ending} {w' : World} (h : DecPost w2 d e w') (hb : Below w.heap.size w w2) : DecPost w d e w' := by
  obtain ⟨v1, v2, he, h1, h2, h3⟩ := h
  exact ⟨v1, v2, he, h1.mono hb.size, h2.mono hb.size, hb.trans (h3.mono hb.size)⟩
theorem own_ints {w : World} {base : Nat} {v : Value} {l : List Int} (h : w.ownsRow base 21 1 v l.length (i32s l)) : ∃ A c, v = .slice A l.length c ∧ Ints .i32 w A l := by
  rcases h.2 with ⟨hv, hn⟩ | ⟨g, cap, cur, hv, hg, hh, hn, hm, hc, ht⟩
  · exact ⟨none, 0, by rw [hv, hn], fun i hi => by omega⟩
  · refine ⟨some ⟨g, 0, none⟩, cap, hv, fun i hi => ⟨g, 0, rfl, (h.lt g (by rw [hv]; rfl)).2, ?_⟩⟩
    have := h.cells (g := g) (by rw [hv]; rfl) i (.int .i32 (l.getD i 0)) (by simp [i32s, List.getD, List.getElem?_eq_getElem hi])
    have e : (⟨g, 0, none⟩ : Addr).add i = ⟨g, 0 + i, none⟩ := by unfold Addr.add; split <;> simp_all
    rw [e] at this
    exact this

theorem take_eq_more (l m : List Int) (k : Nat) (h : l.take k = m.take k) (hl : k < l.length) (hm : k < m.length) (he : l.getD k 0 = m.getD k 0) : l.take (k + 1) = m.take (k + 1) := by
  rw [take_more l k hl, take_more m k hm, h, he]
theorem ne_of_at (l m : List Int) (k : Nat) (he : l.getD k 0 ≠ m.getD k 0) : l ≠ m := fun h => he (by rw [h])

end Go.Proofs.YthnfopjjghohcaaDoor
namespace Go.Proofs.YthnfopjjghohcaaDoor
open Go.RowKit

set_option maxRecDepth 100000 in
set_option maxHeartbeats 1000000 in
theorem runes_any (A B : Option Addr) (c d : Nat) (l m : List Int) (w : World) (hl : Ints .i32 w A l) (hm : Ints .i32 w B m) (zl : l.length ≤ 100000) (_zm : m.length ≤ 100000) :
    Calls Tryd.prog 13 #[.slice A l.length c, .slice B m.length d] w fun e w' => e = .returned (.bool (decide (l = m))) ∧ Below w.heap.size w w' := by
  have HL := Lib.hid hl
  have HM := Lib.hid hm
  clear hl hm
  by_cases hn : l.length = m.length
  · have e1 : ((l.length : Int) != (m.length : Int)) = false := by rw [hn]; simp
    have HN := Lib.hid hn
    clear hn
    go_enter Tryd.func13, Tryd.ntmps13
    go_wp2_with fail
    go_loopw [5] (fun i wr => ∃ k : Nat, i = .int .i64 k ∧ k ≤ l.length ∧ Hid (l.take k = m.take k ∧ Below w.heap.size w wr)) (fun i _ => l.length - (intOf i).toNat)
    case atStart => exact ⟨0, rfl, by omega, rfl, Below.refl _ _⟩
    case round =>
      obtain ⟨k, rfl, hk, HQ⟩ := hrel
      by_cases hlt : k < l.length
      · have hlt2 : k < m.length := by rw [← HN.out]; exact hlt
        obtain ⟨b, off, rfl, hb, hc⟩ := HL.out k hlt
        obtain ⟨b2, off2, rfl, hb2, hc2⟩ := HM.out k hlt2
        have hc' : wr.cell? ⟨b, off + k, none⟩ = some (.int .i32 (l.getD k 0)) := (HQ.out.2.cell (p := ⟨b, off + k, none⟩) hb).trans hc
        have hc2' : wr.cell? ⟨b2, off2 + k, none⟩ = some (.int .i32 (m.getD k 0)) := (HQ.out.2.cell (p := ⟨b2, off2 + k, none⟩) hb2).trans hc2
        clear hc hc2
        have g1 : (k : Int) < l.length := by omega
        have g2 : (k : Int) < m.length := by omega
        generalize hx : l.getD k 0 = x at hc'
        generalize hy : m.getD k 0 = y at hc2'
        have HX := Lib.hid hx
        have HY := Lib.hid hy
        clear hx hy
        by_cases hxy : x = y
        · subst hxy
          go_wp2_with fail
          go_quiet (fail)
          go_wp2_with fail
          go_roundw
          case rel => exact ⟨k + 1, by go_num, by omega, take_eq_more l m k HQ.out.1 hlt hlt2 (by rw [HX.out, HY.out]), bel_drewN HQ.out.2 _⟩
          case measure => simp [intOf]; omega
        · have hne : (x != y) = true := by simpa using hxy
          have HE := Lib.hid (ne_of_at l m k (by rw [HX.out, HY.out]; exact hxy))
          clear hxy
          go_wp2_with fail
          go_quiet (fail)
          go_wp2_with fail
          go_ret
          exact ⟨ret_bool (by simp [HE.out]), bel_drewN HQ.out.2 _⟩
      · have g1 : ¬ (k : Int) < l.length := by omega
        have HE : Hid (l = m) := by
          have h := HQ.out.1
          have hh := HN.out
          rw [List.take_of_length_le (by omega), List.take_of_length_le (by omega)] at h
          exact h
        go_wp2
        go_ret
        exact ⟨ret_bool (by simp [HE.out]), HQ.out.2⟩
  · have e1 : ((l.length : Int) != (m.length : Int)) = true := by simp; omega
    have HE : Hid (¬ l = m) := fun h => hn (by rw [h])
    clear hn
    go_enter Tryd.func13, Tryd.ntmps13
    go_wp2
    go_ret
    exact ⟨ret_bool (by simp [HE.out]), Below.refl _ _⟩
theorem undF : Tryd.prog.underlying 50 = some (.struct (Tryd.prog.fieldsOf 50)) := by kernel_rfl
theorem heldF : Tryd.prog.stoodInHeld 50 = false := by kernel_rfl
theorem guardF : Tryd.prog.eqGuardType Tryd.prog.depth 50 = false := by kernel_rfl
theorem neqF (a b c d : Int) (W : World) : (binOp .neq 50 (.agg #[.int .i64 a, .int .i64 b]) (.agg #[.int .i64 c, .int .i64 d])).run Tryd.prog W = .ok (.bool (!(a == c && b == d))) W := by
  have u3 := Tryd.underlying3
  have a3 := Tryd.isAgg3
  have z3 := Tryd.sizeOf3
  rw [run_neq_struct, show (10000 : Nat) = 9999 + 1 from rfl, run_equalIn_agg W 9999 50 _ _ undF heldF]
  simp only [Program.fieldsOf, Tryd.underlying50]
  go_simp
  by_cases h1 : a = c <;> by_cases h2 : b = d <;> simp [h1, h2]
theorem grdF (x y : Operand) (xs ys : Array Value) (W : World) : (eqGuard .neq 50 x y (.agg xs) (.agg ys)).run Tryd.prog W = .ok () W := run_eqGuard_agg W .neq 50 x y xs ys guardF

/-- A slice of malformed units, in memory that is there. -/
def Flts (w : World) (A : Option Addr) (l : List (Nat × Nat)) : Prop :=
  ∀ i (hi : i < l.length), ∃ b off, A = some ⟨b, off, none⟩ ∧ b < w.heap.size ∧ w.cell? ⟨b, off + i * 2, none⟩ = some (.int .i64 (l[i].1 : Int)) ∧ w.cell? ⟨b, off + i * 2 + 1, none⟩ = some (.int .i64 (l[i].2 : Int))
theorem Flts.below {w w' : World} {A : Option Addr} {l : List (Nat × Nat)} (h : Flts w A l) (hb : Below w.heap.size w w') : Flts w' A l := fun i hi => by
  obtain ⟨b, off, e, hl, hc, hd⟩ := h i hi
  exact ⟨b, off, e, Nat.lt_of_lt_of_le hl hb.size, (hb.cell (p := ⟨b, off + i * 2, none⟩) hl).trans hc, (hb.cell (p := ⟨b, off + i * 2 + 1, none⟩) hl).trans hd⟩

set_option maxRecDepth 100000 in
set_option maxHeartbeats 1000000 in
theorem faults_any (A B : Option Addr) (c d : Nat) (l m : List (Nat × Nat)) (w : World) (hl : Flts w A l) (hm : Flts w B m) (zl : l.length ≤ 100000) (_zm : m.length ≤ 100000) :
    Calls Tryd.prog 14 #[.slice A l.length c, .slice B m.length d] w fun e w' => e = .returned (.bool (decide (l = m))) ∧ Below w.heap.size w w' := by
  have HL := Lib.hid hl
  have HM := Lib.hid hm
  clear hl hm
  by_cases hn : l.length = m.length
  · have e1 : ((l.length : Int) != (m.length : Int)) = false := by rw [hn]; simp
    have HN := Lib.hid hn
    clear hn
    go_enter Tryd.func14, Tryd.ntmps14
    go_wp2_with fail
    go_loopw [5] (fun i wr => ∃ k : Nat, i = .int .i64 k ∧ k ≤ l.length ∧ Hid (l.take k = m.take k ∧ Below w.heap.size w wr)) (fun i _ => l.length - (intOf i).toNat)
    case atStart => exact ⟨0, rfl, by omega, rfl, Below.refl _ _⟩
    case round =>
      obtain ⟨k, rfl, hk, HQ⟩ := hrel
      by_cases hlt : k < l.length
      · have hlt2 : k < m.length := by rw [← HN.out]; exact hlt
        obtain ⟨b, off, rfl, hb, hc, hd⟩ := HL.out k hlt
        obtain ⟨b2, off2, rfl, hb2, hc2, hd2⟩ := HM.out k hlt2
        have hc' := (HQ.out.2.cell (p := ⟨b, off + k * 2, none⟩) hb).trans hc
        have hd' := (HQ.out.2.cell (p := ⟨b, off + k * 2 + 1, none⟩) hb).trans hd
        have hc2' := (HQ.out.2.cell (p := ⟨b2, off2 + k * 2, none⟩) hb2).trans hc2
        have hd2' := (HQ.out.2.cell (p := ⟨b2, off2 + k * 2 + 1, none⟩) hb2).trans hd2
        clear hc hc2 hd hd2
        have g1 : (k : Int) < l.length := by omega
        have g2 : (k : Int) < m.length := by omega
        generalize hx : l[k] = x at hc' hd'
        generalize hy : m[k] = y at hc2' hd2'
        have HX := Lib.hid hx
        have HY := Lib.hid hy
        clear hx hy
        obtain ⟨x1, x2⟩ := x
        obtain ⟨y1, y2⟩ := y
        have hnq := fun W => neqF (x1 : Int) x2 y1 y2 W
        have hgd := fun W => grdF (.tmp 20) (.tmp 24) #[.int .i64 (x1 : Int), .int .i64 x2] #[.int .i64 (y1 : Int), .int .i64 y2] W
        by_cases hxy : (x1, x2) = (y1, y2)
        · have hb1 : (!(((x1 : Int) == y1) && ((x2 : Int) == y2))) = false := by simp at hxy; simp [hxy]
          simp only [hb1] at hnq
          have HXY := Lib.hid hxy
          clear hxy hb1
          go_wp2_with fail
          go_quiet (fail)
          go_wp2_with fail
          go_roundw
          case rel => exact ⟨k + 1, by go_num, by omega, by rw [List.take_succ_eq_append_getElem hlt, List.take_succ_eq_append_getElem hlt2, HQ.out.1, HX.out, HY.out, HXY.out], bel_drewN HQ.out.2 _⟩
          case measure => simp [intOf]; omega
        · have hb1 : (!(((x1 : Int) == y1) && ((x2 : Int) == y2))) = true := by simp at hxy; simp; omega
          simp only [hb1] at hnq
          have HE : Hid (¬ l = m) := by
            intro h
            apply hxy
            rw [← HX.out, ← HY.out]
            subst h
            rfl
          clear hxy hb1
          go_wp2_with fail
          go_quiet (fail)
          go_wp2_with fail
          go_ret
          exact ⟨ret_bool (by simp [HE.out]), bel_drewN HQ.out.2 _⟩
      · have g1 : ¬ (k : Int) < l.length := by omega
        have HE : Hid (l = m) := by
          have h := HQ.out.1
          have hh := HN.out
          rw [List.take_of_length_le (by omega), List.take_of_length_le (by omega)] at h
          exact h
        go_wp2
        go_ret
        exact ⟨ret_bool (by simp [HE.out]), HQ.out.2⟩
  · have e1 : ((l.length : Int) != (m.length : Int)) = true := by simp; omega
    have HE : Hid (¬ l = m) := fun h => hn (by rw [h])
    clear hn
    go_enter Tryd.func14, Tryd.ntmps14
    go_wp2
    go_ret
    exact ⟨ret_bool (by simp [HE.out]), Below.refl _ _⟩

theorem flts_at : ∀ (l : List (Nat × Nat)) (i : Nat) (hi : i < l.length), (flts l)[i * 2]? = some (.int .i64 (l[i].1 : Int)) ∧ (flts l)[i * 2 + 1]? = some (.int .i64 (l[i].2 : Int))
  | x :: t, 0, _ => by simp [flts]
  | x :: t, i + 1, hi => by
    have ih := flts_at t i (by simpa using hi)
    have e : flts (x :: t) = .int .i64 (x.1 : Int) :: .int .i64 (x.2 : Int) :: flts t := by simp [flts]
    rw [e]
    have e1 : (i + 1) * 2 = (i * 2) + 1 + 1 := by omega
    rw [e1]
    simpa using ih
theorem own_flts {w : World} {base : Nat} {v : Value} {l : List (Nat × Nat)} (h : w.ownsRow base 50 2 v l.length (flts l)) : ∃ A c, v = .slice A l.length c ∧ Flts w A l := by
  rcases h.2 with ⟨hv, hn⟩ | ⟨g, cap, cur, hv, hg, hh, hn, hm, hc, ht⟩
  · exact ⟨none, 0, by rw [hv, hn], fun i hi => by omega⟩
  · refine ⟨some ⟨g, 0, none⟩, cap, hv, fun i hi => ⟨g, 0, rfl, (h.lt g (by rw [hv]; rfl)).2, ?_, ?_⟩⟩
    · have := h.cells (g := g) (by rw [hv]; rfl) (i * 2) _ (flts_at l i hi).1
      have e : (⟨g, 0, none⟩ : Addr).add (i * 2) = ⟨g, 0 + i * 2, none⟩ := by unfold Addr.add; split <;> simp_all
      rw [e] at this
      exact this
    · have := h.cells (g := g) (by rw [hv]; rfl) (i * 2 + 1) _ (flts_at l i hi).2
      have e : (⟨g, 0, none⟩ : Addr).add (i * 2 + 1) = ⟨g, 0 + i * 2 + 1, none⟩ := by unfold Addr.add; split <;> simp_all <;> omega
      rw [e] at this
      exact this
theorem strs_new (xs : List ByteArray) (t : TypeId) (w : World) (c : Nat) (hc : xs.length ≤ c) : Strs (w.alloc (.cells (xs.map Value.string).toArray t)) (some ⟨w.heap.size, 0, none⟩) c xs := by
  refine .inr ⟨w.heap.size, 0, rfl, by simp, hc, fun j x hx => ?_⟩
  have := World.news_of_block (w := w.alloc (.cells (xs.map Value.string).toArray t)) (cs := (xs.map Value.string).toArray) (t := t) (fr := (0, 0)) (heap_alloc_new w _) j (.string x) (by simp [hx])
  have e : (⟨w.heap.size, 0, none⟩ : Addr).add j = ⟨w.heap.size, 0 + j, none⟩ := by unfold Addr.add; split <;> simp_all
  rw [e] at this
  exact this
/-- Decode of parts, in a slice just made. -/
def OneP (w : World) (d : List Int × List (Nat × Nat) × Int) (e : Ending) (w' : World) : Prop :=
  ∃ A c A2 c2, e = .returned (.tuple #[.slice A d.1.length c, .slice A2 d.2.1.length c2, .int .i64 d.2.2]) ∧ w'.ownsRow w.heap.size 21 1 (.slice A d.1.length c) d.1.length (i32s d.1) ∧ w'.ownsRow w.heap.size 50 2 (.slice A2 d.2.1.length c2) d.2.1.length (flts d.2.1) ∧ Ints .i32 w' A d.1 ∧ Flts w' A2 d.2.1 ∧ Below w.heap.size w w'
theorem OneP.of {w w1 : World} {d : List Int × List (Nat × Nat) × Int} {e : Ending} {w' : World} (h : DecPost w1 d e w') (hb : Below w.heap.size w w1) : OneP w d e w' := by
  obtain ⟨v1, v2, he, h1, h2, h3⟩ := h
  obtain ⟨A, c, rfl, hi⟩ := own_ints h1
  obtain ⟨A2, c2, rfl, hf⟩ := own_flts h2
  exact ⟨A, c, A2, c2, he, h1.mono hb.size, h2.mono hb.size, hi, hf, hb.trans (h3.mono hb.size)⟩
theorem catB_two (s t : ByteArray) : catB [s, t] = s ++ t := by
  apply ByteArray.ext
  simp [catB]
theorem cat_three (s : ByteArray) (q : Nat) : catB [s.extract 0 q, ⟨#[]⟩, s.extract q s.size] = s := by
  apply ByteArray.ext
  apply Array.toList_inj.1
  show ([s.extract 0 q, ⟨#[]⟩, s.extract q s.size].map (·.data.toList)).flatten = _
  simp only [List.map_cons, List.map_nil, List.flatten_cons, List.flatten_nil, List.append_nil]
  rw [Lib.extract_data, Lib.extract_to_end]
  simp
end Go.Proofs.YthnfopjjghohcaaDoor

import Derived.Test.YtoiedhkhmdgipaaDoorJ
import Derived.Laws.BytesArg
namespace Go.Proofs.YtoiedhkhmdgipaaDoor
open Go.RowKit

theorem Tab.below {B : Nat} {w w' : World} (h : Tab w) (hb : Below B w w') (h1 : 1 ≤ B) : Tab w' := by
  have hc : ∀ o, w'.cell? ⟨0, o, none⟩ = w.cell? ⟨0, o, none⟩ := fun o => hb.cell (p := ⟨0, o, none⟩) (by show 0 < B; omega)
  exact ⟨(hc _).trans h.l1, (hc _).trans h.l2, (hc _).trans h.l3, (hc _).trans h.l4, (hc _).trans h.d1, (hc _).trans h.d2, (hc _).trans h.d3, (hc _).trans h.d4, (hc _).trans h.b1, (hc _).trans h.b2, (hc _).trans h.b3, (hc _).trans h.b4⟩
theorem Tab.pos {w : World} (h : Tab w) : 1 ≤ w.heap.size := by
  have := World.block_lt_of_cell? w _ h.l1
  exact this

/-- A slice whose elements are these numbers, in memory that is there. -/
def Ints (kd : IntKind) (w : World) (A : Option Addr) (l : List Int) : Prop :=
  ∀ i, i < l.length → ∃ b off, A = some ⟨b, off, none⟩ ∧ b < w.heap.size ∧ w.cell? ⟨b, off + i, none⟩ = some (.int kd (l.getD i 0))
theorem Ints.below {kd : IntKind} {w w' : World} {A : Option Addr} {l : List Int} (h : Ints kd w A l) (hb : Below w.heap.size w w') : Ints kd w' A l := fun i hi => by
  obtain ⟨b, off, e, hl, hc⟩ := h i hi
  exact ⟨b, off, e, Nat.lt_of_lt_of_le hl hb.size, (hb.cell (p := ⟨b, off + i, none⟩) hl).trans hc⟩

theorem run_string_own (base : Nat) (v : Value) (n : Nat) (ys : List Int) (w : World) (h : w.ownsRow base 5 1 v n (u8s ys)) :
    (convert 54 9 v).run Tryd.prog w = .ok (.string (strOfNums ys)) w := by
  have hl : ys.length = n := by have := h.1; simpa [u8s] using this
  rcases h.2 with ⟨rfl, rfl⟩ | ⟨g, cap, cur, rfl, hg, hh, hn, hm, hc, ht⟩
  · have : ys = [] := List.eq_nil_of_length_eq_zero hl
    subst this
    exact run_convert_bytes_nil w 54 5 Tryd.underlying54 Tryd.underlying5 0 0 9 Tryd.underlying9
  · refine run_convert_bytes_arg w 54 5 Tryd.underlying54 Tryd.underlying5 g 0 n cap ys hl (fun i hi => ?_) 9 Tryd.underlying9
    have := h.cells (g := g) rfl i (.int .u8 (ys.getD i 0)) (by simp [u8s, List.getD, List.getElem?_eq_getElem (show i < ys.length by omega)])
    have e : (⟨g, 0, none⟩ : Addr).add i = ⟨g, 0 + i, none⟩ := by unfold Addr.add; split <;> simp_all
    rw [e] at this
    exact this

def byL (l : List Int) : List Int := l.flatMap byI
/-- What Encode answers. -/
def encV (l : List Int) : Value := if l.all scal = true then .tuple #[.string (strOfNums (byL l)), .int .i64 0] else .tuple #[.string ⟨#[]⟩, .int .i64 11]
theorem byI_le (r : Int) : 1 ≤ (byI r).length ∧ (byI r).length ≤ 4 := by
  unfold byI; (repeat' split) <;> simp
theorem byL_le (l : List Int) : (byL l).length ≤ 4 * l.length := by
  induction l with
  | nil => simp [byL]
  | cons a t ih =>
    have := (byI_le a).2
    simp only [byL, List.flatMap_cons, List.length_append, List.length_cons] at ih ⊢
    omega
theorem take_more (l : List Int) (k : Nat) (h : k < l.length) : l.take (k + 1) = l.take k ++ [l.getD k 0] := by
  rw [List.take_succ_eq_append_getElem h]; simp [List.getD, List.getElem?_eq_getElem h]
theorem byL_more (l : List Int) (k : Nat) (h : k < l.length) : byL (l.take (k + 1)) = byL (l.take k) ++ byI (l.getD k 0) := by
  rw [take_more l k h]; simp [byL]
theorem u8s_app (a b : List Int) : u8s (a ++ b) = u8s a ++ u8s b := by simp [u8s]
theorem all_more (l : List Int) (k : Nat) (h : k < l.length) (ha : (l.take k).all scal = true) (hs : scal (l.getD k 0) = true) : (l.take (k + 1)).all scal = true := by
  rw [take_more l k h, List.all_append, ha]; simp [List.getD] at hs ⊢; exact hs
theorem encV_no (l : List Int) (k : Nat) (h : k < l.length) (hs : scal (l.getD k 0) = false) : encV l = .tuple #[.string ⟨#[]⟩, .int .i64 11] := by
  unfold encV
  rw [if_neg]
  intro ha
  rw [List.all_eq_true] at ha
  have := ha (l.getD k 0) (by simp [List.getD, List.getElem?_eq_getElem h])
  rw [hs] at this
  cases this
theorem encV_yes (l : List Int) (ha : l.all scal = true) : encV l = .tuple #[.string (strOfNums (byL l)), .int .i64 0] := by rw [encV, if_pos ha]

set_option maxRecDepth 100000 in
set_option maxHeartbeats 1000000 in
theorem encode_any (A : Option Addr) (c : Nat) (l : List Int) (w : World) (hT : Tab w) (hr : Ints .i32 w A l) (hlen : l.length ≤ 100000) :
    Calls Tryd.prog 14 #[.slice A l.length c] w fun e w' => e = .returned (encV l) ∧ Below w.heap.size w w' := by
  have hpos := hT.pos
  have HT := Lib.hid hT
  have HR := Lib.hid hr
  clear hr hT
  go_enter Tryd.func14, Tryd.ntmps14
  go_wp2_with fail
  go_loopw [4, 10] (fun out i wr => ∃ k : Nat, i = .int .i64 k ∧ k ≤ l.length ∧ Hid ((l.take k).all scal = true ∧ Below w.heap.size w wr ∧ wr.ownsRow w.heap.size 5 1 out (byL (l.take k)).length (u8s (byL (l.take k))))) (fun _ i _ => l.length - (intOf i).toNat)
  case atStart => exact ⟨0, rfl, by omega, rfl, Below.refl _ _, World.ownsRow_nil _ _ _ _⟩
  case round =>
    obtain ⟨k, rfl, hk, HQ⟩ := hrel
    have hsz := HQ.out.2.1.size
    by_cases hlt : k < l.length
    · obtain ⟨b, off, rfl, hb, hc⟩ := HR.out k hlt
      have hc' : wr.cell? ⟨b, off + k, none⟩ = some (.int .i32 (l.getD k 0)) := (HQ.out.2.1.cell (p := ⟨b, off + k, none⟩) hb).trans hc
      clear hc
      have hlt' : (k : Int) < l.length := by omega
      have HTr := Lib.hid (HT.out.below HQ.out.2.1 hpos)
      generalize hrk : l.getD k 0 = r at hc'
      have Hrk := Lib.hid hrk
      clear hrk
      cases hs : scal r
      · have hz := lenI_no hs
        have HZ := Lib.hid hz
        have HE := Lib.hid (encV_no l k hlt (by rw [Hrk.out]; exact hs))
        clear hz hs
        go_wp2_with fail
        refine (len_any _ _ HTr.out).mono ?_
        rintro e w' ⟨rfl, rfl⟩
        rw [← HZ.out]
        go_wp2_with fail
        go_ret2
        exact ⟨(congrArg Ending.returned HE.out).symm, HQ.out.2.1⟩
      · have HS := Lib.hid hs
        have hne : (lenI r == 0) = false := by rw [← lenI_yes hs]; (repeat' split) <;> rfl
        clear hs
        go_wp2_with fail
        refine (len_any _ _ HTr.out).mono ?_
        rintro e w' ⟨rfl, rfl⟩
        go_wp2_with fail
        refine (put_any w.heap.size _ _ _ _ _ HTr.out hpos hsz HQ.out.2.2 (by have := byL_le (l.take k); have := List.length_take_le k l; omega) HS.out).mono ?_
        rintro e w2 ⟨v2, rfl, hown2, hb2⟩
        have H2 := Lib.hid hown2
        have HB := Lib.hid hb2
        clear hown2 hb2
        go_wp2_with fail
        go_roundw
        case rel =>
          refine ⟨k + 1, by go_num, by omega, all_more l k hlt HQ.out.1 (by rw [Hrk.out]; exact HS.out), HQ.out.2.1.trans HB.out, ?_⟩
          rw [byL_more l k hlt, Hrk.out, u8s_app, List.length_append]
          exact H2.out
        case measure => simp [intOf]; omega
    · have hlt' : ¬ (k : Int) < l.length := by omega
      obtain rfl : k = l.length := by omega
      have hq := HQ.out
      rw [List.take_length] at hq
      have HE := Lib.hid (encV_yes l hq.1)
      have hrun := run_string_own _ _ _ _ _ hq.2.2
      have HB := Lib.hid hq.2.1
      clear hq
      go_wp2
      go_ret2
      exact ⟨(congrArg Ending.returned HE.out).symm, HB.out⟩
end Go.Proofs.YtoiedhkhmdgipaaDoor

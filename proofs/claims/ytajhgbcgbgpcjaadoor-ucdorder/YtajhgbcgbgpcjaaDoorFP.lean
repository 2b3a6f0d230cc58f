import Derived.Test.YtajhgbcgbgpcjaaDoorFK
namespace Go.Proofs.YtajhgbcgbgpcjaaDoor.Fi
open Go.RowKit

def blB (b : Nat) : Bool := b == 9 || b == 13 || b == 32
def isb (c : UInt8) : Bool := ([9, 13, 32] : List UInt8).contains c
set_option maxRecDepth 100000 in
theorem isb_blk (c : UInt8) : isb c = blB c.toNat := by
  have : ∀ y : Fin 256, isb (UInt8.ofNat y.val) = blB (UInt8.ofNat y.val).toNat := by decide +kernel
  have h := this ⟨c.toNat, c.toNat_lt⟩
  simpa using h
def lt (l : List UInt8) : List UInt8 := l.dropWhile isb
def rt (l : List UInt8) : List UInt8 := (l.reverse.dropWhile isb).reverse
theorem bareL_eq (l : List UInt8) : bareL l = lt (rt l) := rfl
theorem lt_yes {c : UInt8} {l : List UInt8} (h : isb c = true) : lt (c :: l) = lt l := by unfold lt; rw [List.dropWhile_cons, if_pos h]
theorem lt_no {c : UInt8} {l : List UInt8} (h : isb c = false) : lt (c :: l) = c :: l := by unfold lt; rw [List.dropWhile_cons, if_neg (by simp [h])]
theorem rt_yes {c : UInt8} {l : List UInt8} (h : isb c = true) : rt (l ++ [c]) = rt l := by unfold rt; rw [List.reverse_append]; simp [h]
theorem rt_no {c : UInt8} {l : List UInt8} (h : isb c = false) : rt (l ++ [c]) = l ++ [c] := by unfold rt; rw [List.reverse_append]; simp [h]
theorem rt_cons (c : UInt8) (l : List UInt8) : rt (c :: l) = if rt l = [] then (if isb c then [] else [c]) else c :: rt l := by
  unfold rt
  rw [List.reverse_cons, List.dropWhile_append]
  by_cases h : (l.reverse.dropWhile isb) = []
  · simp only [h, List.isEmpty_nil, if_true, List.reverse_nil]
    cases hc : isb c <;> simp [hc]
  · have h2 : (l.reverse.dropWhile isb).isEmpty = false := by simpa using h
    simp [h2, h]
theorem lt_rt : ∀ l : List UInt8, lt (rt l) = rt (lt l)
  | [] => rfl
  | c :: l => by
    cases hc : isb c with
    | true =>
      rw [lt_yes hc, ← lt_rt l, rt_cons]
      by_cases h : rt l = []
      · simp [h, hc, lt]
      · rw [if_neg h, lt_yes hc]
    | false =>
      rw [lt_no hc, rt_cons]
      by_cases h : rt l = []
      · simp [h, hc, lt]
      · rw [if_neg h, lt_no hc]
theorem bareL_rt (l : List UInt8) : bareL l = rt (lt l) := by rw [bareL_eq, lt_rt]
theorem lst_last (s : ByteArray) (n : Nat) (h : s.size = n + 1) (hn : n < s.size) : s.data.toList = (s.extract 0 n).data.toList ++ [s[n]] := by
  rw [Lib.extract_from_zero]
  have e := List.take_append_drop n s.data.toList
  rw [lst_at s n hn, lst_end s (n + 1) (by omega)] at e
  exact e.symm
theorem ext0_size (s : ByteArray) (n : Nat) (h : n ≤ s.size) : (s.extract 0 n).size = n := by
  rw [← lst_len, Lib.extract_from_zero, List.length_take, lst_len]; omega
theorem ext1_size (s : ByteArray) (n : Nat) : (s.extract n s.size).size = s.size - n := by
  rw [← lst_len, Lib.extract_to_end, List.length_drop, lst_len]
theorem take_on (s : ByteArray) (k : Nat) (h : k < s.size) : s.data.toList.take (k + 1) = s.data.toList.take k ++ [s[k]] := by
  rw [List.take_succ_eq_append_getElem (by simpa using h)]; rfl
theorem blB_blk (b : Nat) : blB b = blk b := rfl
theorem ext_one (s : ByteArray) (k : Nat) (h : k < s.size) : (s.extract k (k + 1)).data.toList = [s[k]] := by
  rw [Lib.extract_data, lst_at s k h, show k + 1 - k = 1 by omega]; rfl
theorem app_lst (s t : ByteArray) : (s ++ t).data.toList = s.data.toList ++ t.data.toList := by simp
def svs (l : List (List UInt8)) : List Value := l.map fun x => .string ⟨x.toArray⟩
theorem svs_app (a b : List (List UInt8)) : svs (a ++ b) = svs a ++ svs b := by simp [svs]
theorem s_info : (Tryd.prog.info? 9).map (fun i => (i.zero, i.size, i.bytes)) = some (some (.string ⟨#[]⟩), 1, 16) := by kernel_rfl
theorem str_mk (t : ByteArray) : (⟨t.data.toList.toArray⟩ : ByteArray) = t := rfl
def CutP (w : World) (l : List (List UInt8)) (e : Ending) (w' : World) : Prop := ∃ v, e = .returned v ∧ w'.ownsRow w.heap.size 9 1 v l.length (svs l) ∧ Below w.heap.size w w'
/-- A row of strings: its slice, and what its cells hold. -/
theorem own_svs {w : World} {b : Nat} {v : Value} {l : List (List UInt8)} (h : w.ownsRow b 9 1 v l.length (svs l)) (h0 : l ≠ []) : ∃ g cap, v = .slice (some ⟨g, 0, none⟩) l.length cap ∧ b ≤ g ∧ g < w.heap.size ∧ l.length ≤ cap ∧ ∀ (j : Nat) (hj : j < l.length), w.cell? ⟨g, j, none⟩ = some (.string ⟨(l[j]).toArray⟩) := by
  rcases h.2 with ⟨_, hn⟩ | ⟨g, cap, cur, hv, hg, hh, hn, hm, hc, ht⟩
  · exact absurd (List.eq_nil_of_length_eq_zero hn) h0
  · refine ⟨g, cap, hv, hg, (h.lt g (by rw [hv]; rfl)).2, hn, fun j hj => ?_⟩
    have := h.cells (g := g) (by rw [hv]; rfl) j (.string ⟨(l[j]).toArray⟩) (by simp [svs, List.getElem?_eq_getElem hj])
    have e : (⟨g, 0, none⟩ : Addr).add j = ⟨g, j, none⟩ := by unfold Addr.add; split <;> simp_all
    rw [e] at this
    exact this

end Go.Proofs.YtajhgbcgbgpcjaaDoor.Fi

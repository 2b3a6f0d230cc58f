import Derived.Test.YtajhgbcgbgpcjaaDoorFI
namespace Go.Proofs.YtajhgbcgbgpcjaaDoor.Fi
open Go.RowKit

theorem cut_hit {b : UInt8} {l t : List UInt8} (h : t.isPrefixOf (b :: l) = true) : Lib.cut (b :: l) t = ([], (b :: l).drop t.length, true) := by
  have e : Lib.index (b :: l) t = 0 := by rw [Lib.index, if_pos h]
  simp [Lib.cut, e]
theorem cut_skip {b : UInt8} {l t : List UInt8} (h : t.isPrefixOf (b :: l) = false) : Lib.cut (b :: l) t = if (Lib.cut l t).2.2 then (b :: (Lib.cut l t).1, (Lib.cut l t).2.1, true) else (b :: l, [], false) := by
  have hge := Lib.index_ge l t
  have e : Lib.index (b :: l) t = if Lib.index l t == -1 then -1 else Lib.index l t + 1 := by rw [Lib.index, h]; simp
  by_cases hm : Lib.index l t = -1
  · rw [hm] at e
    simp [Lib.cut, e, hm]
  · have h0 : 0 ≤ Lib.index l t := by omega
    rw [if_neg (by simpa using hm)] at e
    obtain ⟨j, hj⟩ : ∃ j : Nat, Lib.index l t = j := ⟨(Lib.index l t).toNat, by omega⟩
    rw [hj] at e
    have c1 : Lib.cut l t = (l.take j, l.drop (j + t.length), true) := by
      unfold Lib.cut
      rw [hj, if_pos (by omega), show (j : Int).toNat = j by omega]
    have c2 : Lib.cut (b :: l) t = ((b :: l).take (j + 1), (b :: l).drop (j + 1 + t.length), true) := by
      unfold Lib.cut
      rw [e, if_pos (by omega), show ((j : Int) + 1).toNat = j + 1 by omega]
    rw [c1, c2, show j + 1 + t.length = (j + t.length) + 1 by omega]
    simp
theorem cut_nil {t : List UInt8} (h : t ≠ []) : Lib.cut [] t = ([], [], false) := by
  have e : Lib.index [] t = -1 := by
    cases t with
    | nil => exact absurd rfl h
    | cons a t => rfl
  simp [Lib.cut, e]
theorem cut_miss {l t : List UInt8} (h : (Lib.cut l t).2.2 = false) : (Lib.cut l t).1 = l ∧ (Lib.cut l t).2.1 = [] := by
  unfold Lib.cut at *
  split at h
  · cases h
  · rename_i hh
    rw [if_neg hh]
    exact ⟨rfl, rfl⟩
/-- What stands between bytes; ahead: what stands so far. -/
def spl (c : UInt8) : List UInt8 → List UInt8 → List (List UInt8)
  | cur, [] => [cur]
  | cur, b :: l => if b = c then cur :: spl c [] l else spl c (cur ++ [b]) l
theorem pre_one (c b : UInt8) (l : List UInt8) : [c].isPrefixOf (b :: l) = decide (b = c) := by
  by_cases h : b = c
  · subst h; simp [List.isPrefixOf]
  · simp [List.isPrefixOf, h, Ne.symm h]
theorem spl_cut (c : UInt8) : ∀ (l cur : List UInt8), spl c cur l = if (Lib.cut l [c]).2.2 then (cur ++ (Lib.cut l [c]).1) :: spl c [] (Lib.cut l [c]).2.1 else [cur ++ l]
  | [], cur => by rw [cut_nil (by simp)]; simp [spl]
  | b :: l, cur => by
    by_cases h : b = c
    · rw [cut_hit (by rw [pre_one]; simpa using h), spl, if_pos h]
      simp
    · rw [cut_skip (by rw [pre_one]; simpa using h), spl, if_neg h, spl_cut c l (cur ++ [b])]
      cases (Lib.cut l [c]).2.2 <;> simp
theorem spl_len (c : UInt8) : ∀ (l cur : List UInt8), (spl c cur l).length = l.count c + 1
  | [], cur => by simp [spl]
  | b :: l, cur => by
    by_cases h : b = c
    · rw [spl, if_pos h, List.length_cons, spl_len c l []]
      subst h
      rw [List.count_cons_self]
    · rw [spl, if_neg h, spl_len c l _, List.count_cons_of_ne h]
theorem spl_ne (c : UInt8) (cur l : List UInt8) : spl c cur l ≠ [] := by
  intro h
  have := congrArg List.length h
  rw [spl_len] at this
  simp at this
/-- The lines that tell something, with their numbers, or the error. -/
def lnsW : Nat → List (Nat × List UInt8) → List (List UInt8) → List (Nat × List UInt8) × Int
  | _, acc, [] => (acc, 0)
  | no, acc, x :: r => if 512 < x.length then ([], 10) else if toldL x = [] then lnsW (no + 1) acc r else lnsW (no + 1) (acc ++ [(no, toldL x)]) r
def linE (l : List UInt8) : List (Nat × List UInt8) × Int := if 4096 < (spl 10 [] l).length then ([], 14) else lnsW 1 [] (spl 10 [] l)
theorem lnsW_long {no : Nat} {acc : List (Nat × List UInt8)} {x : List UInt8} {r : List (List UInt8)} (h : 512 < x.length) : lnsW no acc (x :: r) = ([], 10) := by rw [lnsW, if_pos h]
theorem lnsW_mute {no : Nat} {acc : List (Nat × List UInt8)} {x : List UInt8} {r : List (List UInt8)} (h : ¬ 512 < x.length) (h2 : toldL x = []) : lnsW no acc (x :: r) = lnsW (no + 1) acc r := by rw [lnsW, if_neg h, if_pos h2]
theorem lnsW_told {no : Nat} {acc : List (Nat × List UInt8)} {x : List UInt8} {r : List (List UInt8)} (h : ¬ 512 < x.length) (h2 : toldL x ≠ []) : lnsW no acc (x :: r) = lnsW (no + 1) (acc ++ [(no, toldL x)]) r := by rw [lnsW, if_neg h, if_neg h2]
/-- What is left of a text's lines: none, if there is no more. -/
def rest (m : Bool) (t : List UInt8) : List (List UInt8) := if m then spl 10 [] t else []
theorem rest_cut (t : List UInt8) : rest true t = (Lib.cut t [10]).1 :: rest (Lib.cut t [10]).2.2 (Lib.cut t [10]).2.1 := by
  unfold rest
  rw [if_pos rfl, spl_cut]
  cases h : (Lib.cut t [10]).2.2 with
  | true => simp
  | false => rw [(cut_miss h).1]; simp
def lnV (l : List (Nat × List UInt8)) : List Value := l.flatMap fun x => [.int .i64 x.1, .string ⟨x.2.toArray⟩]
theorem lnV_app (a b : List (Nat × List UInt8)) : lnV (a ++ b) = lnV a ++ lnV b := by simp [lnV]
theorem ln_info : (Tryd.prog.info? 46).map (fun i => (i.zero, i.size, i.bytes)) = some (some (.agg #[.int .i64 0, .string ⟨#[]⟩]), 2, 24) := by kernel_rfl
def LinP (w : World) (x : List (Nat × List UInt8) × Int) (e : Ending) (w' : World) : Prop := ∃ v, e = .returned (.tuple #[v, .int .i64 x.2]) ∧ w'.ownsRow w.heap.size 46 2 v x.1.length (lnV x.1) ∧ Below w.heap.size w w'
structure LnR (w wr : World) (X M : Nat) (t : ByteArray) (m : Bool) (out : Value) (no : Nat) (os : List (Nat × List UInt8)) (tot : List (Nat × List UInt8) × Int) : Prop where
  bel : Below w.heap.size w wr
  ox : One wr X (.string t) 9
  om : One wr M (.bool m) 4
  own : wr.ownsRow w.heap.size 46 2 out os.length (lnV os)
  len : os.length < no
  tot : lnsW no os (rest m t.data.toList) = tot
theorem tk_bel {w wr w' : World} {X M : Nat} {t r : ByteArray} {f : Bool} (h : Tk wr w' X M t r f) (hb : Below w.heap.size w wr) (hX : w.heap.size ≤ X) (hM : w.heap.size ≤ M) : Below w.heap.size w w' := by
  obtain ⟨n, rfl⟩ := h.eq
  exact ((bel_drewN hb n).setCell hX _).setCell hM _
theorem tk_x {wr w' : World} {X M : Nat} {t r t0 : ByteArray} {f : Bool} (h : Tk wr w' X M t r f) (hX : One wr X (.string t0) 9) (hne : X ≠ M) : One w' X (.string r) 9 := by
  obtain ⟨n, rfl⟩ := h.eq
  exact ((hX.drew n).set _).other hne _
theorem tk_m {wr w' : World} {X M : Nat} {t r : ByteArray} {f : Bool} {v : Value} (h : Tk wr w' X M t r f) (hM : One wr M v 4) (hne : X ≠ M) : One w' M (.bool f) 4 := by
  obtain ⟨n, rfl⟩ := h.eq
  exact ((hM.drew n).other (Ne.symm hne) _).set _
theorem tk_own {wr w' : World} {X M : Nat} {t r : ByteArray} {f : Bool} {b e z n : Nat} {v : Value} {xs : List Value} (h : Tk wr w' X M t r f) (ho : wr.ownsRow b e z v n xs) (h1 : v.ownBlock ≠ some X) (h2 : v.ownBlock ≠ some M) : w'.ownsRow b e z v n xs := by
  obtain ⟨n, rfl⟩ := h.eq
  exact own_set (own_set (own_drew ho n) h1 _) h2 _
theorem tk_size {wr w' : World} {X M : Nat} {t r : ByteArray} {f : Bool} (h : Tk wr w' X M t r f) : w'.heap.size = wr.heap.size := by
  obtain ⟨n, rfl⟩ := h.eq
  rw [Go.Deep.nblk_setCell, Go.Deep.nblk_setCell]
  rfl

end Go.Proofs.YtajhgbcgbgpcjaaDoor.Fi

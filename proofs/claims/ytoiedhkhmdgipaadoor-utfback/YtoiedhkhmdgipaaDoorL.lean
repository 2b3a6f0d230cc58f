import Derived.Test.YtoiedhkhmdgipaaDoorK
import Derived.Test.YtoiedhkhmdgipaaDoorSh
namespace Go.Proofs.YtoiedhkhmdgipaaDoor
open Go.RowKit

/-! What Next answers lies within bounds. -/
theorem ex_bd (l : List Nat) (h : l ≠ []) : ∃ n : Nat, (ex l).2.1 = n ∧ 1 ≤ n ∧ n ≤ l.length ∧ n ≤ 4 ∧ ((ex l).2.2 = 0 ∨ (ex l).2.2 = 17 ∨ (ex l).2.2 = 18) ∧ ((ex l).2.2 = 18 → n = l.length) ∧ ((ex l).2.2 ≠ 0 → n ≤ 3) := by
  match l, h with
  | [b0], _ =>
    simp only [ex]
    (repeat' split) <;> exact ⟨_, rfl, by simp⟩
  | [b0, b1], _ =>
    simp only [ex]
    (repeat' split) <;> first | exact ⟨1, rfl, by simp⟩ | exact ⟨2, rfl, by simp⟩
  | [b0, b1, b2], _ =>
    simp only [ex]
    (repeat' split) <;> first | exact ⟨1, rfl, by simp⟩ | exact ⟨2, rfl, by simp⟩ | exact ⟨3, rfl, by simp⟩
  | b0 :: b1 :: b2 :: b3 :: t, _ =>
    simp only [ex]
    (repeat' split) <;> first | exact ⟨1, rfl, by simp⟩ | exact ⟨2, rfl, by simp⟩ | exact ⟨3, rfl, by simp⟩ | exact ⟨4, rfl, by simp⟩

/-- What bytes decode to: the characters, the malformed units, and the error. Behind 'f' steps at the most. -/
def decF (pol : Int) : Nat → Nat → List Nat → List Int × List (Nat × Nat) × Int
  | 0, _, _ => ([], [], 0)
  | f + 1, k, l =>
    if l = [] then ([], [], 0)
    else if (nx l).2.2 = 0 then
      ((nx l).1 :: (decF pol f (k + (nx l).2.1.toNat) (l.drop (nx l).2.1.toNat)).1, (decF pol f (k + (nx l).2.1.toNat) (l.drop (nx l).2.1.toNat)).2)
    else if pol = 1 then ([], [(k, (nx l).2.1.toNat)], 17)
    else ((if pol = 2 then [65533] else []) ++ (decF pol f (k + (nx l).2.1.toNat) (l.drop (nx l).2.1.toNat)).1, (k, (nx l).2.1.toNat) :: (decF pol f (k + (nx l).2.1.toNat) (l.drop (nx l).2.1.toNat)).2.1, (decF pol f (k + (nx l).2.1.toNat) (l.drop (nx l).2.1.toNat)).2.2)
def dec (pol : Int) (k : Nat) (l : List Nat) : List Int × List (Nat × Nat) × Int := decF pol l.length k l

theorem nx_step (l : List Nat) (h : l ≠ []) : ∃ r e : Int, ∃ n : Nat, nx l = (r, (n : Int), e) ∧ 1 ≤ n ∧ n ≤ l.length ∧ n ≤ 4 ∧ (e = 0 ∨ e = 17 ∨ e = 18) ∧ (e = 18 → n = l.length) ∧ (e ≠ 0 → n ≤ 3) := by
  obtain ⟨n, h1, h2⟩ := ex_bd l h
  exact ⟨(ex l).1, (ex l).2.2, n, by rw [nx_ex, ← h1], h2⟩

theorem decF_same (pol : Int) : ∀ (m f : Nat) (k : Nat) (l : List Nat), l.length ≤ m → l.length ≤ f → decF pol f k l = decF pol l.length k l := by
  intro m
  induction m with
  | zero =>
    intro f k l hm hf
    have : l = [] := List.eq_nil_of_length_eq_zero (by omega)
    subst this
    cases f <;> simp [decF]
  | succ m ih =>
    intro f k l hm hf
    by_cases hl : l = []
    · subst hl
      cases f <;> simp [decF]
    obtain ⟨r, e, n, hx, h1, h2, h3, h4, h5⟩ := nx_step l hl
    have hp : 0 < l.length := List.length_pos_iff.2 hl
    obtain ⟨f, rfl⟩ : ∃ g, f = g + 1 := ⟨f - 1, by omega⟩
    obtain ⟨g, hg⟩ : ∃ g, l.length = g + 1 := ⟨l.length - 1, by omega⟩
    have hd : (l.drop n).length ≤ m := by rw [List.length_drop]; omega
    have e1 := ih f (k + n) (l.drop n) hd (by rw [List.length_drop]; omega)
    have e2 := ih g (k + n) (l.drop n) hd (by rw [List.length_drop]; omega)
    rw [hg]
    simp only [decF, hl, hx, Int.toNat_natCast, e1, e2]

theorem dec_nil (pol : Int) (k : Nat) : dec pol k [] = ([], [], 0) := rfl
theorem dec_ok (pol : Int) (k : Nat) (l : List Nat) (hl : l ≠ []) (r : Int) (n : Nat) (hx : nx l = (r, (n : Int), 0)) (h1 : 1 ≤ n) : dec pol k l = (r :: (dec pol (k + n) (l.drop n)).1, (dec pol (k + n) (l.drop n)).2) := by
  have hp : 0 < l.length := List.length_pos_iff.2 hl
  obtain ⟨g, hg⟩ : ∃ g, l.length = g + 1 := ⟨l.length - 1, by omega⟩
  have e2 := decF_same pol (l.drop n).length g (k + n) (l.drop n) (Nat.le_refl _) (by rw [List.length_drop]; omega)
  unfold dec
  rw [hg]
  simp only [decF, hl, hx, Int.toNat_natCast, e2]
  simp
theorem dec_bad1 (k : Nat) (l : List Nat) (hl : l ≠ []) (r e : Int) (n : Nat) (hx : nx l = (r, (n : Int), e)) (he : e ≠ 0) : dec 1 k l = ([], [(k, n)], 17) := by
  have hp : 0 < l.length := List.length_pos_iff.2 hl
  obtain ⟨g, hg⟩ : ∃ g, l.length = g + 1 := ⟨l.length - 1, by omega⟩
  unfold dec
  rw [hg]
  simp [decF, hl, hx, he]
theorem dec_bad (pol : Int) (hpol : pol ≠ 1) (k : Nat) (l : List Nat) (hl : l ≠ []) (r e : Int) (n : Nat) (hx : nx l = (r, (n : Int), e)) (he : e ≠ 0) (h1 : 1 ≤ n) :
    dec pol k l = ((if pol = 2 then [65533] else []) ++ (dec pol (k + n) (l.drop n)).1, (k, n) :: (dec pol (k + n) (l.drop n)).2.1, (dec pol (k + n) (l.drop n)).2.2) := by
  have hp : 0 < l.length := List.length_pos_iff.2 hl
  obtain ⟨g, hg⟩ : ∃ g, l.length = g + 1 := ⟨l.length - 1, by omega⟩
  have e2 := decF_same pol (l.drop n).length g (k + n) (l.drop n) (Nat.le_refl _) (by rw [List.length_drop]; omega)
  unfold dec
  rw [hg]
  simp only [decF, hl, hx, Int.toNat_natCast, e2]
  simp [he, hpol]

/-! A slice of strings, and what Join makes of it. -/
def Strs (w : World) (A : Option Addr) (c : Nat) (xs : List ByteArray) : Prop :=
  xs = [] ∨ ∃ bk o, A = some ⟨bk, o, none⟩ ∧ bk < w.heap.size ∧ xs.length ≤ c ∧ ∀ (j : Nat) x, xs[j]? = some x → w.cell? ⟨bk, o + j, none⟩ = some (.string x)
theorem Strs.below {w w' : World} {A : Option Addr} {c : Nat} {xs : List ByteArray} (h : Strs w A c xs) (hb : Below w.heap.size w w') : Strs w' A c xs := by
  rcases h with h | ⟨bk, o, e, h1, h2, h3⟩
  · exact .inl h
  · exact .inr ⟨bk, o, e, Nat.lt_of_lt_of_le h1 hb.size, h2, fun j x hx => (hb.cell (p := ⟨bk, o + j, none⟩) h1).trans (h3 j x hx)⟩
def catB (xs : List ByteArray) : ByteArray := ⟨((xs.map (·.data.toList)).flatten).toArray⟩
theorem join_cat (xs : List (List UInt8)) : Lib.join xs [] = xs.flatten := by
  cases xs with
  | nil => rfl
  | cons x r => rw [Lib.join_cons]; simp [Lib.joinTail]
theorem catB_bs (xs : List ByteArray) : bs (catB xs) = (xs.map bs).flatten := by
  simp [bs, catB, List.map_flatten]; rfl
theorem catB_one (s : ByteArray) : catB [s] = s := by
  simp [catB]
theorem join_any (A : Option Addr) (c : Nat) (xs : List ByteArray) (w : World) (hs : Strs w A c xs) (hn : xs.length ≤ 100000) (hl : (catB xs).size ≤ 100000) :
    Calls Tryd.prog 29 #[.slice A xs.length c, .string ⟨#[]⟩] w fun e w' => e = .returned (.string (catB xs)) ∧ Below w.heap.size w w' := by
  rcases hs with rfl | ⟨bk, o, rfl, h1, h2, h3⟩
  · exact (Tryd.strings_Join_none A c ⟨#[]⟩ w).mono fun e w' ⟨he, hw⟩ => ⟨he, hw ▸ Below.refl _ _⟩
  · have hj : (Lib.join (xs.map (·.data.toList)) ((⟨#[]⟩ : ByteArray).data.toList)) = (xs.map (·.data.toList)).flatten := join_cat _
    have hz : (catB xs).size = ((xs.map (·.data.toList)).flatten).length := by simp [catB, ByteArray.size]
    have := Tryd.strings_Join bk o c xs ⟨#[]⟩ w h3 h1 (by omega) h2 (by rw [hj]; omega)
    rw [hj] at this
    exact this

theorem bs_from (s : ByteArray) (k : Nat) : bs (s.extract k s.size) = (bs s).drop k := by
  unfold bs
  rw [Lib.extract_to_end, List.map_drop]
theorem ext_from (s : ByteArray) (k : Nat) : (s.extract k s.size).size = s.size - k := by
  have := bs_len (s.extract k s.size)
  rw [bs_from, List.length_drop, bs_len] at this
  omega
theorem next_from (s : ByteArray) (k : Nat) (w : World) (hT : Tab w) (hs : s.size ≤ 100000) (r e : Int) (n : Nat) (hx : nx ((bs s).drop k) = (r, (n : Int), e)) :
    Calls Tryd.prog 12 #[.string (s.extract k s.size)] w fun v w' => v = .returned (.tuple #[.int .i32 r, .int .i64 n, .int .i64 e]) ∧ w = w' := by
  have := next_any (s.extract k s.size) w hT (by rw [ext_from]; omega)
  rw [bs_from, hx] at this
  exact this
theorem rnext_from (s : ByteArray) (k : Nat) (w : World) (hs : s.size ≤ 100000) (r e : Int) (n : Nat) (hx : nx ((bs s).drop k) = (r, (n : Int), e)) :
    Calls Tryd.prog 13 #[.string (s.extract k s.size)] w fun v w' => v = .returned (.tuple #[.int .i32 r, .int .i64 n, .int .i64 e]) ∧ w = w' := by
  have := rnext_any (s.extract k s.size) w (by rw [ext_from]; omega)
  rw [bs_from, hx] at this
  exact this

def i32s (l : List Int) : List Value := l.map fun x => .int .i32 x
def flts (l : List (Nat × Nat)) : List Value := l.flatMap fun x => [.int .i64 x.1, .int .i64 x.2]
theorem i32s_app (a b : List Int) : i32s (a ++ b) = i32s a ++ i32s b := by simp [i32s]
theorem flts_app (a b : List (Nat × Nat)) : flts (a ++ b) = flts a ++ flts b := by simp [flts]
/-- Two rows of different element types lie in different blocks. -/
theorem own_apart {w : World} {b b' : Nat} {e e' : TypeId} {z z' n n' : Nat} {v v' : Value} {xs xs' : List Value} (h : w.ownsRow b e z v n xs) (h' : w.ownsRow b' e' z' v' n' xs') (hne : e ≠ e') : v.ownBlock = none ∨ v.ownBlock ≠ v'.ownBlock := by
  rcases h.2 with ⟨rfl, _⟩ | ⟨g, cap, cur, rfl, _, hg, _⟩
  · exact .inl rfl
  · right
    rcases h'.2 with ⟨rfl, _⟩ | ⟨g', cap', cur', rfl, _, hg', _⟩
    · simp [Value.ownBlock]
    · simp only [Value.ownBlock, ne_eq, Option.some.injEq]
      intro hh
      have hh' : g = g' := hh
      subst hh'
      rw [hg] at hg'
      simp at hg'
      exact hne hg'.2
end Go.Proofs.YtoiedhkhmdgipaaDoor

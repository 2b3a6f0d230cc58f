import Derived.Test.YtajhgbcgbgpcjaaDoorFG
namespace Go.Proofs.YtajhgbcgbgpcjaaDoor.Fi
open Go.RowKit

/-- The bytes that pairs of digits tell, each behind the text 'a'. -/
def bytR (a : List UInt8) : Nat → List UInt8 → List UInt8 → Option (List UInt8)
  | _, out, [] => some out
  | 0, _, _ :: _ => none
  | f + 1, out, c :: l =>
    if (c :: l).length < a.length + 2 then none
    else match digs 16 2 (((c :: l).drop a.length).take 2) with
      | none => none
      | some n => if a.isPrefixOf (c :: l) then bytR a f (out ++ [n.toUInt8]) ((c :: l).drop (a.length + 2)) else none
def bytE (a l : List UInt8) : List UInt8 × Int := if l = [] then ([], 10) else match bytR a l.length [] l with
  | none => ([], 10)
  | some o => (o, 0)
theorem bytR_nil (a out : List UInt8) (f : Nat) : bytR a f out [] = some out := by cases f <;> rfl
theorem bytR_short {a out l : List UInt8} {f : Nat} (h0 : l ≠ []) (h : l.length < a.length + 2) : bytR a f out l = none := by
  cases l with
  | nil => exact absurd rfl h0
  | cons c l => cases f with
    | zero => rfl
    | succ f => rw [bytR, if_pos h]
theorem bytR_bad {a out l : List UInt8} {f : Nat} (h0 : l ≠ []) (h : digs 16 2 ((l.drop a.length).take 2) = none) : bytR a f out l = none := by
  cases l with
  | nil => exact absurd rfl h0
  | cons c l => cases f with
    | zero => rfl
    | succ f => rw [bytR]; split; rfl; rw [h]
theorem bytR_no {a out l : List UInt8} {f : Nat} (h0 : l ≠ []) (h : a.isPrefixOf l = false) : bytR a f out l = none := by
  cases l with
  | nil => exact absurd rfl h0
  | cons c l => cases f with
    | zero => rfl
    | succ f =>
      rw [bytR]
      split
      · rfl
      · split
        · rfl
        · rw [h]; rfl
theorem bytR_ok {a out l : List UInt8} {f n : Nat} (h0 : l ≠ []) (h1 : ¬ l.length < a.length + 2) (h2 : digs 16 2 ((l.drop a.length).take 2) = some n) (h : a.isPrefixOf l = true) : bytR a (f + 1) out l = bytR a f (out ++ [n.toUInt8]) (l.drop (a.length + 2)) := by
  cases l with
  | nil => exact absurd rfl h0
  | cons c l =>
    rw [bytR, if_neg h1, h2]
    simp only [h, if_true]
theorem bytR_rem {a : List UInt8} : ∀ (f : Nat) (out l : List UInt8), l.length % (a.length + 2) ≠ 0 → bytR a f out l = none
  | f, out, [], h => absurd (by simp) h
  | 0, out, c :: l, h => rfl
  | f + 1, out, c :: l, h => by
    by_cases h1 : (c :: l).length < a.length + 2
    · exact bytR_short (by simp) h1
    · cases h2 : digs 16 2 (((c :: l).drop a.length).take 2) with
      | none => exact bytR_bad (by simp) h2
      | some n =>
        cases h3 : a.isPrefixOf (c :: l) with
        | false => exact bytR_no (by simp) h3
        | true =>
          rw [bytR_ok (by simp) h1 h2 h3]
          apply bytR_rem
          rw [List.length_drop]
          intro h4
          apply h
          have : (c :: l).length = ((c :: l).length - (a.length + 2)) + (a.length + 2) := by omega
          rw [this, Nat.add_mod_right]
          exact h4
def u8v (l : List UInt8) : List Value := l.map fun x : UInt8 => .int .u8 (x.toNat : Int)
theorem u8v_app (a b : List UInt8) : u8v (a ++ b) = u8v a ++ u8v b := by simp [u8v]
theorem u8_info : (Tryd.prog.info? 5).map (fun i => (i.zero, i.size, i.bytes)) = some (some (.int .u8 0), 1, 1) := by kernel_rfl
theorem nums_str (l : List UInt8) : strOfNums (l.map fun x : UInt8 => (x.toNat : Int)) = ⟨l.toArray⟩ := by
  apply str_eq
  rw [strOfNums_data, List.map_map]
  conv => rhs; rw [lst_mk, ← List.map_id l]
  apply List.map_congr_left
  intro v _
  simp
theorem run_string_own (base : Nat) (v : Value) (n : Nat) (ys : List UInt8) (w : World) (h : w.ownsRow base 5 1 v n (u8v ys)) :
    (convert 80 9 v).run Tryd.prog w = .ok (.string ⟨ys.toArray⟩) w := by
  have hl : ys.length = n := by have := h.1; simpa [u8v] using this
  rcases h.2 with ⟨rfl, rfl⟩ | ⟨g, cap, cur, rfl, hg, hh, hn, hm, hc, ht⟩
  · have : ys = [] := List.eq_nil_of_length_eq_zero hl
    subst this
    exact run_convert_bytes_nil w 80 5 Tryd.underlying80 Tryd.underlying5 0 0 9 Tryd.underlying9
  · have := run_convert_bytes_arg w 80 5 Tryd.underlying80 Tryd.underlying5 g 0 n cap (ys.map fun x : UInt8 => (x.toNat : Int)) (by simpa using hl) (fun i hi => ?_) 9 Tryd.underlying9
    · rw [nums_str] at this
      exact this
    have hi' : i < ys.length := by omega
    have := h.cells (g := g) rfl i (.int .u8 ((ys.map fun x : UInt8 => (x.toNat : Int)).getD i 0)) (by simp [u8v, List.getD, List.getElem?_eq_getElem hi'])
    have e : (⟨g, 0, none⟩ : Addr).add i = ⟨g, 0 + i, none⟩ := by unfold Addr.add; split <;> simp_all
    rw [e] at this
    exact this
def bytV (x : List UInt8 × Int) : Value := .tuple #[.string ⟨x.1.toArray⟩, .int .i64 x.2]
theorem bytE_none {a l : List UInt8} (h : bytR a l.length [] l = none) : bytE a l = ([], 10) := by unfold bytE; split; rfl; rw [h]
theorem bytE_some {a l o : List UInt8} (h0 : l ≠ []) (h : bytR a l.length [] l = some o) : bytE a l = (o, 0) := by unfold bytE; rw [if_neg h0, h]
structure ByR (w wr : World) (a : List UInt8) (out : Value) (os : List UInt8) (f : Nat) (l : List UInt8) (tot : Option (List UInt8)) : Prop where
  bel : Below w.heap.size w wr
  own : wr.ownsRow w.heap.size 5 1 out os.length (u8v os)
  len : os.length + l.length ≤ 100000
  fl : l.length ≤ f
  tot : bytR a f os l = tot
theorem rem_no {x y : Nat} (h : x % (y + 2) = 0) : ((x : Int) % ((y : Int) + 2) != 0) = false := by
  have e : ((x : Int) % ((y : Int) + 2)) = ((x % (y + 2) : Nat) : Int) := by push_cast; rfl
  rw [e, h]; rfl
theorem rem_yes {x y : Nat} (h : ¬ x % (y + 2) = 0) : ((x : Int) % ((y : Int) + 2) != 0) = true := by
  have e : ((x : Int) % ((y : Int) + 2)) = ((x % (y + 2) : Nat) : Int) := by push_cast; rfl
  rw [e]
  generalize x % (y + 2) = z at h
  simpa using h
theorem lst_ne {s : ByteArray} (h : 0 < s.size) : s.data.toList ≠ [] := by
  intro hh
  have := lst_len s
  rw [hh] at this
  simp at this
  omega

end Go.Proofs.YtajhgbcgbgpcjaaDoor.Fi

import Derived.Test.YthnfopjjghohcaaDoorGU1
import Derived.Test.YthnfopjjghohcaaDoorGU2
namespace Go.Proofs.YthnfopjjghohcaaDoor.U8
open Go.RowKit

/-- A character's bytes. -/
def byI (r : Int) : List Int :=
  if r ≤ 127 then [r] else if r ≤ 2047 then [192 + r / 64, 128 + r % 64] else if r ≤ 65535 then [224 + r / 4096, 128 + r / 64 % 64, 128 + r % 64] else [240 + r / 262144, 128 + r / 4096 % 64, 128 + r / 64 % 64, 128 + r % 64]
def u8s (l : List Int) : List Value := l.map fun x => .int .u8 x

def byL (l : List Int) : List Int := l.flatMap byI
theorem byI_le (r : Int) : 1 ≤ (byI r).length ∧ (byI r).length ≤ 4 := by
  unfold byI; (repeat' split) <;> simp
theorem byL_le (l : List Int) : (byL l).length ≤ 4 * l.length := by
  induction l with
  | nil => simp [byL]
  | cons a t ih =>
    have := (byI_le a).2
    simp only [byL, List.flatMap_cons, List.length_append, List.length_cons] at ih ⊢
    omega
theorem byL_more (l : List Int) (k : Nat) (h : k < l.length) : byL (l.take (k + 1)) = byL (l.take k) ++ byI (l.getD k 0) := by
  rw [take_more l k h]; simp [byL]
theorem u8s_app (a b : List Int) : u8s (a ++ b) = u8s a ++ u8s b := by simp [u8s]
end Go.Proofs.YthnfopjjghohcaaDoor.U8
namespace Go.Proofs.YthnfopjjghohcaaDoor.U8
open Go.RowKit

def natL (l : List Int) : List Nat := l.map Int.toNat
def isB (l : List Int) : Prop := ∀ v ∈ l, 0 ≤ v ∧ v < 256
theorem byI_B (r : Int) (h : scal r = true) : isB (byI r) := by
  obtain ⟨h0, h1⟩ := scal_bd h
  intro v hv
  unfold byI at hv
  (repeat' split at hv) <;> simp at hv <;> omega
theorem byL_B (l : List Int) (h : l.all scal = true) : isB (byL l) := by
  intro v hv
  simp only [byL, List.mem_flatMap] at hv
  obtain ⟨r, hr, hv⟩ := hv
  exact byI_B r (List.all_eq_true.1 h r hr) v hv
theorem bs_str (l : List Int) (h : isB l) : bs (strOfNums l) = natL l := by
  unfold bs natL
  rw [strOfNums_data, List.map_map]
  apply List.map_congr_left
  intro v hv
  have := h v hv
  simp
  omega
theorem natL_app (a b : List Int) : natL (a ++ b) = natL a ++ natL b := by simp [natL]
theorem natL_len (a : List Int) : (natL a).length = a.length := by simp [natL]
/-- A string is the bytes that it is. -/
theorem str_of_bs (s : ByteArray) (l : List Int) (h : bs s = natL l) : strOfNums l = s := by
  apply ByteArray.ext
  apply Array.toList_inj.1
  rw [strOfNums_data]
  have h1 : (natL l).map UInt8.ofNat = (bs s).map UInt8.ofNat := by rw [h]
  simp only [natL, bs, List.map_map] at h1
  have h2 : (s.data.toList.map (UInt8.ofNat ∘ UInt8.toNat)) = s.data.toList := by
    conv => rhs; rw [← List.map_id s.data.toList]
    apply List.map_congr_left
    intro v _
    simp
  rw [h2] at h1
  rw [← h1]
  rfl

theorem nx_by (r : Int) (h : scal r = true) (t : List Nat) : nx (natL (byI r) ++ t) = (r, ((byI r).length : Int), 0) := by
  have hs := h
  obtain ⟨h0, h1⟩ := scal_bd h
  simp [scal] at hs
  rw [nx_ex]
  unfold byI
  by_cases c1 : r ≤ 127
  · rw [if_pos c1]
    have e := fsz_1 (r.toNat : Int) (by omega)
    simp only [natL, List.map_cons, List.map_nil, List.cons_append, List.nil_append, ex, e.1]
    simp; omega
  rw [if_neg c1]
  by_cases c2 : r ≤ 2047
  · rw [if_pos c2]
    have e := fsz_2 ((192 + r / 64).toNat : Int) (by omega) (by omega)
    have hl : lo1 (192 + r / 64).toNat = 128 := by unfold lo1; (repeat' split) <;> omega
    have hh : hi1 (192 + r / 64).toNat = 192 := by unfold hi1; (repeat' split) <;> omega
    simp only [natL, List.map_cons, List.map_nil, List.cons_append, List.nil_append, ex, e.1, e.2, hl, hh]
    rw [if_neg (by omega), if_neg (by omega), if_neg (by omega), if_pos trivial]
    simp; omega
  rw [if_neg c2]
  by_cases c3 : r ≤ 65535
  · rw [if_pos c3]
    have e := fsz_3 ((224 + r / 4096).toNat : Int) (by omega) (by omega)
    have hl : lo1 (224 + r / 4096).toNat ≤ (128 + r / 64 % 64).toNat := by unfold lo1; (repeat' split) <;> omega
    have hh : (128 + r / 64 % 64).toNat < hi1 (224 + r / 4096).toNat := by unfold hi1; (repeat' split) <;> omega
    simp only [natL, List.map_cons, List.map_nil, List.cons_append, List.nil_append, ex, e.1, e.2]
    rw [if_neg (by omega), if_neg (by omega), if_neg (by omega), if_neg (by omega), if_neg (by omega), if_pos trivial]
    simp; omega
  rw [if_neg c3]
  have e := fsz_4 ((240 + r / 262144).toNat : Int) (by omega) (by omega)
  have hl : lo1 (240 + r / 262144).toNat ≤ (128 + r / 4096 % 64).toNat := by unfold lo1; (repeat' split) <;> omega
  have hh : (128 + r / 4096 % 64).toNat < hi1 (240 + r / 262144).toNat := by unfold hi1; (repeat' split) <;> omega
  simp only [natL, List.map_cons, List.map_nil, List.cons_append, List.nil_append, ex, e.1, e.2]
  rw [if_neg (by omega), if_neg (by omega), if_neg (by omega), if_neg (by omega), if_neg (by omega), if_neg (by omega), if_neg (by omega)]
  simp; omega

set_option maxRecDepth 20000 in
theorem nx_back (l : List Nat) (r : Int) (n : Nat) (h : nx l = (r, (n : Int), 0)) : scal r = true ∧ l.take n = natL (byI r) ∧ (byI r).length = n := by
  rw [nx_ex] at h
  match l with
  | [] => simp [ex] at h
  | b0 :: t =>
    rcases parts b0 with c | ⟨c, c'⟩ | ⟨c, c'⟩ | ⟨c, c'⟩ | c
    · simp only [ex, (fsz_1 b0 c).1] at h
      simp at h
      obtain ⟨rfl, h2⟩ := h
      obtain rfl : n = 1 := by omega
      refine ⟨by simp [scal]; omega, ?_, ?_⟩ <;> simp [byI, natL, show (b0 : Int) ≤ 127 by omega]
    · obtain ⟨e1, e2⟩ := fsz_2 b0 c c'
      have hl : lo1 b0 = 128 := by unfold lo1; (repeat' split) <;> omega
      have hh : hi1 b0 = 192 := by unfold hi1; (repeat' split) <;> omega
      match t with
      | [] => simp [ex, e1] at h
      | b1 :: t =>
        by_cases hc : 128 ≤ b1 ∧ b1 < 192
        · simp [ex, e1, e2, hl, hh, hc] at h
          obtain ⟨rfl, h2⟩ := h
          obtain rfl : n = 2 := by omega
          have hb : byI (((b0 : Int) - 192) * 64 + ((b1 : Int) - 128)) = [(b0 : Int), b1] := by
            unfold byI; rw [if_neg (by omega), if_pos (by omega)]; simp; omega
          refine ⟨by simp [scal]; omega, ?_, ?_⟩ <;> simp [hb, natL]
        · simp [ex, e1, hl, hh, hc] at h
    · obtain ⟨e1, e2⟩ := fsz_3 b0 c c'
      match t with
      | [] => simp [ex, e1] at h
      | b1 :: t =>
        by_cases hc : lo1 b0 ≤ b1 ∧ b1 < hi1 b0
        · have hb1 := okr b0 b1 hc
          have hd : (b0 = 224 → 160 ≤ b1) ∧ (b0 = 237 → b1 < 160) := by unfold lo1 hi1 at hc; (repeat' split at hc) <;> omega
          match t with
          | [] => simp [ex, e1, hc] at h
          | b2 :: t =>
            by_cases hc2 : 128 ≤ b2 ∧ b2 < 192
            · simp [ex, e1, e2, hc, hc2] at h
              obtain ⟨rfl, h2⟩ := h
              obtain rfl : n = 3 := by omega
              have hb : byI ((((b0 : Int) - 224) * 64 + ((b1 : Int) - 128)) * 64 + ((b2 : Int) - 128)) = [(b0 : Int), b1, b2] := by
                unfold byI; rw [if_neg (by omega), if_neg (by omega), if_pos (by omega)]; simp; omega
              refine ⟨by simp [scal]; omega, ?_, ?_⟩ <;> simp [hb, natL]
            · simp [ex, e1, hc, hc2] at h
        · simp [ex, e1, hc] at h
    · obtain ⟨e1, e2⟩ := fsz_4 b0 c c'
      match t with
      | [] => simp [ex, e1] at h
      | b1 :: t =>
        by_cases hc : lo1 b0 ≤ b1 ∧ b1 < hi1 b0
        · have hb1 := okr b0 b1 hc
          have hd : (b0 = 240 → 144 ≤ b1) ∧ (b0 = 244 → b1 < 144) := by unfold lo1 hi1 at hc; (repeat' split at hc) <;> omega
          match t with
          | [] => simp [ex, e1, hc] at h
          | b2 :: t =>
            by_cases hc2 : 128 ≤ b2 ∧ b2 < 192
            · match t with
              | [] => simp [ex, e1, hc, hc2] at h
              | b3 :: t =>
                by_cases hc3 : 128 ≤ b3 ∧ b3 < 192
                · simp [ex, e1, e2, hc, hc2, hc3] at h
                  obtain ⟨rfl, h2⟩ := h
                  obtain rfl : n = 4 := by omega
                  have hb : byI (((((b0 : Int) - 240) * 64 + ((b1 : Int) - 128)) * 64 + ((b2 : Int) - 128)) * 64 + ((b3 : Int) - 128)) = [(b0 : Int), b1, b2, b3] := by
                    unfold byI; rw [if_neg (by omega), if_neg (by omega), if_neg (by omega)]; simp; omega
                  refine ⟨by simp [scal]; omega, ?_, ?_⟩ <;> simp [hb, natL]
                · simp [ex, e1, hc, hc2, hc3] at h
            · simp [ex, e1, hc, hc2] at h
        · simp [ex, e1, hc] at h
    · simp [ex, (fsz_0 b0 c).1] at h

theorem byL_cons (r : Int) (l : List Int) : byL (r :: l) = byI r ++ byL l := by simp [byL]
/-- Decode of Encode is the characters. -/
theorem dec_enc (k : Nat) : ∀ (l : List Int), l.all scal = true → dec 1 k (natL (byL l)) = (l, [], 0)
  | [], _ => rfl
  | r :: l, h => by
    simp only [List.all_cons, Bool.and_eq_true] at h
    have hn := (byI_le r).1
    have hx := nx_by r h.1 (natL (byL l))
    rw [byL_cons, natL_app]
    rw [dec_ok 1 k _ (by intro e; have := congrArg List.length e; simp [natL_len] at this; simp [this.1] at hn) r (byI r).length hx hn]
    have hd : (natL (byI r) ++ natL (byL l)).drop (byI r).length = natL (byL l) := by
      rw [← natL_len (byI r), List.drop_left]
    rw [hd, dec_enc (k + (byI r).length) l h.2]

/-- What Decode by Strict leaves: its characters' bytes are the bytes ahead of the first malformed unit. -/
structure BackP (k : Nat) (l : List Nat) (d : List Int × List (Nat × Nat) × Int) : Prop where
  sc : d.1.all scal = true
  ok : d.2.2 = 0 → d.2.1 = [] ∧ natL (byL d.1) = l
  bad : d.2.2 ≠ 0 → d.2.2 = 17 ∧ ∃ n, d.2.1 = [(k + (byL d.1).length, n)] ∧ 1 ≤ n ∧ n ≤ 3 ∧ (byL d.1).length + n ≤ l.length ∧ natL (byL d.1) = l.take (byL d.1).length
theorem dec_back : ∀ (m k : Nat) (l : List Nat), l.length ≤ m → BackP k l (dec 1 k l) := by
  intro m
  induction m with
  | zero =>
    intro k l hl
    have : l = [] := List.eq_nil_of_length_eq_zero (by omega)
    subst this
    exact ⟨rfl, fun _ => ⟨rfl, rfl⟩, fun h => absurd rfl h⟩
  | succ m ih =>
    intro k l hl
    by_cases hne : l = []
    · subst hne
      exact ⟨rfl, fun _ => ⟨rfl, rfl⟩, fun h => absurd rfl h⟩
    obtain ⟨r, e, n, hx, h1, h2, h3, h4, h5, h6⟩ := nx_step l hne
    by_cases he : e = 0
    · subst he
      rw [dec_ok 1 k l hne r n hx h1]
      obtain ⟨hsc, htk, hln⟩ := nx_back l r n hx
      have hI := ih (k + n) (l.drop n) (by rw [List.length_drop]; omega)
      generalize dec 1 (k + n) (l.drop n) = d at hI
      refine ⟨by simp [hsc, hI.sc], fun hz => ?_, fun hz => ?_⟩
      · obtain ⟨a, b⟩ := hI.ok hz
        refine ⟨a, ?_⟩
        show natL (byL (r :: d.1)) = l
        rw [byL_cons, natL_app, b, ← htk, List.take_append_drop]
      · obtain ⟨a, x, b, c1, c2, c3, c4⟩ := hI.bad hz
        rw [List.length_drop] at c3
        refine ⟨a, x, ?_, c1, c2, ?_, ?_⟩
        · show d.2.1 = [(k + (byL (r :: d.1)).length, x)]
          rw [b, byL_cons, List.length_append, hln]
          simp; omega
        · show (byL (r :: d.1)).length + x ≤ l.length
          rw [byL_cons, List.length_append, hln]
          omega
        · show natL (byL (r :: d.1)) = l.take (byL (r :: d.1)).length
          rw [byL_cons, natL_app, List.length_append, hln, c4, ← htk]
          rw [List.take_add]
    · rw [dec_bad1 k l hne r e n hx he]
      exact ⟨rfl, fun h => by simp at h, fun _ => ⟨rfl, n, rfl, h1, h6 he, by simpa [byL] using h2, by simp [byL, natL]⟩⟩
theorem dec_back0 (l : List Nat) : BackP 0 l (dec 1 0 l) := dec_back l.length 0 l (Nat.le_refl _)

/-- Where all are characters nothing is a beginning that is not whole. -/
theorem no_inc : ∀ (m k : Nat) (l : List Nat), l.length ≤ m → (dec 1 k l).2.2 = 0 → ∀ j, ¬ Inc l j := by
  intro m
  induction m with
  | zero =>
    intro k l hl _ j hj
    have := hj.1
    omega
  | succ m ih =>
    intro k l hl h j hj
    by_cases hne : l = []
    · subst hne
      have := hj.1
      simp at this
    obtain ⟨r, e, n, hx, h1, h2, h3, h4, h5, h6⟩ := nx_step l hne
    by_cases he : e = 0
    · subst he
      rw [dec_ok 1 k l hne r n hx h1] at h
      rcases Nat.lt_or_ge j n with hjn | hjn
      · rcases Nat.eq_zero_or_pos j with rfl | hp
        · have := hj.2
          rw [List.drop_zero, hx] at this
          simp at this
        · exact inc_in (k := 0) (by rw [List.drop_zero]; exact hx) hp (by omega) hj
      · refine ih (k + n) (l.drop n) (by rw [List.length_drop]; omega) h (j - n) ⟨?_, ?_⟩
        · rw [List.length_drop]; have := hj.1; omega
        · rw [List.drop_drop, show n + (j - n) = j by omega]; exact hj.2
    · rw [dec_bad1 k l hne r e n hx he] at h
      simp at h
theorem cut_whole (l : List Nat) (h : (dec 1 0 l).2.2 = 0) : cutN l = l.length := by
  rcases cutN_form l with ⟨h1, _⟩ | h1
  · exact h1
  · exact absurd h1 (no_inc l.length 0 l (Nat.le_refl _) h _)
end Go.Proofs.YthnfopjjghohcaaDoor.U8
namespace Go.Proofs.YthnfopjjghohcaaDoor.U8
open Go.RowKit

theorem dec_err (pol : Int) (hp : pol ≠ 1) : ∀ (m k : Nat) (l : List Nat), l.length ≤ m → (dec pol k l).2.2 = 0 := by
  intro m
  induction m with
  | zero =>
    intro k l hl
    have : l = [] := List.eq_nil_of_length_eq_zero (by omega)
    subst this
    simp [dec_nil]
  | succ m ih =>
    intro k l hl
    by_cases hne : l = []
    · subst hne
      simp [dec_nil]
    obtain ⟨r, e, n, hx, h1, h2, h3, h4, h5, h6⟩ := nx_step l hne
    have hI := ih (k + n) (l.drop n) (by rw [List.length_drop]; omega)
    by_cases he : e = 0
    · subst he
      rw [dec_ok pol k l hne r n hx h1]
      exact hI
    · rw [dec_bad pol hp k l hne r e n hx he h1]
      exact hI
theorem dec_two_three : ∀ (m k : Nat) (l : List Nat), l.length ≤ m → (dec 2 k l).2.1 = (dec 3 k l).2.1 ∧ (dec 2 k l).1.length = (dec 3 k l).1.length + (dec 2 k l).2.1.length := by
  intro m
  induction m with
  | zero =>
    intro k l hl
    have : l = [] := List.eq_nil_of_length_eq_zero (by omega)
    subst this
    simp [dec_nil]
  | succ m ih =>
    intro k l hl
    by_cases hne : l = []
    · subst hne
      simp [dec_nil]
    obtain ⟨r, e, n, hx, h1, h2, h3, h4, h5, h6⟩ := nx_step l hne
    have hI := ih (k + n) (l.drop n) (by rw [List.length_drop]; omega)
    by_cases he : e = 0
    · subst he
      rw [dec_ok 2 k l hne r n hx h1, dec_ok 3 k l hne r n hx h1]
      simp only [List.length_cons]
      exact ⟨hI.1, by omega⟩
    · rw [dec_bad 2 (by decide) k l hne r e n hx he h1, dec_bad 3 (by decide) k l hne r e n hx he h1]
      simp
      exact ⟨hI.1, by omega⟩
theorem dec_from (pol : Int) : ∀ (m k : Nat) (l : List Nat), l.length ≤ m → ∀ x ∈ (dec pol k l).2.1, k ≤ x.1 ∧ x.1 + x.2 ≤ k + l.length := by
  intro m
  induction m with
  | zero =>
    intro k l hl
    have : l = [] := List.eq_nil_of_length_eq_zero (by omega)
    subst this
    simp [dec_nil]
  | succ m ih =>
    intro k l hl x hx'
    by_cases hne : l = []
    · subst hne
      simp [dec_nil] at hx'
    obtain ⟨r, e, n, hx, h1, h2, h3, h4, h5, h6⟩ := nx_step l hne
    have hI := ih (k + n) (l.drop n) (by rw [List.length_drop]; omega) x
    rw [List.length_drop] at hI
    by_cases he : e = 0
    · subst he
      rw [dec_ok pol k l hne r n hx h1] at hx'
      have := hI hx'
      omega
    · by_cases hp : pol = 1
      · subst hp
        rw [dec_bad1 k l hne r e n hx he] at hx'
        simp at hx'
        subst hx'
        simp
        omega
      · rw [dec_bad pol hp k l hne r e n hx he h1] at hx'
        simp only [List.mem_cons] at hx'
        rcases hx' with rfl | hx'
        · simp; omega
        · have := hI hx'
          omega
theorem dec_shift (pol : Int) : ∀ (m k j : Nat) (l : List Nat), l.length ≤ m → dec pol (j + k) l = ((dec pol k l).1, (dec pol k l).2.1.map (fun x => (j + x.1, x.2)), (dec pol k l).2.2) := by
  intro m
  induction m with
  | zero =>
    intro k j l hl
    have : l = [] := List.eq_nil_of_length_eq_zero (by omega)
    subst this
    simp [dec_nil]
  | succ m ih =>
    intro k j l hl
    by_cases hne : l = []
    · subst hne
      simp [dec_nil]
    obtain ⟨r, e, n, hx, h1, h2, h3, h4, h5, h6⟩ := nx_step l hne
    have hI := ih (k + n) j (l.drop n) (by rw [List.length_drop]; omega)
    rw [← Nat.add_assoc] at hI
    by_cases he : e = 0
    · subst he
      rw [dec_ok pol (j + k) l hne r n hx h1, dec_ok pol k l hne r n hx h1, hI]
    · by_cases hp : pol = 1
      · subst hp
        rw [dec_bad1 (j + k) l hne r e n hx he, dec_bad1 k l hne r e n hx he]
        simp
      · rw [dec_bad pol hp (j + k) l hne r e n hx he h1, dec_bad pol hp k l hne r e n hx he h1, hI]
        simp
set_option maxRecDepth 20000 in
theorem ex_app (s t : List Nat) (hs : s ≠ []) (h : (ex s).2.2 ≠ 18) : ex (s ++ t) = ex s := by
  match s, hs with
  | [b0], _ =>
    simp only [ex, List.cons_append, List.nil_append] at h ⊢
    by_cases c1 : fsz b0 = 0
    · simp [c1]
    by_cases c2 : fsz b0 = 1
    · simp [c2]
    simp [c1, c2] at h
  | [b0, b1], _ =>
    simp only [ex, List.cons_append, List.nil_append] at h ⊢
    by_cases c1 : fsz b0 = 0
    · simp [c1]
    by_cases c2 : fsz b0 = 1
    · simp [c2]
    by_cases c3 : lo1 b0 ≤ b1 ∧ b1 < hi1 b0
    · by_cases c4 : fsz b0 = 2
      · simp [c3, c4]
      simp [c1, c2, c3, c4] at h
    simp [c1, c2, c3]
  | [b0, b1, b2], _ =>
    simp only [ex, List.cons_append, List.nil_append] at h ⊢
    by_cases c1 : fsz b0 = 0
    · simp [c1]
    by_cases c2 : fsz b0 = 1
    · simp [c2]
    by_cases c3 : lo1 b0 ≤ b1 ∧ b1 < hi1 b0
    · by_cases c4 : fsz b0 = 2
      · simp [c3, c4]
      by_cases c5 : 128 ≤ b2 ∧ b2 < 192
      · by_cases c6 : fsz b0 = 3
        · simp [c3, c5, c6]
        simp [c1, c2, c3, c4, c5, c6] at h
      simp [c1, c2, c3, c4, c5]
    simp [c1, c2, c3]
  | b0 :: b1 :: b2 :: b3 :: u, _ => simp only [ex, List.cons_append]
/-- Of bytes that do not end with a beginning that is not whole, and others behind them. -/
theorem dec_app (pol : Int) (hp : pol ≠ 1) (t : List Nat) : ∀ (m k : Nat) (s : List Nat), s.length ≤ m → (∀ j, ¬ Inc s j) →
    dec pol k (s ++ t) = ((dec pol k s).1 ++ (dec pol (k + s.length) t).1, (dec pol k s).2.1 ++ (dec pol (k + s.length) t).2.1, 0) := by
  intro m
  induction m with
  | zero =>
    intro k s hl _
    have : s = [] := List.eq_nil_of_length_eq_zero (by omega)
    subst this
    have := dec_err pol hp t.length k t (Nat.le_refl _)
    simp [dec_nil]
    rw [← this]
  | succ m ih =>
    intro k s hl hI
    by_cases hne : s = []
    · subst hne
      have := dec_err pol hp t.length k t (Nat.le_refl _)
      simp [dec_nil]
      rw [← this]
    obtain ⟨r, e, n, hx, h1, h2, h3, h4, h5, h6⟩ := nx_step s hne
    have he18 : e ≠ 18 := fun h => hI 0 ⟨List.length_pos_iff.2 hne, by rw [List.drop_zero, hx]; exact h⟩
    have hx2 : nx (s ++ t) = (r, (n : Int), e) := by
      rw [nx_ex] at hx ⊢
      rw [ex_app s t hne (by rw [hx]; exact he18), hx]
    have hne2 : s ++ t ≠ [] := by simp [hne]
    have hd : (s ++ t).drop n = s.drop n ++ t := List.drop_append_of_le_length h2
    have hIn : ∀ j, ¬ Inc (s.drop n) j := fun j hj => hI (n + j) ⟨by have := hj.1; rw [List.length_drop] at this; omega, by rw [← List.drop_drop]; exact hj.2⟩
    have hr := ih (k + n) (s.drop n) (by rw [List.length_drop]; omega) hIn
    rw [List.length_drop, show k + n + (s.length - n) = k + s.length by omega] at hr
    by_cases he : e = 0
    · subst he
      rw [dec_ok pol k _ hne2 r n hx2 h1, dec_ok pol k s hne r n hx h1, hd, hr]
      simp
    · rw [dec_bad pol hp k _ hne2 r e n hx2 he h1, dec_bad pol hp k s hne r e n hx he h1, hd, hr]
      simp
theorem no_inc_of_cut (l : List Nat) (h : cutN l = l.length) : ∀ j, ¬ Inc l j := by
  rcases cutN_form l with ⟨_, h1⟩ | h1
  · exact h1
  · have := h1.1; omega
/-- The law's join. -/
theorem dec_join (s t : List Nat) (h : cutN s = s.length) : dec 2 0 (s ++ t) = ((dec 2 0 s).1 ++ (dec 2 0 t).1, (dec 2 0 s).2.1 ++ (dec 2 0 t).2.1.map (fun x => (s.length + x.1, x.2)), 0) := by
  rw [dec_app 2 (by decide) t s.length 0 s (Nat.le_refl _) (no_inc_of_cut s h), Nat.zero_add]
  have := dec_shift 2 t.length 0 s.length t (Nat.le_refl _)
  rw [Nat.add_zero] at this
  rw [this]
end Go.Proofs.YthnfopjjghohcaaDoor.U8

import Derived.Test.YtajhgbcgbgpcjaaDoorFB
namespace Go.Proofs.YtajhgbcgbgpcjaaDoor.Fi
open Go.RowKit

/-- What the library asks of its own variable: it holds some number. -/
def Ml (w : World) : Prop := ∃ m : Int, w.cell? ⟨0, 0, none⟩ = some (.int .i64 m)
theorem Ml.pos {w : World} (h : Ml w) : 0 < w.heap.size := by
  obtain ⟨m, hm⟩ := h
  exact World.block_lt_of_cell? w _ hm
theorem Ml.below {w w' : World} {B : Nat} (h : Ml w) (hb : Below B w w') (hB : 0 < B) : Ml w' := by
  obtain ⟨m, hm⟩ := h
  exact ⟨m, (hb.cell (p := ⟨0, 0, none⟩) hB).trans hm⟩
theorem Ml.on {w w' : World} (h : Ml w) (hb : Below w.heap.size w w') : Ml w' := h.below hb h.pos
theorem lst_mk (l : List UInt8) : (⟨l.toArray⟩ : ByteArray).data.toList = l := by simp
theorem size_mk (l : List UInt8) : (⟨l.toArray⟩ : ByteArray).size = l.length := by simp [ByteArray.size]

theorem dgs_lt {base X : Nat} : ∀ {l : List UInt8} {n m : Nat}, dgs base n l = some m → n < X → m < X * base ^ l.length
  | [], n, m, h, hn => by simp [dgs] at h; subst h; simpa using hn
  | c :: l, n, m, h, hn => by
    unfold dgs at h
    split at h
    · rename_i hd
      have := dgs_lt (X := X * base) h (by
        have : (n + 1) * base ≤ X * base := Nat.mul_le_mul_right _ hn
        rw [Nat.add_mul] at this
        omega)
      rw [List.length_cons, Nat.pow_succ, Nat.mul_comm (base ^ l.length) base, ← Nat.mul_assoc]
      exact this
    · cases h
theorem digs_lt {base most n : Nat} {l : List UInt8} (hb : 1 ≤ base) (h : digs base most l = some n) : n < base ^ most := by
  unfold digs at h
  split at h
  · cases h
  · rename_i hl
    have := dgs_lt (X := 1) h (by omega)
    rw [Nat.one_mul] at this
    exact Nat.lt_of_lt_of_le this (Nat.pow_le_pow_right hb (by omega))

/-- The character that hex digits tell, and the error. -/
def hexE (l : List UInt8) : Int × Int := match digs 16 6 l with
  | none => (0, 10)
  | some n => if scal (n : Int) then ((n : Int), 0) else (0, 11)
theorem hexE_none {l : List UInt8} (h : digs 16 6 l = none) : hexE l = (0, 10) := by unfold hexE; rw [h]
theorem hexE_no {l : List UInt8} {n : Nat} (h : digs 16 6 l = some n) (hs : scal (n : Int) = false) : hexE l = (0, 11) := by unfold hexE; rw [h]; simp [hs]
theorem hexE_yes {l : List UInt8} {n : Nat} (h : digs 16 6 l = some n) (hs : scal (n : Int) = true) : hexE l = ((n : Int), 0) := by unfold hexE; rw [h]; simp [hs]
def reV (x : Int × Int) : Value := .tuple #[.int .i32 x.1, .int .i64 x.2]
theorem hexE_cases (l : List UInt8) : (hexE l).2 = 0 ∧ scal (hexE l).1 = true ∨ (hexE l).1 = 0 ∧ ((hexE l).2 = 10 ∨ (hexE l).2 = 11) := by
  unfold hexE
  split
  · right; simp
  · split
    · left; simp [*]
    · right; simp

set_option maxHeartbeats 1000000 in
theorem hex_any (s : ByteArray) (w : World) (hs : s.size ≤ 9223372036854775807) :
    Calls Tryd.prog 36 #[.string s] w fun e w' => e = .returned (reV (hexE s.data.toList)) ∧ Below w.heap.size w w' := by
  have HD := Lib.hid (digits16 s 6 w (by omega) hs)
  cases h : digs 16 6 s.data.toList with
  | none =>
    have H := Lib.hid (hexE_none h)
    have hd := HD.out
    rw [h, ← numV_no] at hd
    have HD := Lib.hid hd
    clear hd h
    go_enter Tryd.func36, Tryd.ntmps36
    go_wp2_with (go_at_call 62; refine HD.out.mono ?_; rintro e w' ⟨rfl, hb⟩; have B := Lib.hid hb; clear hb)
    go_ret2
    exact ⟨ret_eq (by rw [H.out]; rfl), B.out⟩
  | some n =>
    have hn := digs_lt (by omega) h
    have hn2 : n < 16777216 := hn
    have hd := HD.out
    rw [h, ← numV_yes] at hd
    have HD := Lib.hid hd
    clear hd hn
    cases hs : scal (n : Int) with
    | false =>
      have H := Lib.hid (hexE_no h hs)
      have HS := Lib.hid hs
      clear h hs
      go_enter Tryd.func36, Tryd.ntmps36
      go_wp2_with (first
        | (go_at_call 62; refine HD.out.mono ?_; rintro e w' ⟨rfl, hb⟩; have B := Lib.hid hb; clear hb)
        | (go_at_call 15; refine (scalar_any _ _).mono ?_; rw [HS.out]; rintro e w' ⟨rfl, rfl⟩))
      go_ret2
      exact ⟨ret_eq (by rw [H.out]; rfl), B.out⟩
    | true =>
      have H := Lib.hid (hexE_yes h hs)
      have HS := Lib.hid hs
      clear h hs
      go_enter Tryd.func36, Tryd.ntmps36
      go_wp2_with (first
        | (go_at_call 62; refine HD.out.mono ?_; rintro e w' ⟨rfl, hb⟩; have B := Lib.hid hb; clear hb)
        | (go_at_call 15; refine (scalar_any _ _).mono ?_; rw [HS.out]; rintro e w' ⟨rfl, rfl⟩))
      go_ret2
      exact ⟨ret_eq (by rw [H.out]; rfl), B.out⟩

/-- The number that decimal digits tell, and the error. -/
def nmE (l : List UInt8) : Int × Int := match digs 10 5 l with
  | none => (0, 10)
  | some n => ((n : Int), 0)
def niV (x : Int × Int) : Value := .tuple #[.int .i64 x.1, .int .i64 x.2]
set_option maxHeartbeats 1000000 in
theorem number_any (s : ByteArray) (w : World) (hs : s.size ≤ 9223372036854775807) :
    Calls Tryd.prog 37 #[.string s] w fun e w' => e = .returned (niV (nmE s.data.toList)) ∧ Below w.heap.size w w' := by
  have HD := Lib.hid (digits10 s 5 w (by omega) hs)
  cases h : digs 10 5 s.data.toList with
  | none =>
    have H := Lib.hid (show nmE s.data.toList = (0, 10) by unfold nmE; rw [h])
    have hd := HD.out
    rw [h, ← numV_no] at hd
    have HD := Lib.hid hd
    clear hd h
    go_enter Tryd.func37, Tryd.ntmps37
    go_wp2_with (go_at_call 62; refine HD.out.mono ?_; rintro e w' ⟨rfl, hb⟩; have B := Lib.hid hb; clear hb)
    go_ret2
    exact ⟨ret_eq (by rw [H.out]; rfl), B.out⟩
  | some n =>
    have H := Lib.hid (show nmE s.data.toList = ((n : Int), 0) by unfold nmE; rw [h])
    have hd := HD.out
    rw [h, ← numV_yes] at hd
    have HD := Lib.hid hd
    clear hd h
    go_enter Tryd.func37, Tryd.ntmps37
    go_wp2_with (go_at_call 62; refine HD.out.mono ?_; rintro e w' ⟨rfl, hb⟩; have B := Lib.hid hb; clear hb)
    go_ret2
    exact ⟨ret_eq (by rw [H.out]; rfl), B.out⟩

/-- Without the blanks at its ends. -/
def bareL (l : List UInt8) : List UInt8 := Lib.trimS l [9, 13, 32]
theorem bareL_le (l : List UInt8) : (bareL l).length ≤ l.length := by
  unfold bareL Lib.trimS Lib.trimLeftS Lib.trimRightS
  have h1 := (List.dropWhile_sublist (fun x => [9, 13, 32].contains x) (l := ((l.reverse.dropWhile (fun x => ([9, 13, 32] : List UInt8).contains x)).reverse))).length_le
  have h2 := (List.dropWhile_sublist (fun x => ([9, 13, 32] : List UInt8).contains x) (l := l.reverse)).length_le
  rw [List.length_reverse] at h1
  rw [List.length_reverse] at h2
  omega
theorem bare_any (s : ByteArray) (w : World) (hs : s.size ≤ 9223372036854775807) :
    Calls Tryd.prog 48 #[.string s] w fun e w' => e = .returned (.string ⟨(bareL s.data.toList).toArray⟩) ∧ Below w.heap.size w w' := by
  have HD := Lib.hid (show Calls Tryd.prog 71 #[.string s, .string ⟨#[9, 13, 32]⟩] w fun e w' => e = .returned (.string ⟨(bareL s.data.toList).toArray⟩) ∧ Below w.heap.size w w' from Any.strings_Trim_laid Tryd.lays160 (by kernel_rfl) s ⟨#[9, 13, 32]⟩ w hs (by decide) (ascii_of_all (by decide)))
  go_enter Tryd.func48, Tryd.ntmps48
  go_wp2_with (go_at_call 71; refine HD.out.mono ?_; rintro e w' ⟨rfl, hb⟩; have B := Lib.hid hb; clear hb)
  go_ret
  exact ⟨rfl, B.out⟩

theorem own_any (s : ByteArray) (w : World) (hs : s.size ≤ 281474976710656) :
    Calls Tryd.prog 50 #[.string s] w fun e w' => e = .returned (.string s) ∧ Below w.heap.size w w' := by
  have HD := Lib.hid (Tryd.stringslite_Clone s w hs)
  go_enter Tryd.func50, Tryd.ntmps50
  go_wp2_with (first
    | (go_at_call 98; refine HD.out.mono ?_; rintro e w' ⟨rfl, hb⟩; have B := Lib.hid hb; clear hb)
    | go_in)
  go_ret
  exact ⟨rfl, B.out⟩

theorem bel_drewN {B : Nat} {a w : World} (h : Below B a w) (n : Nat) : Below B a (w.drewN n) := ⟨h.os, h.tape, h.output, h.size, h.block⟩
theorem cut_any (s t : ByteArray) (w : World) (hM : Ml w) (hs : s.size < 4294967281) :
    Calls Tryd.prog 47 #[.string s, .string t] w fun e w' => e = .returned (.tuple #[.string ⟨(Lib.cut s.data.toList t.data.toList).1.toArray⟩, .string ⟨(Lib.cut s.data.toList t.data.toList).2.1.toArray⟩, .bool (Lib.cut s.data.toList t.data.toList).2.2]) ∧ Below w.heap.size w w' := by
  obtain ⟨m, hm⟩ := hM
  exact (Tryd.strings_Cut s t m w hs hm).mono fun e w' ⟨he, n, hw⟩ => ⟨he, hw ▸ bel_drewN (Below.refl _ _) n⟩

end Go.Proofs.YtajhgbcgbgpcjaaDoor.Fi

import Derived.Test.YtagbeioooohbgaaGreatDoorRows
import Derived.Test.YtagbeioooohbgaaGreatDoorSk
import Derived.Shelf.Strings.SlTrimAscii
import Derived.WalkKit
import Derived.WalkSpells
import Derived.WalkLawsBesides
import Derived.Lib.Hide
import Derived.Lib.Strings
import Derived.Lib.IndexBytes
import Derived.Lib.OthersKept
import Derived.Lib.TrimUEq
import Derived.Lib.TrimU
import Derived.Lib.MapLaws
import Derived.IntWalk
import Derived.Laws.BitsAllLaws
import Derived.Laws.BytesArg
import Derived.Laws.OwnMore
import Derived.Laws.AppendOwnNone
import Derived.Deep.QuietTactic
import Derived.BigQuiet
import Derived.Deep.RegionHeld3
import Derived.Deep.RegionLaw
import Derived.Deep.DrawnRows
import Derived.Deep.AppendLies
import Derived.Deep.Heap
import Derived.Deep.Onto
import Derived.Deep.LoopGhost
import Derived.Maps.AppendAt
import Derived.Laws.Runes
import Derived.WalkMore
section
namespace Go.Proofs.YtagbeioooohbgaaGreatDoor.Fi
open Go.RowKit

def scal (r : Int) : Bool := (0 ≤ r && r < 55296) || (57343 < r && r ≤ 1114111)
theorem ret_int {k : IntKind} {a b : Int} (h : a = b) : Ending.returned (.int k a) = .returned (.int k b) := by rw [h]
theorem ret_bool {a b : Bool} (h : a = b) : Ending.returned (.bool a) = .returned (.bool b) := by rw [h]
theorem ret2 {k l : IntKind} {a b c d : Int} (h : a = b) (h' : c = d) : Ending.returned (.tuple #[.int k a, .int l c]) = .returned (.tuple #[.int k b, .int l d]) := by rw [h, h']
theorem scal_bd {r : Int} (h : scal r = true) : 0 ≤ r ∧ r ≤ 1114111 := by simp [scal] at h; omega

set_option maxHeartbeats 400000 in
theorem scalar_any (r : Int) (w : World) : Calls Tryz.prog 20 #[.int .i32 r] w fun e w' => e = .returned (.bool (scal r)) ∧ w = w' := by
  unfold scal
  by_cases h1 : 0 ≤ r
  · by_cases h2 : r < 55296
    · go_enter Tryz.func20, Tryz.ntmps20
      go_wp2
      go_ret
      exact ⟨by simp [h1, h2], rfl⟩
    · by_cases h3 : 57343 < r
      · by_cases h4 : r ≤ 1114111
        · go_enter Tryz.func20, Tryz.ntmps20
          go_wp2
          go_ret
          exact ⟨by simp, rfl⟩
        · go_enter Tryz.func20, Tryz.ntmps20
          go_wp2
          go_ret
          exact ⟨by simp; omega, rfl⟩
      · go_enter Tryz.func20, Tryz.ntmps20
        go_wp2
        go_ret
        exact ⟨by simp; omega, rfl⟩
  · have h3 : ¬ 57343 < r := by omega
    go_enter Tryz.func20, Tryz.ntmps20
    go_wp2
    go_ret
    exact ⟨by simp; omega, rfl⟩

/-- What a digit counts; 16: it is none. -/
def dv (b : Nat) : Nat := if 48 ≤ b ∧ b ≤ 57 then b - 48 else if 97 ≤ b ∧ b ≤ 102 then b - 87 else if 65 ≤ b ∧ b ≤ 70 then b - 55 else 16
theorem dv_le (b : Nat) : dv b ≤ 16 := by unfold dv; split <;> (try split) <;> (try split) <;> omega
theorem dv_high {b : Nat} (h : 128 ≤ b) : dv b = 16 := by unfold dv; rw [if_neg (by omega), if_neg (by omega), if_neg (by omega)]
set_option maxHeartbeats 400000 in
theorem digit_any (b : Nat) (w : World) (hb : b ≤ 1114111) : Calls Tryz.prog 121 #[.int .i32 b] w fun e w' => e = .returned (.int .i64 (dv b)) ∧ w = w' := by
  by_cases h1 : 48 ≤ b ∧ b ≤ 57
  · have H := Lib.hid (show dv b = b - 48 by unfold dv; rw [if_pos h1])
    obtain ⟨a1, a2⟩ := h1
    have c1 : (48 : Int) ≤ b := by omega
    have c2 : (b : Int) ≤ 57 := by omega
    go_enter Tryz.func121, Tryz.ntmps121
    go_wp2
    go_ret
    exact ⟨ret_int (by rw [H.out]; omega), rfl⟩
  · by_cases h2 : 97 ≤ b ∧ b ≤ 102
    · have H := Lib.hid (show dv b = b - 87 by unfold dv; rw [if_neg h1, if_pos h2])
      obtain ⟨a1, a2⟩ := h2
      clear h1
      have c1 : (97 : Int) ≤ b := by omega
      have c2 : (b : Int) ≤ 102 := by omega
      go_enter Tryz.func121, Tryz.ntmps121
      go_wp2
      go_ret
      exact ⟨ret_int (by rw [H.out]; omega), rfl⟩
    · by_cases h3 : 65 ≤ b ∧ b ≤ 70
      · have H := Lib.hid (show dv b = b - 55 by unfold dv; rw [if_neg h1, if_neg h2, if_pos h3])
        obtain ⟨a1, a2⟩ := h3
        clear h1 h2
        have c1 : (65 : Int) ≤ b := by omega
        have c2 : (b : Int) ≤ 70 := by omega
        go_enter Tryz.func121, Tryz.ntmps121
        go_wp2
        go_ret
        exact ⟨ret_int (by rw [H.out]; omega), rfl⟩
      · have H := Lib.hid (show dv b = 16 by unfold dv; rw [if_neg h1, if_neg h2, if_neg h3])
        go_enter Tryz.func121, Tryz.ntmps121
        go_wp2
        all_goals first
          | (exfalso; omega)
          | (go_ret; exact ⟨ret_int (by rw [H.out]; rfl), rfl⟩)

end Go.Proofs.YtagbeioooohbgaaGreatDoor.Fi
end
section
namespace Go.Proofs.YtagbeioooohbgaaGreatDoor.Fi
open Go.RowKit

theorem lst_at (s : ByteArray) (k : Nat) (h : k < s.size) : s.data.toList.drop k = s[k] :: s.data.toList.drop (k + 1) := by
  rw [List.drop_eq_getElem_cons (by simpa using h)]; rfl
theorem lst_len (s : ByteArray) : s.data.toList.length = s.size := by simp
theorem lst_end (s : ByteArray) (k : Nat) (h : s.size ≤ k) : s.data.toList.drop k = [] := List.drop_eq_nil_of_le (by simpa using h)
theorem str_eq {s t : ByteArray} (h : s.data.toList = t.data.toList) : s = t := ByteArray.ext (Array.toList_inj.1 h)
theorem str_of (s : ByteArray) (l : List UInt8) (h : s.data.toList = l) : s = ⟨l.toArray⟩ := str_eq (by simp [h])
theorem emp_yes {s : ByteArray} (h : s.size = 0) : s = ⟨#[]⟩ := str_eq (List.eq_nil_of_length_eq_zero (by rw [lst_len]; exact h))
theorem emp_no {s : ByteArray} (h : 0 < s.size) : s.toList.isEmpty = false := by
  rw [Lib.toList_data]
  cases hh : s.data.toList with
  | nil => have := lst_len s; rw [hh, List.length_nil] at this; omega
  | cons _ _ => rfl
theorem emp_ne {s : ByteArray} (h : 0 < s.size) : ¬ s.toList = [] := by
  intro hh
  have := emp_no h
  rw [hh] at this
  cases this
/-- What a range over a string hands out at a byte beyond ASCII is beyond ASCII. -/
theorem high_rune (s : ByteArray) (k : Nat) (h : k < s.size) (ha : 128 ≤ s[k].toNat) : 128 ≤ (Utf8.decode s k).1 := by
  rw [Lib.decode_at]
  have hg : (s.get! k).toNat = s[k].toNat := by
    rw [show s.get! k = s[k] from by simp [ByteArray.get!, getElem!_pos, h]; rfl]
  rcases Lib.decodeN_shape (s.size - k) (s.get! k).toNat (s.get! (k + 1)).toNat (s.get! (k + 2)).toNat (s.get! (k + 3)).toNat with ⟨h1, _⟩ | ⟨_, _, _, h2, he⟩ | ⟨_, _, _, _, h2, _, he⟩ | ⟨_, _, _, _, _, h2, _, he⟩ | he
  · omega
  all_goals rw [he]; simp; try omega
/-- The number that digits tell, behind what is told ahead. -/
def dgs (base : Nat) : Nat → List UInt8 → Option Nat
  | n, [] => some n
  | n, c :: l => if dv c.toNat < base then dgs base (n * base + dv c.toNat) l else none
def digs (base most : Nat) (l : List UInt8) : Option Nat := if l.length = 0 ∨ most < l.length then none else dgs base 0 l
def numV (o : Option Nat) : Value := .tuple #[.int .i64 ((o.getD 0 : Nat) : Int), .bool o.isSome]
theorem numV_no : Value.tuple #[.int .i64 0, .bool false] = numV none := rfl
theorem numV_yes (n : Nat) : Value.tuple #[.int .i64 (n : Int), .bool true] = numV (some n) := rfl
theorem digs_len {base most : Nat} {l : List UInt8} (h : l.length = 0 ∨ most < l.length) : digs base most l = none := by unfold digs; rw [if_pos h]
theorem digs_in {base most : Nat} {l : List UInt8} (h : ¬ (l.length = 0 ∨ most < l.length)) : digs base most l = dgs base 0 l := by unfold digs; rw [if_neg h]
theorem ret_eq {a b : Value} (h : a = b) : Ending.returned a = .returned b := by rw [h]

set_option maxRecDepth 100000 in
set_option maxHeartbeats 2000000 in
theorem digits16 (s : ByteArray) (most : Nat) (w : World) (hm : most ≤ 6) (hs : s.size ≤ 9223372036854775807) :
    Calls Tryz.prog 93 #[.string s, .int .i64 16, .int .i64 most] w fun e w' => e = .returned (numV (digs 16 most s.data.toList)) ∧ Below w.heap.size w w' := by
  by_cases h0 : s.size = 0
  · obtain rfl := emp_yes h0
    have H := Lib.hid (show digs 16 most (⟨#[]⟩ : ByteArray).data.toList = none from digs_len (.inl rfl))
    clear h0
    go_enter Tryz.func93, Tryz.ntmps93
    go_wp2_with fail
    go_ret2
    exact ⟨ret_eq (by rw [H.out]; rfl), Below.refl _ _⟩
  · have he := emp_no (s := s) (by omega)
    have hne := emp_ne (s := s) (by omega)
    by_cases h1 : most < s.size
    · have H := Lib.hid (show digs 16 most s.data.toList = none from digs_len (.inr (by rw [lst_len]; exact h1)))
      have h2 : (most : Int) < s.size := by omega
      go_enter Tryz.func93, Tryz.ntmps93
      go_wp2_with fail
      go_ret2
      exact ⟨ret_eq (by rw [H.out]; rfl), Below.refl _ _⟩
    · have H := Lib.hid (show digs 16 most s.data.toList = dgs 16 0 s.data.toList from digs_in (by rw [lst_len]; omega))
      have h2 : ¬ (most : Int) < s.size := by omega
      have h3 : decide (most < s.size) = false := by simp; omega
      go_enter Tryz.func93, Tryz.ntmps93
      go_wp2_with fail
      clear he hne h2 h3
      go_loopg [6] s.size (fun gf s6 wx => ∃ pos n : Nat, s6 = .int .i64 n ∧ pos + gf = s.size ∧ pos ≤ s.size ∧ n < 16 ^ pos ∧ dgs 16 n (s.data.toList.drop pos) = dgs 16 0 s.data.toList ∧ wx.heap[w.heap.size]? = some (.stringIter s pos) ∧ Below w.heap.size w wx)
      case atStart => exact ⟨0, 0, rfl, by omega, by omega, by simp, rfl, World.iter_heap w s 0, (Below.refl _ w).alloc (Nat.le_refl _) _⟩
      case round =>
        obtain ⟨pos, n, rfl, hg, hp, hn, hd, hit, hbw⟩ := hrel
        have hD := Lib.hid hd
        clear hd
        have hP : 16 ^ pos ≤ 16777216 := Nat.le_trans (Nat.pow_le_pow_right (by omega) (show pos ≤ 6 by omega)) (by decide)
        have hn2 : n ≤ 16777215 := by omega
        have hPs : 16 ^ (pos + 1) = 16 ^ pos * 16 := Nat.pow_succ ..
        by_cases hlt : pos < s.size
        · obtain ⟨g', rfl⟩ : ∃ g', gk = g' + 1 := ⟨gk - 1, by omega⟩
          by_cases ha : s[pos].toNat < 128
          · have hnx : ∀ ty, (Instr.next (.pointer (some ⟨w.heap.size, 0, none⟩)) true ty).run Tryz.prog wr = _ := fun ty => Lib.run_next_ascii_at wr w.heap.size s pos ty hit hlt ha
            have hit2 := Lib.hid (Lib.iterAt_heap wr w.heap.size s pos (pos + 1) hit)
            have hbw2 := Lib.hid (Lib.below_iterAt hbw (k := w.heap.size) (Nat.le_refl _) s (pos + 1))
            have hcut := Lib.hid (lst_at s pos hlt)
            obtain ⟨c, hc⟩ : ∃ c, c = s[pos].toNat := ⟨_, rfl⟩
            obtain ⟨W, hW⟩ : ∃ W, W = wr.iterAt w.heap.size s (pos + 1) := ⟨_, rfl⟩
            rw [← hc, ← hW] at hnx
            have HC := Lib.hid hc
            have HW := Lib.hid hW
            have HN := Lib.hid hn
            have HP := Lib.hid hPs
            have hcl : c ≤ 1114111 := by omega
            have hdl := dv_le c
            obtain ⟨d, hd⟩ : ∃ d, d = dv c := ⟨_, rfl⟩
            have HD := Lib.hid hd
            clear hit hbw hc hW hn hPs hP
            rw [← hd] at hdl
            have cD : Calls Tryz.prog 121 #[.int .i32 c] W fun e w' => e = .returned (.int .i64 d) ∧ W = w' := by rw [hd]; exact digit_any c W hcl
            clear hd
            by_cases hb : d < 16
            · have hb2 : decide ((16 : Int) ≤ d) = false := by simp; omega
              have hb3 : ¬ (16 : Int) ≤ d := by omega
              go_wp2_with ((go_at_call 121; refine cD.mono ?_; rintro e w' ⟨rfl, rfl⟩))
              go_roundg g'
              case measure => omega
              case rel =>
                have e1 := HC.out
                have e2 := HD.out
                have e3 := HW.out
                have e4 := HN.out
                have e5 := HP.out
                have e6 : dgs 16 (n * 16 + d) (s.data.toList.drop (pos + 1)) = dgs 16 0 s.data.toList := by
                  rw [← hD.out, hcut.out, dgs, if_pos (by rw [← e1, ← e2]; exact hb), ← e1, ← e2]
                exact ⟨pos + 1, n * 16 + d, by go_num, by omega, by omega, by omega, e6, by rw [e3]; exact hit2.out, by rw [e3]; exact hbw2.out⟩
            · have hb2 : decide ((16 : Int) ≤ d) = true := by simp; omega
              have hb3 : (16 : Int) ≤ d := by omega
              go_wp2_with ((go_at_call 121; refine cD.mono ?_; rintro e w' ⟨rfl, rfl⟩))
              go_ret2
              have e1 := HC.out
              have e2 := HD.out
              have e3 := HW.out
              exact ⟨ret_eq (by rw [H.out, ← hD.out, hcut.out, dgs, if_neg (by rw [← e1, ← e2]; exact hb)]; rfl), by rw [e3]; exact hbw2.out⟩
          · have hnx : ∀ ty, (Instr.next (.pointer (some ⟨w.heap.size, 0, none⟩)) true ty).run Tryz.prog wr = _ := fun ty => Lib.run_next_any_at wr w.heap.size s pos ty hit hlt
            have hhi := high_rune s pos hlt (by omega)
            have hrl := Lib.rune_le s pos
            have hbw2 := Lib.hid (Lib.below_iterAt hbw (k := w.heap.size) (Nat.le_refl _) s (pos + (Utf8.decode s pos).2))
            have hcut := Lib.hid (lst_at s pos hlt)
            have hdc := Lib.hid (dv_high (b := s[pos].toNat) (by omega))
            obtain ⟨c, hc⟩ : ∃ c, c = (Utf8.decode s pos).1 := ⟨_, rfl⟩
            obtain ⟨W, hW⟩ : ∃ W, W = wr.iterAt w.heap.size s (pos + (Utf8.decode s pos).2) := ⟨_, rfl⟩
            rw [← hc, ← hW] at hnx
            rw [← hc] at hhi hrl
            have HW := Lib.hid hW
            have cD : Calls Tryz.prog 121 #[.int .i32 c] W fun e w' => e = .returned (.int .i64 16) ∧ W = w' := by
              have := digit_any c W hrl
              rw [dv_high hhi] at this
              exact this
            clear hit hbw hc hW hn hPs hP
            go_wp2_with ((go_at_call 121; refine cD.mono ?_; rintro e w' ⟨rfl, rfl⟩))
            go_ret2
            have e3 := HW.out
            exact ⟨ret_eq (by rw [H.out, ← hD.out, hcut.out, dgs, if_neg (by rw [hdc.out]; decide)]; rfl), by rw [e3]; exact hbw2.out⟩
        · have hnx : ∀ ty, (Instr.next (.pointer (some ⟨w.heap.size, 0, none⟩)) true ty).run Tryz.prog wr = _ := fun ty => Lib.run_next_end_at wr w.heap.size s pos ty hit hlt
          have HE := Lib.hid (lst_end s pos (by omega))
          have HB := Lib.hid hbw
          clear hit hbw hn hPs hP
          go_wp2_with fail
          go_ret2
          exact ⟨ret_eq (by rw [H.out, ← hD.out, HE.out]; rfl), HB.out⟩

set_option maxRecDepth 100000 in
set_option maxHeartbeats 2000000 in
theorem digits10 (s : ByteArray) (most : Nat) (w : World) (hm : most ≤ 6) (hs : s.size ≤ 9223372036854775807) :
    Calls Tryz.prog 93 #[.string s, .int .i64 10, .int .i64 most] w fun e w' => e = .returned (numV (digs 10 most s.data.toList)) ∧ Below w.heap.size w w' := by
  by_cases h0 : s.size = 0
  · obtain rfl := emp_yes h0
    have H := Lib.hid (show digs 10 most (⟨#[]⟩ : ByteArray).data.toList = none from digs_len (.inl rfl))
    clear h0
    go_enter Tryz.func93, Tryz.ntmps93
    go_wp2_with fail
    go_ret2
    exact ⟨ret_eq (by rw [H.out]; rfl), Below.refl _ _⟩
  · have he := emp_no (s := s) (by omega)
    have hne := emp_ne (s := s) (by omega)
    by_cases h1 : most < s.size
    · have H := Lib.hid (show digs 10 most s.data.toList = none from digs_len (.inr (by rw [lst_len]; exact h1)))
      have h2 : (most : Int) < s.size := by omega
      go_enter Tryz.func93, Tryz.ntmps93
      go_wp2_with fail
      go_ret2
      exact ⟨ret_eq (by rw [H.out]; rfl), Below.refl _ _⟩
    · have H := Lib.hid (show digs 10 most s.data.toList = dgs 10 0 s.data.toList from digs_in (by rw [lst_len]; omega))
      have h2 : ¬ (most : Int) < s.size := by omega
      have h3 : decide (most < s.size) = false := by simp; omega
      go_enter Tryz.func93, Tryz.ntmps93
      go_wp2_with fail
      clear he hne h2 h3
      go_loopg [6] s.size (fun gf s6 wx => ∃ pos n : Nat, s6 = .int .i64 n ∧ pos + gf = s.size ∧ pos ≤ s.size ∧ n < 10 ^ pos ∧ dgs 10 n (s.data.toList.drop pos) = dgs 10 0 s.data.toList ∧ wx.heap[w.heap.size]? = some (.stringIter s pos) ∧ Below w.heap.size w wx)
      case atStart => exact ⟨0, 0, rfl, by omega, by omega, by simp, rfl, World.iter_heap w s 0, (Below.refl _ w).alloc (Nat.le_refl _) _⟩
      case round =>
        obtain ⟨pos, n, rfl, hg, hp, hn, hd, hit, hbw⟩ := hrel
        have hD := Lib.hid hd
        clear hd
        have hP : 10 ^ pos ≤ 16777216 := Nat.le_trans (Nat.pow_le_pow_right (by omega) (show pos ≤ 6 by omega)) (by decide)
        have hn2 : n ≤ 16777215 := by omega
        have hPs : 10 ^ (pos + 1) = 10 ^ pos * 10 := Nat.pow_succ ..
        by_cases hlt : pos < s.size
        · obtain ⟨g', rfl⟩ : ∃ g', gk = g' + 1 := ⟨gk - 1, by omega⟩
          by_cases ha : s[pos].toNat < 128
          · have hnx : ∀ ty, (Instr.next (.pointer (some ⟨w.heap.size, 0, none⟩)) true ty).run Tryz.prog wr = _ := fun ty => Lib.run_next_ascii_at wr w.heap.size s pos ty hit hlt ha
            have hit2 := Lib.hid (Lib.iterAt_heap wr w.heap.size s pos (pos + 1) hit)
            have hbw2 := Lib.hid (Lib.below_iterAt hbw (k := w.heap.size) (Nat.le_refl _) s (pos + 1))
            have hcut := Lib.hid (lst_at s pos hlt)
            obtain ⟨c, hc⟩ : ∃ c, c = s[pos].toNat := ⟨_, rfl⟩
            obtain ⟨W, hW⟩ : ∃ W, W = wr.iterAt w.heap.size s (pos + 1) := ⟨_, rfl⟩
            rw [← hc, ← hW] at hnx
            have HC := Lib.hid hc
            have HW := Lib.hid hW
            have HN := Lib.hid hn
            have HP := Lib.hid hPs
            have hcl : c ≤ 1114111 := by omega
            have hdl := dv_le c
            obtain ⟨d, hd⟩ : ∃ d, d = dv c := ⟨_, rfl⟩
            have HD := Lib.hid hd
            clear hit hbw hc hW hn hPs hP
            rw [← hd] at hdl
            have cD : Calls Tryz.prog 121 #[.int .i32 c] W fun e w' => e = .returned (.int .i64 d) ∧ W = w' := by rw [hd]; exact digit_any c W hcl
            clear hd
            by_cases hb : d < 10
            · have hb2 : decide ((10 : Int) ≤ d) = false := by simp; omega
              have hb3 : ¬ (10 : Int) ≤ d := by omega
              go_wp2_with ((go_at_call 121; refine cD.mono ?_; rintro e w' ⟨rfl, rfl⟩))
              go_roundg g'
              case measure => omega
              case rel =>
                have e1 := HC.out
                have e2 := HD.out
                have e3 := HW.out
                have e4 := HN.out
                have e5 := HP.out
                have e6 : dgs 10 (n * 10 + d) (s.data.toList.drop (pos + 1)) = dgs 10 0 s.data.toList := by
                  rw [← hD.out, hcut.out, dgs, if_pos (by rw [← e1, ← e2]; exact hb), ← e1, ← e2]
                exact ⟨pos + 1, n * 10 + d, by go_num, by omega, by omega, by omega, e6, by rw [e3]; exact hit2.out, by rw [e3]; exact hbw2.out⟩
            · have hb2 : decide ((10 : Int) ≤ d) = true := by simp; omega
              have hb3 : (10 : Int) ≤ d := by omega
              go_wp2_with ((go_at_call 121; refine cD.mono ?_; rintro e w' ⟨rfl, rfl⟩))
              go_ret2
              have e1 := HC.out
              have e2 := HD.out
              have e3 := HW.out
              exact ⟨ret_eq (by rw [H.out, ← hD.out, hcut.out, dgs, if_neg (by rw [← e1, ← e2]; exact hb)]; rfl), by rw [e3]; exact hbw2.out⟩
          · have hnx : ∀ ty, (Instr.next (.pointer (some ⟨w.heap.size, 0, none⟩)) true ty).run Tryz.prog wr = _ := fun ty => Lib.run_next_any_at wr w.heap.size s pos ty hit hlt
            have hhi := high_rune s pos hlt (by omega)
            have hrl := Lib.rune_le s pos
            have hbw2 := Lib.hid (Lib.below_iterAt hbw (k := w.heap.size) (Nat.le_refl _) s (pos + (Utf8.decode s pos).2))
            have hcut := Lib.hid (lst_at s pos hlt)
            have hdc := Lib.hid (dv_high (b := s[pos].toNat) (by omega))
            obtain ⟨c, hc⟩ : ∃ c, c = (Utf8.decode s pos).1 := ⟨_, rfl⟩
            obtain ⟨W, hW⟩ : ∃ W, W = wr.iterAt w.heap.size s (pos + (Utf8.decode s pos).2) := ⟨_, rfl⟩
            rw [← hc, ← hW] at hnx
            rw [← hc] at hhi hrl
            have HW := Lib.hid hW
            have cD : Calls Tryz.prog 121 #[.int .i32 c] W fun e w' => e = .returned (.int .i64 16) ∧ W = w' := by
              have := digit_any c W hrl
              rw [dv_high hhi] at this
              exact this
            clear hit hbw hc hW hn hPs hP
            go_wp2_with ((go_at_call 121; refine cD.mono ?_; rintro e w' ⟨rfl, rfl⟩))
            go_ret2
            have e3 := HW.out
            exact ⟨ret_eq (by rw [H.out, ← hD.out, hcut.out, dgs, if_neg (by rw [hdc.out]; decide)]; rfl), by rw [e3]; exact hbw2.out⟩
        · have hnx : ∀ ty, (Instr.next (.pointer (some ⟨w.heap.size, 0, none⟩)) true ty).run Tryz.prog wr = _ := fun ty => Lib.run_next_end_at wr w.heap.size s pos ty hit hlt
          have HE := Lib.hid (lst_end s pos (by omega))
          have HB := Lib.hid hbw
          clear hit hbw hn hPs hP
          go_wp2_with fail
          go_ret2
          exact ⟨ret_eq (by rw [H.out, ← hD.out, HE.out]; rfl), HB.out⟩

end Go.Proofs.YtagbeioooohbgaaGreatDoor.Fi
end
section
namespace Go.Proofs.YtagbeioooohbgaaGreatDoor.Fi
open Go.RowKit

/-- What the library asks of its own variable: it holds some number. -/
def Ml (w : World) : Prop := ∃ m : Int, w.cell? ⟨1, 0, none⟩ = some (.int .i64 m)
theorem Ml.pos {w : World} (h : Ml w) : 1 < w.heap.size := by
  obtain ⟨m, hm⟩ := h
  exact World.block_lt_of_cell? w _ hm
theorem Ml.below {w w' : World} {B : Nat} (h : Ml w) (hb : Below B w w') (hB : 1 < B) : Ml w' := by
  obtain ⟨m, hm⟩ := h
  exact ⟨m, (hb.cell (p := ⟨1, 0, none⟩) hB).trans hm⟩
theorem Ml.on {w w' : World} (h : Ml w) (hb : Below w.heap.size w w') : Ml w' := h.below hb h.pos
theorem lst_mk (l : List UInt8) : (⟨l.toArray⟩ : ByteArray).data.toList = l := by simp
theorem size_mk (l : List UInt8) : (⟨l.toArray⟩ : ByteArray).size = l.length := by simp [ByteArray.size]

theorem dgs_lt {base X : Nat} : ∀ {l : List UInt8} {n m : Nat}, dgs base n l = some m → n < X → m < X * base ^ l.length
  | [], n, m, h, hn => by simp [dgs] at h; subst h; simpa using hn
  | c :: l, n, m, h, hn => by
    unfold dgs at h
    split at h
    · rename_i hd
      have := dgs_lt (X := X * base) h (by
        have : (n + 1) * base ≤ X * base := Nat.mul_le_mul_right _ hn
        rw [Nat.add_mul] at this
        omega)
      rw [List.length_cons, Nat.pow_succ, Nat.mul_comm (base ^ l.length) base, ← Nat.mul_assoc]
      exact this
    · cases h
theorem digs_lt {base most n : Nat} {l : List UInt8} (hb : 1 ≤ base) (h : digs base most l = some n) : n < base ^ most := by
  unfold digs at h
  split at h
  · cases h
  · rename_i hl
    have := dgs_lt (X := 1) h (by omega)
    rw [Nat.one_mul] at this
    exact Nat.lt_of_lt_of_le this (Nat.pow_le_pow_right hb (by omega))

/-- The character that hex digits tell, and the error. -/
def hexE (l : List UInt8) : Int × Int := match digs 16 6 l with
  | none => (0, 10)
  | some n => if scal (n : Int) then ((n : Int), 0) else (0, 11)
theorem hexE_none {l : List UInt8} (h : digs 16 6 l = none) : hexE l = (0, 10) := by unfold hexE; rw [h]
theorem hexE_no {l : List UInt8} {n : Nat} (h : digs 16 6 l = some n) (hs : scal (n : Int) = false) : hexE l = (0, 11) := by unfold hexE; rw [h]; simp [hs]
theorem hexE_yes {l : List UInt8} {n : Nat} (h : digs 16 6 l = some n) (hs : scal (n : Int) = true) : hexE l = ((n : Int), 0) := by unfold hexE; rw [h]; simp [hs]
def reV (x : Int × Int) : Value := .tuple #[.int .i32 x.1, .int .i64 x.2]
theorem hexE_cases (l : List UInt8) : (hexE l).2 = 0 ∧ scal (hexE l).1 = true ∨ (hexE l).1 = 0 ∧ ((hexE l).2 = 10 ∨ (hexE l).2 = 11) := by
  unfold hexE
  split
  · right; simp
  · split
    · left; simp [*]
    · right; simp

set_option maxHeartbeats 1000000 in
theorem hex_any (s : ByteArray) (w : World) (hs : s.size ≤ 9223372036854775807) :
    Calls Tryz.prog 71 #[.string s] w fun e w' => e = .returned (reV (hexE s.data.toList)) ∧ Below w.heap.size w w' := by
  have HD := Lib.hid (digits16 s 6 w (by omega) hs)
  cases h : digs 16 6 s.data.toList with
  | none =>
    have H := Lib.hid (hexE_none h)
    have hd := HD.out
    rw [h, ← numV_no] at hd
    have HD := Lib.hid hd
    clear hd h
    go_enter Tryz.func71, Tryz.ntmps71
    go_wp2_with (go_at_call 93; refine HD.out.mono ?_; rintro e w' ⟨rfl, hb⟩; have B := Lib.hid hb; clear hb)
    go_ret2
    exact ⟨ret_eq (by rw [H.out]; rfl), B.out⟩
  | some n =>
    have hn := digs_lt (by omega) h
    have hn2 : n < 16777216 := hn
    have hd := HD.out
    rw [h, ← numV_yes] at hd
    have HD := Lib.hid hd
    clear hd hn
    cases hs : scal (n : Int) with
    | false =>
      have H := Lib.hid (hexE_no h hs)
      have HS := Lib.hid hs
      clear h hs
      go_enter Tryz.func71, Tryz.ntmps71
      go_wp2_with (first
        | (go_at_call 93; refine HD.out.mono ?_; rintro e w' ⟨rfl, hb⟩; have B := Lib.hid hb; clear hb)
        | (go_at_call 20; refine (scalar_any _ _).mono ?_; rw [HS.out]; rintro e w' ⟨rfl, rfl⟩))
      go_ret2
      exact ⟨ret_eq (by rw [H.out]; rfl), B.out⟩
    | true =>
      have H := Lib.hid (hexE_yes h hs)
      have HS := Lib.hid hs
      clear h hs
      go_enter Tryz.func71, Tryz.ntmps71
      go_wp2_with (first
        | (go_at_call 93; refine HD.out.mono ?_; rintro e w' ⟨rfl, hb⟩; have B := Lib.hid hb; clear hb)
        | (go_at_call 20; refine (scalar_any _ _).mono ?_; rw [HS.out]; rintro e w' ⟨rfl, rfl⟩))
      go_ret2
      exact ⟨ret_eq (by rw [H.out]; rfl), B.out⟩

/-- The number that decimal digits tell, and the error. -/
def nmE (l : List UInt8) : Int × Int := match digs 10 5 l with
  | none => (0, 10)
  | some n => ((n : Int), 0)
def niV (x : Int × Int) : Value := .tuple #[.int .i64 x.1, .int .i64 x.2]
set_option maxHeartbeats 1000000 in
theorem number_any (s : ByteArray) (w : World) (hs : s.size ≤ 9223372036854775807) :
    Calls Tryz.prog 72 #[.string s] w fun e w' => e = .returned (niV (nmE s.data.toList)) ∧ Below w.heap.size w w' := by
  have HD := Lib.hid (digits10 s 5 w (by omega) hs)
  cases h : digs 10 5 s.data.toList with
  | none =>
    have H := Lib.hid (show nmE s.data.toList = (0, 10) by unfold nmE; rw [h])
    have hd := HD.out
    rw [h, ← numV_no] at hd
    have HD := Lib.hid hd
    clear hd h
    go_enter Tryz.func72, Tryz.ntmps72
    go_wp2_with (go_at_call 93; refine HD.out.mono ?_; rintro e w' ⟨rfl, hb⟩; have B := Lib.hid hb; clear hb)
    go_ret2
    exact ⟨ret_eq (by rw [H.out]; rfl), B.out⟩
  | some n =>
    have H := Lib.hid (show nmE s.data.toList = ((n : Int), 0) by unfold nmE; rw [h])
    have hd := HD.out
    rw [h, ← numV_yes] at hd
    have HD := Lib.hid hd
    clear hd h
    go_enter Tryz.func72, Tryz.ntmps72
    go_wp2_with (go_at_call 93; refine HD.out.mono ?_; rintro e w' ⟨rfl, hb⟩; have B := Lib.hid hb; clear hb)
    go_ret2
    exact ⟨ret_eq (by rw [H.out]; rfl), B.out⟩

/-- Without the blanks at its ends. -/
def bareL (l : List UInt8) : List UInt8 := Lib.trimS l [9, 13, 32]
theorem bareL_le (l : List UInt8) : (bareL l).length ≤ l.length := by
  unfold bareL Lib.trimS Lib.trimLeftS Lib.trimRightS
  have h1 := (List.dropWhile_sublist (fun x => [9, 13, 32].contains x) (l := ((l.reverse.dropWhile (fun x => ([9, 13, 32] : List UInt8).contains x)).reverse))).length_le
  have h2 := (List.dropWhile_sublist (fun x => ([9, 13, 32] : List UInt8).contains x) (l := l.reverse)).length_le
  rw [List.length_reverse] at h1
  rw [List.length_reverse] at h2
  omega
theorem bare_any (s : ByteArray) (w : World) (hs : s.size ≤ 9223372036854775807) :
    Calls Tryz.prog 77 #[.string s] w fun e w' => e = .returned (.string ⟨(bareL s.data.toList).toArray⟩) ∧ Below w.heap.size w w' := by
  have HD := Lib.hid (show Calls Tryz.prog 99 #[.string s, .string ⟨#[9, 13, 32]⟩] w fun e w' => e = .returned (.string ⟨(bareL s.data.toList).toArray⟩) ∧ Below w.heap.size w w' from Any.strings_Trim_laid Tryz.lays160 (by kernel_rfl) s ⟨#[9, 13, 32]⟩ w hs (by decide) (ascii_of_all (by decide)))
  go_enter Tryz.func77, Tryz.ntmps77
  go_wp2_with (go_at_call 99; refine HD.out.mono ?_; rintro e w' ⟨rfl, hb⟩; have B := Lib.hid hb; clear hb)
  go_ret
  exact ⟨rfl, B.out⟩

theorem own_any (s : ByteArray) (w : World) (hs : s.size ≤ 281474976710656) :
    Calls Tryz.prog 79 #[.string s] w fun e w' => e = .returned (.string s) ∧ Below w.heap.size w w' := by
  have HD := Lib.hid (Tryz.stringslite_Clone s w hs)
  go_enter Tryz.func79, Tryz.ntmps79
  go_wp2_with (first
    | (go_at_call 136; refine HD.out.mono ?_; rintro e w' ⟨rfl, hb⟩; have B := Lib.hid hb; clear hb)
    | go_in)
  go_ret
  exact ⟨rfl, B.out⟩

theorem bel_drewN {B : Nat} {a w : World} (h : Below B a w) (n : Nat) : Below B a (w.drewN n) := ⟨h.os, h.tape, h.output, h.size, h.block⟩
theorem cut_any (s t : ByteArray) (w : World) (hM : Ml w) (hs : s.size < 4294967281) :
    Calls Tryz.prog 76 #[.string s, .string t] w fun e w' => e = .returned (.tuple #[.string ⟨(Lib.cut s.data.toList t.data.toList).1.toArray⟩, .string ⟨(Lib.cut s.data.toList t.data.toList).2.1.toArray⟩, .bool (Lib.cut s.data.toList t.data.toList).2.2]) ∧ Below w.heap.size w w' := by
  obtain ⟨m, hm⟩ := hM
  exact (Tryz.strings_Cut s t m w hs hm).mono fun e w' ⟨he, n, hw⟩ => ⟨he, hw ▸ bel_drewN (Below.refl _ _) n⟩

end Go.Proofs.YtagbeioooohbgaaGreatDoor.Fi
end
section
namespace Go.Proofs.YtagbeioooohbgaaGreatDoor.Fi
open Go.RowKit

theorem cut_le (s t : List UInt8) : (Lib.cut s t).1.length ≤ s.length ∧ (Lib.cut s t).2.1.length ≤ s.length := by
  unfold Lib.cut
  split
  · simp [List.length_take]; omega
  · simp
/-- What a line tells. -/
def toldL (l : List UInt8) : List UInt8 := bareL (Lib.cut l [35]).1
theorem toldL_le (l : List UInt8) : (toldL l).length ≤ l.length := Nat.le_trans (bareL_le _) (cut_le l [35]).1
theorem told_any (s : ByteArray) (w : World) (hM : Ml w) (hs : s.size < 4294967281) :
    Calls Tryz.prog 92 #[.string s] w fun e w' => e = .returned (.string ⟨(toldL s.data.toList).toArray⟩) ∧ Below w.heap.size w w' := by
  have HD := Lib.hid (cut_any s ⟨#[35]⟩ w hM hs)
  have hl := (cut_le s.data.toList [35]).1
  rw [lst_len] at hl
  have HB := Lib.hid (fun W => bare_any ⟨(Lib.cut s.data.toList [35]).1.toArray⟩ W (by rw [size_mk]; omega))
  clear hM hl
  go_enter Tryz.func92, Tryz.ntmps92
  go_wp2_with (first
    | (go_at_call 76; refine HD.out.mono ?_; rintro e w1 ⟨rfl, hb⟩; have B1 := Lib.hid hb; clear hb)
    | (go_at_call 77; refine (HB.out _).mono ?_; rintro e w2 ⟨rfl, hb⟩; have B2 := Lib.hid hb; clear hb))
  go_ret
  exact ⟨rfl, B1.out.trans (B2.out.mono B1.out.size)⟩

/-- The first and the last character of a range, and the error. -/
def rngE (l : List UInt8) : Int × Int × Int :=
  if (Lib.cut l [46, 46]).2.2 then
    (if (hexE (bareL (Lib.cut l [46, 46]).1)).2 ≠ 0 then (0, 0, (hexE (bareL (Lib.cut l [46, 46]).1)).2)
     else if (hexE (bareL (Lib.cut l [46, 46]).2.1)).2 ≠ 0 then (0, 0, (hexE (bareL (Lib.cut l [46, 46]).2.1)).2)
     else if (hexE (bareL (Lib.cut l [46, 46]).2.1)).1 < (hexE (bareL (Lib.cut l [46, 46]).1)).1 then (0, 0, 11)
     else ((hexE (bareL (Lib.cut l [46, 46]).1)).1, (hexE (bareL (Lib.cut l [46, 46]).2.1)).1, 0))
  else ((hexE l).1, (hexE l).1, (hexE l).2)
def r3V (x : Int × Int × Int) : Value := .tuple #[.int .i32 x.1, .int .i32 x.2.1, .int .i64 x.2.2]
theorem hexE_bd (l : List UInt8) : 0 ≤ (hexE l).1 ∧ (hexE l).1 ≤ 1114111 := by
  rcases hexE_cases l with ⟨_, h⟩ | ⟨h, _⟩
  · exact scal_bd h
  · omega

end Go.Proofs.YtagbeioooohbgaaGreatDoor.Fi
end
section
namespace Go.Proofs.YtagbeioooohbgaaGreatDoor.Fi
open Go.RowKit

set_option maxRecDepth 100000 in
set_option maxHeartbeats 2000000 in
theorem idx_err (w : World) : Calls Tryz.prog 152 #[.string ⟨#[9, 13, 32]⟩, .int .i32 65533] w fun e w' => e = .returned (.int .i64 (-1)) ∧ Below w.heap.size w w' := by
  go_enter Tryz.func152, Tryz.ntmps152
  go_wp2_with fail
  go_loopg [4] 3 (fun gf s4 wx => s4 = .int .i64 0 ∧ ∃ pos : Nat, pos + gf = 3 ∧ wx.heap[w.heap.size]? = some (.stringIter ⟨#[9, 13, 32]⟩ pos) ∧ Below w.heap.size w wx)
  case atStart => exact ⟨rfl, 0, rfl, World.iter_heap w _ 0, (Below.refl _ w).alloc (Nat.le_refl _) _⟩
  case round =>
    obtain ⟨rfl, pos, hg, hit, hbw⟩ := hrel
    by_cases hlt : pos < 3
    · obtain ⟨g', rfl⟩ : ∃ g', gk = g' + 1 := ⟨gk - 1, by omega⟩
      have ha : ((⟨#[9, 13, 32]⟩ : ByteArray)[pos]'hlt).toNat < 128 := by
        have : pos = 0 ∨ pos = 1 ∨ pos = 2 := by omega
        rcases this with rfl | rfl | rfl
        · show (9 : UInt8).toNat < 128; decide
        · show (13 : UInt8).toNat < 128; decide
        · show (32 : UInt8).toNat < 128; decide
      have hnx : ∀ ty, (Instr.next (.pointer (some ⟨w.heap.size, 0, none⟩)) true ty).run Tryz.prog wr = _ := fun ty => Lib.run_next_ascii_at wr w.heap.size _ pos ty hit hlt ha
      have hit2 := Lib.hid (Lib.iterAt_heap wr w.heap.size _ pos (pos + 1) hit)
      have hbw2 := Lib.hid (Lib.below_iterAt hbw (k := w.heap.size) (Nat.le_refl _) ⟨#[9, 13, 32]⟩ (pos + 1))
      obtain ⟨c, hc⟩ : ∃ c, c = ((⟨#[9, 13, 32]⟩ : ByteArray)[pos]'hlt).toNat := ⟨_, rfl⟩
      obtain ⟨W, hW⟩ : ∃ W, W = wr.iterAt w.heap.size ⟨#[9, 13, 32]⟩ (pos + 1) := ⟨_, rfl⟩
      rw [← hc, ← hW] at hnx
      rw [← hc] at ha
      have HW := Lib.hid hW
      have hne : ((c : Int) == 65533) = false := beq_eq_false_iff_ne.2 (by omega)
      clear hit hbw hc hW
      go_wp2_with fail
      go_roundg g'
      case measure => omega
      case rel => exact ⟨rfl, pos + 1, by omega, by rw [HW.out]; exact hit2.out, by rw [HW.out]; exact hbw2.out⟩
    · have hnx : ∀ ty, (Instr.next (.pointer (some ⟨w.heap.size, 0, none⟩)) true ty).run Tryz.prog wr = _ := fun ty => Lib.run_next_end_at wr w.heap.size _ pos ty hit hlt
      have HB := Lib.hid hbw
      clear hit hbw
      go_wp2_with fail
      go_ret
      exact ⟨rfl, HB.out⟩

set_option maxRecDepth 100000 in
set_option maxHeartbeats 2000000 in
theorem idx_bad (x : Nat) (w : World) (h0 : 55296 ≤ x) (h1 : x ≤ 57343) : Calls Tryz.prog 152 #[.string ⟨#[9, 13, 32]⟩, .int .i32 x] w fun e w' => e = .returned (.int .i64 (-1)) ∧ Below w.heap.size w w' := by
  have hne : ((x : Int) == 65533) = false := beq_eq_false_iff_ne.2 (by omega)
  have g1 : ¬ (x : Int) < 128 := by omega
  have g2 : ¬ (x : Int) < 55296 := by omega
  have g3 : ¬ (57343 : Int) < x := by omega
  go_enter Tryz.func152, Tryz.ntmps152
  go_wp2_with go_in
  go_ret
  exact ⟨rfl, Below.refl _ _⟩

theorem iB_none (l : List UInt8) (c : UInt8) (h : ∀ b ∈ l, b ≠ c) : Lib.indexByte l c = -1 := by
  have := Lib.contains_iff_indexByte l c
  have hc : l.contains c = false := by
    rw [Bool.eq_false_iff]
    intro hh
    rw [List.contains_iff_mem] at hh
    exact h c hh rfl
  rw [hc] at this
  have := Lib.indexByte_ge l c
  simp at *
  omega

theorem quiet_add_same {P : Program} {f : FuncId} {args : Array Value} {w : World} {a n : Nat} {v : Value}
    (h : Calls P f args (w.drewN (a + n)) fun e w' => e = .returned v ∧ w' = w.drewN (a + n)) :
    Calls P f args (w.drewN (a + n)) fun e w'' => e = .returned v ∧ ∃ m, w'' = w.drewN (a + m) :=
  h.mono fun _ _ ⟨he, hm⟩ => ⟨he, n, hm⟩

set_option maxRecDepth 100000 in
set_option maxHeartbeats 2000000 in
theorem idx_ok (x : Nat) (w : World) (h0 : 128 ≤ x) (h1 : x < 55296 ∨ 57343 < x) (h2 : x ≤ 1114111) (h3 : x ≠ 65533) : Calls Tryz.prog 152 #[.string ⟨#[9, 13, 32]⟩, .int .i32 x] w fun e w' => e = .returned (.int .i64 (-1)) ∧ Below w.heap.size w w' := by
  have hv : Utf8.valid (x : Int) = true := by simp [Utf8.valid]; omega
  obtain ⟨f1, f2, f3⟩ := encode_facts (x : Int) hv (by omega)
  obtain ⟨rs, hrs⟩ : ∃ rs, rs = Utf8.encode (x : Int) := ⟨_, rfl⟩
  have hcv : ∀ W : World, (convert 21 9 (.int .i32 (x : Int))).run Tryz.prog W = .ok (.string rs) W := fun W => by rw [hrs]; exact run_convert_int_string W 21 9 .i32 x (by rw [Tryz.underlying21]; rfl) Tryz.underlying9
  rw [← hrs] at f1 f2
  have hV : Calls Tryz.prog 158 #[.int .i32 x] w fun e w' => e = .returned (.bool true) ∧ w = w' := by
    clear f1 f2 f3 hcv hv hrs
    rcases h1 with h1 | h1
    · have g2 : (x : Int) < 55296 := by omega
      go_enter Tryz.func158, Tryz.ntmps158
      go_wp2
      go_ret
      exact ⟨rfl, rfl⟩
    · have g2 : ¬ (x : Int) < 55296 := by omega
      have g3 : (57343 : Int) < x := by omega
      have g4 : (x : Int) ≤ 1114111 := by omega
      go_enter Tryz.func158, Tryz.ntmps158
      go_wp2
      go_ret
      exact ⟨rfl, rfl⟩
  have hne : ((x : Int) == 65533) = false := beq_eq_false_iff_ne.2 (by omega)
  have g1 : ¬ (x : Int) < 128 := by omega
  have hz : rs.size = 2 ∨ rs.size = 3 ∨ rs.size = 4 := by omega
  have HV := Lib.hid hV
  have hl : ∀ u : UInt8, rs.data.toList.getLast? = some u → 128 ≤ u.toNat := by
    intro u hu
    have hh : rs.size - 1 < rs.size := by omega
    have h5 := f3 (by rw [← hrs]; exact hh)
    have h6 : rs.data.toList[rs.size - 1]? = some (rs[rs.size - 1]'hh) := by
      rw [List.getElem?_eq_getElem (by simpa using hh)]; rfl
    rw [List.getLast?_eq_getElem?, lst_len, h6] at hu
    have h7 := Option.some.inj hu
    rw [← h7]
    simp only [hrs]
    exact h5
  clear hV f3 hrs hv h1 f1 f2
  rcases hz with hz | hz | hz
  · obtain ⟨⟨l⟩⟩ := rs
    have hln : l.length = 2 := by simpa [ByteArray.size] using hz
    match l, hln with
    | [a, b], _ =>
      have hb := hl b rfl
      have hb1 := UInt8.toNat_lt b
      have n1 : ((13 : Int) == (b.toNat : Int)) = false := beq_eq_false_iff_ne.2 (by omega)
      have n2 : ((13 : Int) != (b.toNat : Int)) = true := by simp; omega
      have HI := Lib.hid (fun W => show Calls Tryz.prog 157 #[.string ⟨#[32]⟩, .int .u8 b.toNat] W fun e w' => e = .returned (.int .i64 (-1)) ∧ w' = W from by
        have := Tryz.strings_IndexByte ⟨#[32]⟩ b.toNat W
        rw [iB_none _ _ (by intro q hq; simp at hq ; subst hq; intro hh; have := congrArg UInt8.toNat hh; simp at this; omega)] at this
        exact this)
      clear hz hl
      have q1 : ∀ h, ((⟨#[9, 13, 32]⟩ : ByteArray)[1]'h).toNat = 13 := fun _ => rfl
      have q2 : ∀ h, ((⟨⟨[a, b]⟩⟩ : ByteArray)[1]'h).toNat = b.toNat := fun _ => rfl
      go_enter Tryz.func152, Tryz.ntmps152
      go_wp2_with (go_at_call 158; refine HV.out.mono ?_; rintro e w' ⟨rfl, rfl⟩)
      go_step3
      go_wp2_with fail
      go_loop [9] (fun i => i = .int .i64 1) (fun _ => 1)
      case atStart => rfl
      case round =>
        subst hrel
        go_wp2_with fail
        go_step3
        go_wp2_with fail
        go_quiet (fail)
        go_wp2_with fail
        go_quiet ((go_at_call 157; exact quiet_add_same (HI.out _)))
        go_wp2_with fail
        rw [Exit.noGoto_ret]
        go_wp2_with fail
        repeat rw [Exit.noGoto_ret]
        go_ret
        exact ⟨rfl, bel_drewN (Below.refl _ _) _⟩
  · obtain ⟨⟨l⟩⟩ := rs
    have hln : l.length = 3 := by simpa [ByteArray.size] using hz
    match l, hln with
    | [a, a', b], _ =>
      have hb := hl b rfl
      have hb1 := UInt8.toNat_lt b
      have n1 : ((32 : Int) == (b.toNat : Int)) = false := beq_eq_false_iff_ne.2 (by omega)
      have n2 : ((32 : Int) != (b.toNat : Int)) = true := by simp; omega
      have HI := Lib.hid (fun W => show Calls Tryz.prog 157 #[.string ⟨#[]⟩, .int .u8 b.toNat] W fun e w' => e = .returned (.int .i64 (-1)) ∧ w' = W from by
        have := Tryz.strings_IndexByte ⟨#[]⟩ b.toNat W
        rw [iB_none _ _ (by intro q hq; simp at hq )] at this
        exact this)
      clear hz hl
      have q1 : ∀ h, ((⟨#[9, 13, 32]⟩ : ByteArray)[2]'h).toNat = 32 := fun _ => rfl
      have q2 : ∀ h, ((⟨⟨[a, a', b]⟩⟩ : ByteArray)[2]'h).toNat = b.toNat := fun _ => rfl
      go_enter Tryz.func152, Tryz.ntmps152
      go_wp2_with (go_at_call 158; refine HV.out.mono ?_; rintro e w' ⟨rfl, rfl⟩)
      go_step3
      go_wp2_with fail
      go_loop [9] (fun i => i = .int .i64 2) (fun _ => 1)
      case atStart => rfl
      case round =>
        subst hrel
        go_wp2_with fail
        go_step3
        go_wp2_with fail
        go_quiet (fail)
        go_wp2_with fail
        go_quiet ((go_at_call 157; exact quiet_add_same (HI.out _)))
        go_wp2_with fail
        rw [Exit.noGoto_ret]
        go_wp2_with fail
        repeat rw [Exit.noGoto_ret]
        go_ret
        exact ⟨rfl, bel_drewN (Below.refl _ _) _⟩
  · obtain ⟨⟨l⟩⟩ := rs
    have hln : l.length = 4 := by simpa [ByteArray.size] using hz
    match l, hln with
    | [a, a', a'', b], _ =>
      clear hz hl
      go_enter Tryz.func152, Tryz.ntmps152
      go_wp2_with (go_at_call 158; refine HV.out.mono ?_; rintro e w' ⟨rfl, rfl⟩)
      go_step3
      go_wp2_with fail
      go_loop [9] (fun i => i = .int .i64 3) (fun _ => 1)
      case atStart => rfl
      case round =>
        subst hrel
        go_wp2_with fail
        repeat rw [Exit.noGoto_ret]
        go_ret
        exact ⟨rfl, Below.refl _ _⟩

/-- A blank, as a number. -/
def blk (x : Nat) : Bool := x == 9 || x == 13 || x == 32
theorem blk_low (x : Nat) (h : x < 128) : decide (0 ≤ Lib.indexByte [9, 13, 32] (x : Int).toNat.toUInt8) = blk x := by
  rw [← Lib.contains_iff_indexByte]
  have : ∀ y : Fin 128, ([9, 13, 32] : List UInt8).contains (((y.val : Nat) : Int).toNat.toUInt8) = blk y.val := by decide
  exact this ⟨x, h⟩
theorem blk_high {x : Nat} (h : 128 ≤ x) : blk x = false := by simp [blk]; omega
set_option maxHeartbeats 400000 in
theorem isBlank_any (x : Nat) (w : World) (h : x ≤ 1114111) : Calls Tryz.prog 124 #[.int .i32 x] w fun e w' => e = .returned (.bool (blk x)) ∧ Below w.heap.size w w' := by
  by_cases h1 : x < 128
  · have HC := Lib.hid (show Calls Tryz.prog 143 #[.string ⟨#[9, 13, 32]⟩, .int .i32 x] w fun e w' => e = .returned (.bool (blk x)) ∧ w' = w from by
      have := Tryz.strings_ContainsRune_ascii ⟨#[9, 13, 32]⟩ x w (by omega) (by omega)
      rw [show (⟨#[9, 13, 32]⟩ : ByteArray).data.toList = [9, 13, 32] from rfl, blk_low x h1] at this
      exact this)
    go_enter Tryz.func124, Tryz.ntmps124
    go_wp2_with (go_at_call 143; refine HC.out.mono ?_; rintro e w' ⟨rfl, rfl⟩)
    go_ret
    exact ⟨rfl, Below.refl _ _⟩
  · have HI := Lib.hid (show Calls Tryz.prog 152 #[.string ⟨#[9, 13, 32]⟩, .int .i32 x] w fun e w' => e = .returned (.int .i64 (-1)) ∧ Below w.heap.size w w' from by
      by_cases h2 : x = 65533
      · subst h2; exact idx_err w
      · by_cases h3 : 55296 ≤ x ∧ x ≤ 57343
        · exact idx_bad x w h3.1 h3.2
        · exact idx_ok x w (by omega) (by omega) h h2)
    have H := Lib.hid (blk_high (x := x) (by omega))
    go_enter Tryz.func124, Tryz.ntmps124
    go_wp2_with (first
      | (go_at_call 152; refine HI.out.mono ?_; rintro e w' ⟨rfl, hb⟩; have B := Lib.hid hb; clear hb)
      | go_in)
    go_ret
    exact ⟨ret_bool H.out.symm, B.out⟩
theorem pred_blank (w : World) : PredGrows Tryz.prog 124 #[] blk w := fun W x hx _ => isBlank_any x W hx

end Go.Proofs.YtagbeioooohbgaaGreatDoor.Fi
end
section
namespace Go.Proofs.YtagbeioooohbgaaGreatDoor.Fi
open Go.RowKit

/-- The words between rows of blanks; ahead: what the word under way has so far. -/
def wds : List UInt8 → List UInt8 → List (List UInt8)
  | cur, [] => if cur = [] then [] else [cur]
  | cur, c :: l => if blk c.toNat then (if cur = [] then wds [] l else cur :: wds [] l) else wds (cur ++ [c]) l
theorem wds_run : ∀ (x cur l : List UInt8), (∀ c ∈ x, blk c.toNat = false) → wds cur (x ++ l) = wds (cur ++ x) l
  | [], cur, l, _ => by simp
  | c :: x, cur, l, h => by
    rw [List.cons_append, wds, h c (by simp)]
    simp only [Bool.false_eq_true, if_false]
    rw [wds_run x (cur ++ [c]) l (fun d hd => h d (by simp [hd])), List.append_assoc]
    rfl
theorem get_at (s : ByteArray) (k : Nat) (h : k < s.size) : s.get! k = s[k] := by
  simp [ByteArray.get!, getElem!_pos, h]; rfl
/-- What a range over a string steps over. -/
theorem chunk (s : ByteArray) (pos : Nat) (h : pos < s.size) : 1 ≤ (Utf8.decode s pos).2 ∧ pos + (Utf8.decode s pos).2 ≤ s.size ∧
    (((Utf8.decode s pos).2 = 1 ∧ (Utf8.decode s pos).1 = s[pos].toNat ∧ s[pos].toNat < 128) ∨ (128 ≤ (Utf8.decode s pos).1 ∧ ∀ j, j < (Utf8.decode s pos).2 → ∀ hh : pos + j < s.size, 128 ≤ s[pos + j].toNat)) := by
  have hw := Lib.width_pos s pos
  have hn : pos + (Utf8.decode s pos).2 ≤ s.size := by
    have := Lib.decodeN_le_n' (s.size - pos) (s.get! pos).toNat (s.get! (pos + 1)).toNat (s.get! (pos + 2)).toNat (s.get! (pos + 3)).toNat (by omega)
    rw [← Lib.decode_at] at this
    omega
  refine ⟨hw, hn, ?_⟩
  have e0 := get_at s pos h
  by_cases ha : s[pos].toNat < 128
  · left
    have := Lib.decodeN_ascii (s.size - pos) (s.get! pos).toNat (s.get! (pos + 1)).toNat (s.get! (pos + 2)).toNat (s.get! (pos + 3)).toNat (by rw [e0]; exact ha)
    rw [← Lib.decode_at] at this
    rw [this, e0]
    exact ⟨rfl, rfl, ha⟩
  · right
    refine ⟨high_rune s pos h (by omega), ?_⟩
    have hd := Lib.decode_at s pos
    rcases Lib.decodeN_shape (s.size - pos) (s.get! pos).toNat (s.get! (pos + 1)).toNat (s.get! (pos + 2)).toNat (s.get! (pos + 3)).toNat with ⟨h1, _⟩ | ⟨_, _, b1, _, he⟩ | ⟨_, _, b1, b2, _, _, he⟩ | ⟨_, _, b1, b2, b3, _, _, he⟩ | he
    · rw [e0] at h1; omega
    all_goals
      rw [he] at hd
      rw [hd]
      intro j hj hh
      have hj4 : j = 0 ∨ j = 1 ∨ j = 2 ∨ j = 3 := by simp at hj; omega
      rcases hj4 with rfl | rfl | rfl | rfl
    all_goals first
      | (simp at hj; done)
      | (show 128 ≤ s[pos].toNat; omega)
      | (rw [← get_at s _ hh]; omega)
theorem lst_get (s : ByteArray) (k : Nat) (h : k < s.size) : s.data.toList[k]? = some s[k] := by
  rw [List.getElem?_eq_getElem (by simpa using h)]; rfl
def curOf (s : ByteArray) (st : Option Nat) (pos : Nat) : List UInt8 := match st with
  | none => []
  | some a => (s.data.toList.drop a).take (pos - a)
theorem cur_ne (s : ByteArray) (a pos : Nat) (h : a < pos) (hp : pos ≤ s.size) : curOf s (some a) pos ≠ [] := by
  unfold curOf
  intro hh
  have := congrArg List.length hh
  simp [List.length_take] at this
  omega
theorem cur_on (s : ByteArray) (a pos K : Nat) (h : a ≤ pos) : curOf s (some a) pos ++ (s.data.toList.drop pos).take K = curOf s (some a) (pos + K) := by
  show (s.data.toList.drop a).take (pos - a) ++ (s.data.toList.drop pos).take K = (s.data.toList.drop a).take (pos + K - a)
  rw [show pos + K - a = (pos - a) + K by omega, List.take_add, List.drop_drop, show a + (pos - a) = pos by omega]
theorem spans_wds (s : ByteArray) : ∀ (f pos : Nat) (st : Option Nat) (acc : List (Nat × Nat)), s.size ≤ pos + f → pos ≤ s.size → (∀ a, st = some a → a < pos) →
    (Lib.closeSpans s (Lib.spansFromP blk s f pos st acc)).map (fun x => (s.extract x.1 x.2).data.toList) = acc.map (fun x => (s.extract x.1 x.2).data.toList) ++ wds (curOf s st pos) (s.data.toList.drop pos) := by
  intro f
  induction f with
  | zero =>
    intro pos st acc h1 h2 h3
    have hp : pos = s.size := by omega
    rw [Lib.spansFromP_end blk s 0 pos st acc (by omega), lst_end s pos (by omega)]
    cases st with
    | none => simp [Lib.closeSpans, curOf, wds]
    | some a =>
      have hne := cur_ne s a pos (h3 a rfl) h2
      simp only [Lib.closeSpans, wds, hne, if_false, List.map_append, List.map_cons, List.map_nil]
      rw [Lib.extract_data]
      unfold curOf
      rw [hp]
  | succ f ih =>
    intro pos st acc h1 h2 h3
    by_cases hlt : pos < s.size
    · obtain ⟨k1, k2, k3⟩ := chunk s pos hlt
      simp only [Lib.spansFromP, hlt, if_true]
      generalize hK : (Utf8.decode s pos).2 = K at *
      generalize hR : (Utf8.decode s pos).1 = R at *
      cases hb : blk R with
      | true =>
        have hR3 : R < 128 := by
          by_cases hh : R < 128
          · exact hh
          · rw [blk_high (by omega)] at hb; cases hb
        rcases k3 with ⟨rfl, hr, hs⟩ | ⟨hh, _⟩
        · have hbc : blk s[pos].toNat = true := by rw [← hr]; exact hb
          simp only [if_true]
          cases st with
          | none =>
            simp only
            rw [ih (pos + 1) none acc (by omega) (by omega) (fun a h => by cases h), lst_at s pos hlt]
            show _ = _ ++ wds [] (s[pos] :: _)
            rw [wds]
            simp [hbc, curOf]
          | some a =>
            simp only
            rw [ih (pos + 1) none _ (by omega) (by omega) (fun a h => by cases h), lst_at s pos hlt]
            have hne := cur_ne s a pos (h3 a rfl) h2
            rw [wds]
            simp only [hbc, if_true, hne, if_false, List.map_append, List.map_cons, List.map_nil, List.append_assoc]
            rw [Lib.extract_data]
            rfl
        · omega
      | false =>
        have hx : ∀ c ∈ (s.data.toList.drop pos).take K, blk c.toNat = false := by
          intro c hc
          obtain ⟨j, hj⟩ := List.mem_iff_getElem?.1 hc
          rw [List.getElem?_take] at hj
          split at hj
          · rename_i hjK
            rw [List.getElem?_drop, lst_get s (pos + j) (by omega)] at hj
            have hj' := Option.some.inj hj
            subst hj'
            rcases k3 with ⟨rfl, hr, hs⟩ | ⟨hh, hall⟩
            · have : j = 0 := by omega
              subst this
              show blk s[pos].toNat = false
              rw [← hr]; exact hb
            · exact blk_high (hall j hjK (by omega))
          · cases hj
        have hsp : s.data.toList.drop pos = (s.data.toList.drop pos).take K ++ s.data.toList.drop (pos + K) := by
          rw [← List.drop_drop]; exact (List.take_append_drop K _).symm
        simp only [Bool.false_eq_true, if_false]
        cases st with
        | none =>
          simp only
          rw [ih (pos + K) (some pos) acc (by omega) k2 (fun a h => by cases h; omega), hsp, wds_run _ _ _ hx]
          congr 2
          unfold curOf
          simp [show pos + K - pos = K by omega]
        | some a =>
          simp only
          have := h3 a rfl
          rw [ih (pos + K) (some a) acc (by omega) k2 (fun b h => by cases h; omega), hsp, wds_run _ _ _ hx, cur_on s a pos K (by omega)]
    · rw [Lib.spansFromP_end blk s _ pos st acc hlt, lst_end s pos (by omega)]
      cases st with
      | none => simp [Lib.closeSpans, curOf, wds]
      | some a =>
        have hne := cur_ne s a pos (h3 a rfl) h2
        simp only [Lib.closeSpans, wds, hne, if_false, List.map_append, List.map_cons, List.map_nil]
        rw [Lib.extract_data]
        unfold curOf
        rw [show pos = s.size by omega]
theorem fields_wds (s : ByteArray) : (Lib.goFieldsP blk s).map (fun x => x.data.toList) = wds [] s.data.toList := by
  have := spans_wds s s.size 0 none [] (by omega) (by omega) (fun a h => by cases h)
  unfold Lib.goFieldsP Lib.spansOfP
  rw [List.map_map]
  exact this

/-- Of words the characters, or the first error. -/
def rnsW : List Int → List (List UInt8) → List Int × Int
  | acc, [] => (acc, 0)
  | acc, x :: r => if (hexE x).2 = 0 then rnsW (acc ++ [(hexE x).1]) r else ([], (hexE x).2)
def rnsE (l : List UInt8) : List Int × Int := rnsW [] (wds [] l)
def i32s (l : List Int) : List Value := l.map fun x => .int .i32 x
theorem i32s_app (a b : List Int) : i32s (a ++ b) = i32s a ++ i32s b := by simp [i32s]
theorem r_info : (Tryz.prog.info? 21).map (fun i => (i.zero, i.size, i.bytes)) = some (some (.int .i32 0), 1, 4) := by kernel_rfl
def RnsP (w : World) (x : List Int × Int) (e : Ending) (w' : World) : Prop := ∃ v, e = .returned (.tuple #[v, .int .i64 x.2]) ∧ w'.ownsRow w.heap.size 21 1 v x.1.length (i32s x.1) ∧ Below w.heap.size w w'
theorem own_below' {w w' : World} {b : Nat} {e : TypeId} {z n : Nat} {v : Value} {xs : List Value} (h : w.ownsRow b e z v n xs) (hb : Below w.heap.size w w') : w'.ownsRow b e z v n xs := Go.Proofs.own_below h hb

end Go.Proofs.YtagbeioooohbgaaGreatDoor.Fi
end

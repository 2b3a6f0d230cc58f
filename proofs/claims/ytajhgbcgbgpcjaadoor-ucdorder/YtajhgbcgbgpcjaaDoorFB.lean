import Derived.Test.YtajhgbcgbgpcjaaDoorFA
namespace Go.Proofs.YtajhgbcgbgpcjaaDoor.Fi
open Go.RowKit

theorem lst_at (s : ByteArray) (k : Nat) (h : k < s.size) : s.data.toList.drop k = s[k] :: s.data.toList.drop (k + 1) := by
  rw [List.drop_eq_getElem_cons (by simpa using h)]; rfl
theorem lst_len (s : ByteArray) : s.data.toList.length = s.size := by simp
theorem lst_end (s : ByteArray) (k : Nat) (h : s.size ≤ k) : s.data.toList.drop k = [] := List.drop_eq_nil_of_le (by simpa using h)
theorem str_eq {s t : ByteArray} (h : s.data.toList = t.data.toList) : s = t := ByteArray.ext (Array.toList_inj.1 h)
theorem str_of (s : ByteArray) (l : List UInt8) (h : s.data.toList = l) : s = ⟨l.toArray⟩ := str_eq (by simp [h])
theorem emp_yes {s : ByteArray} (h : s.size = 0) : s = ⟨#[]⟩ := str_eq (List.eq_nil_of_length_eq_zero (by rw [lst_len]; exact h))
theorem emp_no {s : ByteArray} (h : 0 < s.size) : s.toList.isEmpty = false := by
  rw [Lib.toList_data]
  cases hh : s.data.toList with
  | nil => have := lst_len s; rw [hh, List.length_nil] at this; omega
  | cons _ _ => rfl
theorem emp_ne {s : ByteArray} (h : 0 < s.size) : ¬ s.toList = [] := by
  intro hh
  have := emp_no h
  rw [hh] at this
  cases this
/-- What a range over a string hands out at a byte beyond ASCII is beyond ASCII. -/
theorem high_rune (s : ByteArray) (k : Nat) (h : k < s.size) (ha : 128 ≤ s[k].toNat) : 128 ≤ (Utf8.decode s k).1 := by
  rw [Lib.decode_at]
  have hg : (s.get! k).toNat = s[k].toNat := by
    rw [show s.get! k = s[k] from by simp [ByteArray.get!, getElem!_pos, h]; rfl]
  rcases Lib.decodeN_shape (s.size - k) (s.get! k).toNat (s.get! (k + 1)).toNat (s.get! (k + 2)).toNat (s.get! (k + 3)).toNat with ⟨h1, _⟩ | ⟨_, _, _, h2, he⟩ | ⟨_, _, _, _, h2, _, he⟩ | ⟨_, _, _, _, _, h2, _, he⟩ | he
  · omega
  all_goals rw [he]; simp; try omega
/-- The number that digits tell, behind what is told ahead. -/
def dgs (base : Nat) : Nat → List UInt8 → Option Nat
  | n, [] => some n
  | n, c :: l => if dv c.toNat < base then dgs base (n * base + dv c.toNat) l else none
def digs (base most : Nat) (l : List UInt8) : Option Nat := if l.length = 0 ∨ most < l.length then none else dgs base 0 l
def numV (o : Option Nat) : Value := .tuple #[.int .i64 ((o.getD 0 : Nat) : Int), .bool o.isSome]
theorem numV_no : Value.tuple #[.int .i64 0, .bool false] = numV none := rfl
theorem numV_yes (n : Nat) : Value.tuple #[.int .i64 (n : Int), .bool true] = numV (some n) := rfl
theorem digs_len {base most : Nat} {l : List UInt8} (h : l.length = 0 ∨ most < l.length) : digs base most l = none := by unfold digs; rw [if_pos h]
theorem digs_in {base most : Nat} {l : List UInt8} (h : ¬ (l.length = 0 ∨ most < l.length)) : digs base most l = dgs base 0 l := by unfold digs; rw [if_neg h]
theorem ret_eq {a b : Value} (h : a = b) : Ending.returned a = .returned b := by rw [h]

set_option maxRecDepth 100000 in
set_option maxHeartbeats 2000000 in
theorem digits16 (s : ByteArray) (most : Nat) (w : World) (hm : most ≤ 6) (hs : s.size ≤ 9223372036854775807) :
    Calls Tryd.prog 62 #[.string s, .int .i64 16, .int .i64 most] w fun e w' => e = .returned (numV (digs 16 most s.data.toList)) ∧ Below w.heap.size w w' := by
  by_cases h0 : s.size = 0
  · obtain rfl := emp_yes h0
    have H := Lib.hid (show digs 16 most (⟨#[]⟩ : ByteArray).data.toList = none from digs_len (.inl rfl))
    clear h0
    go_enter Tryd.func62, Tryd.ntmps62
    go_wp2_with fail
    go_ret2
    exact ⟨ret_eq (by rw [H.out]; rfl), Below.refl _ _⟩
  · have he := emp_no (s := s) (by omega)
    have hne := emp_ne (s := s) (by omega)
    by_cases h1 : most < s.size
    · have H := Lib.hid (show digs 16 most s.data.toList = none from digs_len (.inr (by rw [lst_len]; exact h1)))
      have h2 : (most : Int) < s.size := by omega
      go_enter Tryd.func62, Tryd.ntmps62
      go_wp2_with fail
      go_ret2
      exact ⟨ret_eq (by rw [H.out]; rfl), Below.refl _ _⟩
    · have H := Lib.hid (show digs 16 most s.data.toList = dgs 16 0 s.data.toList from digs_in (by rw [lst_len]; omega))
      have h2 : ¬ (most : Int) < s.size := by omega
      have h3 : decide (most < s.size) = false := by simp; omega
      go_enter Tryd.func62, Tryd.ntmps62
      go_wp2_with fail
      clear he hne h2 h3
      go_loopg [6] s.size (fun gf s6 wx => ∃ pos n : Nat, s6 = .int .i64 n ∧ pos + gf = s.size ∧ pos ≤ s.size ∧ n < 16 ^ pos ∧ dgs 16 n (s.data.toList.drop pos) = dgs 16 0 s.data.toList ∧ wx.heap[w.heap.size]? = some (.stringIter s pos) ∧ Below w.heap.size w wx)
      case atStart => exact ⟨0, 0, rfl, by omega, by omega, by simp, rfl, World.iter_heap w s 0, (Below.refl _ w).alloc (Nat.le_refl _) _⟩
      case round =>
        obtain ⟨pos, n, rfl, hg, hp, hn, hd, hit, hbw⟩ := hrel
        have hD := Lib.hid hd
        clear hd
        have hP : 16 ^ pos ≤ 16777216 := Nat.le_trans (Nat.pow_le_pow_right (by omega) (show pos ≤ 6 by omega)) (by decide)
        have hn2 : n ≤ 16777215 := by omega
        have hPs : 16 ^ (pos + 1) = 16 ^ pos * 16 := Nat.pow_succ ..
        by_cases hlt : pos < s.size
        · obtain ⟨g', rfl⟩ : ∃ g', gk = g' + 1 := ⟨gk - 1, by omega⟩
          by_cases ha : s[pos].toNat < 128
          · have hnx : ∀ ty, (Instr.next (.pointer (some ⟨w.heap.size, 0, none⟩)) true ty).run Tryd.prog wr = _ := fun ty => Lib.run_next_ascii_at wr w.heap.size s pos ty hit hlt ha
            have hit2 := Lib.hid (Lib.iterAt_heap wr w.heap.size s pos (pos + 1) hit)
            have hbw2 := Lib.hid (Lib.below_iterAt hbw (k := w.heap.size) (Nat.le_refl _) s (pos + 1))
            have hcut := Lib.hid (lst_at s pos hlt)
            obtain ⟨c, hc⟩ : ∃ c, c = s[pos].toNat := ⟨_, rfl⟩
            obtain ⟨W, hW⟩ : ∃ W, W = wr.iterAt w.heap.size s (pos + 1) := ⟨_, rfl⟩
            rw [← hc, ← hW] at hnx
            have HC := Lib.hid hc
            have HW := Lib.hid hW
            have HN := Lib.hid hn
            have HP := Lib.hid hPs
            have hcl : c ≤ 1114111 := by omega
            have hdl := dv_le c
            obtain ⟨d, hd⟩ : ∃ d, d = dv c := ⟨_, rfl⟩
            have HD := Lib.hid hd
            clear hit hbw hc hW hn hPs hP
            rw [← hd] at hdl
            have cD : Calls Tryd.prog 84 #[.int .i32 c] W fun e w' => e = .returned (.int .i64 d) ∧ W = w' := by rw [hd]; exact digit_any c W hcl
            clear hd
            by_cases hb : d < 16
            · have hb2 : decide ((16 : Int) ≤ d) = false := by simp; omega
              have hb3 : ¬ (16 : Int) ≤ d := by omega
              go_wp2_with ((go_at_call 84; refine cD.mono ?_; rintro e w' ⟨rfl, rfl⟩))
              go_roundg g'
              case measure => omega
              case rel =>
                have e1 := HC.out
                have e2 := HD.out
                have e3 := HW.out
                have e4 := HN.out
                have e5 := HP.out
                have e6 : dgs 16 (n * 16 + d) (s.data.toList.drop (pos + 1)) = dgs 16 0 s.data.toList := by
                  rw [← hD.out, hcut.out, dgs, if_pos (by rw [← e1, ← e2]; exact hb), ← e1, ← e2]
                exact ⟨pos + 1, n * 16 + d, by go_num, by omega, by omega, by omega, e6, by rw [e3]; exact hit2.out, by rw [e3]; exact hbw2.out⟩
            · have hb2 : decide ((16 : Int) ≤ d) = true := by simp; omega
              have hb3 : (16 : Int) ≤ d := by omega
              go_wp2_with ((go_at_call 84; refine cD.mono ?_; rintro e w' ⟨rfl, rfl⟩))
              go_ret2
              have e1 := HC.out
              have e2 := HD.out
              have e3 := HW.out
              exact ⟨ret_eq (by rw [H.out, ← hD.out, hcut.out, dgs, if_neg (by rw [← e1, ← e2]; exact hb)]; rfl), by rw [e3]; exact hbw2.out⟩
          · have hnx : ∀ ty, (Instr.next (.pointer (some ⟨w.heap.size, 0, none⟩)) true ty).run Tryd.prog wr = _ := fun ty => Lib.run_next_any_at wr w.heap.size s pos ty hit hlt
            have hhi := high_rune s pos hlt (by omega)
            have hrl := Lib.rune_le s pos
            have hbw2 := Lib.hid (Lib.below_iterAt hbw (k := w.heap.size) (Nat.le_refl _) s (pos + (Utf8.decode s pos).2))
            have hcut := Lib.hid (lst_at s pos hlt)
            have hdc := Lib.hid (dv_high (b := s[pos].toNat) (by omega))
            obtain ⟨c, hc⟩ : ∃ c, c = (Utf8.decode s pos).1 := ⟨_, rfl⟩
            obtain ⟨W, hW⟩ : ∃ W, W = wr.iterAt w.heap.size s (pos + (Utf8.decode s pos).2) := ⟨_, rfl⟩
            rw [← hc, ← hW] at hnx
            rw [← hc] at hhi hrl
            have HW := Lib.hid hW
            have cD : Calls Tryd.prog 84 #[.int .i32 c] W fun e w' => e = .returned (.int .i64 16) ∧ W = w' := by
              have := digit_any c W hrl
              rw [dv_high hhi] at this
              exact this
            clear hit hbw hc hW hn hPs hP
            go_wp2_with ((go_at_call 84; refine cD.mono ?_; rintro e w' ⟨rfl, rfl⟩))
            go_ret2
            have e3 := HW.out
            exact ⟨ret_eq (by rw [H.out, ← hD.out, hcut.out, dgs, if_neg (by rw [hdc.out]; decide)]; rfl), by rw [e3]; exact hbw2.out⟩
        · have hnx : ∀ ty, (Instr.next (.pointer (some ⟨w.heap.size, 0, none⟩)) true ty).run Tryd.prog wr = _ := fun ty => Lib.run_next_end_at wr w.heap.size s pos ty hit hlt
          have HE := Lib.hid (lst_end s pos (by omega))
          have HB := Lib.hid hbw
          clear hit hbw hn hPs hP
          go_wp2_with fail
          go_ret2
          exact ⟨ret_eq (by rw [H.out, ← hD.out, HE.out]; rfl), HB.out⟩

set_option maxRecDepth 100000 in
set_option maxHeartbeats 2000000 in
theorem digits10 (s : ByteArray) (most : Nat) (w : World) (hm : most ≤ 6) (hs : s.size ≤ 9223372036854775807) :
    Calls Tryd.prog 62 #[.string s, .int .i64 10, .int .i64 most] w fun e w' => e = .returned (numV (digs 10 most s.data.toList)) ∧ Below w.heap.size w w' := by
  by_cases h0 : s.size = 0
  · obtain rfl := emp_yes h0
    have H := Lib.hid (show digs 10 most (⟨#[]⟩ : ByteArray).data.toList = none from digs_len (.inl rfl))
    clear h0
    go_enter Tryd.func62, Tryd.ntmps62
    go_wp2_with fail
    go_ret2
    exact ⟨ret_eq (by rw [H.out]; rfl), Below.refl _ _⟩
  · have he := emp_no (s := s) (by omega)
    have hne := emp_ne (s := s) (by omega)
    by_cases h1 : most < s.size
    · have H := Lib.hid (show digs 10 most s.data.toList = none from digs_len (.inr (by rw [lst_len]; exact h1)))
      have h2 : (most : Int) < s.size := by omega
      go_enter Tryd.func62, Tryd.ntmps62
      go_wp2_with fail
      go_ret2
      exact ⟨ret_eq (by rw [H.out]; rfl), Below.refl _ _⟩
    · have H := Lib.hid (show digs 10 most s.data.toList = dgs 10 0 s.data.toList from digs_in (by rw [lst_len]; omega))
      have h2 : ¬ (most : Int) < s.size := by omega
      have h3 : decide (most < s.size) = false := by simp; omega
      go_enter Tryd.func62, Tryd.ntmps62
      go_wp2_with fail
      clear he hne h2 h3
      go_loopg [6] s.size (fun gf s6 wx => ∃ pos n : Nat, s6 = .int .i64 n ∧ pos + gf = s.size ∧ pos ≤ s.size ∧ n < 10 ^ pos ∧ dgs 10 n (s.data.toList.drop pos) = dgs 10 0 s.data.toList ∧ wx.heap[w.heap.size]? = some (.stringIter s pos) ∧ Below w.heap.size w wx)
      case atStart => exact ⟨0, 0, rfl, by omega, by omega, by simp, rfl, World.iter_heap w s 0, (Below.refl _ w).alloc (Nat.le_refl _) _⟩
      case round =>
        obtain ⟨pos, n, rfl, hg, hp, hn, hd, hit, hbw⟩ := hrel
        have hD := Lib.hid hd
        clear hd
        have hP : 10 ^ pos ≤ 16777216 := Nat.le_trans (Nat.pow_le_pow_right (by omega) (show pos ≤ 6 by omega)) (by decide)
        have hn2 : n ≤ 16777215 := by omega
        have hPs : 10 ^ (pos + 1) = 10 ^ pos * 10 := Nat.pow_succ ..
        by_cases hlt : pos < s.size
        · obtain ⟨g', rfl⟩ : ∃ g', gk = g' + 1 := ⟨gk - 1, by omega⟩
          by_cases ha : s[pos].toNat < 128
          · have hnx : ∀ ty, (Instr.next (.pointer (some ⟨w.heap.size, 0, none⟩)) true ty).run Tryd.prog wr = _ := fun ty => Lib.run_next_ascii_at wr w.heap.size s pos ty hit hlt ha
            have hit2 := Lib.hid (Lib.iterAt_heap wr w.heap.size s pos (pos + 1) hit)
            have hbw2 := Lib.hid (Lib.below_iterAt hbw (k := w.heap.size) (Nat.le_refl _) s (pos + 1))
            have hcut := Lib.hid (lst_at s pos hlt)
            obtain ⟨c, hc⟩ : ∃ c, c = s[pos].toNat := ⟨_, rfl⟩
            obtain ⟨W, hW⟩ : ∃ W, W = wr.iterAt w.heap.size s (pos + 1) := ⟨_, rfl⟩
            rw [← hc, ← hW] at hnx
            have HC := Lib.hid hc
            have HW := Lib.hid hW
            have HN := Lib.hid hn
            have HP := Lib.hid hPs
            have hcl : c ≤ 1114111 := by omega
            have hdl := dv_le c
            obtain ⟨d, hd⟩ : ∃ d, d = dv c := ⟨_, rfl⟩
            have HD := Lib.hid hd
            clear hit hbw hc hW hn hPs hP
            rw [← hd] at hdl
            have cD : Calls Tryd.prog 84 #[.int .i32 c] W fun e w' => e = .returned (.int .i64 d) ∧ W = w' := by rw [hd]; exact digit_any c W hcl
            clear hd
            by_cases hb : d < 10
            · have hb2 : decide ((10 : Int) ≤ d) = false := by simp; omega
              have hb3 : ¬ (10 : Int) ≤ d := by omega
              go_wp2_with ((go_at_call 84; refine cD.mono ?_; rintro e w' ⟨rfl, rfl⟩))
              go_roundg g'
              case measure => omega
              case rel =>
                have e1 := HC.out
                have e2 := HD.out
                have e3 := HW.out
                have e4 := HN.out
                have e5 := HP.out
                have e6 : dgs 10 (n * 10 + d) (s.data.toList.drop (pos + 1)) = dgs 10 0 s.data.toList := by
                  rw [← hD.out, hcut.out, dgs, if_pos (by rw [← e1, ← e2]; exact hb), ← e1, ← e2]
                exact ⟨pos + 1, n * 10 + d, by go_num, by omega, by omega, by omega, e6, by rw [e3]; exact hit2.out, by rw [e3]; exact hbw2.out⟩
            · have hb2 : decide ((10 : Int) ≤ d) = true := by simp; omega
              have hb3 : (10 : Int) ≤ d := by omega
              go_wp2_with ((go_at_call 84; refine cD.mono ?_; rintro e w' ⟨rfl, rfl⟩))
              go_ret2
              have e1 := HC.out
              have e2 := HD.out
              have e3 := HW.out
              exact ⟨ret_eq (by rw [H.out, ← hD.out, hcut.out, dgs, if_neg (by rw [← e1, ← e2]; exact hb)]; rfl), by rw [e3]; exact hbw2.out⟩
          · have hnx : ∀ ty, (Instr.next (.pointer (some ⟨w.heap.size, 0, none⟩)) true ty).run Tryd.prog wr = _ := fun ty => Lib.run_next_any_at wr w.heap.size s pos ty hit hlt
            have hhi := high_rune s pos hlt (by omega)
            have hrl := Lib.rune_le s pos
            have hbw2 := Lib.hid (Lib.below_iterAt hbw (k := w.heap.size) (Nat.le_refl _) s (pos + (Utf8.decode s pos).2))
            have hcut := Lib.hid (lst_at s pos hlt)
            have hdc := Lib.hid (dv_high (b := s[pos].toNat) (by omega))
            obtain ⟨c, hc⟩ : ∃ c, c = (Utf8.decode s pos).1 := ⟨_, rfl⟩
            obtain ⟨W, hW⟩ : ∃ W, W = wr.iterAt w.heap.size s (pos + (Utf8.decode s pos).2) := ⟨_, rfl⟩
            rw [← hc, ← hW] at hnx
            rw [← hc] at hhi hrl
            have HW := Lib.hid hW
            have cD : Calls Tryd.prog 84 #[.int .i32 c] W fun e w' => e = .returned (.int .i64 16) ∧ W = w' := by
              have := digit_any c W hrl
              rw [dv_high hhi] at this
              exact this
            clear hit hbw hc hW hn hPs hP
            go_wp2_with ((go_at_call 84; refine cD.mono ?_; rintro e w' ⟨rfl, rfl⟩))
            go_ret2
            have e3 := HW.out
            exact ⟨ret_eq (by rw [H.out, ← hD.out, hcut.out, dgs, if_neg (by rw [hdc.out]; decide)]; rfl), by rw [e3]; exact hbw2.out⟩
        · have hnx : ∀ ty, (Instr.next (.pointer (some ⟨w.heap.size, 0, none⟩)) true ty).run Tryd.prog wr = _ := fun ty => Lib.run_next_end_at wr w.heap.size s pos ty hit hlt
          have HE := Lib.hid (lst_end s pos (by omega))
          have HB := Lib.hid hbw
          clear hit hbw hn hPs hP
          go_wp2_with fail
          go_ret2
          exact ⟨ret_eq (by rw [H.out, ← hD.out, HE.out]; rfl), HB.out⟩

end Go.Proofs.YtajhgbcgbgpcjaaDoor.Fi

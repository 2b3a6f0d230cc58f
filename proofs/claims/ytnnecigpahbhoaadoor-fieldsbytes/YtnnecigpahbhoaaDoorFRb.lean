import Derived.Test.YtnnecigpahbhoaaDoorFRa
import Derived.Test.YtnnecigpahbhoaaDoorFK
namespace Go.Proofs.YtnnecigpahbhoaaDoor.Fi
open Go.RowKit

def isb (c : UInt8) : Bool := ([9, 13, 32] : List UInt8).contains c
set_option maxRecDepth 100000 in
theorem isb_blk (c : UInt8) : isb c = blB c.toNat := by
  have : ∀ y : Fin 256, isb (UInt8.ofNat y.val) = blB (UInt8.ofNat y.val).toNat := by decide +kernel
  have h := this ⟨c.toNat, c.toNat_lt⟩
  simpa using h
def lt (l : List UInt8) : List UInt8 := l.dropWhile isb
def rt (l : List UInt8) : List UInt8 := (l.reverse.dropWhile isb).reverse
theorem bareL_eq (l : List UInt8) : bareL l = lt (rt l) := rfl
theorem lt_yes {c : UInt8} {l : List UInt8} (h : isb c = true) : lt (c :: l) = lt l := by unfold lt; rw [List.dropWhile_cons, if_pos h]
theorem lt_no {c : UInt8} {l : List UInt8} (h : isb c = false) : lt (c :: l) = c :: l := by unfold lt; rw [List.dropWhile_cons, if_neg (by simp [h])]
theorem rt_yes {c : UInt8} {l : List UInt8} (h : isb c = true) : rt (l ++ [c]) = rt l := by unfold rt; rw [List.reverse_append]; simp [h]
theorem rt_no {c : UInt8} {l : List UInt8} (h : isb c = false) : rt (l ++ [c]) = l ++ [c] := by unfold rt; rw [List.reverse_append]; simp [h]
theorem rt_cons (c : UInt8) (l : List UInt8) : rt (c :: l) = if rt l = [] then (if isb c then [] else [c]) else c :: rt l := by
  unfold rt
  rw [List.reverse_cons, List.dropWhile_append]
  by_cases h : (l.reverse.dropWhile isb) = []
  · simp only [h, List.isEmpty_nil, if_true, List.reverse_nil]
    cases hc : isb c <;> simp [hc]
  · have h2 : (l.reverse.dropWhile isb).isEmpty = false := by simpa using h
    simp [h2, h]
theorem lt_rt : ∀ l : List UInt8, lt (rt l) = rt (lt l)
  | [] => rfl
  | c :: l => by
    cases hc : isb c with
    | true =>
      rw [lt_yes hc, ← lt_rt l, rt_cons]
      by_cases h : rt l = []
      · simp [h, hc, lt]
      · rw [if_neg h, lt_yes hc]
    | false =>
      rw [lt_no hc, rt_cons]
      by_cases h : rt l = []
      · simp [h, hc, lt]
      · rw [if_neg h, lt_no hc]
theorem bareL_rt (l : List UInt8) : bareL l = rt (lt l) := by rw [bareL_eq, lt_rt]
theorem lst_last (s : ByteArray) (n : Nat) (h : s.size = n + 1) (hn : n < s.size) : s.data.toList = (s.extract 0 n).data.toList ++ [s[n]] := by
  rw [Lib.extract_from_zero]
  have e := List.take_append_drop n s.data.toList
  rw [lst_at s n hn, lst_end s (n + 1) (by omega)] at e
  exact e.symm
theorem ext0_size (s : ByteArray) (n : Nat) (h : n ≤ s.size) : (s.extract 0 n).size = n := by
  rw [← lst_len, Lib.extract_from_zero, List.length_take, lst_len]; omega
theorem ext1_size (s : ByteArray) (n : Nat) : (s.extract n s.size).size = s.size - n := by
  rw [← lst_len, Lib.extract_to_end, List.length_drop, lst_len]

set_option maxRecDepth 100000 in
set_option maxHeartbeats 2000000 in
theorem rbare_any (s : ByteArray) (w : World) (hs : s.size ≤ 100000) :
    Calls Tryd.prog 34 #[.string s] w fun e w' => e = .returned (.string ⟨(bareL s.data.toList).toArray⟩) ∧ w = w' := by
  go_enter Tryd.func34, Tryd.ntmps34
  go_wp2_with fail
  go_loopg [0] s.size (fun gf s0 wx => w = wx ∧ ∃ t : ByteArray, s0 = .string t ∧ t.size ≤ gf ∧ gf ≤ 100000 ∧ Hid (lt t.data.toList = lt s.data.toList))
  case atStart => exact ⟨rfl, s, rfl, Nat.le_refl _, hs, rfl⟩
  case round =>
    obtain ⟨rfl, t, rfl, htg, hgs, HT⟩ := hrel
    have key : t.size = 0 ∨ 0 < t.size := by omega
    rcases key with h0 | h0
    · obtain rfl := emp_yes h0
      have HQ := Lib.hid (show bareL s.data.toList = [] by rw [bareL_rt, ← HT.out]; rfl)
      go_wp2_with fail
      go_loop [0] (fun v => v = .string ⟨#[]⟩) (fun _ => 1)
      case atStart => rfl
      case round =>
        subst hrel
        go_wp2_with fail
        go_ret
        exact ⟨ret_eq (by rw [HQ.out]; rfl), rfl⟩
    · have he := emp_no h0
      have hne := emp_ne h0
      have hcut := Lib.hid (lst_at t 0 h0)
      rw [List.drop_zero] at hcut
      have hbl := fun W => rblank_any t[0].toNat W
      obtain ⟨g', rfl⟩ : ∃ g', gk = g' + 1 := ⟨gk - 1, by omega⟩
      cases hb : blB t[0].toNat with
      | true =>
        rw [hb] at hbl
        have HBL := Lib.hid hbl
        have HQ := Lib.hid (show lt (t.data.toList.drop 1) = lt s.data.toList by rw [← HT.out, hcut.out, lt_yes (by rw [isb_blk]; exact hb)]; rfl)
        clear hbl hb hcut
        go_wp2_with (go_at_call 41; refine (HBL.out _).mono ?_; rintro e w' ⟨rfl, rfl⟩)
        go_roundg g'
        case measure => omega
        case rel => exact ⟨rfl, t.extract 1 t.size, rfl, by rw [ext1_size]; omega, by omega, by rw [Lib.extract_to_end]; exact HQ.out⟩
      | false =>
        rw [hb] at hbl
        have HBL := Lib.hid hbl
        have HQ := Lib.hid (show lt s.data.toList = t.data.toList by rw [← HT.out, hcut.out, lt_no (by rw [isb_blk]; exact hb)])
        clear hbl hb hcut
        go_wp2_with (go_at_call 41; refine (HBL.out _).mono ?_; rintro e w' ⟨rfl, rfl⟩)
        clear he hne HBL
        go_loopg [0] t.size (fun gf s0 wx => w = wx ∧ ∃ u : ByteArray, s0 = .string u ∧ u.size ≤ gf ∧ gf ≤ 100000 ∧ Hid (rt u.data.toList = rt t.data.toList))
        case atStart => exact ⟨rfl, t, rfl, Nat.le_refl _, by omega, rfl⟩
        case round =>
          obtain ⟨rfl, u, rfl, hug, hgu, HU⟩ := hrel
          have key : u.size = 0 ∨ 0 < u.size := by omega
          rcases key with h0 | h0
          · obtain rfl := emp_yes h0
            have HZ := Lib.hid (show bareL s.data.toList = [] by rw [bareL_rt, HQ.out, ← HU.out]; rfl)
            go_wp2_with fail
            go_ret
            exact ⟨ret_eq (by rw [HZ.out]; rfl), rfl⟩
          · have he := emp_no h0
            have hne := emp_ne h0
            obtain ⟨n, hn⟩ : ∃ n, u.size = n + 1 := ⟨u.size - 1, by omega⟩
            have hnl : n < u.size := by omega
            have hcut := Lib.hid (lst_last u n hn hnl)
            have hbl := fun W => rblank_any u[n].toNat W
            obtain ⟨g', rfl⟩ : ∃ g', gk = g' + 1 := ⟨gk - 1, by omega⟩
            cases hb : blB u[n].toNat with
            | true =>
              rw [hb] at hbl
              have HBL := Lib.hid hbl
              have HZ := Lib.hid (show rt (u.extract 0 n).data.toList = rt t.data.toList by rw [← HU.out, hcut.out, rt_yes (by rw [isb_blk]; exact hb)])
              have HES := Lib.hid (ext0_size u n (by omega))
              clear hbl hb hcut
              go_wp2_with (go_at_call 41; refine (HBL.out _).mono ?_; rintro e w' ⟨rfl, rfl⟩)
              go_roundg g'
              case measure => omega
              case rel => exact ⟨rfl, u.extract 0 n, rfl, by rw [HES.out]; omega, by omega, HZ.out⟩
            | false =>
              rw [hb] at hbl
              have HBL := Lib.hid hbl
              have HZ := Lib.hid (show bareL s.data.toList = u.data.toList from by
                have e1 : rt u.data.toList = u.data.toList := by
                  have h5 := hcut.out
                  rw [h5]
                  exact rt_no (by rw [isb_blk]; exact hb)
                rw [bareL_rt, HQ.out, ← HU.out, e1])
              clear hbl hb hcut
              go_wp2_with (go_at_call 41; refine (HBL.out _).mono ?_; rintro e w' ⟨rfl, rfl⟩)
              go_ret
              exact ⟨ret_eq (by rw [HZ.out]; rfl), rfl⟩

end Go.Proofs.YtnnecigpahbhoaaDoor.Fi

import Derived.Test.YtagbeioooohbgaaGreatDoorM09
namespace Go.Proofs.YtagbeioooohbgaaGreatDoor.Ha
open Go.RowKit

theorem find_is {r : Int} (h : isS r = true) : findE r = (ldN r, vwN r, tlN r, true) := by unfold findE; rw [if_pos h]
theorem find_isno {r : Int} (h : isS r = false) : findE r = (0, 0, 0, false) := by unfold findE; simp [h]
theorem find_call {r : Int} (w : World) (h : isS r = true) : Calls Tryz.prog 66 #[.int .i32 r] w fun e w' => e = .returned (.tuple #[.int .i64 (ldN r), .int .i64 (vwN r), .int .i64 (tlN r), .bool true]) ∧ w = w' := by
  have h9 := find_any r w
  rw [find_is h] at h9
  exact h9
theorem find_callno {r : Int} (w : World) (h : isS r = false) : Calls Tryz.prog 66 #[.int .i32 r] w fun e w' => e = .returned (.tuple #[.int .i64 0, .int .i64 0, .int .i64 0, .bool false]) ∧ w = w' := by
  have h9 := find_any r w
  rw [find_isno h] at h9
  exact h9

set_option maxHeartbeats 4000000 in
set_option maxRecDepth 100000 in
theorem rsplit_any (r : Int) (w : World) : Calls Tryz.prog 38 #[.int .i32 r] w fun e w' => e = .returned (spV (splE r)) ∧ w = w' := by
  cases h : isS r with
  | false =>
    have H := Lib.hid (split_no h)
    have HF := Lib.hid (find_callno w h)
    clear h
    go_enter Tryz.func38, Tryz.ntmps38
    go_wp2_with (go_at_call 66; refine HF.out.mono ?_; rintro e w' ⟨rfl, rfl⟩)
    exact bodyPost_ret (v := .tuple #[.int .i32 0, .int .i32 0, .bool false]) (by simp [results, Tryz.results38, go_sem]) rfl ⟨spV_eq H.out, rfl⟩
  | true =>
    have HF := find_call w h
    have h1 := ldN_bd h
    have h2 := vwN_bd r
    have h3 := tlN_bd r
    have h4 := of_parts (r := r)
    by_cases ht : tlN r = 0
    · have H := Lib.hid (spl_lv h ht)
      rw [ht] at HF
      have HFF := Lib.hid HF
      clear h ht HF h3 h4
      generalize ldN r = a at *
      generalize vwN r = b at *
      have m1 : wrap64 (4352 + a) = 4352 + a := by unfold wrap64; omega
      have m2 : wrap64 (4449 + b) = 4449 + b := by unfold wrap64; omega
      have m3 : IntKind.i32.wrap (4352 + a) = 4352 + a := by rw [IntKind.wrap_i32]; omega
      have m4 : IntKind.i32.wrap (4449 + b) = 4449 + b := by rw [IntKind.wrap_i32]; omega
      go_enter Tryz.func38, Tryz.ntmps38
      go_wp2_with (go_at_call 66; refine HFF.out.mono ?_; rintro e w' ⟨rfl, rfl⟩)
      exact bodyPost_ret (v := .tuple #[.int .i32 (4352 + a), .int .i32 (4449 + b), .bool true]) (by simp [results, Tryz.results38, go_sem]) rfl ⟨spV_eq H.out, rfl⟩
    · have H := Lib.hid (show splE r = (44032 + 588 * ldN r + 28 * vwN r + 0, 4519 + tlN r, true) by
        have := spl_st h ht rfl
        rw [this]
        congr 1
        omega)
      have hne : (tlN r == 0) = false := by simp [ht]
      have HFF := Lib.hid HF
      have HO := Lib.hid (of_any (ldN r) (vwN r) 0 w (by omega) (by omega) (by omega))
      clear h ht HF h4
      generalize ldN r = a at *
      generalize vwN r = b at *
      generalize tlN r = c at *
      have m2 : wrap64 (4519 + c) = 4519 + c := by unfold wrap64; omega
      have m4 : IntKind.i32.wrap (4519 + c) = 4519 + c := by rw [IntKind.wrap_i32]; omega
      go_enter Tryz.func38, Tryz.ntmps38
      go_wp2_with (first
        | (go_at_call 66; refine HFF.out.mono ?_; rintro e w' ⟨rfl, rfl⟩)
        | (go_at_call 67; refine HO.out.mono ?_; rintro e w' ⟨rfl, rfl⟩))
      exact bodyPost_ret (v := .tuple #[.int .i32 (44032 + 588 * a + 28 * b + 0), .int .i32 (4519 + c), .bool true]) (by simp [results, Tryz.results38, go_sem]) rfl ⟨spV_eq H.out, rfl⟩

/-- Join of the reference, by cases. -/
theorem rjoin1 (a b : Int) (w : World) (h1 : 4352 ≤ a ∧ a ≤ 4370) (h2 : 4449 ≤ b ∧ b ≤ 4469) : Calls Tryz.prog 41 #[.int .i32 a, .int .i32 b] w fun e w' => e = .returned (jnV (joinE a b)) ∧ w = w' := by
  have H := Lib.hid (show joinE a b = (44032 + 588 * (a - 4352) + 28 * (b - 4449) + 0, true) by
    unfold joinE
    rw [if_pos ⟨h1, h2⟩]
    congr 1
    omega)
  have HO := Lib.hid (of_any (a - 4352) (b - 4449) 0 w (by omega) (by omega) (by omega))
  have m1 : wrap64 (a - 4352) = a - 4352 := by unfold wrap64; omega
  have m2 : wrap64 (b - 4449) = b - 4449 := by unfold wrap64; omega
  have m3 : wrap64 a = a := by unfold wrap64; omega
  have m4 : wrap64 b = b := by unfold wrap64; omega
  have c1 : 4352 ≤ a := h1.1
  have c2 : a < 4371 := by omega
  have c3 : 4449 ≤ b := h2.1
  have c4 : b < 4470 := by omega
  clear h1 h2
  go_enter Tryz.func41, Tryz.ntmps41
  go_wp2_with (go_at_call 67; refine HO.out.mono ?_; rintro e w' ⟨rfl, rfl⟩)
  exact bodyPost_ret (v := .tuple #[.int .i32 (44032 + 588 * (a - 4352) + 28 * (b - 4449) + 0), .bool true]) (by simp [results, Tryz.results41, go_sem]) rfl ⟨jnV_eq H.out, rfl⟩

theorem rjoin_nos (a b : Int) (w : World) (h1 : ¬ ((4352 ≤ a ∧ a ≤ 4370) ∧ (4449 ≤ b ∧ b ≤ 4469))) (hs : isS a = false) : Calls Tryz.prog 41 #[.int .i32 a, .int .i32 b] w fun e w' => e = .returned (jnV (joinE a b)) ∧ w = w' := by
  have H := Lib.hid (show joinE a b = (0, false) by unfold joinE; rw [if_neg (by unfold lvB; omega), if_neg (by unfold stB; rw [hs]; simp)])
  have HF := Lib.hid (find_callno w hs)
  clear hs
  by_cases c1 : 4352 ≤ a
  · by_cases c2 : a < 4371
    · by_cases c3 : 4449 ≤ b
      · have c4 : ¬ b < 4470 := by omega
        clear h1
        go_enter Tryz.func41, Tryz.ntmps41
        go_wp2_with (first
          | (go_at_call 66; refine HF.out.mono ?_; rintro e w' ⟨rfl, rfl⟩)
          | fail)
        exact bodyPost_ret (v := .tuple #[.int .i32 (0), .bool false]) (by simp [results, Tryz.results41, go_sem]) rfl ⟨jnV_eq H.out, rfl⟩
      · clear h1
        go_enter Tryz.func41, Tryz.ntmps41
        go_wp2_with (first
          | (go_at_call 66; refine HF.out.mono ?_; rintro e w' ⟨rfl, rfl⟩)
          | fail)
        exact bodyPost_ret (v := .tuple #[.int .i32 (0), .bool false]) (by simp [results, Tryz.results41, go_sem]) rfl ⟨jnV_eq H.out, rfl⟩
    · clear h1
      go_enter Tryz.func41, Tryz.ntmps41
      go_wp2_with (first
        | (go_at_call 66; refine HF.out.mono ?_; rintro e w' ⟨rfl, rfl⟩)
        | fail)
      exact bodyPost_ret (v := .tuple #[.int .i32 (0), .bool false]) (by simp [results, Tryz.results41, go_sem]) rfl ⟨jnV_eq H.out, rfl⟩
  · clear h1
    go_enter Tryz.func41, Tryz.ntmps41
    go_wp2_with (first
      | (go_at_call 66; refine HF.out.mono ?_; rintro e w' ⟨rfl, rfl⟩)
      | fail)
    exact bodyPost_ret (v := .tuple #[.int .i32 (0), .bool false]) (by simp [results, Tryz.results41, go_sem]) rfl ⟨jnV_eq H.out, rfl⟩
theorem rjoin_tl (a b : Int) (w : World) (hs : isS a = true) (ht : tlN a ≠ 0) : Calls Tryz.prog 41 #[.int .i32 a, .int .i32 b] w fun e w' => e = .returned (jnV (joinE a b)) ∧ w = w' := by
  have h9 := (isS_iff a).1 hs
  have c1 : 4352 ≤ a := by omega
  have c2 : ¬ a < 4371 := by omega
  have H := Lib.hid (show joinE a b = (0, false) by unfold joinE; rw [if_neg (by unfold lvB; omega), if_neg (by unfold stB; omega)])
  have HF := Lib.hid (find_call w hs)
  have hne : (tlN a == 0) = false := by simp [ht]
  clear hs ht h9
  go_enter Tryz.func41, Tryz.ntmps41
  go_wp2_with (first
    | (go_at_call 66; refine HF.out.mono ?_; rintro e w' ⟨rfl, rfl⟩)
    | fail)
  exact bodyPost_ret (v := .tuple #[.int .i32 (0), .bool false]) (by simp [results, Tryz.results41, go_sem]) rfl ⟨jnV_eq H.out, rfl⟩
theorem rjoin_st (a b : Int) (w : World) (hs : isS a = true) (ht : tlN a = 0) (h3 : 4520 ≤ b ∧ b ≤ 4546) : Calls Tryz.prog 41 #[.int .i32 a, .int .i32 b] w fun e w' => e = .returned (jnV (joinE a b)) ∧ w = w' := by
  have h9 := (isS_iff a).1 hs
  have c1 : 4352 ≤ a := by omega
  have c2 : ¬ a < 4371 := by omega
  have h4 := of_parts (r := a)
  have k1 := ldN_bd hs
  have k2 := vwN_bd a
  have H := Lib.hid (show joinE a b = (44032 + 588 * ldN a + 28 * vwN a + (b - 4519), true) by
    unfold joinE
    rw [if_neg (by unfold lvB; omega), if_pos ⟨⟨hs, ht⟩, h3⟩]
    congr 1
    omega)
  have hf := find_call w hs
  rw [ht] at hf
  have HF := Lib.hid hf
  have HO := Lib.hid (of_any (ldN a) (vwN a) (b - 4519) w (by omega) (by omega) (by omega))
  have c5 : 4519 < b := by omega
  have c6 : b < 4547 := by omega
  have m2 : wrap64 (b - 4519) = b - 4519 := by unfold wrap64; omega
  have m4 : wrap64 b = b := by unfold wrap64; omega
  clear hs ht h9 hf h4 h3
  go_enter Tryz.func41, Tryz.ntmps41
  go_wp2_with (first
    | (go_at_call 66; refine HF.out.mono ?_; rintro e w' ⟨rfl, rfl⟩)
    | (go_at_call 67; refine HO.out.mono ?_; rintro e w' ⟨rfl, rfl⟩)
    | fail)
  exact bodyPost_ret (v := .tuple #[.int .i32 (44032 + 588 * ldN a + 28 * vwN a + (b - 4519)), .bool true]) (by simp [results, Tryz.results41, go_sem]) rfl ⟨jnV_eq H.out, rfl⟩
theorem rjoin_nt (a b : Int) (w : World) (hs : isS a = true) (ht : tlN a = 0) (h3 : ¬ (4520 ≤ b ∧ b ≤ 4546)) : Calls Tryz.prog 41 #[.int .i32 a, .int .i32 b] w fun e w' => e = .returned (jnV (joinE a b)) ∧ w = w' := by
  have h9 := (isS_iff a).1 hs
  have c1 : 4352 ≤ a := by omega
  have c2 : ¬ a < 4371 := by omega
  have H := Lib.hid (show joinE a b = (0, false) by unfold joinE; rw [if_neg (by unfold lvB; omega), if_neg (by unfold stB; omega)])
  have hf := find_call w hs
  rw [ht] at hf
  have HF := Lib.hid hf
  clear hs ht h9 hf
  by_cases c5 : 4519 < b
  · have c6 : ¬ b < 4547 := by omega
    clear h3
    go_enter Tryz.func41, Tryz.ntmps41
    go_wp2_with (first
      | (go_at_call 66; refine HF.out.mono ?_; rintro e w' ⟨rfl, rfl⟩)
      | fail)
    exact bodyPost_ret (v := .tuple #[.int .i32 (0), .bool false]) (by simp [results, Tryz.results41, go_sem]) rfl ⟨jnV_eq H.out, rfl⟩
  · clear h3
    go_enter Tryz.func41, Tryz.ntmps41
    go_wp2_with (first
      | (go_at_call 66; refine HF.out.mono ?_; rintro e w' ⟨rfl, rfl⟩)
      | fail)
    exact bodyPost_ret (v := .tuple #[.int .i32 (0), .bool false]) (by simp [results, Tryz.results41, go_sem]) rfl ⟨jnV_eq H.out, rfl⟩
theorem rjoin_any (a b : Int) (w : World) : Calls Tryz.prog 41 #[.int .i32 a, .int .i32 b] w fun e w' => e = .returned (jnV (joinE a b)) ∧ w = w' := by
  by_cases h1 : (4352 ≤ a ∧ a ≤ 4370) ∧ (4449 ≤ b ∧ b ≤ 4469)
  · exact rjoin1 a b w h1.1 h1.2
  · cases hs : isS a with
    | false => exact rjoin_nos a b w h1 hs
    | true =>
      by_cases ht : tlN a = 0
      · by_cases h3 : 4520 ≤ b ∧ b ≤ 4546
        · exact rjoin_st a b w hs ht h3
        · exact rjoin_nt a b w hs ht h3
      · exact rjoin_tl a b w hs ht

end Go.Proofs.YtagbeioooohbgaaGreatDoor.Ha

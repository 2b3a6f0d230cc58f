import Derived.Test.YtimjggcfkkibbaaDoorJE
namespace Go.Proofs.YtimjggcfkkibbaaDoor.Ha
open Go.RowKit

theorem idx0 (x y z : Value) (W : World) : (Instr.index 37 (.agg #[x, y, z]) (.int .i64 0)).run Tryd.prog W = .ok x W := by kernel_rfl
theorem idx1 (x y z : Value) (W : World) : (Instr.index 37 (.agg #[x, y, z]) (.int .i64 1)).run Tryd.prog W = .ok y W := by kernel_rfl
theorem idx2 (x y z : Value) (W : World) : (Instr.index 37 (.agg #[x, y, z]) (.int .i64 2)).run Tryd.prog W = .ok z W := by kernel_rfl
set_option maxHeartbeats 4000000 in
set_option maxRecDepth 100000 in
theorem join1 (a b : Int) (w : World) (hT : Tab w) (h1 : 4352 ≤ a ∧ a ≤ 4370) (h2 : 4449 ≤ b ∧ b ≤ 4469) : Calls Tryd.prog 16 #[.int .i32 a, .int .i32 b] w fun e w' => e = .returned (jnV (joinE a b)) ∧ Below w.heap.size w w' := by
  have HA := Lib.hid hT.all
  have H := Lib.hid (show joinE a b = (44032 + (a - 4352) * 588 + (b - 4449) * 28, true) by unfold joinE; rw [if_pos ⟨h1, h2⟩])
  have n1 : IntKind.i32.wrap (44032 + (a - 4352) * 588) = 44032 + (a - 4352) * 588 := by rw [IntKind.wrap_i32]; omega
  have n2 : IntKind.i32.wrap (44032 + (a - 4352) * 588 + (b - 4449) * 28) = 44032 + (a - 4352) * 588 + (b - 4449) * 28 := by rw [IntKind.wrap_i32]; omega
  have A0 := Lib.hid (fun W hW => adds0 a W hW h1)
  have A1 := Lib.hid (fun W hW => adds1 b W hW h2)
  have S0 := Lib.hid (show ∀ W, Tab W → Calls Tryd.prog 26 #[.int .i64 0, .int .i32 a] W fun e w' => e = .returned (.bool true) ∧ w' = W from fun W hW => by
    have h9 := stands0 a W hW
    rw [show decide (4352 ≤ a ∧ a ≤ 4370) = true by simp; omega] at h9
    exact h9)
  have S1 := Lib.hid (show ∀ W, Tab W → Calls Tryd.prog 26 #[.int .i64 1, .int .i32 b] W fun e w' => e = .returned (.bool true) ∧ w' = W from fun W hW => by
    have h9 := stands1 b W hW
    rw [show decide (4449 ≤ b ∧ b ≤ 4469) = true by simp; omega] at h9
    exact h9)
  go_enter Tryd.func16, Tryd.ntmps16
  go_wp2_with (first
    | (go_at_call 26; (with_reducible refine (S0.out _ (HA.out _ (Below.refl _ _))).mono ?_); rintro e w' ⟨rfl, rfl⟩)
    | (go_at_call 26; (with_reducible refine (S1.out _ (HA.out _ (Below.refl _ _))).mono ?_); rintro e w' ⟨rfl, rfl⟩)
    | (go_at_call 23; (with_reducible refine (A0.out _ (HA.out _ (Below.refl _ _))).mono ?_); rintro e w' ⟨rfl, m, rfl⟩)
    | (go_at_call 23; (with_reducible refine (A1.out _ (HA.out _ (bel_drewN (Below.refl _ _) _))).mono ?_); rintro e w' ⟨rfl, m2, rfl⟩))
  exact bodyPost_ret (v := .tuple #[.int .i32 (44032 + (a - 4352) * 588 + (b - 4449) * 28), .bool true]) (by simp [results, Tryd.results16, go_sem]) rfl ⟨jnV_eq H.out, (bel_drewN (Below.refl _ _) _)⟩
set_option maxHeartbeats 4000000 in
set_option maxRecDepth 100000 in
theorem join2 (a b : Int) (w : World) (hT : Tab w) (h1 : 4352 ≤ a ∧ a ≤ 4370) (h2 : ¬ (4449 ≤ b ∧ b ≤ 4469)) : Calls Tryd.prog 16 #[.int .i32 a, .int .i32 b] w fun e w' => e = .returned (jnV (joinE a b)) ∧ Below w.heap.size w w' := by
  have HA := Lib.hid hT.all
  have hs : isS a = false := by rw [isS_no]; omega
  have H := Lib.hid (show joinE a b = (0, false) by unfold joinE; rw [if_neg (by unfold lvB; omega), if_neg (by unfold stB; rw [hs]; simp)])
  have S0 := Lib.hid (show ∀ W, Tab W → Calls Tryd.prog 26 #[.int .i64 0, .int .i32 a] W fun e w' => e = .returned (.bool true) ∧ w' = W from fun W hW => by
    have h9 := stands0 a W hW
    rw [show decide (4352 ≤ a ∧ a ≤ 4370) = true by simp; omega] at h9
    exact h9)
  have S1 := Lib.hid (show ∀ W, Tab W → Calls Tryd.prog 26 #[.int .i64 1, .int .i32 b] W fun e w' => e = .returned (.bool false) ∧ w' = W from fun W hW => by
    have h9 := stands1 b W hW
    rw [show decide (4449 ≤ b ∧ b ≤ 4469) = false by simp; omega] at h9
    exact h9)
  have HI := Lib.hid (show Calls Tryd.prog 11 #[.int .i32 a] w fun e w' => e = .returned (.bool false) ∧ w = w' from by
    have h9 := is_any a w
    rw [hs] at h9
    exact h9)
  go_enter Tryd.func16, Tryd.ntmps16
  go_wp2_with (first
    | (go_at_call 26; (with_reducible refine (S0.out _ (HA.out _ (Below.refl _ _))).mono ?_); rintro e w' ⟨rfl, rfl⟩)
    | (go_at_call 26; (with_reducible refine (S1.out _ (HA.out _ (Below.refl _ _))).mono ?_); rintro e w' ⟨rfl, rfl⟩)
    | (go_at_call 11; refine HI.out.mono ?_; rintro e w' ⟨rfl, rfl⟩))
  exact bodyPost_ret (v := .tuple #[.int .i32 (0), .bool false]) (by simp [results, Tryd.results16, go_sem]) rfl ⟨jnV_eq H.out, (Below.refl _ _)⟩
set_option maxHeartbeats 4000000 in
set_option maxRecDepth 100000 in
theorem join3 (a b : Int) (w : World) (hT : Tab w) (h1 : ¬ (4352 ≤ a ∧ a ≤ 4370)) (hs : isS a = false) : Calls Tryd.prog 16 #[.int .i32 a, .int .i32 b] w fun e w' => e = .returned (jnV (joinE a b)) ∧ Below w.heap.size w w' := by
  have HA := Lib.hid hT.all
  have H := Lib.hid (show joinE a b = (0, false) by unfold joinE; rw [if_neg (by unfold lvB; omega), if_neg (by unfold stB; rw [hs]; simp)])
  have S0 := Lib.hid (show ∀ W, Tab W → Calls Tryd.prog 26 #[.int .i64 0, .int .i32 a] W fun e w' => e = .returned (.bool false) ∧ w' = W from fun W hW => by
    have h9 := stands0 a W hW
    rw [show decide (4352 ≤ a ∧ a ≤ 4370) = false by simp; omega] at h9
    exact h9)
  have HI := Lib.hid (show Calls Tryd.prog 11 #[.int .i32 a] w fun e w' => e = .returned (.bool false) ∧ w = w' from by
    have h9 := is_any a w
    rw [hs] at h9
    exact h9)
  go_enter Tryd.func16, Tryd.ntmps16
  go_wp2_with (first
    | (go_at_call 26; (with_reducible refine (S0.out _ (HA.out _ (Below.refl _ _))).mono ?_); rintro e w' ⟨rfl, rfl⟩)
    | (go_at_call 11; refine HI.out.mono ?_; rintro e w' ⟨rfl, rfl⟩))
  exact bodyPost_ret (v := .tuple #[.int .i32 (0), .bool false]) (by simp [results, Tryd.results16, go_sem]) rfl ⟨jnV_eq H.out, (Below.refl _ _)⟩
set_option maxHeartbeats 4000000 in
set_option maxRecDepth 100000 in
theorem join4 (a b : Int) (w : World) (hT : Tab w) (h1 : ¬ (4352 ≤ a ∧ a ≤ 4370)) (hs : isS a = true) (ht : tlN a ≠ 0) : Calls Tryd.prog 16 #[.int .i32 a, .int .i32 b] w fun e w' => e = .returned (jnV (joinE a b)) ∧ Below w.heap.size w w' := by
  have HA := Lib.hid hT.all
  have hix := idx2
  have HM := Lib.hid (made_any a w hT hs)
  have H := Lib.hid (show joinE a b = (0, false) by unfold joinE; rw [if_neg (by unfold lvB; omega), if_neg (by unfold stB; omega)])
  have hb9 := tlN_bd a
  have e9 : (tl3 a == 0) = false := by
    have : tl3 a = 4519 + tlN a := if_neg ht
    rw [this]; simp; omega
  have S0 := Lib.hid (show ∀ W, Tab W → Calls Tryd.prog 26 #[.int .i64 0, .int .i32 a] W fun e w' => e = .returned (.bool false) ∧ w' = W from fun W hW => by
    have h9 := stands0 a W hW
    rw [show decide (4352 ≤ a ∧ a ≤ 4370) = false by simp; omega] at h9
    exact h9)
  have HI := Lib.hid (show Calls Tryd.prog 11 #[.int .i32 a] w fun e w' => e = .returned (.bool true) ∧ w = w' from by
    have h9 := is_any a w
    rw [hs] at h9
    exact h9)
  go_enter Tryd.func16, Tryd.ntmps16
  go_wp2_with (first
    | (go_at_call 26; (with_reducible refine (S0.out _ (HA.out _ (Below.refl _ _))).mono ?_); rintro e w' ⟨rfl, rfl⟩)
    | (go_at_call 11; refine HI.out.mono ?_; rintro e w' ⟨rfl, rfl⟩)
    | (go_at_call 22; refine HM.out.mono ?_; rintro e w1 ⟨rfl, hb⟩; have B1 := Lib.hid hb; clear hb))
  exact bodyPost_ret (v := .tuple #[.int .i32 (0), .bool false]) (by simp [results, Tryd.results16, go_sem]) rfl ⟨jnV_eq H.out, B1.out⟩
set_option maxHeartbeats 4000000 in
set_option maxRecDepth 100000 in
theorem join5 (a b : Int) (w : World) (hT : Tab w) (_h1 : ¬ (4352 ≤ a ∧ a ≤ 4370)) (hs : isS a = true) (ht : tlN a = 0) (h3 : 4520 ≤ b ∧ b ≤ 4546) : Calls Tryd.prog 16 #[.int .i32 a, .int .i32 b] w fun e w' => e = .returned (jnV (joinE a b)) ∧ Below w.heap.size w w' := by
  have HA := Lib.hid hT.all
  have hix := idx2
  have HM := Lib.hid (made_any a w hT hs)
  have e3 : tl3 a = 0 := if_pos ht
  rw [e3] at HM
  have H := Lib.hid (show joinE a b = (a + (b - 4519), true) by unfold joinE; rw [if_neg (by unfold lvB; omega), if_pos ⟨⟨hs, ht⟩, h3⟩])
  have A2 := Lib.hid (fun W hW => adds2 b W hW h3)
  have h9 := (isS_iff a).1 hs
  have n1 : IntKind.i32.wrap (a + (b - 4519)) = a + (b - 4519) := by rw [IntKind.wrap_i32]; omega
  clear e3 ht
  have S0 := Lib.hid (show ∀ W, Tab W → Calls Tryd.prog 26 #[.int .i64 0, .int .i32 a] W fun e w' => e = .returned (.bool false) ∧ w' = W from fun W hW => by
    have h9 := stands0 a W hW
    rw [show decide (4352 ≤ a ∧ a ≤ 4370) = false by simp; omega] at h9
    exact h9)
  have S2 := Lib.hid (show ∀ W, Tab W → Calls Tryd.prog 26 #[.int .i64 2, .int .i32 b] W fun e w' => e = .returned (.bool true) ∧ w' = W from fun W hW => by
    have h9 := stands2 b W hW
    rw [show decide (4520 ≤ b ∧ b ≤ 4546) = true by simp; omega] at h9
    exact h9)
  have HI := Lib.hid (show Calls Tryd.prog 11 #[.int .i32 a] w fun e w' => e = .returned (.bool true) ∧ w = w' from by
    have h9 := is_any a w
    rw [hs] at h9
    exact h9)
  go_enter Tryd.func16, Tryd.ntmps16
  go_wp2_with (first
    | (go_at_call 26; (with_reducible refine (S0.out _ (HA.out _ (Below.refl _ _))).mono ?_); rintro e w' ⟨rfl, rfl⟩)
    | (go_at_call 26; (with_reducible refine (S2.out _ (HA.out _ B1.out)).mono ?_); rintro e w' ⟨rfl, rfl⟩)
    | (go_at_call 11; refine HI.out.mono ?_; rintro e w' ⟨rfl, rfl⟩)
    | (go_at_call 22; refine HM.out.mono ?_; rintro e w1 ⟨rfl, hb⟩; have B1 := Lib.hid hb; clear hb)
    | (go_at_call 23; (with_reducible refine (A2.out _ (HA.out _ B1.out)).mono ?_); rintro e w' ⟨rfl, m, rfl⟩))
  exact bodyPost_ret (v := .tuple #[.int .i32 (a + (b - 4519)), .bool true]) (by simp [results, Tryd.results16, go_sem]) rfl ⟨jnV_eq H.out, (bel_drewN B1.out _)⟩
set_option maxHeartbeats 4000000 in
set_option maxRecDepth 100000 in
theorem join6 (a b : Int) (w : World) (hT : Tab w) (h1 : ¬ (4352 ≤ a ∧ a ≤ 4370)) (hs : isS a = true) (ht : tlN a = 0) (h3 : ¬ (4520 ≤ b ∧ b ≤ 4546)) : Calls Tryd.prog 16 #[.int .i32 a, .int .i32 b] w fun e w' => e = .returned (jnV (joinE a b)) ∧ Below w.heap.size w w' := by
  have HA := Lib.hid hT.all
  have hix := idx2
  have HM := Lib.hid (made_any a w hT hs)
  have e3 : tl3 a = 0 := if_pos ht
  rw [e3] at HM
  have H := Lib.hid (show joinE a b = (0, false) by unfold joinE; rw [if_neg (by unfold lvB; omega), if_neg (by unfold stB; omega)])
  clear e3 ht
  have S0 := Lib.hid (show ∀ W, Tab W → Calls Tryd.prog 26 #[.int .i64 0, .int .i32 a] W fun e w' => e = .returned (.bool false) ∧ w' = W from fun W hW => by
    have h9 := stands0 a W hW
    rw [show decide (4352 ≤ a ∧ a ≤ 4370) = false by simp; omega] at h9
    exact h9)
  have S2 := Lib.hid (show ∀ W, Tab W → Calls Tryd.prog 26 #[.int .i64 2, .int .i32 b] W fun e w' => e = .returned (.bool false) ∧ w' = W from fun W hW => by
    have h9 := stands2 b W hW
    rw [show decide (4520 ≤ b ∧ b ≤ 4546) = false by simp; omega] at h9
    exact h9)
  have HI := Lib.hid (show Calls Tryd.prog 11 #[.int .i32 a] w fun e w' => e = .returned (.bool true) ∧ w = w' from by
    have h9 := is_any a w
    rw [hs] at h9
    exact h9)
  go_enter Tryd.func16, Tryd.ntmps16
  go_wp2_with (first
    | (go_at_call 26; (with_reducible refine (S0.out _ (HA.out _ (Below.refl _ _))).mono ?_); rintro e w' ⟨rfl, rfl⟩)
    | (go_at_call 26; (with_reducible refine (S2.out _ (HA.out _ B1.out)).mono ?_); rintro e w' ⟨rfl, rfl⟩)
    | (go_at_call 11; refine HI.out.mono ?_; rintro e w' ⟨rfl, rfl⟩)
    | (go_at_call 22; refine HM.out.mono ?_; rintro e w1 ⟨rfl, hb⟩; have B1 := Lib.hid hb; clear hb))
  exact bodyPost_ret (v := .tuple #[.int .i32 (0), .bool false]) (by simp [results, Tryd.results16, go_sem]) rfl ⟨jnV_eq H.out, B1.out⟩
theorem join_any (a b : Int) (w : World) (hT : Tab w) : Calls Tryd.prog 16 #[.int .i32 a, .int .i32 b] w fun e w' => e = .returned (jnV (joinE a b)) ∧ Below w.heap.size w w' := by
  by_cases h1 : 4352 ≤ a ∧ a ≤ 4370
  · by_cases h2 : 4449 ≤ b ∧ b ≤ 4469
    · exact join1 a b w hT h1 h2
    · exact join2 a b w hT h1 h2
  · cases hs : isS a with
    | false => exact join3 a b w hT h1 hs
    | true =>
      by_cases ht : tlN a = 0
      · by_cases h3 : 4520 ≤ b ∧ b ≤ 4546
        · exact join5 a b w hT h1 hs ht h3
        · exact join6 a b w hT h1 hs ht h3
      · exact join4 a b w hT h1 hs ht

end Go.Proofs.YtimjggcfkkibbaaDoor.Ha

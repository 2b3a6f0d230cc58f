import Derived.Test.YtajhgbcgbgpcjaaGreatDoorGF
import Derived.Test.YtajhgbcgbgpcjaaGreatDoorFN
namespace Go.Proofs.YtajhgbcgbgpcjaaGreatDoor.Uc
open Go.RowKit Fi

set_option maxRecDepth 100000 in
set_option maxHeartbeats 1000000 in
theorem rletters_any (s : ByteArray) (w : World) (hs : s.size ≤ 9223372036854775806) :
    Calls Tryz.prog 18 #[.string s] w fun e w' => e = .returned (.bool (ltrs s.data.toList)) ∧ w = w' := by
  go_enter Tryz.func18, Tryz.ntmps18
  go_wp2_with fail
  go_loop [3, 4] (fun i _ => ∃ k : Nat, i = .int .i64 k ∧ k ≤ s.size ∧ Hid (ltrs (s.data.toList.drop k) = ltrs s.data.toList)) (fun i _ => s.size - (intOf i).toNat)
  case atStart => exact ⟨0, rfl, by omega, rfl⟩
  case round =>
    obtain ⟨k, rfl, hk, HD⟩ := hrel
    by_cases hlt : k < s.size
    · have g1 : (k : Int) < s.size := by omega
      have hlo := ltrs_on s k hlt
      have hcl := UInt8.toNat_lt s[k]
      obtain ⟨b, hb⟩ : ∃ b, b = s[k].toNat := ⟨_, rfl⟩
      have hu : ltr s[k].toNat = ltr b := by rw [hb]
      rw [hu] at hlo
      have HB := Lib.hid hb
      by_cases hU : 65 ≤ b ∧ b ≤ 90
      · have HQ := Lib.hid (show ltrs (s.data.toList.drop (k + 1)) = ltrs s.data.toList by rw [← HD.out, hlo, show ltr b = true by simp [ltr]; omega, Bool.true_and])
        have c1 : (65 : Int) ≤ s[k].toNat := by rw [← HB.out]; omega
        have c2 : (s[k].toNat : Int) ≤ 90 := by rw [← HB.out]; omega
        have c3 : IntKind.u8.wrap ((s[k].toNat : Int) + 32) = (s[k].toNat : Int) + 32 := by rw [IntKind.wrap_u8]; omega
        have c4 : ¬ (s[k].toNat : Int) + 32 < 97 := by omega
        have c5 : ¬ (122 : Int) < (s[k].toNat : Int) + 32 := by omega
        clear hlo hu hU hb
        go_wp2_with fail
        go_round
        case rel => exact ⟨k + 1, by go_num, by omega, HQ.out⟩
        case measure => simp [intOf]; omega
      · by_cases hL : 97 ≤ b ∧ b ≤ 122
        · have HQ := Lib.hid (show ltrs (s.data.toList.drop (k + 1)) = ltrs s.data.toList by rw [← HD.out, hlo, show ltr b = true by simp [ltr]; omega, Bool.true_and])
          have c1 : (65 : Int) ≤ s[k].toNat := by rw [← HB.out]; omega
          have c2 : ¬ (s[k].toNat : Int) ≤ 90 := by rw [← HB.out]; omega
          have c4 : ¬ (s[k].toNat : Int) < 97 := by rw [← HB.out]; omega
          have c5 : ¬ (122 : Int) < (s[k].toNat : Int) := by rw [← HB.out]; omega
          clear hlo hu hU hL hb
          go_wp2_with fail
          go_round
          case rel => exact ⟨k + 1, by go_num, by omega, HQ.out⟩
          case measure => simp [intOf]; omega
        · have HQ := Lib.hid (show ltrs s.data.toList = false by rw [← HD.out, hlo, show ltr b = false by simp [ltr]; omega, Bool.false_and])
          by_cases h65 : 65 ≤ b
          · have c1 : (65 : Int) ≤ s[k].toNat := by rw [← HB.out]; omega
            have c2 : ¬ (s[k].toNat : Int) ≤ 90 := by rw [← HB.out]; omega
            by_cases h97 : b < 97
            · have c4 : (s[k].toNat : Int) < 97 := by rw [← HB.out]; omega
              clear hlo hu hU hL hb
              go_wp2_with fail
              go_ret
              exact ⟨ret_bool (by rw [HQ.out]), rfl⟩
            · have c4 : ¬ (s[k].toNat : Int) < 97 := by rw [← HB.out]; omega
              have c5 : (122 : Int) < (s[k].toNat : Int) := by rw [← HB.out]; omega
              clear hlo hu hU hL hb
              go_wp2_with fail
              go_ret
              exact ⟨ret_bool (by rw [HQ.out]), rfl⟩
          · have c1 : ¬ (65 : Int) ≤ s[k].toNat := by rw [← HB.out]; omega
            have c4 : (s[k].toNat : Int) < 97 := by rw [← HB.out]; omega
            clear hlo hu hU hL hb
            go_wp2_with fail
            go_ret
            exact ⟨ret_bool (by rw [HQ.out]), rfl⟩
    · have g1 : ¬ (k : Int) < s.size := by omega
      have HQ := Lib.hid (show ltrs s.data.toList = true by rw [← HD.out, lst_end s k (by omega)]; rfl)
      go_wp2_with fail
      go_ret
      exact ⟨ret_bool (by rw [HQ.out]), rfl⟩

theorem suf_no {s t : List UInt8} (h : s.length < t.length) : Lib.hasSuffix s t = false := by
  cases hh : Lib.hasSuffix s t with
  | false => rfl
  | true =>
    have := (List.isSuffixOf_iff_suffix.1 hh).length_le
    omega
theorem suf_ext {s t : ByteArray} (_h : t.size ≤ s.size) : ((s.extract (s.size - t.size) s.size).toList == t.toList) = Lib.hasSuffix s.data.toList t.data.toList := by
  rw [str_lst, str_lst, Lib.extract_to_end, Bool.eq_iff_iff]
  unfold Lib.hasSuffix
  rw [List.isSuffixOf_iff_suffix, beq_iff_eq, List.suffix_iff_eq_drop, lst_len, lst_len]
  exact ⟨fun h => h.symm, fun h => h.symm⟩
set_option maxHeartbeats 1000000 in
theorem rends_any (s t : ByteArray) (w : World) (hs : s.size ≤ 9223372036854775807) :
    Calls Tryz.prog 33 #[.string s, .string t] w fun e w' => e = .returned (.bool (Lib.hasSuffix s.data.toList t.data.toList)) ∧ w = w' := by
  by_cases h1 : t.size ≤ s.size
  · have HE := Lib.hid (suf_ext h1)
    have g1 : (t.size : Int) ≤ s.size := by omega
    have g2 : ((s.size : Int) - t.size).toNat = s.size - t.size := by omega
    have g3 : IntKind.i64.wrap ((s.size : Int) - t.size) = ((s.size - t.size : Nat) : Int) := by rw [IntKind.wrap_i64]; omega
    go_enter Tryz.func33, Tryz.ntmps33
    go_wp2_with fail
    go_ret
    exact ⟨ret_bool (by rw [← HE.out]), rfl⟩
  · have H := Lib.hid (suf_no (s := s.data.toList) (t := t.data.toList) (by rw [lst_len, lst_len]; omega))
    have g1 : ¬ (t.size : Int) ≤ s.size := by omega
    go_enter Tryz.func33, Tryz.ntmps33
    go_wp2_with fail
    go_ret
    exact ⟨ret_bool (by rw [H.out]), rfl⟩

theorem rg_short {l e : List UInt8} (h : l.length < 1 + e.length) : rgN l e = none := by
  unfold rgN
  split
  · rename_i hp
    rw [suf_no (by rw [List.length_drop]; cases l with | nil => cases hp | cons _ _ => simp at h ⊢; omega)]
    rfl
  · rfl
theorem rg_other {c : UInt8} {r e : List UInt8} (h : c ≠ 60) : rgN (c :: r) e = none := by
  unfold rgN
  rw [show Lib.hasPrefix (c :: r) [60] = false by unfold Lib.hasPrefix; rw [pre_one]; simpa using h]
  rfl
theorem suf_cons {c : UInt8} {r e : List UInt8} (h : e.length ≤ r.length) : Lib.hasSuffix (c :: r) e = Lib.hasSuffix r e := by
  rw [Bool.eq_iff_iff]
  unfold Lib.hasSuffix
  rw [List.isSuffixOf_iff_suffix, List.isSuffixOf_iff_suffix, List.suffix_iff_eq_drop, List.suffix_iff_eq_drop, List.length_cons, show r.length + 1 - e.length = (r.length - e.length) + 1 by omega, List.drop_succ_cons]
theorem rg_yes {r e : List UInt8} (h : e.length ≤ r.length) : rgN (60 :: r) e = if Lib.hasSuffix (60 :: r) e then some (r.take (r.length - e.length)) else none := by
  rw [suf_cons h]
  unfold rgN
  rw [show Lib.hasPrefix (60 :: r) [60] = true by unfold Lib.hasPrefix; rw [pre_one]; rfl]
  simp
theorem ext_mid (s : ByteArray) (a b : Nat) : (s.extract a b).data.toList = (s.data.toList.drop a).take (b - a) := by
  rw [← str_lst]; exact Lib.extract_toList s a b
set_option maxHeartbeats 1000000 in
theorem inner_any (s t : ByteArray) (w : World) (hs : s.size ≤ 9223372036854775807) (ht : t.size ≤ 100) :
    Calls Tryz.prog 17 #[.string s, .string t] w fun e w' => e = .returned (rgV (rgN s.data.toList t.data.toList)) ∧ w = w' := by
  by_cases h1 : s.size < 1 + t.size
  · have H := Lib.hid (rg_short (l := s.data.toList) (e := t.data.toList) (by rw [lst_len, lst_len]; exact h1))
    have g1 : (s.size : Int) < 1 + t.size := by omega
    go_enter Tryz.func17, Tryz.ntmps17
    go_wp2_with fail
    go_ret2
    exact ⟨ret_eq (by rw [H.out]; rfl), rfl⟩
  · have g1 : ¬ (s.size : Int) < 1 + t.size := by omega
    have g0 : (0 : Int) < s.size := by omega
    have h0 : 0 < s.size := by omega
    have hl := lst_at s 0 h0
    rw [List.drop_zero] at hl
    have hrl : (s.data.toList.drop 1).length = s.size - 1 := by rw [List.length_drop, lst_len]
    by_cases h2 : s[0] = 60
    · have e2 : ((s[0].toNat : Int) != 60) = false := by rw [h2]; rfl
      have hE := fun W => rends_any s t W hs
      have hR := rg_yes (r := s.data.toList.drop 1) (e := t.data.toList) (by rw [hrl, lst_len]; omega)
      rw [← h2, ← hl] at hR
      cases hq : Lib.hasSuffix s.data.toList t.data.toList with
      | false =>
        rw [hq] at hE hR
        have HE := Lib.hid hE
        have H := Lib.hid hR
        clear hE hR hq hl hrl h2
        go_enter Tryz.func17, Tryz.ntmps17
        go_wp2_with (go_at_call 33; refine (HE.out _).mono ?_; rintro e w1 ⟨rfl, rfl⟩)
        go_ret2
        exact ⟨ret_eq (by rw [H.out]; rfl), rfl⟩
      | true =>
        rw [hq] at hE hR
        have HE := Lib.hid hE
        have H := Lib.hid (show rgN s.data.toList t.data.toList = some ((s.extract 1 (s.size - t.size)).data.toList) by
          rw [hR, ext_mid, hrl, lst_len]
          simp only [if_true]
          rw [show s.size - 1 - t.size = s.size - t.size - 1 by omega])
        clear hE hR hq hl hrl h2
        have g2 : ((s.size : Int) - t.size).toNat = s.size - t.size := by omega
        have g3 : IntKind.i64.wrap ((s.size : Int) - t.size) = ((s.size - t.size : Nat) : Int) := by rw [IntKind.wrap_i64]; omega
        have g4 : (1 : Int) ≤ ((s.size - t.size : Nat) : Int) := by omega
        have g5 : ((s.size - t.size : Nat) : Int) ≤ s.size := by omega
        have g6 : (1 : Int) ≤ (s.size : Int) - t.size := by omega
        have g7 : (s.size : Int) - t.size ≤ s.size := by omega
        go_enter Tryz.func17, Tryz.ntmps17
        go_wp2_with (go_at_call 33; refine (HE.out _).mono ?_; rintro e w1 ⟨rfl, rfl⟩)
        go_ret2
        exact ⟨ret_eq (by rw [H.out]; rfl), rfl⟩
    · have e2 : ((s[0].toNat : Int) != 60) = true := by
        have h3 : s[0].toNat ≠ 60 := fun h => h2 (UInt8.toNat_inj.1 h)
        simp; omega
      have H := Lib.hid (show rgN s.data.toList t.data.toList = none by rw [hl]; exact rg_other h2)
      clear hl hrl h2
      go_enter Tryz.func17, Tryz.ntmps17
      go_wp2_with fail
      go_ret2
      exact ⟨ret_eq (by rw [H.out]; rfl), rfl⟩

end Go.Proofs.YtajhgbcgbgpcjaaGreatDoor.Uc

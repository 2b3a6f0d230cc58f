import Derived.Test.YtajhgbcgbgpcjaaDoorGB
import Derived.Test.YtajhgbcgbgpcjaaDoorGP
namespace Go.Proofs.YtajhgbcgbgpcjaaDoor.Uc
open Go.RowKit Fi

set_option maxHeartbeats 400000 in
theorem letter_any (b : Nat) (w : World) : Calls Tryd.prog 77 #[.int .u8 b] w fun e w' => e = .returned (.bool (ltr b)) ∧ w = w' := by
  by_cases h1 : 97 ≤ b
  · have c1 : (97 : Int) ≤ b := by omega
    by_cases h2 : b ≤ 122
    · have c2 : (b : Int) ≤ 122 := by omega
      have H := Lib.hid (show ltr b = true by simp [ltr, h1, h2])
      go_enter Tryd.func77, Tryd.ntmps77
      go_wp2
      go_ret
      exact ⟨ret_bool (by rw [H.out]), rfl⟩
    · have c2 : ¬ (b : Int) ≤ 122 := by omega
      have c3 : (65 : Int) ≤ b := by omega
      have c4 : ¬ (b : Int) ≤ 90 := by omega
      have H := Lib.hid (show ltr b = false by simp [ltr]; omega)
      go_enter Tryd.func77, Tryd.ntmps77
      go_wp2
      go_ret
      exact ⟨ret_bool (by rw [H.out]), rfl⟩
  · have c1 : ¬ (97 : Int) ≤ b := by omega
    by_cases h3 : 65 ≤ b
    · have c3 : (65 : Int) ≤ b := by omega
      by_cases h4 : b ≤ 90
      · have c4 : (b : Int) ≤ 90 := by omega
        have H := Lib.hid (show ltr b = true by simp [ltr]; omega)
        go_enter Tryd.func77, Tryd.ntmps77
        go_wp2
        go_ret
        exact ⟨ret_bool (by rw [H.out]), rfl⟩
      · have c4 : ¬ (b : Int) ≤ 90 := by omega
        have H := Lib.hid (show ltr b = false by simp [ltr]; omega)
        go_enter Tryd.func77, Tryd.ntmps77
        go_wp2
        go_ret
        exact ⟨ret_bool (by rw [H.out]), rfl⟩
    · have c3 : ¬ (65 : Int) ≤ b := by omega
      have H := Lib.hid (show ltr b = false by simp [ltr]; omega)
      go_enter Tryd.func77, Tryd.ntmps77
      go_wp2
      go_ret
      exact ⟨ret_bool (by rw [H.out]), rfl⟩

theorem ltrs_on (s : ByteArray) (k : Nat) (h : k < s.size) : ltrs (s.data.toList.drop k) = (ltr s[k].toNat && ltrs (s.data.toList.drop (k + 1))) := by
  rw [lst_at s k h]; rfl
set_option maxRecDepth 100000 in
set_option maxHeartbeats 1000000 in
theorem letters_any (s : ByteArray) (w : World) (hs : s.size ≤ 9223372036854775807) :
    Calls Tryd.prog 57 #[.string s] w fun e w' => e = .returned (.bool (ltrs s.data.toList)) ∧ w = w' := by
  go_enter Tryd.func57, Tryd.ntmps57
  go_wp2_with fail
  go_loop [3, 6] (fun _ i => ∃ k : Nat, i = .int .i64 k ∧ k ≤ s.size ∧ Hid (ltrs (s.data.toList.drop k) = ltrs s.data.toList)) (fun _ i => s.size - (intOf i).toNat)
  case atStart => exact ⟨0, rfl, by omega, rfl⟩
  case round =>
    obtain ⟨k, rfl, hk, HD⟩ := hrel
    by_cases hlt : k < s.size
    · have g1 : (k : Int) < s.size := by omega
      have hlo := ltrs_on s k hlt
      have hL := fun W => letter_any s[k].toNat W
      cases hb : ltr s[k].toNat with
      | true =>
        rw [hb] at hL hlo
        have HL := Lib.hid hL
        have HQ := Lib.hid (show ltrs (s.data.toList.drop (k + 1)) = ltrs s.data.toList by rw [← HD.out, hlo, Bool.true_and])
        clear hL hb hlo
        go_wp2_with (go_at_call 77; refine (HL.out _).mono ?_; rintro e w' ⟨rfl, rfl⟩)
        go_round
        case rel => exact ⟨k + 1, by go_num, by omega, HQ.out⟩
        case measure => simp [intOf]; omega
      | false =>
        rw [hb] at hL hlo
        have HL := Lib.hid hL
        have HQ := Lib.hid (show ltrs s.data.toList = false by rw [← HD.out, hlo, Bool.false_and])
        clear hL hb hlo
        go_wp2_with (go_at_call 77; refine (HL.out _).mono ?_; rintro e w' ⟨rfl, rfl⟩)
        go_ret
        exact ⟨ret_bool (by rw [HQ.out]), rfl⟩
    · have g1 : ¬ (k : Int) < s.size := by omega
      have HQ := Lib.hid (show ltrs s.data.toList = true by rw [← HD.out, lst_end s k (by omega)]; rfl)
      go_wp2_with fail
      go_ret
      exact ⟨ret_bool (by rw [HQ.out]), rfl⟩

def rgV (o : Option (List UInt8)) : Value := .tuple #[.string ⟨(o.getD []).toArray⟩, .bool o.isSome]
theorem rgV_no : Value.tuple #[.string ⟨#[]⟩, .bool false] = rgV none := rfl
theorem rgV_yes (l : List UInt8) : Value.tuple #[.string ⟨l.toArray⟩, .bool true] = rgV (some l) := rfl
set_option maxHeartbeats 1000000 in
theorem range_name (s t : ByteArray) (w : World) (hs : s.size ≤ 9223372036854775807) :
    Calls Tryd.prog 20 #[.string s, .string t] w fun e w' => e = .returned (rgV (rgN s.data.toList t.data.toList)) ∧ w = w' := by
  have h1 := fun W => Tryd.strings_CutPrefix s ⟨#[60]⟩ W
  rw [show (⟨#[60]⟩ : ByteArray).data.toList = [60] from rfl] at h1
  unfold Lib.trimPrefix at h1
  cases hp : Lib.hasPrefix s.data.toList [60] with
  | false =>
    have H := Lib.hid (show rgN s.data.toList t.data.toList = none by unfold rgN; rw [hp]; rfl)
    rw [hp] at h1
    have H1 := Lib.hid h1
    clear h1 hp
    go_enter Tryd.func20, Tryd.ntmps20
    go_wp2_with (go_at_call 39; refine (H1.out _).mono ?_; rintro e w1 ⟨rfl, rfl⟩)
    go_ret2
    exact ⟨ret_eq (by rw [H.out]; rfl), rfl⟩
  | true =>
    rw [hp] at h1
    simp only [if_true, List.length_singleton] at h1
    obtain ⟨u, hu⟩ : ∃ u : ByteArray, u = ⟨(s.data.toList.drop 1).toArray⟩ := ⟨_, rfl⟩
    have hul : u.data.toList = s.data.toList.drop 1 := by rw [hu]
    have huz : u.size ≤ 9223372036854775807 := by rw [← lst_len, hul, List.length_drop, lst_len]; omega
    rw [← hu] at h1
    have H1 := Lib.hid h1
    have h2 := fun W => Tryd.strings_CutSuffix u t W huz
    unfold Lib.trimSuffix at h2
    cases hq : Lib.hasSuffix u.data.toList t.data.toList with
    | false =>
      have H := Lib.hid (show rgN s.data.toList t.data.toList = none by unfold rgN; rw [hp, ← hul, hq]; rfl)
      rw [hq] at h2
      have H2 := Lib.hid h2
      clear h1 hp h2 hq hul hu
      go_enter Tryd.func20, Tryd.ntmps20
      go_wp2_with (first
        | (go_at_call 39; refine (H1.out _).mono ?_; rintro e w1 ⟨rfl, rfl⟩)
        | (go_at_call 40; refine (H2.out _).mono ?_; rintro e w1 ⟨rfl, rfl⟩))
      go_ret2
      exact ⟨ret_eq (by rw [H.out]; rfl), rfl⟩
    | true =>
      have H := Lib.hid (show rgN s.data.toList t.data.toList = some (u.data.toList.take (u.data.toList.length - t.data.toList.length)) by
        unfold rgN; rw [hp, ← hul, hq]; simp only [if_true]
        have : s.data.toList.length - 1 = u.data.toList.length := by rw [hul, List.length_drop]
        rw [this])
      rw [hq] at h2
      simp only [if_true] at h2
      generalize u.data.toList.take (u.data.toList.length - t.data.toList.length) = r at *
      have H2 := Lib.hid h2
      clear h1 hp h2 hq hul hu
      go_enter Tryd.func20, Tryd.ntmps20
      go_wp2_with (first
        | (go_at_call 39; refine (H1.out _).mono ?_; rintro e w1 ⟨rfl, rfl⟩)
        | (go_at_call 40; refine (H2.out _).mono ?_; rintro e w1 ⟨rfl, rfl⟩))
      go_ret2
      exact ⟨ret_eq (by rw [H.out]; rfl), rfl⟩

end Go.Proofs.YtajhgbcgbgpcjaaDoor.Uc

import Derived.Test.YtohjkpdelopknaaDoorK
import Derived.Test.YtohjkpdelopknaaDoorG
import Derived.Laws.AppendOwnNone
import Derived.Laws.OwnMore
namespace Go.Proofs.YtohjkpdelopknaaDoor
open Go.RowKit
theorem number_any (k : Nat) (s : ByteArray) (w : World) (h1 : 1 ≤ k) (h4 : k ≤ 4) (hl : szK k ≤ s.size) (hz : s.size ≤ 100000) :
    Calls Tryd.prog 29 #[.int .i64 (k : Int), .string s] w fun e w' => e = .returned (.int .i64 (unN k (bs s) : Int)) ∧ w = w' := by
  rcases kinds h1 h4 with rfl | rfl | rfl | rfl
  · have hl' : 2 ≤ s.size := hl
    have := number1 s w (by omega) (by omega) hz
    have e := un1 s 0 (by omega) (by omega)
    rw [List.drop_zero] at e
    rw [e, show s[0].toNat + s[0 + 1].toNat * 256 = s[1].toNat * 256 + s[0].toNat from Nat.add_comm _ _]
    exact this
  · have hl' : 2 ≤ s.size := hl
    have := number2 s w (by omega) (by omega) hz
    have e := un2 s 0 (by omega) (by omega)
    rw [List.drop_zero] at e
    rw [e]
    exact this
  · have hl' : 4 ≤ s.size := hl
    have := number3 s w (by omega) (by omega) (by omega) (by omega) hz
    have e := un3 s 0 (by omega) (by omega) (by omega) (by omega)
    rw [List.drop_zero] at e
    rw [e, show s[0].toNat + s[0 + 1].toNat * 256 + s[0 + 2].toNat * 65536 + s[0 + 3].toNat * 16777216 = s[3].toNat * 16777216 + s[2].toNat * 65536 + s[1].toNat * 256 + s[0].toNat by simp only [Nat.zero_add]; omega]
    exact this
  · have hl' : 4 ≤ s.size := hl
    have := number4 s w (by omega) (by omega) (by omega) (by omega) hz
    have e := un4 s 0 (by omega) (by omega) (by omega) (by omega)
    rw [List.drop_zero] at e
    rw [e]
    exact this
theorem bs_ext (s : ByteArray) (a b : Nat) : bs (s.extract a b) = ((bs s).drop a).take (b - a) := by
  unfold bs
  rw [Lib.extract_data, List.map_take, List.map_drop]
theorem unN_take (k z : Nat) (l : List Nat) (h : szK k ≤ z) : unN k (l.take z) = unN k l := by
  unfold unN
  rw [List.take_take, Nat.min_eq_left h]
theorem number_24 (k : Nat) (s : ByteArray) (w : World) (h1 : 1 ≤ k) (h2 : k ≤ 2) (hl : 4 ≤ s.size) (hz : s.size ≤ 100000) :
    Calls Tryd.prog 29 #[.int .i64 (k : Int), .string (s.extract 2 4)] w fun e w' => e = .returned (.int .i64 (unN k ((bs s).drop 2) : Int)) ∧ w = w' := by
  have hk : szK k = 2 := by simp [szK, h2]
  have hsz : (s.extract 2 4).size = 2 := by
    have := bs_len (s.extract 2 4)
    rw [bs_ext, List.length_take, List.length_drop, bs_len] at this
    omega
  have := number_any k (s.extract 2 4) w h1 (by omega) (by omega) (by omega)
  rw [bs_ext, unN_take k _ _ (by omega)] at this
  exact this

theorem nx_ref4 (k : Nat) (s : ByteArray) (u : Nat) (h3 : 3 ≤ k) (h : 4 ≤ s.size) (hu : unN k (bs s) = u) : nx k (bs s) = if 1114111 < u ∨ (55296 ≤ u ∧ u ≤ 57343) then (0, 4, 17) else ((u : Int), 4, 0) := by
  have hk : szK k = 4 := by unfold szK; rw [if_neg (by omega)]
  rw [nx_one k s u (by omega) hu (by omega), hk]
  by_cases c : 1114111 < u ∨ (55296 ≤ u ∧ u ≤ 57343)
  · rw [if_pos c, if_neg]
    · rfl
    · simp [scal]; omega
  · rw [if_neg c, if_pos]
    · rfl
    · simp [scal]; omega
theorem nx_ref2 (k : Nat) (s : ByteArray) (u : Nat) (h2 : k ≤ 2) (h : 2 ≤ s.size) (hu : unN k (bs s) = u) (hlt : u < 65536) :
    nx k (bs s) = if u < 55296 ∨ 57343 < u then ((u : Int), 2, 0) else if 56319 < u then (0, 2, 17) else if s.size < 4 then (0, (s.size : Int), 18)
      else if unN k ((bs s).drop 2) < 56320 ∨ 57343 < unN k ((bs s).drop 2) then (0, 2, 17) else ((65536 + (u - 55296) * 1024 + (unN k ((bs s).drop 2) - 56320) : Nat), 4, 0) := by
  have hk : szK k = 2 := by simp [szK, h2]
  by_cases c1 : u < 55296 ∨ 57343 < u
  · rw [if_pos c1, nx_one k s u (by omega) hu (by omega), hk, if_pos (by simp [scal]; omega)]
    rfl
  rw [if_neg c1]
  by_cases c2 : 56319 < u
  · rw [if_pos c2, nx_one k s u (by omega) hu (by omega), hk, if_neg (by simp [scal]; omega)]
    rfl
  rw [if_neg c2]
  unfold nx
  rw [bs_len, if_neg (by omega), hu, if_pos ⟨h2, by omega, by omega⟩]
  by_cases c3 : s.size < 4
  · rw [if_pos c3, if_pos c3]
  rw [if_neg c3, if_neg c3]
  by_cases c4 : unN k ((bs s).drop 2) < 56320 ∨ 57343 < unN k ((bs s).drop 2)
  · rw [if_pos c4, if_neg (by omega)]
  · rw [if_neg c4, if_pos (by omega)]

set_option maxRecDepth 100000 in
set_option maxHeartbeats 1000000 in
theorem rnext4 (k : Nat) (s : ByteArray) (w : World) (h3 : 3 ≤ k) (h4 : k ≤ 4) (hz : s.size ≤ 100000) :
    Calls Tryd.prog 14 #[.int .i64 (k : Int), .string s] w fun e w' => e = .returned (nxV (nx k (bs s))) ∧ w = w' := by
  have hk : szK k = 4 := by unfold szK; rw [if_neg (by omega)]
  by_cases c0 : s.size < 4
  · have HN := Lib.hid (nx_short k s (by omega))
    have c0' : (s.size : Int) < 4 := by omega
    clear hk
    go_enter Tryd.func14, Tryd.ntmps14
    go_wp2_with fail
    refine (size4 k _ (by omega)).mono ?_
    rintro e w' ⟨rfl, rfl⟩
    go_wp2
    go_ret3
    exact ⟨nxV_eq HN.out, rfl⟩
  obtain ⟨u, hu⟩ : ∃ u, unN k (bs s) = u := ⟨_, rfl⟩
  have hn := nx_ref4 k s u h3 (by omega) hu
  have hlt := unN_lt32 k (bs s) (bs_B s)
  have HNum := Lib.hid (number_any k s w (by omega) h4 (by omega) hz)
  rw [hu] at hlt HNum
  have c0' : ¬ (s.size : Int) < 4 := by omega
  clear hk hu
  generalize nx k (bs s) = N at *
  by_cases c1 : 1114111 < u
  · rw [if_pos (.inl c1)] at hn
    have HN := Lib.hid hn
    clear hn
    go_enter Tryd.func14, Tryd.ntmps14
    go_wp2_with fail
    refine (size4 k _ (by omega)).mono ?_
    rintro e w' ⟨rfl, rfl⟩
    go_wp2_with fail
    refine HNum.out.mono ?_
    rintro e w' ⟨rfl, rfl⟩
    go_wp2
    go_ret3
    exact ⟨nxV_eq HN.out, rfl⟩
  by_cases c2 : 55296 ≤ u
  · by_cases c3 : u ≤ 57343
    · rw [if_pos (.inr ⟨c2, c3⟩)] at hn
      have HN := Lib.hid hn
      clear hn
      go_enter Tryd.func14, Tryd.ntmps14
      go_wp2_with fail
      refine (size4 k _ (by omega)).mono ?_
      rintro e w' ⟨rfl, rfl⟩
      go_wp2_with fail
      refine HNum.out.mono ?_
      rintro e w' ⟨rfl, rfl⟩
      go_wp2
      go_ret3
      exact ⟨nxV_eq HN.out, rfl⟩
    · rw [if_neg (by omega)] at hn
      have HN := Lib.hid hn
      clear hn
      go_enter Tryd.func14, Tryd.ntmps14
      go_wp2_with fail
      refine (size4 k _ (by omega)).mono ?_
      rintro e w' ⟨rfl, rfl⟩
      go_wp2_with fail
      refine HNum.out.mono ?_
      rintro e w' ⟨rfl, rfl⟩
      go_wp2
      go_ret3
      exact ⟨nxV_eq HN.out, rfl⟩
  · rw [if_neg (by omega)] at hn
    have HN := Lib.hid hn
    clear hn
    go_enter Tryd.func14, Tryd.ntmps14
    go_wp2_with fail
    refine (size4 k _ (by omega)).mono ?_
    rintro e w' ⟨rfl, rfl⟩
    go_wp2_with fail
    refine HNum.out.mono ?_
    rintro e w' ⟨rfl, rfl⟩
    go_wp2
    go_ret3
    exact ⟨nxV_eq HN.out, rfl⟩
set_option maxRecDepth 100000 in
set_option maxHeartbeats 1000000 in
theorem rnext2 (k : Nat) (s : ByteArray) (w : World) (h1 : 1 ≤ k) (h2 : k ≤ 2) (hz : s.size ≤ 100000) :
    Calls Tryd.prog 14 #[.int .i64 (k : Int), .string s] w fun e w' => e = .returned (nxV (nx k (bs s))) ∧ w = w' := by
  have hk : szK k = 2 := by simp [szK, h2]
  by_cases c0 : s.size < 2
  · have HN := Lib.hid (nx_short k s (by omega))
    have c0' : (s.size : Int) < 2 := by omega
    clear hk
    go_enter Tryd.func14, Tryd.ntmps14
    go_wp2_with fail
    refine (size2 k _ (by omega)).mono ?_
    rintro e w' ⟨rfl, rfl⟩
    go_wp2
    go_ret3
    exact ⟨nxV_eq HN.out, rfl⟩
  obtain ⟨u, hu⟩ : ∃ u, unN k (bs s) = u := ⟨_, rfl⟩
  have hlt := unN_lt16 k (bs s) (bs_B s) h2
  rw [hu] at hlt
  have hn := nx_ref2 k s u h2 (by omega) hu hlt
  have HNum := Lib.hid (number_any k s w (by omega) (by omega) (by omega) hz)
  rw [hu] at HNum
  have c0' : ¬ (s.size : Int) < 2 := by omega
  clear hk hu
  generalize nx k (bs s) = N at *
  by_cases c1 : u < 55296
  · rw [if_pos (.inl c1)] at hn
    have HN := Lib.hid hn
    clear hn
    go_enter Tryd.func14, Tryd.ntmps14
    go_wp2_with fail
    refine (size2 k _ (by omega)).mono ?_
    rintro e w' ⟨rfl, rfl⟩
    go_wp2_with fail
    refine HNum.out.mono ?_
    rintro e w' ⟨rfl, rfl⟩
    go_wp2
    go_ret3
    exact ⟨nxV_eq HN.out, rfl⟩
  by_cases c2 : 57343 < u
  · rw [if_pos (.inr c2)] at hn
    have HN := Lib.hid hn
    clear hn
    go_enter Tryd.func14, Tryd.ntmps14
    go_wp2_with fail
    refine (size2 k _ (by omega)).mono ?_
    rintro e w' ⟨rfl, rfl⟩
    go_wp2_with fail
    refine HNum.out.mono ?_
    rintro e w' ⟨rfl, rfl⟩
    go_wp2
    go_ret3
    exact ⟨nxV_eq HN.out, rfl⟩
  rw [if_neg (by omega)] at hn
  by_cases c3 : 56319 < u
  · rw [if_pos c3] at hn
    have HN := Lib.hid hn
    clear hn
    go_enter Tryd.func14, Tryd.ntmps14
    go_wp2_with fail
    refine (size2 k _ (by omega)).mono ?_
    rintro e w' ⟨rfl, rfl⟩
    go_wp2_with fail
    refine HNum.out.mono ?_
    rintro e w' ⟨rfl, rfl⟩
    go_wp2
    go_ret3
    exact ⟨nxV_eq HN.out, rfl⟩
  rw [if_neg c3] at hn
  by_cases c4 : s.size < 4
  · rw [if_pos c4] at hn
    have HN := Lib.hid hn
    have c4' : (s.size : Int) < 4 := by omega
    clear hn
    go_enter Tryd.func14, Tryd.ntmps14
    go_wp2_with fail
    refine (size2 k _ (by omega)).mono ?_
    rintro e w' ⟨rfl, rfl⟩
    go_wp2_with fail
    refine HNum.out.mono ?_
    rintro e w' ⟨rfl, rfl⟩
    go_wp2
    go_ret3
    exact ⟨nxV_eq HN.out, rfl⟩
  rw [if_neg c4] at hn
  have c4' : ¬ (s.size : Int) < 4 := by omega
  have HN2 := Lib.hid (number_24 k s w h1 h2 (by omega) hz)
  have hlt2 := unN_lt16 k ((bs s).drop 2) (allB_drop (bs_B s) 2) h2
  generalize unN k ((bs s).drop 2) = v at *
  by_cases c5 : v < 56320
  · rw [if_pos (.inl c5)] at hn
    have HN := Lib.hid hn
    clear hn
    go_enter Tryd.func14, Tryd.ntmps14
    go_wp2_with fail
    refine (size2 k _ (by omega)).mono ?_
    rintro e w' ⟨rfl, rfl⟩
    go_wp2_with fail
    refine HNum.out.mono ?_
    rintro e w' ⟨rfl, rfl⟩
    go_wp2_with fail
    refine HN2.out.mono ?_
    rintro e w' ⟨rfl, rfl⟩
    go_wp2
    go_ret3
    exact ⟨nxV_eq HN.out, rfl⟩
  by_cases c6 : 57343 < v
  · rw [if_pos (.inr c6)] at hn
    have HN := Lib.hid hn
    clear hn
    go_enter Tryd.func14, Tryd.ntmps14
    go_wp2_with fail
    refine (size2 k _ (by omega)).mono ?_
    rintro e w' ⟨rfl, rfl⟩
    go_wp2_with fail
    refine HNum.out.mono ?_
    rintro e w' ⟨rfl, rfl⟩
    go_wp2_with fail
    refine HN2.out.mono ?_
    rintro e w' ⟨rfl, rfl⟩
    go_wp2
    go_ret3
    exact ⟨nxV_eq HN.out, rfl⟩
  rw [if_neg (by omega)] at hn
  have e1 : ((65536 + (u - 55296) * 1024 + (v - 56320) : Nat) : Int) = 65536 + ((u : Int) - 55296) * 1024 + v - 56320 := by omega
  rw [e1] at hn
  have HN := Lib.hid hn
  clear hn e1
  go_enter Tryd.func14, Tryd.ntmps14
  go_wp2_with fail
  refine (size2 k _ (by omega)).mono ?_
  rintro e w' ⟨rfl, rfl⟩
  go_wp2_with fail
  refine HNum.out.mono ?_
  rintro e w' ⟨rfl, rfl⟩
  go_wp2_with fail
  refine HN2.out.mono ?_
  rintro e w' ⟨rfl, rfl⟩
  go_wp2
  go_ret3
  exact ⟨nxV_eq HN.out, rfl⟩
theorem rnext_any (k : Nat) (s : ByteArray) (w : World) (h1 : 1 ≤ k) (h4 : k ≤ 4) (hz : s.size ≤ 100000) :
    Calls Tryd.prog 14 #[.int .i64 (k : Int), .string s] w fun e w' => e = .returned (nxV (nx k (bs s))) ∧ w = w' := by
  by_cases h2 : k ≤ 2
  · exact rnext2 k s w h1 h2 hz
  · exact rnext4 k s w (by omega) h4 hz
end Go.Proofs.YtohjkpdelopknaaDoor

import Derived.Test.YtoiedhkhmdgipaaDoorH
namespace Go.Proofs.YtoiedhkhmdgipaaDoor
open Go.RowKit

theorem bs_take (s : ByteArray) (k : Nat) : bs (s.extract 0 k) = (bs s).take k := by
  unfold bs
  rw [Lib.extract_data]
  simp [List.map_take]
theorem ext_size (s : ByteArray) (k : Nat) (h : k ≤ s.size) : (s.extract 0 k).size = k := by
  have := bs_len (s.extract 0 k)
  rw [bs_take, List.length_take, bs_len] at this
  omega

/-- What the loop knows behind k - 1 rounds. -/
def rnQ (l : List Nat) (k : Nat) : Prop := ∀ j, 1 ≤ j → j < k → 0 < stL (l.take j)
theorem rnQ_one (l : List Nat) : rnQ l 1 := fun j h1 h2 => by omega
theorem rnQ_next {l : List Nat} {k : Nat} (h : rnQ l k) (hk : 0 < stL (l.take k)) : rnQ l (k + 1) := fun j h1 h2 => by
  rcases Nat.lt_or_ge j k with h3 | h3
  · exact h j h1 h3
  · obtain rfl : j = k := by omega
    exact hk

theorem starts_cut (s : ByteArray) (k : Nat) (w : World) (hs : s.size ≤ 100000) (hp : 0 < k) (hk : k ≤ s.size) :
    Calls Tryd.prog 26 #[.string (s.extract 0 k)] w fun e w' => e = .returned (.int .i64 (stL ((bs s).take k))) ∧ w = w' := by
  have := starts_any (s.extract 0 k) w (by rw [ext_size s k hk]; omega) (by rw [ext_size s k hk]; omega)
  rw [bs_take] at this
  exact this

theorem rnV_0 (l : List Nat) : rnV l 0 = (0, 1, 17) := by simp [rnV]
theorem rnV_more (l : List Nat) (m : Nat) (h : m ≠ 0) (h1 : (m : Int) < stL (l.take m)) (h2 : m = l.length) : rnV l m = (0, (m : Int), 18) := by
  rw [rnV, if_neg h, if_pos h1, if_pos h2]
theorem rnV_bad (l : List Nat) (m : Nat) (h : m ≠ 0) (h1 : (m : Int) < stL (l.take m)) (h2 : ¬ m = l.length) : rnV l m = (0, (m : Int), 17) := by
  rw [rnV, if_neg h, if_pos h1, if_neg h2]
theorem rnV_one (l : List Nat) (m : Nat) (h : m ≠ 0) (h1 : ¬ (m : Int) < stL (l.take m)) (h2 : stL (l.take m) = 1) : rnV l m = (((l.headD 0 : Nat) : Int), 1, 0) := by
  rw [rnV, if_neg h, if_neg h1, if_pos h2]
theorem rnV_l (l : List Nat) (m : Nat) (h : m ≠ 0) (h1 : ¬ (m : Int) < stL (l.take m)) (h2 : ¬ stL (l.take m) = 1) : rnV l m = (leastM (stL (l.take m)) (l.take m), (m : Int), 0) := by
  rw [rnV, if_neg h, if_neg h1, if_neg h2]
theorem stL_form (l : List Nat) : stL l = 0 ∨ stL l = 1 ∨ (stL l = 2 ∧ 192 ≤ l.headD 0 ∧ l.headD 0 < 224) ∨ (stL l = 3 ∧ 224 ≤ l.headD 0 ∧ l.headD 0 < 240) ∨ (stL l = 4 ∧ 240 ≤ l.headD 0 ∧ l.headD 0 < 248) := by
  unfold stL
  generalize l.headD 0 = b
  (repeat' split) <;> omega

theorem least_cut (s : ByteArray) (m : Nat) (w : World) (hs : s.size ≤ 100000) (hp : 0 < m) (hm : m ≤ s.size) (h2 : 2 ≤ stL ((bs s).take m)) :
    Calls Tryd.prog 27 #[.string (s.extract 0 m), .int .i64 (stL ((bs s).take m))] w fun e w' => e = .returned (.int .i32 (leastM (stL ((bs s).take m)) ((bs s).take m))) ∧ w = w' := by
  have hz := ext_size s m hm
  have hh : ((bs s).take m).headD 0 = (s.extract 0 m)[0].toNat := by rw [← bs_take, bs_headD _ (by omega)]
  rcases stL_form ((bs s).take m) with h | h | ⟨h, a, b⟩ | ⟨h, a, b⟩ | ⟨h, a, b⟩
  · omega
  · omega
  · rw [hh] at a b
    have := least2 (s.extract 0 m) w (by omega) (by omega) a b
    rw [lst_L, bs_take] at this
    rw [h]; simpa [leastM] using this
  · rw [hh] at a b
    have := least3 (s.extract 0 m) w (by omega) (by omega) a b
    rw [lst_L, bs_take] at this
    rw [h]; simpa [leastM] using this
  · rw [hh] at a b
    have := least4 (s.extract 0 m) w (by omega) (by omega) a b
    rw [lst_L, bs_take] at this
    rw [h]; simpa [leastM] using this

set_option maxRecDepth 100000 in
set_option maxHeartbeats 2000000 in
theorem rnext_any (s : ByteArray) (w : World) (hs : s.size ≤ 100000) : Calls Tryd.prog 13 #[.string s] w fun e w' => e = .returned (nxV (nx (bs s))) ∧ w = w' := by
  by_cases h1 : s.size = 0
  · have he : s.toList.isEmpty = true := by rw [isE]; simpa using h1
    have HF := Lib.hid (nx_nil s h1)
    clear h1
    go_enter Tryd.func13, Tryd.ntmps13
    go_wp2
    go_ret3
    exact ⟨nxV_eq HF.out, rfl⟩
  have hp : 0 < s.size := by omega
  have he : s.toList.isEmpty = false := by rw [isE]; simpa using h1
  clear h1
  go_enter Tryd.func13, Tryd.ntmps13
  go_wp2_with fail
  go_loop [5, 6] (fun n i => ∃ k : Nat, n = .int .i64 ((k : Int) - 1) ∧ i = .int .i64 k ∧ 1 ≤ k ∧ k ≤ 5 ∧ k ≤ s.size + 1 ∧ Hid (rnQ (bs s) k)) (fun _ i => (5 - intOf i).toNat)
  case atStart => exact ⟨1, rfl, rfl, by omega, by omega, by omega, rnQ_one _⟩
  case round =>
    obtain ⟨k, rfl, rfl, k1, k5, ks, HQ⟩ := hrel
    by_cases c1 : k ≤ s.size ∧ k ≤ 4 ∧ 0 < stL ((bs s).take k)
    · obtain ⟨c1, c2, c3⟩ := c1
      have HN := Lib.hid (rnQ_next HQ.out c3)
      have c1' : (k : Int) ≤ s.size := by omega
      have c2' : (k : Int) ≤ 4 := by omega
      go_wp2_with fail
      refine (starts_cut s k _ hs (by omega) c1).mono ?_
      rintro e w' ⟨rfl, rfl⟩
      go_wp2
      go_round
      case rel => exact ⟨k + 1, by go_num, by go_num, by omega, by omega, by omega, HN.out⟩
      case measure => simp [intOf]; omega
    · obtain ⟨m, rfl⟩ : ∃ m, k = m + 1 := ⟨k - 1, by omega⟩
      have hP : rnP (bs s) m := ⟨by omega, by rw [bs_len]; omega, fun j h1 h2 => HQ.out j h1 (by omega), fun h1 h2 => by
        rw [bs_len] at h2
        rcases Int.lt_or_le 0 (stL ((bs s).take (m + 1))) with h3 | h3
        · exact absurd ⟨by omega, by omega, h3⟩ c1
        · exact h3⟩
      have hM := rn_math (bs s) m (by intro h; have := bs_len s; rw [h] at this; simp at this; omega) hP
      rw [← nx_ex] at hM
      have hmem := bs_headD s hp
      have hlen := bs_len s
      have HP := Lib.hid hP
      clear hP
      have hb : (s[0].toNat : Int) < 256 := by have := s[0].toNat_lt; omega
      have hm4 : m ≤ 4 := by omega
      have hms : m ≤ s.size := by omega
      have hkm : ((m + 1 : Nat) : Int) - 1 = m := by omega
      rw [hkm]
      clear hkm
      have hex : s.size < m + 1 ∨ (m + 1 ≤ s.size ∧ 4 < m + 1) ∨ (m + 1 ≤ s.size ∧ m + 1 ≤ 4 ∧ stL ((bs s).take (m + 1)) ≤ 0) := by
        rcases Nat.lt_or_ge s.size (m + 1) with h | h
        · exact .inl h
        · rcases Nat.lt_or_ge 4 (m + 1) with h' | h'
          · exact .inr (.inl ⟨h, h'⟩)
          · exact .inr (.inr ⟨h, h', by
              rcases Int.lt_or_le 0 (stL ((bs s).take (m + 1))) with h3 | h3
              · exact absurd ⟨h, h', h3⟩ c1
              · exact h3⟩)
      clear c1
      by_cases m0 : m = 0
      · have HV := Lib.hid (hM.symm.trans (by rw [m0, rnV_0]))
        clear hM hmem hlen
        subst m0
        rw [show ((0 : Nat) : Int) = 0 from rfl, show ((0 + 1 : Nat) : Int) = 1 from rfl]
        rcases hex with x1 | ⟨x1, x2⟩ | ⟨x1, x2, x3⟩
        · omega
        · omega
        · have x4 : stL ((bs s).take 1) ≤ 0 := x3
          clear x3
          go_wp2_with fail
          refine (starts_cut s 1 _ hs (by omega) x1).mono ?_
          rintro e w' ⟨rfl, rfl⟩
          go_wp2
          go_ret3
          exact ⟨nxV_eq HV.out, rfl⟩
      · have m1 : 1 ≤ m := by omega
        have hmz : ((m : Int) == 0) = false := by simp; omega
        by_cases l1 : (m : Int) < stL ((bs s).take m)
        · by_cases l2 : m = s.size
          · have HV := Lib.hid (hM.symm.trans (rnV_more _ m m0 l1 (by omega)))
            have hq : ((m : Int) == (s.size : Int)) = true := by simp; omega
            have L2 := Lib.hid l2
            clear hM hmem hlen l2 m0
            rcases hex with x1 | ⟨x1, x2⟩ | ⟨x1, x2, x3⟩
            · go_wp2_with fail
              refine (starts_cut s m _ hs (by omega) hms).mono ?_
              rintro e w' ⟨rfl, rfl⟩
              go_wp2
              go_ret3
              exact ⟨nxV_eq HV.out, rfl⟩
            · go_wp2_with fail
              refine (starts_cut s m _ hs (by omega) hms).mono ?_
              rintro e w' ⟨rfl, rfl⟩
              go_wp2
              go_ret3
              exact ⟨nxV_eq HV.out, rfl⟩
            · go_wp2_with fail
              refine (starts_cut s (m + 1) _ hs (by omega) x1).mono ?_
              rintro e w' ⟨rfl, rfl⟩
              go_wp2_with fail
              refine (starts_cut s m _ hs (by omega) hms).mono ?_
              rintro e w' ⟨rfl, rfl⟩
              go_wp2
              go_ret3
              exact ⟨nxV_eq HV.out, rfl⟩
          · have HV := Lib.hid (hM.symm.trans (rnV_bad _ m m0 l1 (by omega)))
            have hq : ((m : Int) == (s.size : Int)) = false := by simp; omega
            clear hM hmem hlen l2 m0
            rcases hex with x1 | ⟨x1, x2⟩ | ⟨x1, x2, x3⟩
            · go_wp2_with fail
              refine (starts_cut s m _ hs (by omega) hms).mono ?_
              rintro e w' ⟨rfl, rfl⟩
              go_wp2
              go_ret3
              exact ⟨nxV_eq HV.out, rfl⟩
            · go_wp2_with fail
              refine (starts_cut s m _ hs (by omega) hms).mono ?_
              rintro e w' ⟨rfl, rfl⟩
              go_wp2
              go_ret3
              exact ⟨nxV_eq HV.out, rfl⟩
            · go_wp2_with fail
              refine (starts_cut s (m + 1) _ hs (by omega) x1).mono ?_
              rintro e w' ⟨rfl, rfl⟩
              go_wp2_with fail
              refine (starts_cut s m _ hs (by omega) hms).mono ?_
              rintro e w' ⟨rfl, rfl⟩
              go_wp2
              go_ret3
              exact ⟨nxV_eq HV.out, rfl⟩
        · by_cases l2 : stL ((bs s).take m) = 1
          · have HV := Lib.hid (hM.symm.trans (rnV_one _ m m0 l1 l2))
            rw [hmem] at HV
            have hq : (stL ((bs s).take m) == 1) = true := by simp [l2]
            clear hM hmem hlen l2 m0
            rcases hex with x1 | ⟨x1, x2⟩ | ⟨x1, x2, x3⟩
            · go_wp2_with fail
              refine (starts_cut s m _ hs (by omega) hms).mono ?_
              rintro e w' ⟨rfl, rfl⟩
              go_wp2
              go_ret3
              exact ⟨nxV_eq HV.out, rfl⟩
            · go_wp2_with fail
              refine (starts_cut s m _ hs (by omega) hms).mono ?_
              rintro e w' ⟨rfl, rfl⟩
              go_wp2
              go_ret3
              exact ⟨nxV_eq HV.out, rfl⟩
            · go_wp2_with fail
              refine (starts_cut s (m + 1) _ hs (by omega) x1).mono ?_
              rintro e w' ⟨rfl, rfl⟩
              go_wp2_with fail
              refine (starts_cut s m _ hs (by omega) hms).mono ?_
              rintro e w' ⟨rfl, rfl⟩
              go_wp2
              go_ret3
              exact ⟨nxV_eq HV.out, rfl⟩
          · have HV := Lib.hid (hM.symm.trans (rnV_l _ m m0 l1 l2))
            have hq : (stL ((bs s).take m) == 1) = false := by simp [l2]
            have l3 : 2 ≤ stL ((bs s).take m) := by have := HP.out.yes m m1 (Nat.le_refl _); omega
            clear hM hmem hlen l2 m0
            rcases hex with x1 | ⟨x1, x2⟩ | ⟨x1, x2, x3⟩
            · go_wp2_with fail
              refine (starts_cut s m _ hs (by omega) hms).mono ?_
              rintro e w' ⟨rfl, rfl⟩
              go_wp2_with fail
              refine (least_cut s m _ hs (by omega) hms l3).mono ?_
              rintro e w' ⟨rfl, rfl⟩
              go_wp2
              go_ret3
              exact ⟨nxV_eq HV.out, rfl⟩
            · go_wp2_with fail
              refine (starts_cut s m _ hs (by omega) hms).mono ?_
              rintro e w' ⟨rfl, rfl⟩
              go_wp2_with fail
              refine (least_cut s m _ hs (by omega) hms l3).mono ?_
              rintro e w' ⟨rfl, rfl⟩
              go_wp2
              go_ret3
              exact ⟨nxV_eq HV.out, rfl⟩
            · go_wp2_with fail
              refine (starts_cut s (m + 1) _ hs (by omega) x1).mono ?_
              rintro e w' ⟨rfl, rfl⟩
              go_wp2_with fail
              refine (starts_cut s m _ hs (by omega) hms).mono ?_
              rintro e w' ⟨rfl, rfl⟩
              go_wp2_with fail
              refine (least_cut s m _ hs (by omega) hms l3).mono ?_
              rintro e w' ⟨rfl, rfl⟩
              go_wp2
              go_ret3
              exact ⟨nxV_eq HV.out, rfl⟩
end Go.Proofs.YtoiedhkhmdgipaaDoor

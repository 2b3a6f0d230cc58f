import Derived.Test.YtajhgbcgbgpcjaaGreatDoorGR
import Derived.Test.YtajhgbcgbgpcjaaGreatDoorGK
import Derived.Test.YtajhgbcgbgpcjaaGreatDoorGN
import Derived.Test.YtajhgbcgbgpcjaaGreatDoorFRb
namespace Go.Proofs.YtajhgbcgbgpcjaaGreatDoor.Uc
open Go.RowKit Fi

/-- Bare already is no blank at an end, of bytes that may be. -/
theorem plB_iff {l : List UInt8} (ha : (l.all fun c => okC c.toNat) = true) : (bareL l = l) ↔ (Lib.hasPrefix l [32] = false ∧ Lib.hasSuffix l [32] = false) := by
  have ha' := List.all_eq_true.1 ha
  constructor
  · intro h
    constructor
    · cases hp : Lib.hasPrefix l [32] with
      | false => rfl
      | true =>
        exfalso
        cases l with
        | nil => cases hp
        | cons c r =>
          unfold Lib.hasPrefix at hp
          rw [pre_one] at hp
          have hc : c = 32 := by simpa using hp
          subst hc
          have h2 := congrArg List.length h
          rw [bareL_rt, lt_yes (by decide)] at h2
          have h3 : (rt (lt r)).length ≤ r.length := by
            rw [← bareL_rt]; exact bareL_le r
          rw [List.length_cons] at h2
          omega
    · cases hs : Lib.hasSuffix l [32] with
      | false => rfl
      | true =>
        exfalso
        obtain ⟨r, hr⟩ := List.isSuffixOf_iff_suffix.1 hs
        subst hr
        have h2 := congrArg List.length h
        rw [bareL_eq, rt_yes (by decide)] at h2
        have h3 : (lt (rt r)).length ≤ r.length := by rw [← bareL_eq]; exact bareL_le r
        rw [List.length_append] at h2
        simp at h2
        omega
  · rintro ⟨h1, h2⟩
    refine bare_of (fun c r e => ?_) (fun r c e => ?_)
    · rw [(okC_tame (ha' c (by rw [e]; simp))).2]
      subst e
      unfold Lib.hasPrefix at h1
      rw [pre_one] at h1
      exact h1
    · rw [(okC_tame (ha' c (by rw [e]; simp))).2]
      subst e
      cases hd : decide (c = 32) with
      | false => rfl
      | true =>
        simp at hd
        subst hd
        unfold Lib.hasSuffix at h2
        rw [show ([32] : List UInt8).isSuffixOf (r ++ [32]) = true from List.isSuffixOf_iff_suffix.2 ⟨r, rfl⟩] at h2
        cases h2
theorem plB_long {l : List UInt8} (h : 100 < l.length) : plB l = false := by
  unfold plB
  rw [decide_eq_false (by omega : ¬ l.length ≤ 100)]
  simp
theorem plB_bad {l : List UInt8} (h : bareL l ≠ l) : plB l = false := by
  cases hp : plB l with
  | false => rfl
  | true => exact absurd (plB_bare hp) h
theorem plB_all {l : List UInt8} (h1 : l.length ≤ 100) (h2 : bareL l = l) : plB l = l.all fun c => okC c.toNat := by
  cases ha : l.all fun c => okC c.toNat with
  | false => unfold plB; rw [ha]; rfl
  | true =>
    obtain ⟨a, b⟩ := (plB_iff ha).1 h2
    unfold plB
    rw [ha, a, b, decide_eq_true h1]
    rfl
set_option maxRecDepth 100000 in
set_option maxHeartbeats 2000000 in
theorem rplain_any (s : ByteArray) (w : World) (hs : s.size ≤ 100000) :
    Calls Tryz.prog 19 #[.string s] w fun e w' => e = .returned (.bool (plB s.data.toList)) ∧ w = w' := by
  by_cases h1 : 100 < s.size
  · have H := Lib.hid (plB_long (l := s.data.toList) (by rw [lst_len]; exact h1))
    have g1 : (100 : Int) < s.size := by omega
    go_enter Tryz.func19, Tryz.ntmps19
    go_wp2_with fail
    go_ret
    exact ⟨ret_bool (by rw [H.out]), rfl⟩
  · have g1 : ¬ (100 : Int) < s.size := by omega
    have hB := fun W => rbare_any s W hs
    by_cases h2 : bareL s.data.toList = s.data.toList
    · have HE := Lib.hid (plB_all (l := s.data.toList) (by rw [lst_len]; omega) h2)
      rw [h2] at hB
      have HB := Lib.hid (show ∀ W, Calls Tryz.prog 34 #[.string s] W fun e w' => e = .returned (.string s) ∧ W = w' from hB)
      clear hB h2
      generalize plB s.data.toList = res at *
      have e2 : (s.toList != s.toList) = false := by simp
      go_enter Tryz.func19, Tryz.ntmps19
      go_wp2_with (go_at_call 34; refine (HB.out _).mono ?_; rintro e w1 ⟨rfl, rfl⟩)
      go_loop [3] (fun i => ∃ k : Nat, i = .int .i64 k ∧ k ≤ s.size ∧ Hid (((s.data.toList.drop k).all fun c => okC c.toNat) = s.data.toList.all fun c => okC c.toNat)) (fun i => s.size - (intOf i).toNat)
      case atStart => exact ⟨0, rfl, by omega, rfl⟩
      case round =>
        obtain ⟨k, rfl, hk, HD⟩ := hrel
        by_cases hlt : k < s.size
        · have g2 : (k : Int) < s.size := by omega
          have hon := pl_on s k hlt
          by_cases h1 : s[k].toNat < 32
          · have c1 : (s[k].toNat : Int) < 32 := by omega
            have HQ := Lib.hid (show res = false by rw [HE.out, ← HD.out, hon, show okC s[k].toNat = false by simp [okC, h1]]; rfl)
            clear hon
            go_wp2_with fail
            go_ret
            exact ⟨ret_bool HQ.out.symm, rfl⟩
          · have c1 : ¬ (s[k].toNat : Int) < 32 := by omega
            by_cases h2 : s[k].toNat = 59
            · have c2 : ((s[k].toNat : Int) == 59) = true := by simp; omega
              have HQ := Lib.hid (show res = false by rw [HE.out, ← HD.out, hon, show okC s[k].toNat = false by simp [okC, h2]]; rfl)
              clear hon h2
              go_wp2_with fail
              go_ret
              exact ⟨ret_bool HQ.out.symm, rfl⟩
            · have c2 : ((s[k].toNat : Int) == 59) = false := by simp; omega
              by_cases h3 : s[k].toNat = 35
              · have c3 : ((s[k].toNat : Int) == 35) = true := by simp; omega
                have HQ := Lib.hid (show res = false by rw [HE.out, ← HD.out, hon, show okC s[k].toNat = false by simp [okC, h3]]; rfl)
                clear hon h3 h2
                go_wp2_with fail
                go_ret
                exact ⟨ret_bool HQ.out.symm, rfl⟩
              · have c3 : ((s[k].toNat : Int) == 35) = false := by simp; omega
                have HQ := Lib.hid (show ((s.data.toList.drop (k + 1)).all fun c => okC c.toNat) = s.data.toList.all fun c => okC c.toNat by rw [← HD.out, hon, show okC s[k].toNat = true by simp [okC, h1, h2, h3], Bool.true_and])
                clear hon h3 h2
                go_wp2_with fail
                go_round
                case rel => exact ⟨k + 1, by go_num, by omega, HQ.out⟩
                case measure => simp [intOf]; omega
        · have g2 : ¬ (k : Int) < s.size := by omega
          have HQ := Lib.hid (show res = true by rw [HE.out, ← HD.out, lst_end s k (by omega)]; rfl)
          go_wp2_with fail
          go_ret
          exact ⟨ret_bool HQ.out.symm, rfl⟩
    · have H := Lib.hid (plB_bad h2)
      obtain ⟨bb, hbb⟩ : ∃ bb : ByteArray, bb = ⟨(bareL s.data.toList).toArray⟩ := ⟨_, rfl⟩
      have hne : bb ≠ s := fun h9 => h2 (congrArg (fun x : ByteArray => x.data.toList) (hbb.symm.trans h9))
      rw [← hbb] at hB
      have HB := Lib.hid hB
      have e1 := str_ne hne
      have e2 := str_ne2 hne
      clear hB hbb h2 hne
      go_enter Tryz.func19, Tryz.ntmps19
      go_wp2_with (go_at_call 34; refine (HB.out _).mono ?_; rintro e w1 ⟨rfl, rfl⟩)
      go_ret
      exact ⟨ret_bool (by rw [H.out]), rfl⟩

set_option maxRecDepth 100000 in
set_option maxHeartbeats 8000000 in
theorem rcheck_any (f t c : Int) (n g k : ByteArray) (A : Option Addr) (p : Nat) (l : List Int) (w : World) (hl : Ints .i32 w A l) (hz : l.length ≤ 100000) (hn : n.size ≤ 100000) (hg : g.size ≤ 100000) (hk : k.size ≤ 100000) :
    Calls Tryz.prog 8 #[.agg #[.int .i32 f, .int .i32 t, .string n, .string g, .int .i64 c, .string k, .slice A l.length p]] w fun e w' => e = .returned (.int .i64 (chkE ⟨f, t, n.data.toList, g.data.toList, c, k.data.toList, l⟩)) ∧ Below w.heap.size w w' := by
  obtain ⟨m, hm⟩ : ∃ m, m = l.length := ⟨_, rfl⟩
  have D := Lib.hid ((Below.refl w.heap.size w).alloc (Nat.le_refl _) (.cells #[.int .i32 f, .int .i32 t, .string n, .string g, .int .i64 c, .string k, .slice A m p] 28))
  have HI := Lib.hid (hl.below D.out)
  have hkn : (k.data.toList ≠ []) ↔ 0 < k.size := by rw [← lst_len, List.length_pos_iff]
  have hE : chkE ⟨f, t, n.data.toList, g.data.toList, c, k.data.toList, l⟩ = if (scal f && (scal t && (decide (f ≤ t) && (decide (0 ≤ c) && (decide (c ≤ 254) && (decide (m ≤ 18) && l.all scal)))))) = false then 11 else if ((ltrs k.data.toList && !(decide (0 < k.size) && decide (m = 0))) && ((plB n.data.toList && plB g.data.toList) && (if f ≠ t then decide (m = 0) else !(rgN n.data.toList firstE).isSome && !(rgN n.data.toList lastE).isSome))) = false then 10 else 0 := by
    unfold chkE rngB frmB
    simp only [hkn, hm]
  have hL := fun W => rletters_any k W (by omega)
  have hN := fun W => rplain_any n W hn
  have hG := fun W => rplain_any g W hg
  have hF := fun W => inner_any n ⟨#[44, 32, 70, 105, 114, 115, 116, 62]⟩ W (by omega) (by decide)
  rw [show (⟨#[44, 32, 70, 105, 114, 115, 116, 62]⟩ : ByteArray).data.toList = firstE from rfl] at hF
  have hS := fun W => inner_any n ⟨#[44, 32, 76, 97, 115, 116, 62]⟩ W (by omega) (by decide)
  rw [show (⟨#[44, 32, 76, 97, 115, 116, 62]⟩ : ByteArray).data.toList = lastE from rfl] at hS
  unfold rgV at hF hS
  rw [← hm]
  generalize chkE ⟨f, t, n.data.toList, g.data.toList, c, k.data.toList, l⟩ = res at *
  generalize ltrs k.data.toList = bk at *
  generalize plB n.data.toList = bn at *
  generalize plB g.data.toList = bg at *
  generalize rgN n.data.toList firstE = o1 at *
  generalize rgN n.data.toList lastE = o2 at *
  obtain ⟨x1, hx1⟩ : ∃ x1 : ByteArray, x1 = ⟨(o1.getD []).toArray⟩ := ⟨_, rfl⟩
  obtain ⟨x2, hx2⟩ : ∃ x2 : ByteArray, x2 = ⟨(o2.getD []).toArray⟩ := ⟨_, rfl⟩
  rw [← hx1] at hF
  rw [← hx2] at hS
  generalize o1.isSome = b1 at *
  generalize o2.isSome = b2 at *
  have HE := Lib.hid hE
  have HL := Lib.hid hL
  have HN := Lib.hid hN
  have HG := Lib.hid hG
  have HF := Lib.hid hF
  have HS := Lib.hid hS
  have HM := Lib.hid hm
  have hmz : m ≤ 100000 := by omega
  clear hE hL hN hG hF hS hx1 hx2 hkn o1 o2 hl hm
  cases s1 : scal f with
  | false =>
    have Ks1 := Lib.hid s1
    go_enter Tryz.func8, Tryz.ntmps8
    go_wp2_with (go_at_call 16; refine (scalar_any _ _).mono ?_; rintro e w1 ⟨rfl, rfl⟩)
    go_ret
    exact ⟨ret_int (by rw [HE.out, Ks1.out]; simp), D.out⟩
  | true =>
    have Ks1 := Lib.hid s1
    cases s2 : scal t with
    | false =>
      have Ks2 := Lib.hid s2
      go_enter Tryz.func8, Tryz.ntmps8
      go_wp2_with (go_at_call 16; refine (scalar_any _ _).mono ?_; rintro e w1 ⟨rfl, rfl⟩)
      go_ret
      exact ⟨ret_int (by rw [HE.out, Ks1.out, Ks2.out]; simp), D.out⟩
    | true =>
      have Ks2 := Lib.hid s2
      by_cases q3 : f ≤ t
      · have Kq3 := Lib.hid (decide_eq_true q3)
        have nq3 : ¬ t < f := by omega
        by_cases q4 : 0 ≤ c
        · have Kq4 := Lib.hid (decide_eq_true q4)
          have nq4 : ¬ c < 0 := by omega
          by_cases q5 : c ≤ 254
          · have Kq5 := Lib.hid (decide_eq_true q5)
            have nq5 : ¬ (254 : Int) < c := by omega
            by_cases q6 : m ≤ 18
            · have Kq6 := Lib.hid (decide_eq_true q6)
              have g6 : ¬ (18 : Int) < m := by omega
              go_enter Tryz.func8, Tryz.ntmps8
              go_wp2_with (go_at_call 16; refine (scalar_any _ _).mono ?_; rintro e w1 ⟨rfl, rfl⟩)
              go_loop [3] (fun i => ∃ q : Nat, i = .int .i64 q ∧ q ≤ m ∧ Hid ((l.drop q).all scal = l.all scal)) (fun i => m - (intOf i).toNat)
              case atStart => exact ⟨0, rfl, by omega, rfl⟩
              case round =>
                obtain ⟨q, rfl, hq, HD⟩ := hrel
                by_cases hlt : q < m
                · have hlt2 : q < l.length := by rw [← HM.out]; exact hlt
                  obtain ⟨b, off, rfl, hb, hc⟩ := HI.out q hlt2
                  have hon := any_on l q hlt2
                  have g7 : (q : Int) < m := by omega
                  generalize l.getD q 0 = r at *
                  cases hs : scal r with
                  | true =>
                    rw [hs] at hon
                    have HQ := Lib.hid (show (l.drop (q + 1)).all scal = l.all scal by rw [← HD.out, hon, Bool.true_and])
                    clear hon
                    go_wp2_with (go_at_call 16; refine (scalar_any _ _).mono ?_; rintro e w1 ⟨rfl, rfl⟩)
                    go_round
                    case rel => exact ⟨q + 1, by go_num, by omega, HQ.out⟩
                    case measure => simp [intOf]; omega
                  | false =>
                    rw [hs] at hon
                    have HQ := Lib.hid (show l.all scal = false by rw [← HD.out, hon, Bool.false_and])
                    clear hon
                    go_wp2_with (go_at_call 16; refine (scalar_any _ _).mono ?_; rintro e w1 ⟨rfl, rfl⟩)
                    go_ret
                    exact ⟨ret_int (by rw [HE.out, Ks1.out, Ks2.out, Kq3.out, Kq4.out, Kq5.out, Kq6.out, HQ.out]; simp), D.out⟩
                · have g7 : ¬ (q : Int) < m := by omega
                  have HA := Lib.hid (show l.all scal = true by rw [← HD.out, List.drop_eq_nil_of_le (by have := HM.out; omega)]; rfl)
                  have HE2 := Lib.hid (HE.out)
                  rw [Ks1.out, Ks2.out, Kq3.out, Kq4.out, Kq5.out, Kq6.out, HA.out] at HE2
                  simp only [Bool.and_self, Bool.true_eq_false, if_false] at HE2
                  obtain rfl : q = m := by omega
                  clear HD HI HM hq hlt g7 HA HE
                  have g7 : ¬ (q : Int) < q := by omega
                  cases bk with
                  | false =>
                    go_wp2_with (first | (go_at_call 17; (with_reducible refine (HF.out _).mono ?_); rintro e w1 ⟨rfl, rfl⟩) | (go_at_call 17; (with_reducible refine (HS.out _).mono ?_); rintro e w1 ⟨rfl, rfl⟩) | (go_at_call 18; refine (HL.out _).mono ?_; rintro e w1 ⟨rfl, rfl⟩) | (go_at_call 19; (with_reducible refine (HN.out _).mono ?_); rintro e w1 ⟨rfl, rfl⟩) | (go_at_call 19; (with_reducible refine (HG.out _).mono ?_); rintro e w1 ⟨rfl, rfl⟩))
                    go_ret
                    exact ⟨ret_int (by rw [HE2.out]; simp), D.out⟩
                  | true =>
                    by_cases hk0 : 0 < k.size
                    · have he := emp_no hk0
                      have hne := emp_ne hk0
                      have KK := Lib.hid (decide_eq_true hk0)
                      rw [KK.out] at HE2
                      cases q with
                      | zero =>
                        go_wp2_with (first | (go_at_call 17; (with_reducible refine (HF.out _).mono ?_); rintro e w1 ⟨rfl, rfl⟩) | (go_at_call 17; (with_reducible refine (HS.out _).mono ?_); rintro e w1 ⟨rfl, rfl⟩) | (go_at_call 18; refine (HL.out _).mono ?_; rintro e w1 ⟨rfl, rfl⟩) | (go_at_call 19; (with_reducible refine (HN.out _).mono ?_); rintro e w1 ⟨rfl, rfl⟩) | (go_at_call 19; (with_reducible refine (HG.out _).mono ?_); rintro e w1 ⟨rfl, rfl⟩))
                        go_ret
                        exact ⟨ret_int (by rw [HE2.out]; simp), D.out⟩
                      | succ q =>
                        have eL : ((((q + 1 : Nat) : Int)) == 0) = false := by simp; omega
                        have eL2 : (((q : Int) + 1) == 0) = false := by simp; omega
                        have eL3 : (0 : Int) < (q : Int) + 1 := by omega
                        by_cases hft : f = t
                        · subst hft
                          have ef : (f != f) = false := by simp
                          cases bn with
                          | false =>
                            go_wp2_with (first | (go_at_call 17; (with_reducible refine (HF.out _).mono ?_); rintro e w1 ⟨rfl, rfl⟩) | (go_at_call 17; (with_reducible refine (HS.out _).mono ?_); rintro e w1 ⟨rfl, rfl⟩) | (go_at_call 18; refine (HL.out _).mono ?_; rintro e w1 ⟨rfl, rfl⟩) | (go_at_call 19; (with_reducible refine (HN.out _).mono ?_); rintro e w1 ⟨rfl, rfl⟩) | (go_at_call 19; (with_reducible refine (HG.out _).mono ?_); rintro e w1 ⟨rfl, rfl⟩))
                            go_ret
                            exact ⟨ret_int (by rw [HE2.out]; simp), D.out⟩
                          | true =>
                            cases bg with
                            | false =>
                              go_wp2_with (first | (go_at_call 17; (with_reducible refine (HF.out _).mono ?_); rintro e w1 ⟨rfl, rfl⟩) | (go_at_call 17; (with_reducible refine (HS.out _).mono ?_); rintro e w1 ⟨rfl, rfl⟩) | (go_at_call 18; refine (HL.out _).mono ?_; rintro e w1 ⟨rfl, rfl⟩) | (go_at_call 19; (with_reducible refine (HN.out _).mono ?_); rintro e w1 ⟨rfl, rfl⟩) | (go_at_call 19; (with_reducible refine (HG.out _).mono ?_); rintro e w1 ⟨rfl, rfl⟩))
                              go_ret
                              exact ⟨ret_int (by rw [HE2.out]; simp), D.out⟩
                            | true =>
                              cases b1 with
                              | true =>
                                go_wp2_with (first | (go_at_call 17; (with_reducible refine (HF.out _).mono ?_); rintro e w1 ⟨rfl, rfl⟩) | (go_at_call 17; (with_reducible refine (HS.out _).mono ?_); rintro e w1 ⟨rfl, rfl⟩) | (go_at_call 18; refine (HL.out _).mono ?_; rintro e w1 ⟨rfl, rfl⟩) | (go_at_call 19; (with_reducible refine (HN.out _).mono ?_); rintro e w1 ⟨rfl, rfl⟩) | (go_at_call 19; (with_reducible refine (HG.out _).mono ?_); rintro e w1 ⟨rfl, rfl⟩))
                                go_ret
                                exact ⟨ret_int (by rw [HE2.out]; simp), D.out⟩
                              | false =>
                                cases b2 with
                                | true =>
                                  go_wp2_with (first | (go_at_call 17; (with_reducible refine (HF.out _).mono ?_); rintro e w1 ⟨rfl, rfl⟩) | (go_at_call 17; (with_reducible refine (HS.out _).mono ?_); rintro e w1 ⟨rfl, rfl⟩) | (go_at_call 18; refine (HL.out _).mono ?_; rintro e w1 ⟨rfl, rfl⟩) | (go_at_call 19; (with_reducible refine (HN.out _).mono ?_); rintro e w1 ⟨rfl, rfl⟩) | (go_at_call 19; (with_reducible refine (HG.out _).mono ?_); rintro e w1 ⟨rfl, rfl⟩))
                                  go_ret
                                  exact ⟨ret_int (by rw [HE2.out]; simp), D.out⟩
                                | false =>
                                  go_wp2_with (first | (go_at_call 17; (with_reducible refine (HF.out _).mono ?_); rintro e w1 ⟨rfl, rfl⟩) | (go_at_call 17; (with_reducible refine (HS.out _).mono ?_); rintro e w1 ⟨rfl, rfl⟩) | (go_at_call 18; refine (HL.out _).mono ?_; rintro e w1 ⟨rfl, rfl⟩) | (go_at_call 19; (with_reducible refine (HN.out _).mono ?_); rintro e w1 ⟨rfl, rfl⟩) | (go_at_call 19; (with_reducible refine (HG.out _).mono ?_); rintro e w1 ⟨rfl, rfl⟩))
                                  go_ret
                                  exact ⟨ret_int (by rw [HE2.out]; simp), D.out⟩
                        · have ef : (t != f) = true := by simpa using fun h9 => hft h9.symm
                          have ef2 : (t == f) = false := by simpa using fun h9 => hft h9.symm
                          go_wp2_with (first | (go_at_call 17; (with_reducible refine (HF.out _).mono ?_); rintro e w1 ⟨rfl, rfl⟩) | (go_at_call 17; (with_reducible refine (HS.out _).mono ?_); rintro e w1 ⟨rfl, rfl⟩) | (go_at_call 18; refine (HL.out _).mono ?_; rintro e w1 ⟨rfl, rfl⟩) | (go_at_call 19; (with_reducible refine (HN.out _).mono ?_); rintro e w1 ⟨rfl, rfl⟩) | (go_at_call 19; (with_reducible refine (HG.out _).mono ?_); rintro e w1 ⟨rfl, rfl⟩))
                          go_ret
                          exact ⟨ret_int (by rw [HE2.out]; simp [hft]), D.out⟩
                    · have KK := Lib.hid (decide_eq_false hk0)
                      rw [KK.out] at HE2
                      clear KK
                      obtain rfl := emp_yes (show k.size = 0 by omega)
                      by_cases hft : f = t
                      · subst hft
                        have ef : (f != f) = false := by simp
                        cases q with
                        | zero =>
                          cases bn with
                          | false =>
                            go_wp2_with (first | (go_at_call 17; (with_reducible refine (HF.out _).mono ?_); rintro e w1 ⟨rfl, rfl⟩) | (go_at_call 17; (with_reducible refine (HS.out _).mono ?_); rintro e w1 ⟨rfl, rfl⟩) | (go_at_call 18; refine (HL.out _).mono ?_; rintro e w1 ⟨rfl, rfl⟩) | (go_at_call 19; (with_reducible refine (HN.out _).mono ?_); rintro e w1 ⟨rfl, rfl⟩) | (go_at_call 19; (with_reducible refine (HG.out _).mono ?_); rintro e w1 ⟨rfl, rfl⟩))
                            go_ret
                            exact ⟨ret_int (by rw [HE2.out]; simp), D.out⟩
                          | true =>
                            cases bg with
                            | false =>
                              go_wp2_with (first | (go_at_call 17; (with_reducible refine (HF.out _).mono ?_); rintro e w1 ⟨rfl, rfl⟩) | (go_at_call 17; (with_reducible refine (HS.out _).mono ?_); rintro e w1 ⟨rfl, rfl⟩) | (go_at_call 18; refine (HL.out _).mono ?_; rintro e w1 ⟨rfl, rfl⟩) | (go_at_call 19; (with_reducible refine (HN.out _).mono ?_); rintro e w1 ⟨rfl, rfl⟩) | (go_at_call 19; (with_reducible refine (HG.out _).mono ?_); rintro e w1 ⟨rfl, rfl⟩))
                              go_ret
                              exact ⟨ret_int (by rw [HE2.out]; simp), D.out⟩
                            | true =>
                              cases b1 with
                              | true =>
                                go_wp2_with (first | (go_at_call 17; (with_reducible refine (HF.out _).mono ?_); rintro e w1 ⟨rfl, rfl⟩) | (go_at_call 17; (with_reducible refine (HS.out _).mono ?_); rintro e w1 ⟨rfl, rfl⟩) | (go_at_call 18; refine (HL.out _).mono ?_; rintro e w1 ⟨rfl, rfl⟩) | (go_at_call 19; (with_reducible refine (HN.out _).mono ?_); rintro e w1 ⟨rfl, rfl⟩) | (go_at_call 19; (with_reducible refine (HG.out _).mono ?_); rintro e w1 ⟨rfl, rfl⟩))
                                go_ret
                                exact ⟨ret_int (by rw [HE2.out]; simp), D.out⟩
                              | false =>
                                cases b2 with
                                | true =>
                                  go_wp2_with (first | (go_at_call 17; (with_reducible refine (HF.out _).mono ?_); rintro e w1 ⟨rfl, rfl⟩) | (go_at_call 17; (with_reducible refine (HS.out _).mono ?_); rintro e w1 ⟨rfl, rfl⟩) | (go_at_call 18; refine (HL.out _).mono ?_; rintro e w1 ⟨rfl, rfl⟩) | (go_at_call 19; (with_reducible refine (HN.out _).mono ?_); rintro e w1 ⟨rfl, rfl⟩) | (go_at_call 19; (with_reducible refine (HG.out _).mono ?_); rintro e w1 ⟨rfl, rfl⟩))
                                  go_ret
                                  exact ⟨ret_int (by rw [HE2.out]; simp), D.out⟩
                                | false =>
                                  go_wp2_with (first | (go_at_call 17; (with_reducible refine (HF.out _).mono ?_); rintro e w1 ⟨rfl, rfl⟩) | (go_at_call 17; (with_reducible refine (HS.out _).mono ?_); rintro e w1 ⟨rfl, rfl⟩) | (go_at_call 18; refine (HL.out _).mono ?_; rintro e w1 ⟨rfl, rfl⟩) | (go_at_call 19; (with_reducible refine (HN.out _).mono ?_); rintro e w1 ⟨rfl, rfl⟩) | (go_at_call 19; (with_reducible refine (HG.out _).mono ?_); rintro e w1 ⟨rfl, rfl⟩))
                                  go_ret
                                  exact ⟨ret_int (by rw [HE2.out]; simp), D.out⟩
                        | succ q =>
                          have eL : ((((q + 1 : Nat) : Int)) == 0) = false := by simp; omega
                          have eL2 : (((q : Int) + 1) == 0) = false := by simp; omega
                          have eL3 : (0 : Int) < (q : Int) + 1 := by omega
                          cases bn with
                          | false =>
                            go_wp2_with (first | (go_at_call 17; (with_reducible refine (HF.out _).mono ?_); rintro e w1 ⟨rfl, rfl⟩) | (go_at_call 17; (with_reducible refine (HS.out _).mono ?_); rintro e w1 ⟨rfl, rfl⟩) | (go_at_call 18; refine (HL.out _).mono ?_; rintro e w1 ⟨rfl, rfl⟩) | (go_at_call 19; (with_reducible refine (HN.out _).mono ?_); rintro e w1 ⟨rfl, rfl⟩) | (go_at_call 19; (with_reducible refine (HG.out _).mono ?_); rintro e w1 ⟨rfl, rfl⟩))
                            go_ret
                            exact ⟨ret_int (by rw [HE2.out]; simp), D.out⟩
                          | true =>
                            cases bg with
                            | false =>
                              go_wp2_with (first | (go_at_call 17; (with_reducible refine (HF.out _).mono ?_); rintro e w1 ⟨rfl, rfl⟩) | (go_at_call 17; (with_reducible refine (HS.out _).mono ?_); rintro e w1 ⟨rfl, rfl⟩) | (go_at_call 18; refine (HL.out _).mono ?_; rintro e w1 ⟨rfl, rfl⟩) | (go_at_call 19; (with_reducible refine (HN.out _).mono ?_); rintro e w1 ⟨rfl, rfl⟩) | (go_at_call 19; (with_reducible refine (HG.out _).mono ?_); rintro e w1 ⟨rfl, rfl⟩))
                              go_ret
                              exact ⟨ret_int (by rw [HE2.out]; simp), D.out⟩
                            | true =>
                              cases b1 with
                              | true =>
                                go_wp2_with (first | (go_at_call 17; (with_reducible refine (HF.out _).mono ?_); rintro e w1 ⟨rfl, rfl⟩) | (go_at_call 17; (with_reducible refine (HS.out _).mono ?_); rintro e w1 ⟨rfl, rfl⟩) | (go_at_call 18; refine (HL.out _).mono ?_; rintro e w1 ⟨rfl, rfl⟩) | (go_at_call 19; (with_reducible refine (HN.out _).mono ?_); rintro e w1 ⟨rfl, rfl⟩) | (go_at_call 19; (with_reducible refine (HG.out _).mono ?_); rintro e w1 ⟨rfl, rfl⟩))
                                go_ret
                                exact ⟨ret_int (by rw [HE2.out]; simp), D.out⟩
                              | false =>
                                cases b2 with
                                | true =>
                                  go_wp2_with (first | (go_at_call 17; (with_reducible refine (HF.out _).mono ?_); rintro e w1 ⟨rfl, rfl⟩) | (go_at_call 17; (with_reducible refine (HS.out _).mono ?_); rintro e w1 ⟨rfl, rfl⟩) | (go_at_call 18; refine (HL.out _).mono ?_; rintro e w1 ⟨rfl, rfl⟩) | (go_at_call 19; (with_reducible refine (HN.out _).mono ?_); rintro e w1 ⟨rfl, rfl⟩) | (go_at_call 19; (with_reducible refine (HG.out _).mono ?_); rintro e w1 ⟨rfl, rfl⟩))
                                  go_ret
                                  exact ⟨ret_int (by rw [HE2.out]; simp), D.out⟩
                                | false =>
                                  go_wp2_with (first | (go_at_call 17; (with_reducible refine (HF.out _).mono ?_); rintro e w1 ⟨rfl, rfl⟩) | (go_at_call 17; (with_reducible refine (HS.out _).mono ?_); rintro e w1 ⟨rfl, rfl⟩) | (go_at_call 18; refine (HL.out _).mono ?_; rintro e w1 ⟨rfl, rfl⟩) | (go_at_call 19; (with_reducible refine (HN.out _).mono ?_); rintro e w1 ⟨rfl, rfl⟩) | (go_at_call 19; (with_reducible refine (HG.out _).mono ?_); rintro e w1 ⟨rfl, rfl⟩))
                                  go_ret
                                  exact ⟨ret_int (by rw [HE2.out]; simp), D.out⟩
                      · have ef : (t != f) = true := by simpa using fun h9 => hft h9.symm
                        have ef2 : (t == f) = false := by simpa using fun h9 => hft h9.symm
                        cases q with
                        | zero =>
                          cases bn with
                          | false =>
                            go_wp2_with (first | (go_at_call 17; (with_reducible refine (HF.out _).mono ?_); rintro e w1 ⟨rfl, rfl⟩) | (go_at_call 17; (with_reducible refine (HS.out _).mono ?_); rintro e w1 ⟨rfl, rfl⟩) | (go_at_call 18; refine (HL.out _).mono ?_; rintro e w1 ⟨rfl, rfl⟩) | (go_at_call 19; (with_reducible refine (HN.out _).mono ?_); rintro e w1 ⟨rfl, rfl⟩) | (go_at_call 19; (with_reducible refine (HG.out _).mono ?_); rintro e w1 ⟨rfl, rfl⟩))
                            go_ret
                            exact ⟨ret_int (by rw [HE2.out]; simp [hft]), D.out⟩
                          | true =>
                            cases bg with
                            | false =>
                              go_wp2_with (first | (go_at_call 17; (with_reducible refine (HF.out _).mono ?_); rintro e w1 ⟨rfl, rfl⟩) | (go_at_call 17; (with_reducible refine (HS.out _).mono ?_); rintro e w1 ⟨rfl, rfl⟩) | (go_at_call 18; refine (HL.out _).mono ?_; rintro e w1 ⟨rfl, rfl⟩) | (go_at_call 19; (with_reducible refine (HN.out _).mono ?_); rintro e w1 ⟨rfl, rfl⟩) | (go_at_call 19; (with_reducible refine (HG.out _).mono ?_); rintro e w1 ⟨rfl, rfl⟩))
                              go_ret
                              exact ⟨ret_int (by rw [HE2.out]; simp [hft]), D.out⟩
                            | true =>
                              go_wp2_with (first | (go_at_call 17; (with_reducible refine (HF.out _).mono ?_); rintro e w1 ⟨rfl, rfl⟩) | (go_at_call 17; (with_reducible refine (HS.out _).mono ?_); rintro e w1 ⟨rfl, rfl⟩) | (go_at_call 18; refine (HL.out _).mono ?_; rintro e w1 ⟨rfl, rfl⟩) | (go_at_call 19; (with_reducible refine (HN.out _).mono ?_); rintro e w1 ⟨rfl, rfl⟩) | (go_at_call 19; (with_reducible refine (HG.out _).mono ?_); rintro e w1 ⟨rfl, rfl⟩))
                              go_ret
                              exact ⟨ret_int (by rw [HE2.out]; simp [hft]), D.out⟩
                        | succ q =>
                          have eL : ((((q + 1 : Nat) : Int)) == 0) = false := by simp; omega
                          have eL2 : (((q : Int) + 1) == 0) = false := by simp; omega
                          have eL3 : (0 : Int) < (q : Int) + 1 := by omega
                          go_wp2_with (first | (go_at_call 17; (with_reducible refine (HF.out _).mono ?_); rintro e w1 ⟨rfl, rfl⟩) | (go_at_call 17; (with_reducible refine (HS.out _).mono ?_); rintro e w1 ⟨rfl, rfl⟩) | (go_at_call 18; refine (HL.out _).mono ?_; rintro e w1 ⟨rfl, rfl⟩) | (go_at_call 19; (with_reducible refine (HN.out _).mono ?_); rintro e w1 ⟨rfl, rfl⟩) | (go_at_call 19; (with_reducible refine (HG.out _).mono ?_); rintro e w1 ⟨rfl, rfl⟩))
                          go_ret
                          exact ⟨ret_int (by rw [HE2.out]; simp [hft]), D.out⟩
            · have Kq6 := Lib.hid (decide_eq_false q6)
              have g6 : (18 : Int) < m := by omega
              go_enter Tryz.func8, Tryz.ntmps8
              go_wp2_with (go_at_call 16; refine (scalar_any _ _).mono ?_; rintro e w1 ⟨rfl, rfl⟩)
              go_ret
              exact ⟨ret_int (by rw [HE.out, Ks1.out, Ks2.out, Kq3.out, Kq4.out, Kq5.out, Kq6.out]; simp), D.out⟩
          · have Kq5 := Lib.hid (decide_eq_false q5)
            have nq5 : (254 : Int) < c := by omega
            go_enter Tryz.func8, Tryz.ntmps8
            go_wp2_with (go_at_call 16; refine (scalar_any _ _).mono ?_; rintro e w1 ⟨rfl, rfl⟩)
            go_ret
            exact ⟨ret_int (by rw [HE.out, Ks1.out, Ks2.out, Kq3.out, Kq4.out, Kq5.out]; simp), D.out⟩
        · have Kq4 := Lib.hid (decide_eq_false q4)
          have nq4 : c < 0 := by omega
          go_enter Tryz.func8, Tryz.ntmps8
          go_wp2_with (go_at_call 16; refine (scalar_any _ _).mono ?_; rintro e w1 ⟨rfl, rfl⟩)
          go_ret
          exact ⟨ret_int (by rw [HE.out, Ks1.out, Ks2.out, Kq3.out, Kq4.out]; simp), D.out⟩
      · have Kq3 := Lib.hid (decide_eq_false q3)
        have nq3 : t < f := by omega
        go_enter Tryz.func8, Tryz.ntmps8
        go_wp2_with (go_at_call 16; refine (scalar_any _ _).mono ?_; rintro e w1 ⟨rfl, rfl⟩)
        go_ret
        exact ⟨ret_int (by rw [HE.out, Ks1.out, Ks2.out, Kq3.out]; simp), D.out⟩
end Go.Proofs.YtajhgbcgbgpcjaaGreatDoor.Uc

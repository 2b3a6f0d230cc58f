import Derived.Test.YtajhgbcgbgpcjaaDoorFRb
import Derived.Test.YtajhgbcgbgpcjaaDoorFRa
namespace Go.Proofs.YtajhgbcgbgpcjaaDoor.Fi
open Go.RowKit

/-- Where the first of two dots is, so far as was looked. -/
def Dots (l : List UInt8) (k : Nat) : Prop := Lib.cut l [46, 46] = if (Lib.cut (l.drop k) [46, 46]).2.2 then (l.take k ++ (Lib.cut (l.drop k) [46, 46]).1, (Lib.cut (l.drop k) [46, 46]).2.1, true) else (l, [], false)
theorem dots0 (l : List UInt8) : Dots l 0 := by
  unfold Dots
  rw [List.drop_zero]
  cases h : (Lib.cut l [46, 46]).2.2 with
  | true =>
    rw [if_pos rfl]
    have : Lib.cut l [46, 46] = ((Lib.cut l [46, 46]).1, (Lib.cut l [46, 46]).2.1, (Lib.cut l [46, 46]).2.2) := rfl
    rw [h] at this
    simpa using this
  | false =>
    obtain ⟨h1, h2⟩ := cut_miss h
    have : Lib.cut l [46, 46] = ((Lib.cut l [46, 46]).1, (Lib.cut l [46, 46]).2.1, (Lib.cut l [46, 46]).2.2) := rfl
    rw [h, h1, h2] at this
    simpa using this
theorem dots_on {l r : List UInt8} {k : Nat} {c : UInt8} (h : Dots l k) (hd : l.drop k = c :: r) (hr : l.drop (k + 1) = r) (ht : l.take (k + 1) = l.take k ++ [c]) (hp : ([46, 46] : List UInt8).isPrefixOf (c :: r) = false) : Dots l (k + 1) := by
  unfold Dots at *
  rw [h, hd, cut_skip hp, hr, ht]
  cases (Lib.cut r [46, 46]).2.2 <;> simp
theorem dots_hit {l r : List UInt8} {k : Nat} (h : Dots l k) (hd : l.drop k = 46 :: 46 :: r) : Lib.cut l [46, 46] = (l.take k, r, true) := by
  unfold Dots at h
  rw [h, hd, cut_hit (by simp [List.isPrefixOf])]
  simp
theorem dots_end {l : List UInt8} {k : Nat} (h : Dots l k) (hk : l.length ≤ k + 1) : Lib.cut l [46, 46] = (l, [], false) := by
  unfold Dots at h
  have e : Lib.cut (l.drop k) [46, 46] = (l.drop k, [], false) := by
    have hl : (l.drop k).length ≤ 1 := by rw [List.length_drop]; omega
    match hm : l.drop k, hl with
    | [], _ => exact cut_nil (by simp)
    | [c], _ => rw [cut_skip (by simp [List.isPrefixOf])]; rfl
  rw [h, e]
  rfl
theorem rng_no {l : List UInt8} (h : Lib.cut l [46, 46] = (l, [], false)) : rngE l = ((hexE l).1, (hexE l).1, (hexE l).2) := by
  unfold rngE; rw [h]; rfl
theorem rng_yes {l a b : List UInt8} (h : Lib.cut l [46, 46] = (a, b, true)) : rngE l = (if (hexE (bareL a)).2 ≠ 0 then (0, 0, (hexE (bareL a)).2) else if (hexE (bareL b)).2 ≠ 0 then (0, 0, (hexE (bareL b)).2) else if (hexE (bareL b)).1 < (hexE (bareL a)).1 then (0, 0, 11) else ((hexE (bareL a)).1, (hexE (bareL b)).1, 0)) := by
  unfold rngE; rw [h]; rfl
set_option maxRecDepth 100000 in
set_option maxHeartbeats 4000000 in
theorem rrange_any (s : ByteArray) (w : World) (hs : s.size ≤ 100000) :
    Calls Tryd.prog 31 #[.string s] w fun e w' => e = .returned (r3V (rngE s.data.toList)) ∧ w = w' := by
  have HB := Lib.hid (fun (t : ByteArray) (W : World) (h : t.size ≤ 100000) => rbare_any t W h)
  go_enter Tryd.func31, Tryd.ntmps31
  go_wp2_with fail
  go_loop [5, 6, 7] (fun a b i => (∃ k : Nat, i = .int .i64 k ∧ k ≤ s.size ∧ a = .string s ∧ b = .string s ∧ Hid (Dots s.data.toList k)) ∨ (∃ x y : List UInt8, i = .int .i64 ((s.size : Int) + 1) ∧ a = .string ⟨(bareL x).toArray⟩ ∧ b = .string ⟨(bareL y).toArray⟩ ∧ x.length ≤ s.size ∧ y.length ≤ s.size ∧ Hid (Lib.cut s.data.toList [46, 46] = (x, y, true)))) (fun _ _ i => s.size + 1 - (intOf i).toNat)
  case atStart => exact .inl ⟨0, rfl, by omega, rfl, rfl, dots0 _⟩
  case round =>
    rcases hrel with ⟨k, rfl, hk, rfl, rfl, HD⟩ | ⟨x, y, rfl, rfl, rfl, lx, ly, HD⟩
    · by_cases h1 : k + 1 < s.size
      · have g1 : (k : Int) + 1 < s.size := by omega
        have hk0 : k < s.size := by omega
        have c0 := Lib.hid (lst_at s k hk0)
        have c1 := Lib.hid (lst_at s (k + 1) h1)
        have ct := Lib.hid (take_on s k hk0)
        by_cases d0 : s[k].toNat = 46
        · have e0 : ((s[k].toNat : Int) == 46) = true := by simp; omega
          by_cases d1 : s[k + 1].toNat = 46
          · have e1 : ((s[k + 1].toNat : Int) == 46) = true := by simp; omega
            have HQ := Lib.hid (show Lib.cut s.data.toList [46, 46] = (s.data.toList.take k, s.data.toList.drop (k + 2), true) from dots_hit HD.out (by
              rw [c0.out, c1.out, show s[k] = 46 from UInt8.toNat_inj.1 d0, show s[k + 1] = 46 from UInt8.toNat_inj.1 d1]))
            clear c0 c1 ct d0 d1
            have hz1 := ext_size s 0 k
            have hz2 := ext_size s (k + 2) s.size
            have hB1 := fun W => HB.out (s.extract 0 k) W (by omega)
            have hB2 := fun W => HB.out (s.extract (k + 2) s.size) W (by omega)
            simp only [Lib.extract_from_zero, Lib.extract_to_end] at hB1 hB2
            have HB1 := Lib.hid hB1
            have HB2 := Lib.hid hB2
            clear hB1 hB2
            go_wp2_with fail
            refine (HB1.out _).mono ?_; rintro e w' ⟨rfl, rfl⟩
            go_wp2_with fail
            refine (HB2.out _).mono ?_; rintro e w' ⟨rfl, rfl⟩
            go_wp2_with fail
            go_round
            case rel => exact .inr ⟨_, _, rfl, rfl, rfl, by rw [List.length_take, lst_len]; omega, by rw [List.length_drop, lst_len]; omega, HQ.out⟩
            case measure => simp [intOf]; omega
          · have e1 : ((s[k + 1].toNat : Int) == 46) = false := by simp; omega
            have HQ := Lib.hid (dots_on HD.out c0.out rfl ct.out (by
              rw [c1.out]
              have : s[k + 1] ≠ 46 := fun h => d1 (by rw [h]; rfl)
              simp [List.isPrefixOf, Ne.symm this]))
            clear c0 c1 ct d0 d1
            go_wp2_with fail
            go_round
            case rel => exact .inl ⟨k + 1, by go_num, by omega, rfl, rfl, HQ.out⟩
            case measure => simp [intOf]; omega
        · have e0 : ((s[k].toNat : Int) == 46) = false := by simp; omega
          have HQ := Lib.hid (dots_on HD.out c0.out rfl ct.out (by
            have : s[k] ≠ 46 := fun h => d0 (by rw [h]; rfl)
            simp [List.isPrefixOf, Ne.symm this]))
          clear c0 c1 ct d0
          go_wp2_with fail
          go_round
          case rel => exact .inl ⟨k + 1, by go_num, by omega, rfl, rfl, HQ.out⟩
          case measure => simp [intOf]; omega
      · have g1 : ¬ (k : Int) + 1 < s.size := by omega
        have hQ := rng_no (dots_end HD.out (by rw [lst_len]; omega))
        have hX := fun W => rhex_any s W (by omega)
        have hcs := hexE_cases s.data.toList
        generalize hexE s.data.toList = p at *
        obtain ⟨r, e⟩ := p
        simp only at hQ hcs
        unfold reV at hX
        have HX := Lib.hid hX
        have HQ := Lib.hid hQ
        clear hX hQ
        rcases hcs with ⟨rfl, hr⟩ | ⟨rfl, he⟩
        · obtain ⟨r0, r1⟩ := scal_bd hr
          clear hr
          go_wp2_with (go_at_call 43; refine (HX.out _).mono ?_; rintro e w' ⟨rfl, rfl⟩)
          refine bodyPost_ret (v := .tuple #[.int .i32 r, .int .i32 r, .int .i64 0]) (by simp [results, Tryd.results31, go_sem]) rfl ⟨ret_eq (by rw [HQ.out]; rfl), rfl⟩
        · have n1 : (e != 0) = true := by rcases he with rfl | rfl <;> rfl
          clear he
          go_wp2_with (go_at_call 43; refine (HX.out _).mono ?_; rintro e w' ⟨rfl, rfl⟩)
          refine bodyPost_ret (v := .tuple #[.int .i32 0, .int .i32 0, .int .i64 e]) (by simp [results, Tryd.results31, go_sem]) rfl ⟨ret_eq (by rw [HQ.out]; rfl), rfl⟩
    · have hQ := rng_yes HD.out
      have hlx := bareL_le x
      have hly := bareL_le y
      have hX := fun W => rhex_any ⟨(bareL x).toArray⟩ W (by rw [size_mk]; omega)
      have hY := fun W => rhex_any ⟨(bareL y).toArray⟩ W (by rw [size_mk]; omega)
      simp only at hX hY
      have hcx := hexE_cases (bareL x)
      have hcy := hexE_cases (bareL y)
      generalize hexE (bareL x) = p at *
      generalize hexE (bareL y) = q at *
      obtain ⟨r, e⟩ := p
      obtain ⟨t, f⟩ := q
      simp only at hQ hcx hcy
      unfold reV at hX hY
      generalize (⟨(bareL x).toArray⟩ : ByteArray) = X at *
      generalize (⟨(bareL y).toArray⟩ : ByteArray) = Y at *
      have HX := Lib.hid hX
      have HY := Lib.hid hY
      have HQ := Lib.hid hQ
      clear hX hY hQ hlx hly lx ly
      have g1 : ¬ (s.size : Int) + 1 + 1 < s.size := by omega
      rcases hcx with ⟨rfl, hr⟩ | ⟨rfl, he⟩
      · obtain ⟨r0, r1⟩ := scal_bd hr
        clear hr
        rcases hcy with ⟨rfl, hr⟩ | ⟨rfl, he⟩
        · obtain ⟨t0, t1⟩ := scal_bd hr
          clear hr
          by_cases hlt : t < r
          · have HQ2 := Lib.hid (show rngE s.data.toList = (0, 0, 11) by rw [HQ.out]; simp [hlt])
            go_wp2_with fail
            refine (HX.out _).mono ?_; rintro e w' ⟨rfl, rfl⟩
            go_wp2_with fail
            refine (HY.out _).mono ?_; rintro e w' ⟨rfl, rfl⟩
            go_wp2_with fail
            refine bodyPost_ret (v := .tuple #[.int .i32 0, .int .i32 0, .int .i64 11]) (by simp [results, Tryd.results31, go_sem]) rfl ⟨ret_eq (by rw [HQ2.out]; rfl), rfl⟩
          · have HQ2 := Lib.hid (show rngE s.data.toList = (r, t, 0) by rw [HQ.out]; simp [hlt])
            go_wp2_with fail
            refine (HX.out _).mono ?_; rintro e w' ⟨rfl, rfl⟩
            go_wp2_with fail
            refine (HY.out _).mono ?_; rintro e w' ⟨rfl, rfl⟩
            go_wp2_with fail
            refine bodyPost_ret (v := .tuple #[.int .i32 r, .int .i32 t, .int .i64 0]) (by simp [results, Tryd.results31, go_sem]) rfl ⟨ret_eq (by rw [HQ2.out]; rfl), rfl⟩
        · have n1 : (f != 0) = true := by rcases he with rfl | rfl <;> rfl
          have HQ2 := Lib.hid (show rngE s.data.toList = (0, 0, f) by rw [HQ.out]; rcases he with rfl | rfl <;> simp)
          clear he
          go_wp2_with fail
          refine (HX.out _).mono ?_; rintro e w' ⟨rfl, rfl⟩
          go_wp2_with fail
          refine (HY.out _).mono ?_; rintro e w' ⟨rfl, rfl⟩
          go_wp2_with fail
          refine bodyPost_ret (v := .tuple #[.int .i32 0, .int .i32 0, .int .i64 f]) (by simp [results, Tryd.results31, go_sem]) rfl ⟨ret_eq (by rw [HQ2.out]; rfl), rfl⟩
      · have n1 : (e != 0) = true := by rcases he with rfl | rfl <;> rfl
        have HQ2 := Lib.hid (show rngE s.data.toList = (0, 0, e) by rw [HQ.out]; rcases he with rfl | rfl <;> simp)
        clear he
        go_wp2_with fail
        refine (HX.out _).mono ?_; rintro e w' ⟨rfl, rfl⟩
        go_wp2_with fail
        refine bodyPost_ret (v := .tuple #[.int .i32 0, .int .i32 0, .int .i64 e]) (by simp [results, Tryd.results31, go_sem]) rfl ⟨ret_eq (by rw [HQ2.out]; rfl), rfl⟩


end Go.Proofs.YtajhgbcgbgpcjaaDoor.Fi

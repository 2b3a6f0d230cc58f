import Derived.Test.YtajhgbcgbgpcjaaDoorGR
namespace Go.Proofs.YtajhgbcgbgpcjaaDoor.Uc
open Go.RowKit Fi

/-- Where the kind ends: told of what is not yet looked at. -/
def CutN (l : List UInt8) (n : Nat) : Prop := Lib.cut (l.drop 1) [62] = if (Lib.cut (l.drop n) [62]).2.2 then ((l.drop 1).take (n - 1) ++ (Lib.cut (l.drop n) [62]).1, (Lib.cut (l.drop n) [62]).2.1, true) else (l.drop 1, [], false)
theorem cutN1 (l : List UInt8) : CutN l 1 := by
  unfold CutN
  cases h : (Lib.cut (l.drop 1) [62]).2.2 with
  | true =>
    simp only [if_true, Nat.sub_self, List.take_zero, List.nil_append]
    rw [← h]
  | false =>
    simp only [Bool.false_eq_true, if_false]
    obtain ⟨a, b⟩ := cut_miss h
    rw [← h]
    conv => lhs; rw [show Lib.cut (l.drop 1) [62] = ((Lib.cut (l.drop 1) [62]).1, (Lib.cut (l.drop 1) [62]).2.1, (Lib.cut (l.drop 1) [62]).2.2) from rfl, a, b]
theorem cutN_on {l r : List UInt8} {n : Nat} {c : UInt8} (h : CutN l n) (h1 : 1 ≤ n) (hd : l.drop n = c :: r) (hr : l.drop (n + 1) = r) (hc : c ≠ 62) : CutN l (n + 1) := by
  unfold CutN at h ⊢
  have ht : (l.drop 1).take (n + 1 - 1) = (l.drop 1).take (n - 1) ++ [c] := by
    have hl : n < l.length := by
      have := congrArg List.length hd
      rw [List.length_drop, List.length_cons] at this
      omega
    obtain ⟨m, rfl⟩ : ∃ m, n = m + 1 := ⟨n - 1, by omega⟩
    have hg : (l.drop 1)[m]? = some c := by
      rw [List.getElem?_drop, show 1 + m = m + 1 + 0 by omega, ← List.getElem?_drop, hd]
      rfl
    rw [Nat.add_sub_cancel, Nat.add_sub_cancel, List.take_add_one, hg]
    rfl
  rw [h, hd, hr, cut_skip (by rw [pre_one]; simpa using hc), ht]
  cases (Lib.cut r [62]).2.2 <;> simp
theorem cutN_hit {l r : List UInt8} {n : Nat} (h : CutN l n) (hd : l.drop n = 62 :: r) : Lib.cut (l.drop 1) [62] = ((l.drop 1).take (n - 1), r, true) := by
  unfold CutN at h
  rw [hd, cut_hit (by rw [pre_one]; rfl)] at h
  simpa using h
theorem cutN_end {l : List UInt8} {n : Nat} (h : CutN l n) (hn : l.length ≤ n) : Lib.cut (l.drop 1) [62] = (l.drop 1, [], false) := by
  unfold CutN at h
  rw [List.drop_eq_nil_of_le hn, cut_nil (by simp)] at h
  simpa using h

set_option maxRecDepth 100000 in
set_option maxHeartbeats 4000000 in
theorem rinto_no (s : ByteArray) (w : World) (hs : s.size ≤ 100000) (hp : Lib.hasPrefix s.data.toList [60] = false) :
    Calls Tryd.prog 45 #[.string s] w (PaP w (intE s.data.toList)) := by
  have HI := Lib.hid (show intE s.data.toList = intT [] s.data.toList false by unfold intE; rw [hp]; rfl)
  have key : s.size = 0 ∨ 0 < s.size := by omega
  rcases key with h0 | h0
  · obtain rfl := emp_yes h0
    have H2 := Lib.hid (show intE (⟨#[]⟩ : ByteArray).data.toList = ([], [], 0) by rfl)
    have hR := fun W => rrunes_sl ⟨#[]⟩ W hs
    have HR := Lib.hid (show ∀ W, Calls Tryd.prog 69 #[.string ⟨#[]⟩] W (RnSl W ([], 0)) from hR)
    unfold RnSl at HR
    clear HI hp hR h0
    go_enter Tryd.func45, Tryd.ntmps45
    go_wp2_with (go_at_call 69; refine (HR.out _).mono ?_; rintro e w3 ⟨A3, c3, rfl, ho, hi, hb⟩; have O3 := Lib.hid ho; have B3 := Lib.hid hb; clear ho hi hb)
    refine bodyPost_ret (v := .tuple #[.string ⟨#[]⟩, .slice A3 0 c3, .int .i64 0]) (by simp [results, Tryd.results45, go_sem]) rfl ⟨_, by rw [H2.out], by rw [H2.out]; exact O3.out, B3.out⟩
  · have he := emp_no h0
    have hne := emp_ne h0
    have g0 : (0 : Int) < s.size := by omega
    have hc : s[0] ≠ 60 := fun h => by
      have hl := lst_at s 0 h0
      rw [List.drop_zero, h] at hl
      rw [hl] at hp
      unfold Lib.hasPrefix at hp
      rw [pre_one] at hp
      cases hp
    have e2 : ((s[0].toNat : Int) == 60) = false := by
      have h3 : s[0].toNat ≠ 60 := fun h => hc (UInt8.toNat_inj.1 h)
      simp; omega
    clear hp hc
    have hR := fun W => rrunes_sl s W (by omega)
    have t1 := @intT_1 [] s.data.toList false
    have t3 := @intT_3 [] s.data.toList false
    have t4 := @intT_4 [] s.data.toList false
    generalize rnsE s.data.toList = x at *
    obtain ⟨xs, er⟩ := x
    unfold RnSl at hR
    simp only at hR
    have t1 : er ≠ 0 → intT [] s.data.toList false = ([], [], er) := t1
    have t3 : er = 0 → ¬ (false = true ∧ xs = []) → 18 < xs.length → intT [] s.data.toList false = ([], [], 11) := t3
    have t4 : er = 0 → ¬ (false = true ∧ xs = []) → ¬ 18 < xs.length → intT [] s.data.toList false = ([], xs, 0) := t4
    have HR := Lib.hid hR
    clear hR
    by_cases h1 : er = 0
    · subst h1
      have h2 : ¬ (false = true ∧ xs = []) := (fun h => by cases h.1)
      by_cases h3 : 18 < xs.length
      · have H2 := Lib.hid (HI.out.trans (t3 rfl h2 h3))
        have g1 : (18 : Int) < xs.length := by omega
        clear t1 t3 t4 HI h2
        go_enter Tryd.func45, Tryd.ntmps45
        go_wp2_with (go_at_call 69; refine (HR.out _).mono ?_; rintro e w3 ⟨A3, c3, rfl, ho, hi, hb⟩; have O3 := Lib.hid ho; have B3 := Lib.hid hb; clear ho hi hb)
        refine bodyPost_ret (v := .tuple #[.string ⟨#[]⟩, .slice none 0 0, .int .i64 11]) (by simp [results, Tryd.results45, go_sem]) rfl ⟨_, by rw [H2.out], by rw [H2.out]; exact World.ownsRow_nil _ _ _ _, B3.out⟩
      · have H2 := Lib.hid (HI.out.trans (t4 rfl h2 h3))
        have g1 : ¬ (18 : Int) < xs.length := by omega
        clear t1 t3 t4 HI h2
        go_enter Tryd.func45, Tryd.ntmps45
        go_wp2_with (go_at_call 69; refine (HR.out _).mono ?_; rintro e w3 ⟨A3, c3, rfl, ho, hi, hb⟩; have O3 := Lib.hid ho; have B3 := Lib.hid hb; clear ho hi hb)
        refine bodyPost_ret (v := .tuple #[.string ⟨#[]⟩, .slice A3 xs.length c3, .int .i64 0]) (by simp [results, Tryd.results45, go_sem]) rfl ⟨_, by rw [H2.out], by rw [H2.out]; exact own_low O3.out (Nat.le_refl _), B3.out⟩
    · have H2 := Lib.hid (HI.out.trans (t1 h1))
      have e1 : (er != 0) = true := by simpa using h1
      clear t1 t3 t4 HI h1
      go_enter Tryd.func45, Tryd.ntmps45
      go_wp2_with (go_at_call 69; refine (HR.out _).mono ?_; rintro e w3 ⟨A3, c3, rfl, ho, hi, hb⟩; have O3 := Lib.hid ho; have B3 := Lib.hid hb; clear ho hi hb)
      refine bodyPost_ret (v := .tuple #[.string ⟨#[]⟩, .slice none 0 0, .int .i64 er]) (by simp [results, Tryd.results45, go_sem]) rfl ⟨_, by rw [H2.out], by rw [H2.out]; exact World.ownsRow_nil _ _ _ _, B3.out⟩
set_option maxRecDepth 100000 in
set_option maxHeartbeats 8000000 in
theorem rinto_yes (s : ByteArray) (w : World) (hs : s.size ≤ 100000) (hp : Lib.hasPrefix s.data.toList [60] = true) :
    Calls Tryd.prog 45 #[.string s] w (PaP w (intE s.data.toList)) := by
  have HI0 := Lib.hid (show intE s.data.toList = if (Lib.cut (s.data.toList.drop 1) [62]).2.2 = true ∧ (Lib.cut (s.data.toList.drop 1) [62]).1 ≠ [] ∧ ltrs (Lib.cut (s.data.toList.drop 1) [62]).1 = true then intT (Lib.cut (s.data.toList.drop 1) [62]).1 (Lib.cut (s.data.toList.drop 1) [62]).2.1 true else ([], [], 10) by unfold intE; rw [hp]; rfl)
  have h0 : 0 < s.size := by
    rcases Nat.eq_zero_or_pos s.size with h | h
    · obtain rfl := emp_yes h
      cases hp
    · exact h
  have he := emp_no h0
  have hne := emp_ne h0
  have g0 : (0 : Int) < s.size := by omega
  have hc : s[0] = 60 := by
    have hl := lst_at s 0 h0
    rw [List.drop_zero] at hl
    rw [hl] at hp
    unfold Lib.hasPrefix at hp
    rw [pre_one] at hp
    simpa using hp
  have e2 : ((s[0].toNat : Int) == 60) = true := by rw [hc]; rfl
  clear hp hc
  go_enter Tryd.func45, Tryd.ntmps45
  go_wp2_with fail
  clear he hne e2
  go_loop [6] (fun i => ∃ n : Nat, i = .int .i64 n ∧ n ≤ s.size ∧ 1 ≤ n ∧ Hid (CutN s.data.toList n)) (fun i => s.size - (intOf i).toNat)
  case atStart => exact ⟨1, rfl, by omega, by omega, cutN1 _⟩
  case round =>
    obtain ⟨n, rfl, hn, hn1, HC⟩ := hrel
    by_cases hlt : n < s.size
    · have g1 : (n : Int) < s.size := by omega
      have hcut := lst_at s n hlt
      by_cases hc : s[n] = 62
      · have e3 : ((s[n].toNat : Int) != 62) = false := by rw [hc]; rfl
        rw [hc] at hcut
        have hhit := cutN_hit HC.out hcut
        have hI := HI0.out
        rw [hhit] at hI
        simp only at hI
        have e4 : ((n : Int) == s.size) = false := by simp; omega
        by_cases h1 : n = 1
        · subst h1
          have H2 := Lib.hid (show intE s.data.toList = ([], [], 10) by rw [hI, if_neg (fun h => h.2.1 (by simp))])
          clear hI hhit hcut HI0 HC hc
          go_wp2_with fail
          refine bodyPost_ret (v := .tuple #[.string ⟨#[]⟩, .slice none 0 0, .int .i64 10]) (by simp [results, Tryd.results45, go_sem]) rfl ⟨_, by rw [H2.out], by rw [H2.out]; exact World.ownsRow_nil _ _ _ _, Below.refl _ _⟩
        · have e5 : ((n : Int) == 1) = false := by simp; omega
          obtain ⟨kb, hkb⟩ : ∃ kb : ByteArray, kb = s.extract 1 n := ⟨_, rfl⟩
          have hkl : kb.data.toList = (s.data.toList.drop 1).take (n - 1) := by rw [hkb, ext_mid]
          have hkz : kb.size = n - 1 := by rw [← lst_len, hkl, List.length_take, List.length_drop, lst_len]; omega
          have hL := fun W => rletters_any kb W (by omega)
          rw [hkl] at hL
          rw [hkb] at hL
          have g2 : (1 : Int) ≤ n := by omega
          have g3 : (n : Int) ≤ s.size := by omega
          generalize hkk : (s.data.toList.drop 1).take (n - 1) = kl at *
          have hknl : kl ≠ [] := fun h => by
            have h9 : kb.size = 0 := by rw [← lst_len, hkl, h]; rfl
            omega
          cases hb : ltrs kl with
          | false =>
            have H2 := Lib.hid (show intE s.data.toList = ([], [], 10) by rw [hI, if_neg (fun h => by rw [hb] at h; cases h.2.2)])
            rw [hb] at hL
            have HL := Lib.hid hL
            clear hI hhit hcut HI0 HC hc hL hkb hkl hkk hknl hb
            go_wp2_with (go_at_call 68; refine (HL.out _).mono ?_; rintro e w1 ⟨rfl, rfl⟩)
            refine bodyPost_ret (v := .tuple #[.string ⟨#[]⟩, .slice none 0 0, .int .i64 10]) (by simp [results, Tryd.results45, go_sem]) rfl ⟨_, by rw [H2.out], by rw [H2.out]; exact World.ownsRow_nil _ _ _ _, Below.refl _ _⟩
          | true =>
            obtain ⟨rb, hrb⟩ : ∃ rb : ByteArray, rb = s.extract (n + 1) s.size := ⟨_, rfl⟩
            have hrl : rb.data.toList = s.data.toList.drop (n + 1) := by rw [hrb, Lib.extract_to_end]
            have hrz : rb.size ≤ 100000 := by rw [← lst_len, hrl, List.length_drop, lst_len]; omega
            generalize s.data.toList.drop (n + 1) = rl at *
            have HI := Lib.hid (show intE s.data.toList = intT kl rl true by rw [hI, if_pos ⟨by trivial, hknl, hb⟩])
            rw [hb] at hL
            have HL := Lib.hid hL
            have hB := fun W => rbare_any rb W hrz
            rw [hrl] at hB
            have HKB := Lib.hid (show s.extract 1 n = ⟨kl.toArray⟩ by rw [← hkb]; exact str_of _ _ hkl)
            have g4 : (n : Int) + 1 ≤ s.size := by omega
            clear hI hhit hcut HI0 HC hc hL hkb hkl hkk hknl hb hkz
            by_cases hbn : bareL rl = []
            · have hrn := (rns_bare rl).1 hbn
              have H2 := Lib.hid (show intE s.data.toList = ([], [], 10) by rw [HI.out]; exact intT_2 (by rw [hrn]) ⟨rfl, by rw [hrn]⟩)
              rw [hbn, hrb] at hB
              have HB := Lib.hid hB
              clear HI hB hrb hrl hbn hrn
              go_wp2_with (first
                | (go_at_call 68; refine (HL.out _).mono ?_; rintro e w1 ⟨rfl, rfl⟩)
                | (go_at_call 42; refine (HB.out _).mono ?_; rintro e w2 ⟨rfl, rfl⟩))
              refine bodyPost_ret (v := .tuple #[.string ⟨#[]⟩, .slice none 0 0, .int .i64 10]) (by simp [results, Tryd.results45, go_sem]) rfl ⟨_, by rw [H2.out], by rw [H2.out]; exact World.ownsRow_nil _ _ _ _, Below.refl _ _⟩
            · obtain ⟨bb, hbb⟩ : ∃ bb : ByteArray, bb = ⟨(bareL rl).toArray⟩ := ⟨_, rfl⟩
              have hbz : 0 < bb.size := by
                rw [hbb, size_mk]
                cases h : bareL rl with
                | nil => exact absurd h hbn
                | cons _ _ => simp
              rw [← hbb] at hB
              have he := emp_no hbz
              have hne := emp_ne hbz
              rw [hrb] at hB
              have HB := Lib.hid hB
              clear hB hbb
              have hR := fun W => rrunes_sl rb W (by omega)
              rw [hrl] at hR
              have t1 := @intT_1 kl rl true
              have t3 := @intT_3 kl rl true
              have t4 := @intT_4 kl rl true
              have hbr := rns_bare rl
              generalize rnsE rl = x at *
              obtain ⟨xs, er⟩ := x
              unfold RnSl at hR
              simp only at hR
              have t1 : er ≠ 0 → intT kl rl true = ([], [], er) := t1
              have t3 : er = 0 → ¬ (true = true ∧ xs = []) → 18 < xs.length → intT kl rl true = ([], [], 11) := t3
              have t4 : er = 0 → ¬ (true = true ∧ xs = []) → ¬ 18 < xs.length → intT kl rl true = (kl, xs, 0) := t4
              rw [hrb] at hR
              have HR := Lib.hid hR
              clear hR hrb hrl
              by_cases h1 : er = 0
              · subst h1
                have h2 : ¬ (true = true ∧ xs = []) := (fun h => hbn (hbr.2 (by rw [h.2])))
                by_cases h3 : 18 < xs.length
                · have H2 := Lib.hid (HI.out.trans (t3 rfl h2 h3))
                  have g1 : (18 : Int) < xs.length := by omega
                  clear t1 t3 t4 HI h2 hbr hbn
                  go_wp2_with (first
                    | (go_at_call 68; refine (HL.out _).mono ?_; rintro e w1 ⟨rfl, rfl⟩)
                    | (go_at_call 42; refine (HB.out _).mono ?_; rintro e w2 ⟨rfl, rfl⟩)
                    | (go_at_call 69; refine (HR.out _).mono ?_; rintro e w3 ⟨A3, c3, rfl, ho, hi, hb⟩; have O3 := Lib.hid ho; have B3 := Lib.hid hb; clear ho hi hb))
                  refine bodyPost_ret (v := .tuple #[.string ⟨#[]⟩, .slice none 0 0, .int .i64 11]) (by simp [results, Tryd.results45, go_sem]) rfl ⟨_, by rw [H2.out], by rw [H2.out]; exact World.ownsRow_nil _ _ _ _, B3.out⟩
                · have H2 := Lib.hid (HI.out.trans (t4 rfl h2 h3))
                  have g1 : ¬ (18 : Int) < xs.length := by omega
                  clear t1 t3 t4 HI h2 hbr hbn
                  go_wp2_with (first
                    | (go_at_call 68; refine (HL.out _).mono ?_; rintro e w1 ⟨rfl, rfl⟩)
                    | (go_at_call 42; refine (HB.out _).mono ?_; rintro e w2 ⟨rfl, rfl⟩)
                    | (go_at_call 69; refine (HR.out _).mono ?_; rintro e w3 ⟨A3, c3, rfl, ho, hi, hb⟩; have O3 := Lib.hid ho; have B3 := Lib.hid hb; clear ho hi hb))
                  refine bodyPost_ret (v := .tuple #[.string (s.extract 1 n), .slice A3 xs.length c3, .int .i64 0]) (by simp [results, Tryd.results45, go_sem]) rfl ⟨_, by rw [H2.out, ← HKB.out], by rw [H2.out]; exact own_low O3.out (Nat.le_refl _), B3.out⟩
              · have H2 := Lib.hid (HI.out.trans (t1 h1))
                have e1 : (er != 0) = true := by simpa using h1
                clear t1 t3 t4 HI h1 hbr hbn
                go_wp2_with (first
                  | (go_at_call 68; refine (HL.out _).mono ?_; rintro e w1 ⟨rfl, rfl⟩)
                  | (go_at_call 42; refine (HB.out _).mono ?_; rintro e w2 ⟨rfl, rfl⟩)
                  | (go_at_call 69; refine (HR.out _).mono ?_; rintro e w3 ⟨A3, c3, rfl, ho, hi, hb⟩; have O3 := Lib.hid ho; have B3 := Lib.hid hb; clear ho hi hb))
                refine bodyPost_ret (v := .tuple #[.string ⟨#[]⟩, .slice none 0 0, .int .i64 er]) (by simp [results, Tryd.results45, go_sem]) rfl ⟨_, by rw [H2.out], by rw [H2.out]; exact World.ownsRow_nil _ _ _ _, B3.out⟩
      · have e3 : ((s[n].toNat : Int) != 62) = true := by
          have h3 : s[n].toNat ≠ 62 := fun h => hc (UInt8.toNat_inj.1 h)
          simp; omega
        have HQ := Lib.hid (cutN_on HC.out hn1 hcut rfl hc)
        clear hcut HC hc HI0
        go_wp2_with fail
        go_round
        case rel => exact ⟨n + 1, by go_num, by omega, by omega, HQ.out⟩
        case measure => simp [intOf]; omega
    · have g1 : ¬ (n : Int) < s.size := by omega
      obtain rfl : n = s.size := by omega
      have H2 := Lib.hid (show intE s.data.toList = ([], [], 10) by rw [HI0.out, cutN_end HC.out (by rw [lst_len]; omega), if_neg (fun h => by cases h.1)])
      clear HI0 HC
      go_wp2_with fail
      refine bodyPost_ret (v := .tuple #[.string ⟨#[]⟩, .slice none 0 0, .int .i64 10]) (by simp [results, Tryd.results45, go_sem]) rfl ⟨_, by rw [H2.out], by rw [H2.out]; exact World.ownsRow_nil _ _ _ _, Below.refl _ _⟩
theorem rinto_any (s : ByteArray) (w : World) (hs : s.size ≤ 100000) : Calls Tryd.prog 45 #[.string s] w (PaP w (intE s.data.toList)) := by
  cases hp : Lib.hasPrefix s.data.toList [60] with
  | false => exact rinto_no s w hs hp
  | true => exact rinto_yes s w hs hp

end Go.Proofs.YtajhgbcgbgpcjaaDoor.Uc

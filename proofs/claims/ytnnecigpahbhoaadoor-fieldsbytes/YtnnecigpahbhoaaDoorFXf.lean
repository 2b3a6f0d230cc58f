import Derived.Test.YtnnecigpahbhoaaDoorFXe
namespace Go.Proofs.YtnnecigpahbhoaaDoor.Fi
open Go.RowKit

theorem pre_ext {s a : ByteArray} {k : Nat} (h : k + a.size ≤ s.size) : a.data.toList.isPrefixOf (s.data.toList.drop k) = decide (s.extract k (k + a.size) = a) := by
  rw [Bool.eq_iff_iff, List.isPrefixOf_iff_prefix, decide_eq_true_iff]
  have e : (s.extract k (k + a.size)).data.toList = (s.data.toList.drop k).take a.size := by
    rw [Lib.extract_data]; congr 1; omega
  constructor
  · intro hp
    apply str_eq
    rw [e, ← lst_len]
    exact (List.prefix_iff_eq_take.1 hp).symm
  · intro h2
    rw [← h2, e]
    exact List.take_prefix _ _
theorem two_at {s : ByteArray} {k : Nat} (h : k + 1 < s.size) : (s.data.toList.drop k).take 2 = [s[k], s[k + 1]] := by
  rw [lst_at s k (by omega), List.take_succ_cons, lst_at s (k + 1) h]
  rfl
theorem digs2 (x y : UInt8) : digs 16 2 [x, y] = if dv x.toNat < 16 then (if dv y.toNat < 16 then some (dv x.toNat * 16 + dv y.toNat) else none) else none := by
  unfold digs
  rw [if_neg (by simp), dgs, dgs]
  split
  · simp [dgs]
  · rfl

set_option maxRecDepth 100000 in
set_option maxHeartbeats 4000000 in
theorem rbytes_any (s a : ByteArray) (w : World) (hs : s.size ≤ 100000) (ha : a.size ≤ 100000) :
    Calls Tryd.prog 25 #[.string s, .string a] w fun e w' => e = .returned (bytV (bytE a.data.toList s.data.toList)) ∧ Below w.heap.size w w' := by
  obtain ⟨i0, hi0, hz0, hz1, hz2⟩ := info_parts u8_info
  have I0 := Lib.hid hi0
  have I1 := Lib.hid hz0
  have I2 := Lib.hid hz1
  have I3 := Lib.hid hz2
  clear hi0 hz0 hz1 hz2
  obtain ⟨tot, htot⟩ : ∃ tot, tot = bytR a.data.toList s.data.toList.length [] (s.data.toList.drop 0) := ⟨_, rfl⟩
  have HT := Lib.hid htot
  clear htot
  go_enter Tryd.func25, Tryd.ntmps25
  go_wp2_with fail
  go_loopw [6, 8] (fun out i wr => ∃ (os : List UInt8) (k f : Nat), i = .int .i64 k ∧ k ≤ s.size ∧ os.length ≤ 100000 ∧ Hid (ByR w wr a.data.toList out os f (s.data.toList.drop k) tot)) (fun _ i _ => s.size - (intOf i).toNat)
  case atStart => exact ⟨[], 0, s.data.toList.length, rfl, by omega, by simp, Below.refl _ _, World.ownsRow_nil _ _ _ _, by simp; omega, by simp, HT.out.symm⟩
  case round =>
    obtain ⟨os, k, f, rfl, hk, hol, HR⟩ := hrel
    by_cases hlt : k < s.size
    · have g1 : (k : Int) < s.size := by omega
      have HNE := Lib.hid (show s.data.toList.drop k ≠ [] by rw [lst_at s k hlt]; simp)
      have HLen := Lib.hid (show (s.data.toList.drop k).length = s.size - k by rw [List.length_drop, lst_len])
      by_cases h2 : s.size < k + (a.size + 2)
      · have g2 : (s.size : Int) < k + (a.size + 2) := by omega
        have HQ := Lib.hid (show tot = none by rw [← HR.out.tot]; exact bytR_short HNE.out (by rw [HLen.out, lst_len]; omega))
        have HE := Lib.hid (bytE_none (a := a.data.toList) (l := s.data.toList) (by rw [← HT.out.symm.trans HQ.out]; rfl))
        go_wp2_with fail
        go_ret2
        exact ⟨ret_eq (by rw [HE.out]; rfl), HR.out.bel⟩
      · have g2 : ¬ (s.size : Int) < k + (a.size + 2) := by omega
        have hb1 : k + (a.size + 2) - 2 < s.size := by omega
        have hb2 : k + (a.size + 2) - 1 < s.size := by omega
        have HD2 := Lib.hid (show ((s.data.toList.drop k).drop a.data.toList.length).take 2 = [s[k + (a.size + 2) - 2], s[k + (a.size + 2) - 1]] by
          rw [List.drop_drop, lst_len, two_at (show k + a.size + 1 < s.size by omega)]
          congr 2 <;> (congr 1; omega))
        have HP := Lib.hid (pre_ext (s := s) (a := a) (k := k) (by omega))
        rw [show k + a.size = k + (a.size + 2) - 2 by omega] at HP
        have hD1 := fun W => rdigit_any (s[k + (a.size + 2) - 2]).toNat W (UInt8.toNat_lt _)
        have hD2 := fun W => rdigit_any (s[k + (a.size + 2) - 1]).toNat W (UInt8.toNat_lt _)
        by_cases hp : s.extract k (k + (a.size + 2) - 2) = a
        · have hpb : ((s.extract k (k + (a.size + 2) - 2)).toList == a.toList) = true := by rw [hp]; simp
          rw [decide_eq_true hp] at HP
          clear hp
          by_cases hx : dv (s[k + (a.size + 2) - 2]).toNat < 16
          · rw [dz_yes hx] at hD1
            by_cases hy : dv (s[k + (a.size + 2) - 1]).toNat < 16
            · rw [dz_yes hy] at hD2
              have HDG := Lib.hid (show digs 16 2 (((s.data.toList.drop k).drop a.data.toList.length).take 2) = some (dv (s[k + (a.size + 2) - 2]).toNat * 16 + dv (s[k + (a.size + 2) - 1]).toNat) by rw [HD2.out, digs2, if_pos hx, if_pos hy])
              generalize dv (s[k + (a.size + 2) - 2]).toNat = d1 at *
              generalize dv (s[k + (a.size + 2) - 1]).toNat = d2 at *
              have HC1 := Lib.hid hD1
              have HC2 := Lib.hid hD2
              have t1 : ¬ (d1 : Int) < 0 := by omega
              have t2 : ¬ (d2 : Int) < 0 := by omega
              clear hD1 hD2
              go_wp2_with fail
              refine (HC1.out _).mono ?_; rintro e w' ⟨rfl, rfl⟩
              go_wp2_with fail
              refine (HC2.out _).mono ?_; rintro e w' ⟨rfl, rfl⟩
              go_wp2_with fail
              have hc8 : (d1 * 16 + d2).toUInt8.toNat = d1 * 16 + d2 := by simp; omega
              have HV := Lib.hid (show ByR w wr a.data.toList u6 os f (s.data.toList.drop k) tot from HR.out)
              have hmo : os.length + 1 ≤ maxLen := by unfold maxLen; omega
              have hsz := HR.out.bel.size
              have hq1 : IntKind.i64.wrap ((k : Int) + ((a.size : Int) + 2)) = (k : Int) + ((a.size : Int) + 2) := IntWalk.i64_in _ (by omega)
              have hq2 : IntKind.i64.wrap ((k : Int) + ((a.size : Int) + 2) - 2) = (k : Int) + ((a.size : Int) + 2) - 2 := IntWalk.i64_in _ (by omega)
              have hq3 : IntKind.i64.wrap ((k : Int) + ((a.size : Int) + 2) - 1) = (k : Int) + ((a.size : Int) + 2) - 1 := IntWalk.i64_in _ (by omega)
              have hq4 : IntKind.i64.wrap (16 * (d1 : Int)) = 16 * (d1 : Int) := IntWalk.i64_in _ (by omega)
              have hq5 : IntKind.i64.wrap (16 * (d1 : Int) + (d2 : Int)) = 16 * (d1 : Int) + (d2 : Int) := IntWalk.i64_in _ (by omega)
              obtain ⟨c8, hc9⟩ : ∃ c8, c8 = (d1 * 16 + d2).toUInt8 := ⟨_, rfl⟩
              rw [← hc9] at hc8
              have hq6 : IntKind.u8.wrap (16 * (d1 : Int) + (d2 : Int)) = (c8.toNat : Int) := by rw [IntKind.wrap_u8', hc8]; omega
              have hn1 : ((k : Int) + ((a.size : Int) + 2) - 2).toNat = k + (a.size + 2) - 2 := by omega
              have hn2 : ((k : Int) + ((a.size : Int) + 2) - 1).toNat = k + (a.size + 2) - 1 := by omega
              have HC3 := Lib.hid (show ∀ W, Calls Tryd.prog 38 #[.int .u8 ((s[k + (a.size + 1)]'(by omega)).toNat : Int)] W fun e w' => e = .returned (.int .i64 d2) ∧ W = w' from HC2.out)
              have HC9 := Lib.hid hc9
              clear hc9 hc8
              go_region_law
                (first
                  | ((refine step_append_lies _ (by rfl) _ _ _ (by rfl) w.heap.size 5 i0 _ 1 1 Tryd.underlying55 I0.out I1.out I2.out I3.out rfl (by omega) u6 os.length (u8v os) (by rfl) ((HV.out.own.drew).alloc _) ⟨wr.heap.size, 0, none⟩ 1 1 [.int .u8 (c8.toNat : Int)] (by rfl) (by rfl) (World.news_of_block (cs := #[.int .u8 (c8.toNat : Int)]) (t := 5) (fr := (0, 0)) (heap_alloc_new wr.drew _)) (by simp [Value.oneCell']) (by omega) hmo (by omega) (by simp; omega) (wr.heap.size + 1) (by simp) ?_; intro gg cap w8 hown8 hgrow hat hlt; have O8 := Lib.hid hown8; have G8 := Lib.hid hgrow; clear hown8 hgrow hat hlt))
                  | (go_simp; go_at_call 38; first
                    | ((with_reducible refine (HC1.out _).mono ?_); rintro e w' ⟨rfl, rfl⟩)
                    | ((with_reducible refine (HC3.out _).mono ?_); rintro e w' ⟨rfl, rfl⟩)))
              all_goals
                clear hq4 hq5 hq6
                go_wp2_with fail
                go_roundw
                case rel =>
                  obtain ⟨f', hf'⟩ : ∃ f', f = f' + 1 := ⟨f - 1, by have := HV.out.fl; rw [HLen.out] at this; omega⟩
                  have h1 := HV.out.len
                  have h2 := HV.out.fl
                  rw [HLen.out] at h1 h2
                  have h3 := HV.out.tot
                  rw [hf', bytR_ok HNE.out (by rw [HLen.out, lst_len]; omega) HDG.out HP.out, ← HC9.out, List.drop_drop, lst_len] at h3
                  refine ⟨os ++ [c8], k + (a.size + 2), f', by go_num, by omega, by rw [List.length_append, List.length_singleton]; omega, ?_, ?_, ?_, ?_, h3⟩
                  · exact ((HV.out.bel.drew).alloc (by simp; omega) _).grown G8.out (by simp; omega) (fun q hq => (HV.out.own.lt q hq).1)
                  · have := O8.out
                    rw [List.length_append, u8v_app]
                    exact this
                  · rw [List.length_append, List.length_singleton, List.length_drop, lst_len]; omega
                  · rw [List.length_drop, lst_len]; omega
                case measure => simp [intOf] <;> omega
            · rw [dz_no hy] at hD2
              have HQ := Lib.hid (show tot = none by rw [← HR.out.tot]; exact bytR_bad HNE.out (by rw [HD2.out, digs2, if_pos hx, if_neg hy]))
              have HE := Lib.hid (bytE_none (a := a.data.toList) (l := s.data.toList) (by rw [← HT.out.symm.trans HQ.out]; rfl))
              generalize dv (s[k + (a.size + 2) - 2]).toNat = d1 at *
              have HC1 := Lib.hid hD1
              have HC2 := Lib.hid hD2
              have t1 : ¬ (d1 : Int) < 0 := by omega
              clear hD1 hD2 hy
              go_wp2_with fail
              refine (HC1.out _).mono ?_; rintro e w' ⟨rfl, rfl⟩
              go_wp2_with fail
              refine (HC2.out _).mono ?_; rintro e w' ⟨rfl, rfl⟩
              go_wp2_with fail
              go_ret2
              exact ⟨ret_eq (by rw [HE.out]; rfl), HR.out.bel⟩
          · rw [dz_no hx] at hD1
            have HQ := Lib.hid (show tot = none by rw [← HR.out.tot]; exact bytR_bad HNE.out (by rw [HD2.out, digs2, if_neg hx]))
            have HE := Lib.hid (bytE_none (a := a.data.toList) (l := s.data.toList) (by rw [← HT.out.symm.trans HQ.out]; rfl))
            have HC1 := Lib.hid hD1
            clear hD1 hD2 hx
            go_wp2_with fail
            refine (HC1.out _).mono ?_; rintro e w' ⟨rfl, rfl⟩
            go_wp2_with fail
            go_ret2
            exact ⟨ret_eq (by rw [HE.out]; rfl), HR.out.bel⟩
        · have hpb : ((s.extract k (k + (a.size + 2) - 2)).toList == a.toList) = false := by
            rw [beq_eq_false_iff_ne]
            intro h
            rw [Lib.toList_data, Lib.toList_data] at h
            exact hp (str_eq h)
          rw [decide_eq_false hp] at HP
          have HQ := Lib.hid (show tot = none by rw [← HR.out.tot]; exact bytR_no HNE.out HP.out)
          have HE := Lib.hid (bytE_none (a := a.data.toList) (l := s.data.toList) (by rw [← HT.out.symm.trans HQ.out]; rfl))
          clear hp hD1 hD2
          go_wp2_with fail
          go_ret2
          exact ⟨ret_eq (by rw [HE.out]; rfl), HR.out.bel⟩
    · have g1 : ¬ (k : Int) < s.size := by omega
      have HQ := Lib.hid (show tot = some os by rw [← HR.out.tot, List.drop_eq_nil_of_le (by rw [lst_len]; omega), bytR_nil])
      by_cases h0 : s.size = 0
      · obtain rfl := emp_yes h0
        have HE := Lib.hid (show bytE a.data.toList (⟨#[]⟩ : ByteArray).data.toList = ([], 10) from rfl)
        go_wp2_with fail
        go_ret2
        exact ⟨ret_eq (by rw [HE.out]; rfl), HR.out.bel⟩
      · have he := emp_no (s := s) (by omega)
        have hne := emp_ne (s := s) (by omega)
        have HE := Lib.hid (bytE_some (a := a.data.toList) (l := s.data.toList) (lst_ne (by omega)) (by rw [← HT.out.symm.trans HQ.out]; rfl))
        have hst := run_string_own w.heap.size u6 _ os wr HR.out.own
        go_wp2_with fail
        go_ret2
        exact ⟨ret_eq (by rw [HE.out]; rfl), HR.out.bel⟩

end Go.Proofs.YtnnecigpahbhoaaDoor.Fi

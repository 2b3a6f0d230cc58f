import Derived.Test.YtajhgbcgbgpcjaaDoorFRc
import Derived.Test.YtajhgbcgbgpcjaaDoorFN
namespace Go.Proofs.YtajhgbcgbgpcjaaDoor.Fi
open Go.RowKit
structure RrR (w wr : World) (out : Value) (cur l : List UInt8) (os : List Int) (tot : List Int × Int) : Prop where
  bel : Below w.heap.size w wr
  own : wr.ownsRow w.heap.size 21 1 out os.length (i32s os)
  tot : rnsW os (wds cur l) = tot

set_option maxRecDepth 100000 in
set_option maxHeartbeats 4000000 in
theorem rrunes_any (s : ByteArray) (w : World) (hs : s.size ≤ 100000) :
    Calls Tryd.prog 69 #[.string s] w (RnsP w (rnsE s.data.toList)) := by
  obtain ⟨i0, hi0, hz0, hz1, hz2⟩ := info_parts r_info
  have I0 := Lib.hid hi0
  have I1 := Lib.hid hz0
  have I2 := Lib.hid hz1
  have I3 := Lib.hid hz2
  clear hi0 hz0 hz1 hz2
  have HT := Lib.hid (show rnsW [] (wds [] (s.data.toList.drop 0)) = rnsE s.data.toList from rfl)
  obtain ⟨tot, htot⟩ : ∃ tot, tot = rnsE s.data.toList := ⟨_, rfl⟩
  rw [← htot] at HT ⊢
  clear htot
  go_enter Tryd.func69, Tryd.ntmps69
  go_wp2_with fail
  go_loopw [4, 5, 6] (fun out wd i wr => ∃ os : List Int, os.length ≤ 100001 ∧ ((∃ (k : Nat) (t : ByteArray), i = .int .i64 k ∧ wd = .string t ∧ k ≤ s.size ∧ t.size ≤ k ∧ os.length ≤ k ∧ Hid (RrR w wr out t.data.toList (s.data.toList.drop k) os tot)) ∨ (i = .int .i64 ((s.size : Int) + 1) ∧ wd = .string ⟨#[]⟩ ∧ Hid (RrR w wr out [] [] os tot)))) (fun _ _ i _ => s.size + 2 - (intOf i).toNat)
  case atStart => exact ⟨[], by simp, .inl ⟨0, ⟨#[]⟩, rfl, rfl, by omega, Nat.zero_le _, Nat.zero_le _, Below.refl _ _, World.ownsRow_nil _ _ _ _, HT.out⟩⟩
  case round =>
    obtain ⟨os, hol, hrel⟩ := hrel
    have hmo : os.length + 1 ≤ maxLen := by unfold maxLen; omega
    rcases hrel with ⟨k, t, rfl, rfl, hk, htk, hok, HR⟩ | ⟨rfl, rfl, HR⟩
    · have g0 : (k : Int) ≤ s.size := by omega
      have hsz := HR.out.bel.size
      by_cases hlt : k < s.size
      · have g1 : (k : Int) < s.size := by omega
        have hcut := Lib.hid (lst_at s k hlt)
        have hbl := fun W => rblank_any s[k].toNat W
        cases hb : blB s[k].toNat with
        | false =>
          rw [hb] at hbl
          have HBL := Lib.hid hbl
          have HQ := Lib.hid (show rnsW os (wds (t.data.toList ++ [s[k]]) (s.data.toList.drop (k + 1))) = tot by
            rw [← HR.out.tot, hcut.out]
            conv => rhs; rw [wds]
            rw [← blB_blk, hb]
            rfl)
          have HE := Lib.hid (ext_one s k hlt)
          have hes := ext_size s k (k + 1)
          clear hbl hb hcut
          go_wp2_with (go_at_call 66; refine (HBL.out _).mono ?_; rintro e w' ⟨rfl, rfl⟩)
          go_roundw
          case rel =>
            refine ⟨os, hol, .inl ⟨k + 1, t ++ s.extract k (k + 1), by go_num, rfl, by omega, ?_, by omega, HR.out.bel, HR.out.own, ?_⟩⟩
            · rw [← lst_len, app_lst, HE.out, List.length_append, lst_len]; simp; omega
            · rw [app_lst, HE.out]; exact HQ.out
          case measure => simp [intOf] <;> omega
        | true =>
          rw [hb] at hbl
          have HBL := Lib.hid hbl
          have hw0 : wds t.data.toList (s.data.toList.drop k) = if t.data.toList = [] then wds [] (s.data.toList.drop (k + 1)) else t.data.toList :: wds [] (s.data.toList.drop (k + 1)) := by
            rw [hcut.out, wds, ← blB_blk, hb, if_pos rfl]
          clear hbl hb hcut
          by_cases ht0 : t.size = 0
          · obtain rfl := emp_yes ht0
            have HQ := Lib.hid (show rnsW os (wds [] (s.data.toList.drop (k + 1))) = tot by rw [← HR.out.tot, hw0]; rfl)
            clear hw0
            go_wp2_with (go_at_call 66; refine (HBL.out _).mono ?_; rintro e w' ⟨rfl, rfl⟩)
            go_roundw
            case rel => exact ⟨os, hol, .inl ⟨k + 1, ⟨#[]⟩, by go_num, rfl, by omega, Nat.zero_le _, by omega, HR.out.bel, HR.out.own, HQ.out⟩⟩
            case measure => simp [intOf] <;> omega
          · have he := emp_no (s := t) (by omega)
            have hne := emp_ne (s := t) (by omega)
            have hln := lst_ne (s := t) (by omega)
            rw [if_neg hln] at hw0
            have HW0 := Lib.hid hw0
            have hX := fun W => rhex_any t W (by omega)
            have hcs := hexE_cases t.data.toList
            obtain ⟨p, hp⟩ : ∃ p, p = hexE t.data.toList := ⟨_, rfl⟩
            rw [← hp] at hX hcs
            obtain ⟨r, er⟩ := p
            unfold reV at hX
            simp only at hX hcs
            have HX := Lib.hid hX
            have HY := Lib.hid hp
            clear hX hp hw0 hln
            rcases hcs with ⟨rfl, hr⟩ | ⟨rfl, he2⟩
            · have HQ := Lib.hid (show rnsW (os ++ [r]) (wds [] (s.data.toList.drop (k + 1))) = tot by
                rw [← HR.out.tot, HW0.out, rnsW_ok (by rw [← HY.out]), ← HY.out])
              clear HW0 HY
              go_wp2_with (first
                | (go_at_call 66; refine (HBL.out _).mono ?_; rintro e w' ⟨rfl, rfl⟩)
                | (go_at_call 43; refine (HX.out _).mono ?_; rintro e w' ⟨rfl, rfl⟩)
                | (at_builtin; refine wpList_append_own_at _ rfl (.tmp 43) (.tmp 45) _ rfl w.heap.size 21 i0 _ 1 4 Tryd.underlying31 I0.out I1.out I2.out I3.out rfl (by omega) u4 os.length _ rfl (HR.out.own.alloc _) ⟨wr.heap.size, 0, none⟩ 1 1 [_] rfl rfl (cell_one_new _ _ _) (by simp [Value.oneCell']) hmo (by omega) (by simp; omega) ?_; intro v2 w3 ho3 hg3 hn3 ha3; have O3 := Lib.hid ho3; have G3 := Lib.hid hg3; clear ho3 hg3 hn3 ha3))
              go_roundw
              case rel =>
                refine ⟨os ++ [r], by rw [List.length_append]; simp; omega, .inl ⟨k + 1, ⟨#[]⟩, by go_num, rfl, by omega, Nat.zero_le _, by rw [List.length_append]; simp; omega, ?_, ?_, HQ.out⟩⟩
                · exact (HR.out.bel.alloc hsz _).grown G3.out (by simp; omega) (fun q hq => (HR.out.own.lt q hq).1)
                · have := O3.out
                  rw [List.length_append, i32s_app]
                  exact this
              case measure => simp [intOf] <;> omega
            · have n1 : (er != 0) = true := by rcases he2 with rfl | rfl <;> rfl
              have HQ := Lib.hid (show ([], er) = tot by
                rw [← HR.out.tot, HW0.out, rnsW_no (by rw [← HY.out]; rcases he2 with rfl | rfl <;> decide), ← HY.out])
              clear HW0 HY he2
              go_wp2_with (first
                | (go_at_call 66; refine (HBL.out _).mono ?_; rintro e w' ⟨rfl, rfl⟩)
                | (go_at_call 43; refine (HX.out _).mono ?_; rintro e w' ⟨rfl, rfl⟩))
              refine bodyPost_ret (v := .tuple #[.slice none 0 0, .int .i64 er]) (by simp [results, Tryd.results69, go_sem]) rfl ⟨_, by rw [← HQ.out], by rw [← HQ.out]; exact World.ownsRow_nil _ _ _ _, HR.out.bel⟩
      · have g1 : ¬ (k : Int) < s.size := by omega
        obtain rfl : k = s.size := by omega
        have hw0 : wds t.data.toList (s.data.toList.drop s.size) = if t.data.toList = [] then [] else [t.data.toList] := by
          rw [lst_end s s.size (Nat.le_refl _), wds]
        by_cases ht0 : t.size = 0
        · obtain rfl := emp_yes ht0
          have HQ := Lib.hid (show rnsW os (wds [] []) = tot by rw [← HR.out.tot, hw0]; rfl)
          clear hw0
          go_wp2_with fail
          go_roundw
          case rel => exact ⟨os, hol, .inr ⟨rfl, rfl, HR.out.bel, HR.out.own, HQ.out⟩⟩
          case measure => simp [intOf] <;> omega
        · have he := emp_no (s := t) (by omega)
          have hne := emp_ne (s := t) (by omega)
          have hln := lst_ne (s := t) (by omega)
          rw [if_neg hln] at hw0
          have HW0 := Lib.hid hw0
          have hX := fun W => rhex_any t W (by omega)
          have hcs := hexE_cases t.data.toList
          obtain ⟨p, hp⟩ : ∃ p, p = hexE t.data.toList := ⟨_, rfl⟩
          rw [← hp] at hX hcs
          obtain ⟨r, er⟩ := p
          unfold reV at hX
          simp only at hX hcs
          have HX := Lib.hid hX
          have HY := Lib.hid hp
          clear hX hp hw0 hln
          rcases hcs with ⟨rfl, hr⟩ | ⟨rfl, he2⟩
          · have HQ := Lib.hid (show rnsW (os ++ [r]) (wds [] []) = tot by
              rw [← HR.out.tot, HW0.out, rnsW_ok (by rw [← HY.out]), ← HY.out]; rfl)
            clear HW0 HY
            go_wp2_with (first
              | (go_at_call 43; refine (HX.out _).mono ?_; rintro e w' ⟨rfl, rfl⟩)
              | (at_builtin; refine wpList_append_own_at _ rfl (.tmp 43) (.tmp 45) _ rfl w.heap.size 21 i0 _ 1 4 Tryd.underlying31 I0.out I1.out I2.out I3.out rfl (by omega) u4 os.length _ rfl (HR.out.own.alloc _) ⟨wr.heap.size, 0, none⟩ 1 1 [_] rfl rfl (cell_one_new _ _ _) (by simp [Value.oneCell']) hmo (by omega) (by simp; omega) ?_; intro v2 w3 ho3 hg3 hn3 ha3; have O3 := Lib.hid ho3; have G3 := Lib.hid hg3; clear ho3 hg3 hn3 ha3))
            go_roundw
            case rel =>
              refine ⟨os ++ [r], by rw [List.length_append]; simp; omega, .inr ⟨rfl, rfl, ?_, ?_, HQ.out⟩⟩
              · exact (HR.out.bel.alloc hsz _).grown G3.out (by simp; omega) (fun q hq => (HR.out.own.lt q hq).1)
              · have := O3.out
                rw [List.length_append, i32s_app]
                exact this
            case measure => simp [intOf] <;> omega
          · have n1 : (er != 0) = true := by rcases he2 with rfl | rfl <;> rfl
            have HQ := Lib.hid (show ([], er) = tot by
              rw [← HR.out.tot, HW0.out, rnsW_no (by rw [← HY.out]; rcases he2 with rfl | rfl <;> decide), ← HY.out])
            clear HW0 HY he2
            go_wp2_with (go_at_call 43; refine (HX.out _).mono ?_; rintro e w' ⟨rfl, rfl⟩)
            refine bodyPost_ret (v := .tuple #[.slice none 0 0, .int .i64 er]) (by simp [results, Tryd.results69, go_sem]) rfl ⟨_, by rw [← HQ.out], by rw [← HQ.out]; exact World.ownsRow_nil _ _ _ _, HR.out.bel⟩
    · have g0 : ¬ (s.size : Int) + 1 ≤ s.size := by omega
      have HQ := Lib.hid (show (os, 0) = tot from HR.out.tot)
      go_wp2_with fail
      refine bodyPost_ret (v := .tuple #[u4, .int .i64 0]) (by simp [results, Tryd.results69, go_sem]) rfl ⟨u4, by rw [← HQ.out], by rw [← HQ.out]; exact HR.out.own, HR.out.bel⟩
theorem rrunes_sl (s : ByteArray) (w : World) (hs : s.size ≤ 100000) : Calls Tryd.prog 69 #[.string s] w (RnSl w (rnsE s.data.toList)) := by
  refine (rrunes_any s w hs).mono ?_
  rintro e w' ⟨v, he, ho, hb⟩
  obtain ⟨A, c, rfl, hi⟩ := own_ints ho
  exact ⟨A, c, he, ho, hi, hb⟩


end Go.Proofs.YtajhgbcgbgpcjaaDoor.Fi

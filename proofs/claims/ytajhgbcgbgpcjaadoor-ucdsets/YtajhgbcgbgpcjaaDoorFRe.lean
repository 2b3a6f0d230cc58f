import Derived.Test.YtajhgbcgbgpcjaaDoorFRd
namespace Go.Proofs.YtajhgbcgbgpcjaaDoor.Fi
open Go.RowKit
structure CtR (w wr : World) (out : Value) (c : UInt8) (cur l : List UInt8) (os tot : List (List UInt8)) : Prop where
  bel : Below w.heap.size w wr
  own : wr.ownsRow w.heap.size 9 1 out os.length (svs os)
  tot : os ++ spl c cur l = tot
set_option maxRecDepth 100000 in
set_option maxHeartbeats 4000000 in
theorem rcut_any (s : ByteArray) (c : UInt8) (w : World) (hs : s.size ≤ 100000) :
    Calls Tryd.prog 41 #[.string s, .int .u8 c.toNat] w (CutP w (spl c [] s.data.toList)) := by
  obtain ⟨i0, hi0, hz0, hz1, hz2⟩ := info_parts s_info
  have I0 := Lib.hid hi0
  have I1 := Lib.hid hz0
  have I2 := Lib.hid hz1
  have I3 := Lib.hid hz2
  clear hi0 hz0 hz1 hz2
  obtain ⟨tot, htot⟩ : ∃ tot, tot = spl c [] s.data.toList := ⟨_, rfl⟩
  have HT := Lib.hid (show [] ++ spl c [] (s.data.toList.drop 0) = tot by rw [htot]; rfl)
  rw [← htot]
  clear htot
  go_enter Tryd.func41, Tryd.ntmps41
  go_wp2_with fail
  go_loopw [5, 6, 7] (fun out nw i wr => ∃ (os : List (List UInt8)) (k : Nat) (t : ByteArray), i = .int .i64 k ∧ nw = .string t ∧ k ≤ s.size ∧ t.size ≤ k ∧ os.length ≤ k ∧ Hid (CtR w wr out c t.data.toList (s.data.toList.drop k) os tot)) (fun _ _ i _ => s.size - (intOf i).toNat)
  case atStart => exact ⟨[], 0, ⟨#[]⟩, rfl, rfl, by omega, Nat.zero_le _, Nat.zero_le _, Below.refl _ _, World.ownsRow_nil _ _ _ _, HT.out⟩
  case round =>
    obtain ⟨os, k, t, rfl, rfl, hk, htk, hok, HR⟩ := hrel
    have hmo : os.length + 1 ≤ maxLen := by unfold maxLen; omega
    have hsz := HR.out.bel.size
    by_cases hlt : k < s.size
    · have g1 : (k : Int) < s.size := by omega
      have hcut := Lib.hid (lst_at s k hlt)
      by_cases hc : s[k] = c
      · have e1 : ((s[k].toNat : Int) == (c.toNat : Int)) = true := by rw [hc]; simp
        have HQ := Lib.hid (show (os ++ [t.data.toList]) ++ spl c [] (s.data.toList.drop (k + 1)) = tot by rw [← HR.out.tot, hcut.out, spl, if_pos hc]; simp)
        clear hcut hc
        go_wp2_with (at_builtin; refine wpList_append_own_at _ rfl (.tmp 19) (.tmp 21) _ rfl w.heap.size 9 i0 _ 1 16 Tryd.underlying61 I0.out I1.out I2.out I3.out rfl (by omega) u5 os.length _ rfl (HR.out.own.alloc _) ⟨wr.heap.size, 0, none⟩ 1 1 [_] rfl rfl (cell_one_new _ _ _) (by simp [Value.oneCell']) hmo (by omega) (by simp; omega) ?_; intro v2 w3 ho3 hg3 hn3 ha3; have O3 := Lib.hid ho3; have G3 := Lib.hid hg3; clear ho3 hg3 hn3 ha3)
        go_roundw
        case rel =>
          refine ⟨os ++ [t.data.toList], k + 1, ⟨#[]⟩, by go_num, rfl, by omega, Nat.zero_le _, by rw [List.length_append]; simp; omega, ?_, ?_, HQ.out⟩
          · exact (HR.out.bel.alloc hsz _).grown G3.out (by simp; omega) (fun q hq => (HR.out.own.lt q hq).1)
          · have := O3.out
            rw [List.length_append, svs_app]
            exact this
        case measure => simp [intOf] <;> omega
      · have e1 : ((s[k].toNat : Int) == (c.toNat : Int)) = false := by
          rw [beq_eq_false_iff_ne]
          intro h
          exact hc (UInt8.toNat_inj.1 (by omega))
        have HQ := Lib.hid (show os ++ spl c (t.data.toList ++ [s[k]]) (s.data.toList.drop (k + 1)) = tot by rw [← HR.out.tot, hcut.out, spl, if_neg hc])
        have HE := Lib.hid (ext_one s k hlt)
        have hes := ext_size s k (k + 1)
        clear hcut hc
        go_wp2_with fail
        go_roundw
        case rel =>
          refine ⟨os, k + 1, t ++ s.extract k (k + 1), by go_num, rfl, by omega, ?_, by omega, HR.out.bel, HR.out.own, ?_⟩
          · rw [← lst_len, app_lst, HE.out, List.length_append, lst_len]; simp; omega
          · rw [app_lst, HE.out]; exact HQ.out
        case measure => simp [intOf] <;> omega
    · have g1 : ¬ (k : Int) < s.size := by omega
      have HQ := Lib.hid (show os ++ [t.data.toList] = tot by rw [← HR.out.tot, lst_end s k (by omega), spl])
      go_wp2_with (at_builtin; refine wpList_append_own_at _ rfl (.tmp 30) (.tmp 32) _ rfl w.heap.size 9 i0 _ 1 16 Tryd.underlying61 I0.out I1.out I2.out I3.out rfl (by omega) u5 os.length _ rfl (HR.out.own.alloc _) ⟨wr.heap.size, 0, none⟩ 1 1 [_] rfl rfl (cell_one_new _ _ _) (by simp [Value.oneCell']) hmo (by omega) (by simp; omega) ?_; intro v2 w3 ho3 hg3 hn3 ha3; have O3 := Lib.hid ho3; have G3 := Lib.hid hg3; clear ho3 hg3 hn3 ha3)
      go_ret
      refine ⟨v2, rfl, ?_, (HR.out.bel.alloc hsz _).grown G3.out (by simp; omega) (fun q hq => (HR.out.own.lt q hq).1)⟩
      rw [← HQ.out, List.length_append, svs_app]
      exact O3.out

end Go.Proofs.YtajhgbcgbgpcjaaDoor.Fi

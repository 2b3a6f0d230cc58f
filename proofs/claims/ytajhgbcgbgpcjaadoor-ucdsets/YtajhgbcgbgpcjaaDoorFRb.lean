import Derived.Test.YtajhgbcgbgpcjaaDoorFRz
import Derived.Test.YtajhgbcgbgpcjaaDoorFK
namespace Go.Proofs.YtajhgbcgbgpcjaaDoor.Fi
open Go.RowKit
set_option maxRecDepth 100000 in
set_option maxHeartbeats 2000000 in
theorem rbare_any (s : ByteArray) (w : World) (hs : s.size ≤ 100000) :
    Calls Tryd.prog 42 #[.string s] w fun e w' => e = .returned (.string ⟨(bareL s.data.toList).toArray⟩) ∧ w = w' := by
  go_enter Tryd.func42, Tryd.ntmps42
  go_wp2_with fail
  go_loopg [0] s.size (fun gf s0 wx => w = wx ∧ ∃ t : ByteArray, s0 = .string t ∧ t.size ≤ gf ∧ gf ≤ 100000 ∧ Hid (lt t.data.toList = lt s.data.toList))
  case atStart => exact ⟨rfl, s, rfl, Nat.le_refl _, hs, rfl⟩
  case round =>
    obtain ⟨rfl, t, rfl, htg, hgs, HT⟩ := hrel
    have key : t.size = 0 ∨ 0 < t.size := by omega
    rcases key with h0 | h0
    · obtain rfl := emp_yes h0
      have HQ := Lib.hid (show bareL s.data.toList = [] by rw [bareL_rt, ← HT.out]; rfl)
      go_wp2_with fail
      go_loop [0] (fun v => v = .string ⟨#[]⟩) (fun _ => 1)
      case atStart => rfl
      case round =>
        subst hrel
        go_wp2_with fail
        go_ret
        exact ⟨ret_eq (by rw [HQ.out]; rfl), rfl⟩
    · have he := emp_no h0
      have hne := emp_ne h0
      have hcut := Lib.hid (lst_at t 0 h0)
      rw [List.drop_zero] at hcut
      have hbl := fun W => rblank_any t[0].toNat W
      obtain ⟨g', rfl⟩ : ∃ g', gk = g' + 1 := ⟨gk - 1, by omega⟩
      cases hb : blB t[0].toNat with
      | true =>
        rw [hb] at hbl
        have HBL := Lib.hid hbl
        have HQ := Lib.hid (show lt (t.data.toList.drop 1) = lt s.data.toList by rw [← HT.out, hcut.out, lt_yes (by rw [isb_blk]; exact hb)]; rfl)
        clear hbl hb hcut
        go_wp2_with (go_at_call 66; refine (HBL.out _).mono ?_; rintro e w' ⟨rfl, rfl⟩)
        go_roundg g'
        case measure => omega
        case rel => exact ⟨rfl, t.extract 1 t.size, rfl, by rw [ext1_size]; omega, by omega, by rw [Lib.extract_to_end]; exact HQ.out⟩
      | false =>
        rw [hb] at hbl
        have HBL := Lib.hid hbl
        have HQ := Lib.hid (show lt s.data.toList = t.data.toList by rw [← HT.out, hcut.out, lt_no (by rw [isb_blk]; exact hb)])
        clear hbl hb hcut
        go_wp2_with (go_at_call 66; refine (HBL.out _).mono ?_; rintro e w' ⟨rfl, rfl⟩)
        clear he hne HBL
        go_loopg [0] t.size (fun gf s0 wx => w = wx ∧ ∃ u : ByteArray, s0 = .string u ∧ u.size ≤ gf ∧ gf ≤ 100000 ∧ Hid (rt u.data.toList = rt t.data.toList))
        case atStart => exact ⟨rfl, t, rfl, Nat.le_refl _, by omega, rfl⟩
        case round =>
          obtain ⟨rfl, u, rfl, hug, hgu, HU⟩ := hrel
          have key : u.size = 0 ∨ 0 < u.size := by omega
          rcases key with h0 | h0
          · obtain rfl := emp_yes h0
            have HZ := Lib.hid (show bareL s.data.toList = [] by rw [bareL_rt, HQ.out, ← HU.out]; rfl)
            go_wp2_with fail
            go_ret
            exact ⟨ret_eq (by rw [HZ.out]; rfl), rfl⟩
          · have he := emp_no h0
            have hne := emp_ne h0
            obtain ⟨n, hn⟩ : ∃ n, u.size = n + 1 := ⟨u.size - 1, by omega⟩
            have hnl : n < u.size := by omega
            have hcut := Lib.hid (lst_last u n hn hnl)
            have hbl := fun W => rblank_any u[n].toNat W
            obtain ⟨g', rfl⟩ : ∃ g', gk = g' + 1 := ⟨gk - 1, by omega⟩
            cases hb : blB u[n].toNat with
            | true =>
              rw [hb] at hbl
              have HBL := Lib.hid hbl
              have HZ := Lib.hid (show rt (u.extract 0 n).data.toList = rt t.data.toList by rw [← HU.out, hcut.out, rt_yes (by rw [isb_blk]; exact hb)])
              have HES := Lib.hid (ext0_size u n (by omega))
              clear hbl hb hcut
              go_wp2_with (go_at_call 66; refine (HBL.out _).mono ?_; rintro e w' ⟨rfl, rfl⟩)
              go_roundg g'
              case measure => omega
              case rel => exact ⟨rfl, u.extract 0 n, rfl, by rw [HES.out]; omega, by omega, HZ.out⟩
            | false =>
              rw [hb] at hbl
              have HBL := Lib.hid hbl
              have HZ := Lib.hid (show bareL s.data.toList = u.data.toList from by
                have e1 : rt u.data.toList = u.data.toList := by
                  have h5 := hcut.out
                  rw [h5]
                  exact rt_no (by rw [isb_blk]; exact hb)
                rw [bareL_rt, HQ.out, ← HU.out, e1])
              clear hbl hb hcut
              go_wp2_with (go_at_call 66; refine (HBL.out _).mono ?_; rintro e w' ⟨rfl, rfl⟩)
              go_ret
              exact ⟨ret_eq (by rw [HZ.out]; rfl), rfl⟩


end Go.Proofs.YtajhgbcgbgpcjaaDoor.Fi

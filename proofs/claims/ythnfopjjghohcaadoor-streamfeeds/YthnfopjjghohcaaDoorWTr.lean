import Derived.Test.YthnfopjjghohcaaDoorGW4
namespace Go.Proofs.YthnfopjjghohcaaDoor.Wd
open Go.RowKit

set_option maxRecDepth 100000 in
set_option maxHeartbeats 1000000 in
theorem rbytes_any (k r : Nat) (w : World) (h1 : 1 ≤ k) (h4 : k ≤ 4) (hr : r < 1114112) :
    Calls Tryd.prog 49 #[.int .i64 (k : Int), .int .i32 (r : Int)] w fun e w' => e = .returned (.string (strB (chB k r))) ∧ Below w.heap.size w w' := by
  have HU := Lib.hid (fun n W hn => runit_any k n W h1 h4 hn)
  by_cases c : 3 ≤ k ∨ r < 65536
  · have HC := Lib.hid (show chB k r = unB k r by unfold chB; rw [if_pos c])
    by_cases c3 : 2 < k
    · have c3' : (2 : Int) < k := by omega
      clear c
      go_enter Tryd.func49, Tryd.ntmps49
      go_wp2_with fail
      refine (HU.out r _ (by omega)).mono ?_
      rintro e w1 ⟨rfl, hb1⟩
      have B1 := Lib.hid hb1
      clear hb1
      go_wp2_with fail
      go_ret
      exact ⟨by rw [HC.out]; rfl, B1.out⟩
    · have c3' : ¬ (2 : Int) < k := by omega
      have c4 : (r : Int) < 65536 := by omega
      clear c
      go_enter Tryd.func49, Tryd.ntmps49
      go_wp2_with fail
      refine (HU.out r _ (by omega)).mono ?_
      rintro e w1 ⟨rfl, hb1⟩
      have B1 := Lib.hid hb1
      clear hb1
      go_wp2_with fail
      go_ret
      exact ⟨by rw [HC.out]; rfl, B1.out⟩
  · obtain ⟨x, rfl⟩ : ∃ x, r = 65536 + x := ⟨r - 65536, by omega⟩
    obtain ⟨hi, hhi⟩ : ∃ h, h = 55296 + x / 1024 := ⟨_, rfl⟩
    obtain ⟨lo, hlo⟩ : ∃ h, h = 56320 + x % 1024 := ⟨_, rfl⟩
    have HC := Lib.hid (show chB k (65536 + x) = unB k hi ++ unB k lo by
      unfold chB
      rw [if_neg c, show 65536 + x - 65536 = x by omega, ← hhi, ← hlo])
    have c3' : ¬ (2 : Int) < k := by omega
    have c65 : ¬ ((65536 + x : Nat) : Int) < 65536 := by omega
    have e0 : ((65536 + x : Nat) : Int) - 65536 = (x : Int) := by omega
    have e1 : 55296 + (x : Int) / 1024 = (hi : Int) := by omega
    have e2 : 56320 + (x : Int) % 1024 = (lo : Int) := by omega
    have g1 : hi < 65536 := by omega
    have g2 : lo < 65536 := by omega
    have b1 : (65536 : Int) ≤ ((65536 + x : Nat) : Int) := by omega
    have b2 : ((65536 + x : Nat) : Int) < 1114112 := by omega
    have b3 : x < 1048576 := by omega
    have S1 := Lib.hid (strB_app (unB k hi) (unB k lo))
    have z1 : (strB (unB k hi)).size ≤ 4 := by rw [strB_size, unB_len]; exact (szK_bd k).2.1
    have z2 : (strB (unB k lo)).size ≤ 4 := by rw [strB_size, unB_len]; exact (szK_bd k).2.1
    generalize hrr : ((65536 + x : Nat) : Int) = rr at *
    have H1 := Lib.hid (HU.out hi w (by omega))
    have H2 := Lib.hid (fun W => HU.out lo W (by omega))
    generalize strB (unB k hi) = sh at *
    generalize strB (unB k lo) = sl at *
    clear c hr hhi hlo hrr HU
    go_enter Tryd.func49, Tryd.ntmps49
    go_wp2_with fail
    refine H1.out.mono ?_
    rintro e w1 ⟨rfl, hb1⟩
    have B1 := Lib.hid hb1
    clear hb1
    go_wp2_with fail
    refine (H2.out _).mono ?_
    rintro e w2 ⟨rfl, hb2⟩
    have B2 := Lib.hid (B1.out.trans (hb2.mono B1.out.size))
    clear hb2
    go_wp2_with fail
    go_ret
    exact ⟨by rw [HC.out, ← S1.out]; rfl, B2.out⟩
end Go.Proofs.YthnfopjjghohcaaDoor.Wd

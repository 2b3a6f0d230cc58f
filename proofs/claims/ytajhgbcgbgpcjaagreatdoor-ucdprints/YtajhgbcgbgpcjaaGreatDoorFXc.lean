import Derived.Test.YtajhgbcgbgpcjaaGreatDoorFXb
namespace Go.Proofs.YtajhgbcgbgpcjaaGreatDoor.Fi
open Go.RowKit

set_option maxRecDepth 100000 in
theorem ifmt_any (n : Nat) (w : World) (hn : n < 2147483648) (hT : Tz w) : Calls Tryz.prog 74 #[.int .i64 n, .int .i64 16] w (FmtP n .string w) := by
  have HF := Lib.hid (fbits_any n w hn hT)
  have h0 : ¬ (n : Int) < 0 := by omega
  clear hT
  go_enter Tryz.func74, Tryz.ntmps74
  go_wp2_with (go_at_call 95; refine HF.out.mono ?_; rintro e w1 ⟨k, h1, h2, h3, rfl, hb⟩; have H2 := Lib.hid (And.intro h1 (And.intro h2 h3)); have B := Lib.hid hb; clear h1 h2 h3 hb)
  go_ret
  exact ⟨k, H2.out.1, H2.out.2.1, H2.out.2.2, rfl, B.out⟩
set_option maxRecDepth 100000 in
theorem fmt_any (n : Nat) (w : World) (hn : n < 2147483648) (hT : Tz w) : Calls Tryz.prog 72 #[.int .i64 n, .int .i64 16] w (FmtP n .string w) := by
  have HF := Lib.hid (ifmt_any n w hn hT)
  clear hT
  go_enter Tryz.func72, Tryz.ntmps72
  go_wp2_with (go_at_call 74; refine HF.out.mono ?_; rintro e w1 ⟨k, h1, h2, h3, rfl, hb⟩; have H2 := Lib.hid (And.intro h1 (And.intro h2 h3)); have B := Lib.hid hb; clear h1 h2 h3 hb)
  go_ret
  exact ⟨k, H2.out.1, H2.out.2.1, H2.out.2.2, rfl, B.out⟩
theorem rep_one (c : Nat) : Lib.repeatL [48] c = List.replicate c (48 : UInt8) := by
  induction c with
  | zero => rfl
  | succ c ih => rw [Lib.repeatL, ih]; rfl
set_option maxRecDepth 100000 in
set_option maxHeartbeats 1000000 in
theorem hexOf_any (r : Int) (w : World) (h1 : -2147483648 ≤ r) (h2 : r ≤ 2147483647) (hT : Tz w) : Calls Tryz.prog 54 #[.int .i32 r] w fun e w' => e = .returned (.string ⟨(hx4 r.toNat).toArray⟩) ∧ Below w.heap.size w w' := by
  obtain ⟨n, hn⟩ : ∃ n, n = r.toNat := ⟨_, rfl⟩
  have hm : (max r 0 : Int) = n := by omega
  have hl : n < 2147483648 := by omega
  rw [← hn]
  have HF := Lib.hid (fmt_any n w hl hT)
  clear hT hn
  go_enter Tryz.func54, Tryz.ntmps54
  go_wp2_with fail
  refine HF.out.mono ?_
  rintro e w1 ⟨k, k1, k2, k3, rfl, hb⟩
  have B1 := Lib.hid hb
  have hk8 : k ≤ 8 := by
    rcases Nat.lt_or_ge 8 k with h | h
    · exfalso
      rcases k3 with rfl | k3
      · omega
      · have : 16 ^ 8 ≤ 16 ^ (k - 1) := Nat.pow_le_pow_right (by omega) (by omega)
        omega
    · exact h
  have HX := Lib.hid (hx4_of hl k2 k3 k1)
  clear hb k2 k3
  obtain ⟨S, hS⟩ : ∃ S : ByteArray, S = ⟨(fwl k n).toArray⟩ := ⟨_, rfl⟩
  obtain ⟨U, hU⟩ : ∃ U : ByteArray, U = ⟨(fwu k n).toArray⟩ := ⟨_, rfl⟩
  obtain ⟨c, hc⟩ : ∃ c, c = 4 - k := ⟨_, rfl⟩
  obtain ⟨R, hR⟩ : ∃ R : ByteArray, R = ⟨(List.replicate c 48).toArray⟩ := ⟨_, rfl⟩
  have hcU := Tryz.strings_ToUpper_ascii S w1 (by rw [hS, size_mk, fwl_len]; omega) (fun j b hb => by
    rw [hS] at hb
    exact fwl_ascii k n b (List.mem_of_getElem? hb))
  rw [show Lib.toUpperA S.data.toList = fwu k n by rw [hS]; exact fwl_up k n, ← hU] at hcU
  have hcR := fun W => Tryz.strings_Repeat ⟨#[48]⟩ c W (by omega) (by have : (⟨#[48]⟩ : ByteArray).size = 1 := rfl; rw [this]; omega)
  rw [show Lib.repeatL (⟨#[48]⟩ : ByteArray).data.toList c = List.replicate c 48 from rep_one c, ← hR] at hcR
  have hUk : U.size = k := by rw [hU, size_mk, fwu_len]
  have hm2 : (max (4 - (U.size : Int)) 0 : Int) = (c : Int) := by rw [hUk, hc]; omega
  have hU8 : U.size ≤ 8 := by omega
  have hR8 : R.size ≤ 8 := by rw [hR, size_mk, List.length_replicate]; omega
  have HE := Lib.hid (show R ++ U = ⟨(hx4 n).toArray⟩ from str_eq (by rw [← HX.out, hR, hU, hc]; simp))
  have HU := Lib.hid hcU
  have HR := Lib.hid hcR
  rw [← hS]
  clear hcU hcR hS hU hR hc hUk hm
  go_wp2_with fail
  refine HU.out.mono ?_; rintro e w2 ⟨rfl, hb⟩; have B2 := Lib.hid hb; clear hb
  go_wp2_with fail
  refine (HR.out _).mono ?_; rintro e w3 ⟨rfl, hb⟩; have B3 := Lib.hid hb; clear hb
  go_wp2_with fail
  go_ret
  have b2 := B1.out.trans (B2.out.mono B1.out.size)
  exact ⟨ret_eq (by rw [HE.out]; rfl), b2.trans (B3.out.mono b2.size)⟩

end Go.Proofs.YtajhgbcgbgpcjaaGreatDoor.Fi

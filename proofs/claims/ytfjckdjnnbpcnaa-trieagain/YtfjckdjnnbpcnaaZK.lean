import Derived.Test.YtfjckdjnnbpcnaaZA
import Derived.IntWalk
namespace Go.Proofs.Ytfjckdjnnbpcnaa.So
open Go.RowKit Go.Sort Tr
variable {w0 w : World} {g : Nat} {pf sp : List Value} {d : Array Int}

/-! breakPatterns: some swaps within: which ones is left open. -/
set_option maxHeartbeats 4000000 in
set_option maxRecDepth 100000 in
theorem next_any (w : World) (B : Nat) (r : Int) (hB : Bk w B [.int .u64 r] 125) :
    Calls Try.prog 75 #[.pointer (some ⟨B, 0, none⟩)] w fun e w' => ∃ r' : Int, e = .returned (.int .u64 r') ∧ Bk w' B [.int .u64 r'] 125 ∧ Mv (· = B) (· = B) w w' := by
  have h0 := hB.c (i := 0) rfl
  have hf := hB.fr 0
  have HB := Lib.hid (And.intro hB (Mv.refl (· = B) w))
  clear hB
  go_enter Try.func75, Try.ntmps75
  go_wp2_with fail
  go_region
  all_goals
    obtain ⟨r1, hr1⟩ : ∃ x, x = bits BinOp.xor IntKind.u64 r (IntKind.u64.wrap (r * 8192)) := ⟨_, rfl⟩
    rw [← hr1]
    have K1 : Hid (Bk (w.setCell ⟨B, 0, none⟩ (.int .u64 r1)).drew B [.int .u64 r1] 125 ∧ Mv (· = B) (· = B) w (w.setCell ⟨B, 0, none⟩ (.int .u64 r1)).drew) := Lib.hid ⟨(HB.out.1.set 0 _).drew 1, (HB.out.2.set 0 _).drew 1⟩
    clear hr1 h0 hf
    generalize (w.setCell ⟨B, 0, none⟩ (.int .u64 r1)).drew = w1 at *
    have h0 := K1.out.1.c (i := 0) rfl
    have hf := K1.out.1.fr 0
    go_wp2_with fail
    go_region
    all_goals
      obtain ⟨r2, hr2⟩ : ∃ x, x = bits BinOp.xor IntKind.u64 r1 (r1 / 128) := ⟨_, rfl⟩
      rw [← hr2]
      have K2 : Hid (Bk (w1.setCell ⟨B, 0, none⟩ (.int .u64 r2)).drew B [.int .u64 r2] 125 ∧ Mv (· = B) (· = B) w (w1.setCell ⟨B, 0, none⟩ (.int .u64 r2)).drew) := Lib.hid ⟨(K1.out.1.set 0 _).drew 1, (K1.out.2.set 0 _).drew 1⟩
      clear hr2 h0 hf
      generalize (w1.setCell ⟨B, 0, none⟩ (.int .u64 r2)).drew = w2 at *
      have h0 := K2.out.1.c (i := 0) rfl
      have hf := K2.out.1.fr 0
      go_wp2_with fail
      go_region
      all_goals
        obtain ⟨r3, hr3⟩ : ∃ x, x = bits BinOp.xor IntKind.u64 r2 (IntKind.u64.wrap (r2 * 131072)) := ⟨_, rfl⟩
        rw [← hr3]
        have K3 : Hid (Bk (w2.setCell ⟨B, 0, none⟩ (.int .u64 r3)).drew B [.int .u64 r3] 125 ∧ Mv (· = B) (· = B) w (w2.setCell ⟨B, 0, none⟩ (.int .u64 r3)).drew) := Lib.hid ⟨(K2.out.1.set 0 _).drew 1, (K2.out.2.set 0 _).drew 1⟩
        clear hr3 h0 hf
        generalize (w2.setCell ⟨B, 0, none⟩ (.int .u64 r3)).drew = w3 at *
        have h0 := K3.out.1.c (i := 0) rfl
        go_wp2_with fail
        go_ret
        exact ⟨r3, rfl, K3.out⟩
theorem tab_at : ∀ i : Fin 256, ((([0, 1, 2, 2, 3, 3, 3, 3, 4, 4, 4, 4, 4, 4, 4, 4, 5, 5, 5, 5, 5, 5, 5, 5, 5, 5, 5, 5, 5, 5, 5, 5, 6, 6, 6, 6, 6, 6, 6, 6, 6, 6, 6, 6, 6, 6, 6, 6, 6, 6, 6, 6, 6, 6, 6, 6, 6, 6, 6, 6, 6, 6, 6, 6, 7, 7, 7, 7, 7, 7, 7, 7, 7, 7, 7, 7, 7, 7, 7, 7, 7, 7, 7, 7, 7, 7, 7, 7, 7, 7, 7, 7, 7, 7, 7, 7, 7, 7, 7, 7, 7, 7, 7, 7, 7, 7, 7, 7, 7, 7, 7, 7, 7, 7, 7, 7, 7, 7, 7, 7, 7, 7, 7, 7, 7, 7, 7, 7, 8, 8, 8, 8, 8, 8, 8, 8, 8, 8, 8, 8, 8, 8, 8, 8, 8, 8, 8, 8, 8, 8, 8, 8, 8, 8, 8, 8, 8, 8, 8, 8, 8, 8, 8, 8, 8, 8, 8, 8, 8, 8, 8, 8, 8, 8, 8, 8, 8, 8, 8, 8, 8, 8, 8, 8, 8, 8, 8, 8, 8, 8, 8, 8, 8, 8, 8, 8, 8, 8, 8, 8, 8, 8, 8, 8, 8, 8, 8, 8, 8, 8, 8, 8, 8, 8, 8, 8, 8, 8, 8, 8, 8, 8, 8, 8, 8, 8, 8, 8, 8, 8, 8, 8, 8, 8, 8, 8, 8, 8, 8, 8, 8, 8, 8, 8, 8, 8, 8, 8, 8, 8, 8, 8, 8, 8, 8, 8] : List UInt8)[i.val]?.getD 0).toNat ≤ 8) ∧ (1 ≤ i.val → 2 ^ (([0, 1, 2, 2, 3, 3, 3, 3, 4, 4, 4, 4, 4, 4, 4, 4, 5, 5, 5, 5, 5, 5, 5, 5, 5, 5, 5, 5, 5, 5, 5, 5, 6, 6, 6, 6, 6, 6, 6, 6, 6, 6, 6, 6, 6, 6, 6, 6, 6, 6, 6, 6, 6, 6, 6, 6, 6, 6, 6, 6, 6, 6, 6, 6, 7, 7, 7, 7, 7, 7, 7, 7, 7, 7, 7, 7, 7, 7, 7, 7, 7, 7, 7, 7, 7, 7, 7, 7, 7, 7, 7, 7, 7, 7, 7, 7, 7, 7, 7, 7, 7, 7, 7, 7, 7, 7, 7, 7, 7, 7, 7, 7, 7, 7, 7, 7, 7, 7, 7, 7, 7, 7, 7, 7, 7, 7, 7, 7, 8, 8, 8, 8, 8, 8, 8, 8, 8, 8, 8, 8, 8, 8, 8, 8, 8, 8, 8, 8, 8, 8, 8, 8, 8, 8, 8, 8, 8, 8, 8, 8, 8, 8, 8, 8, 8, 8, 8, 8, 8, 8, 8, 8, 8, 8, 8, 8, 8, 8, 8, 8, 8, 8, 8, 8, 8, 8, 8, 8, 8, 8, 8, 8, 8, 8, 8, 8, 8, 8, 8, 8, 8, 8, 8, 8, 8, 8, 8, 8, 8, 8, 8, 8, 8, 8, 8, 8, 8, 8, 8, 8, 8, 8, 8, 8, 8, 8, 8, 8, 8, 8, 8, 8, 8, 8, 8, 8, 8, 8, 8, 8, 8, 8, 8, 8, 8, 8, 8, 8, 8, 8, 8, 8, 8, 8, 8, 8] : List UInt8)[i.val]?.getD 0).toNat ≤ 2 * i.val) := by decide +kernel

theorem and_bound (x : Int) (m : Nat) (hm : m < 18446744073709551616) : ∃ q : Nat, bits .and .u64 x (m : Int) = q ∧ q ≤ m := by
  have h1 : (BitVec.ofInt 64 (m : Int)).toNat = m := by
    rw [BitVec.ofInt_natCast, BitVec.toNat_ofNat]
    exact Nat.mod_eq_of_lt (by omega)
  obtain ⟨n, hn⟩ : ∃ n, n = (BitVec.ofInt 64 x).toNat &&& m := ⟨_, rfl⟩
  have h2 : n ≤ m := by
    rw [hn]
    exact Nat.and_le_right
  refine ⟨n, ?_, h2⟩
  have h3 : IntKind.u64.wrap (n : Int) = (n : Int) := IntWalk.u64_in _ ⟨by omega, by omega⟩
  have h4 : (BitVec.ofInt 64 x &&& BitVec.ofInt 64 (m : Int)).toNat = n := by rw [BitVec.toNat_and, h1, hn]
  show IntKind.u64.wrap (((BitVec.ofInt 64 x &&& BitVec.ofInt 64 (m : Int)).toNat : Nat) : Int) = (n : Int)
  rw [h4]
  exact h3

end Go.Proofs.Ytfjckdjnnbpcnaa.So

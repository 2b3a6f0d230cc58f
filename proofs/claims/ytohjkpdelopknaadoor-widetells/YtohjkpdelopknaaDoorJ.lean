import Derived.Test.YtohjkpdelopknaaDoorI1
import Derived.Test.YtohjkpdelopknaaDoorI2
import Derived.Test.YtohjkpdelopknaaDoorI3
import Derived.Test.YtohjkpdelopknaaDoorI4
namespace Go.Proofs.YtohjkpdelopknaaDoor
open Go.RowKit
/-- A number as bytes, the lowest one first. -/
def leB : Nat → Nat → List Nat
  | 0, _ => []
  | m + 1, n => n % 256 :: leB m (n / 256)
theorem leB_len : ∀ (m n : Nat), (leB m n).length = m
  | 0, _ => rfl
  | m + 1, n => by simp [leB, leB_len m]
/-- A unit's bytes. -/
def unB (k n : Nat) : List Nat := if loK k then leB (szK k) n else (leB (szK k) n).reverse
theorem unB_len (k n : Nat) : (unB k n).length = szK k := by unfold unB; split <;> simp [leB_len]
/-- A character's bytes. -/
def chB (k r : Nat) : List Nat := if 3 ≤ k ∨ r < 65536 then unB k r else unB k (55296 + (r - 65536) / 1024) ++ unB k (56320 + (r - 65536) % 1024)
theorem chB_len (k r : Nat) (h4 : k ≤ 4) : 2 ≤ (chB k r).length ∧ (chB k r).length ≤ 4 := by
  unfold chB
  by_cases h : 3 ≤ k ∨ r < 65536
  · rw [if_pos h, unB_len]; have := szK_bd k; omega
  · rw [if_neg h, List.length_append, unB_len, unB_len]
    have : szK k = 2 := by unfold szK; rw [if_pos (by omega)]
    omega
def u8v (l : List Nat) : List Value := l.map fun x : Nat => .int .u8 (x : Int)
theorem u8v_app (a b : List Nat) : u8v (a ++ b) = u8v a ++ u8v b := by simp [u8v]
theorem dd (n : Nat) : n / 256 / 256 = n / 65536 := by omega
theorem ddd (n : Nat) : n / 65536 / 256 = n / 16777216 := by omega
theorem putUnit_any (k base T : Nat) (v : Value) (m : Nat) (xs : List Value) (u : Nat) (w : World) (h1 : 1 ≤ k) (h4 : k ≤ 4) (hT : Tgt w T (szK k : Int) (loK k) (prK k) v) (hb : base ≤ T) (hown : w.ownsRow base 5 1 v m xs) (hm : m ≤ 1000000) (hu : u < 65536 ∨ (3 ≤ k ∧ u < 1114112)) :
    Calls Tryd.prog 38 #[.pointer (some ⟨T, 0, none⟩), .int .i32 (u : Int)] w fun e w' => ∃ v', e = .returned (.tuple #[]) ∧ w'.ownsRow base 5 1 v' (m + szK k) (xs ++ u8v (unB k u)) ∧ Tgt w' T (szK k : Int) (loK k) (prK k) v' ∧ Below base w w' := by
  rcases kinds h1 h4 with rfl | rfl | rfl | rfl
  · have := putUnit1 base T v m xs u w hT hb hown hm (by omega)
    exact this
  · have := putUnit2 base T v m xs u w hT hb hown hm (by omega)
    exact this
  · have := putUnit3 base T v m xs u w hT hb hown hm (by omega)
    rw [← ddd, ← dd] at this
    exact this
  · have := putUnit4 base T v m xs u w hT hb hown hm (by omega)
    rw [← ddd, ← dd] at this
    exact this

theorem ofInt32 (a : Nat) (ha : a < 2147483648) : (BitVec.ofInt 32 (a : Int)).toNat = a := by
  rw [BitVec.ofInt_natCast, BitVec.toNat_ofNat]; exact Nat.mod_eq_of_lt (by omega)
theorem i32_and_nat (a b : Nat) (ha : a < 2147483648) (hb : b < 2147483648) : bits .and .i32 (a : Int) (b : Int) = ((a &&& b : Nat) : Int) := by
  have hx : a &&& b < 2 ^ 31 := Nat.and_lt_two_pow _ (by omega)
  show IntKind.i32.wrap ((BitVec.ofInt 32 (a : Int) &&& BitVec.ofInt 32 (b : Int)).toNat : Int) = _
  rw [BitVec.toNat_and, ofInt32 a ha, ofInt32 b hb, IntKind.wrap_i32]
  omega
theorem i32_or_nat (a b : Nat) (ha : a < 2147483648) (hb : b < 2147483648) : bits .or .i32 (a : Int) (b : Int) = ((a ||| b : Nat) : Int) := by
  have hx : a ||| b < 2 ^ 31 := Nat.or_lt_two_pow (by omega) (by omega)
  show IntKind.i32.wrap ((BitVec.ofInt 32 (a : Int) ||| BitVec.ofInt 32 (b : Int)).toNat : Int) = _
  rw [BitVec.toNat_or, ofInt32 a ha, ofInt32 b hb, IntKind.wrap_i32]
  omega
theorem orHi (q hi : Nat) (h : q < 1024) (hh : hi = 55296 + q) : bits .or .i32 55296 (q : Int) = (hi : Int) := by
  have e : bits .or .i32 55296 (q : Int) = ((55296 ||| q : Nat) : Int) := i32_or_nat 55296 q (by omega) (by omega)
  have := or_hi 54 q 10 (by omega)
  rw [e, hh]; congr 1
theorem orLo (q lo : Nat) (h : q < 1024) (hh : lo = 56320 + q) : bits .or .i32 56320 (q : Int) = (lo : Int) := by
  have e : bits .or .i32 56320 (q : Int) = ((56320 ||| q : Nat) : Int) := i32_or_nat 56320 q (by omega) (by omega)
  have := or_hi 55 q 10 (by omega)
  rw [e, hh]; congr 1
theorem andLo (x q : Nat) (h : x < 2147483648) (hh : q = x % 1024) : bits .and .i32 (x : Int) 1023 = (q : Int) := by
  have e : bits .and .i32 (x : Int) 1023 = ((x &&& 1023 : Nat) : Int) := i32_and_nat x 1023 h (by omega)
  rw [e, hh]; congr 1
  exact Nat.and_two_pow_sub_one_eq_mod x 10

set_option maxRecDepth 100000 in
set_option maxHeartbeats 1000000 in
theorem put_any (k base T : Nat) (v : Value) (m : Nat) (xs : List Value) (r : Nat) (w : World) (h1 : 1 ≤ k) (h4 : k ≤ 4) (hT : Tgt w T (szK k : Int) (loK k) (prK k) v) (hb : base ≤ T) (hown : w.ownsRow base 5 1 v m xs) (hm : m ≤ 900000) (hr : r < 1114112) :
    Calls Tryd.prog 30 #[.pointer (some ⟨T, 0, none⟩), .int .i32 (r : Int)] w fun e w' => ∃ v', e = .returned (.tuple #[]) ∧ w'.ownsRow base 5 1 v' (m + (chB k r).length) (xs ++ u8v (chB k r)) ∧ Tgt w' T (szK k : Int) (loK k) (prK k) v' ∧ Below base w w' := by
  have c2 := hT.c2
  have HT := Lib.hid hT
  have HO := Lib.hid hown
  by_cases c1 : 3 ≤ k ∨ r < 65536
  · have HC := Lib.hid (show chB k r = unB k r by unfold chB; rw [if_pos c1])
    have HP := Lib.hid (putUnit_any k base T v m xs r w h1 h4 hT hb hown (by omega) (by omega))
    by_cases c3 : 3 ≤ k
    · have hp : prK k = false := by simp [prK]; omega
      rw [hp] at c2
      clear c1 hT hown hp
      go_enter Tryd.func30, Tryd.ntmps30
      go_wp2_with fail
      refine HP.out.mono ?_
      rintro e w1 ⟨v1, rfl, ho1, hT1, hb1⟩
      have A1 := Lib.hid ho1
      have A2 := Lib.hid hT1
      have A3 := Lib.hid hb1
      clear ho1 hT1 hb1
      go_wp2_with fail
      refine bodyPost_ret (v := .tuple #[]) (by simp [results, Tryd.results30, go_sem]) rfl ⟨v1, rfl, ?_, A2.out, A3.out⟩
      rw [HC.out, unB_len]
      exact A1.out
    · have hp : prK k = true := by simp [prK]; omega
      rw [hp] at c2
      have c1' : (r : Int) < 65536 := by omega
      clear c1 hT hown hp
      go_enter Tryd.func30, Tryd.ntmps30
      go_wp2_with fail
      refine HP.out.mono ?_
      rintro e w1 ⟨v1, rfl, ho1, hT1, hb1⟩
      have A1 := Lib.hid ho1
      have A2 := Lib.hid hT1
      have A3 := Lib.hid hb1
      clear ho1 hT1 hb1
      go_wp2_with fail
      refine bodyPost_ret (v := .tuple #[]) (by simp [results, Tryd.results30, go_sem]) rfl ⟨v1, rfl, ?_, A2.out, A3.out⟩
      rw [HC.out, unB_len]
      exact A1.out
  · obtain ⟨x, rfl⟩ : ∃ x, r = 65536 + x := ⟨r - 65536, by omega⟩
    obtain ⟨q, hq⟩ : ∃ q, q = x / 1024 := ⟨_, rfl⟩
    obtain ⟨p, hp⟩ : ∃ q, q = x % 1024 := ⟨_, rfl⟩
    obtain ⟨hi, hhi⟩ : ∃ h, h = 55296 + q := ⟨_, rfl⟩
    obtain ⟨lo, hlo⟩ : ∃ h, h = 56320 + p := ⟨_, rfl⟩
    have HC := Lib.hid (show chB k (65536 + x) = unB k hi ++ unB k lo by
      unfold chB
      rw [if_neg c1, show 65536 + x - 65536 = x by omega, ← hq, ← hp, ← hhi, ← hlo])
    have hpk : prK k = true := by simp [prK]; omega
    have hx : x < 1048576 := by omega
    have e1 : ((65536 + x : Nat) : Int) - 65536 = (x : Int) := by omega
    have e2 : (x : Int) / 1024 = (q : Int) := by omega
    have e3 := orHi q hi (by omega) hhi
    have e4 := andLo x p (by omega) hp
    have e5 := orLo p lo (by omega) hlo
    have g1 : hi < 65536 := by omega
    have g2 : lo < 65536 := by omega
    have cc : ¬ ((65536 + x : Nat) : Int) < 65536 := by omega
    have c65 : (65536 : Int) ≤ ((65536 + x : Nat) : Int) := by omega
    have c66 : ((65536 + x : Nat) : Int) < 1114112 := by omega
    rw [hpk] at c2
    have HP1 := Lib.hid (putUnit_any k base T v m xs hi w h1 h4 hT hb hown (by omega) (by omega))
    generalize hrr : ((65536 + x : Nat) : Int) = rr at *
    clear c1 hT hown hpk hq hp hhi hlo hrr hr
    go_enter Tryd.func30, Tryd.ntmps30
    go_wp2_with fail
    refine HP1.out.mono ?_
    rintro e w1 ⟨v1, rfl, ho1, hT1, hb1⟩
    have A1 := Lib.hid ho1
    have A2 := Lib.hid hT1
    have A3 := Lib.hid hb1
    clear ho1 hT1 hb1
    have HP2 := Lib.hid (putUnit_any k base T v1 (m + szK k) (xs ++ u8v (unB k hi)) lo w1 h1 h4 A2.out hb A1.out (by have := szK_bd k; omega) (by omega))
    go_wp2_with fail
    refine HP2.out.mono ?_
    rintro e w2 ⟨v2, rfl, ho1, hT1, hb1⟩
    have D1 := Lib.hid ho1
    have D2 := Lib.hid hT1
    have D3 := Lib.hid (A3.out.trans hb1)
    clear ho1 hT1 hb1
    go_wp2_with fail
    go_end0
    refine ⟨v2, rfl, ?_, D2.out, D3.out⟩
    rw [HC.out, u8v_app, List.length_append, unB_len, unB_len, ← List.append_assoc, ← Nat.add_assoc]
    exact D1.out
end Go.Proofs.YtohjkpdelopknaaDoor

import Derived.Test.YthnfopjjghohcaaDoorTR
import Derived.Test.YthnfopjjghohcaaDoorTO
import Derived.Test.YthnfopjjghohcaaDoorSMk
import Derived.Test.YthnfopjjghohcaaDoorCards
import Derived.ShutString
import Derived.ChangeOld
namespace Go.Proofs.YthnfopjjghohcaaDoor
open Go.ChangeShapes Go.WideShapes Go.ChangeAt Go.WideMaps Go.WideElems Go.RowKit
open Go.ChangeMaps (open_string shut_string)
open St (Tabs)

set_option maxRecDepth 100000 in
set_option maxHeartbeats 2000000 in
theorem sm0 (k0 k : Int) (q : Int) (s : ByteArray) (w : World) (_hs : s.size ≤ 9223372036854775807) (h : k0 < 1) (hT : Tabs w) : Calls Tryd.prog 6 #[.agg #[.int .i64 k0, .int .i64 k], .int .i64 q, .string s] w fun e w' => e = .returned (.bool true) ∧ Below w.heap.size w w' := by
  have hpos := hT.pos
  have HFin := Lib.hid (show ∀ w2 : World, Below w.heap.size w w2 → Tabs w2 from fun w2 h => hT.below h hpos)
  have B0 := Lib.hid (Below.refl w.heap.size w)
  have HA := Lib.hid (fun W hW => St.awake_any W hW)
  have BX := Lib.hid (B0.out.alloc (Nat.le_refl _) (.cells #[.int .i64 k0, .int .i64 k] 48))
  clear hT
  go_enter Tryd.func6, Tryd.ntmps6
  go_wp2_with (go_at_call 9; refine (HA.out _ (HFin.out _ BX.out)).mono ?_; rintro e w9 ⟨rfl, hb9⟩; have B9 := Lib.hid (BX.out.trans (hb9.mono BX.out.size)); clear hb9)
  go_ret
  exact ⟨rfl, B9.out⟩
set_option maxRecDepth 100000 in
set_option maxHeartbeats 2000000 in
theorem sm1 (k0 k : Int) (q : Int) (s : ByteArray) (w : World) (_hs : s.size ≤ 9223372036854775807) (_g0 : 1 ≤ k0) (h : 5 < k0) (hT : Tabs w) : Calls Tryd.prog 6 #[.agg #[.int .i64 k0, .int .i64 k], .int .i64 q, .string s] w fun e w' => e = .returned (.bool true) ∧ Below w.heap.size w w' := by
  have hpos := hT.pos
  have HFin := Lib.hid (show ∀ w2 : World, Below w.heap.size w w2 → Tabs w2 from fun w2 h => hT.below h hpos)
  have B0 := Lib.hid (Below.refl w.heap.size w)
  have HA := Lib.hid (fun W hW => St.awake_any W hW)
  have BX := Lib.hid (B0.out.alloc (Nat.le_refl _) (.cells #[.int .i64 k0, .int .i64 k] 48))
  have a0 : ¬ k0 < 1 := by omega
  clear hT
  go_enter Tryd.func6, Tryd.ntmps6
  go_wp2_with (go_at_call 9; refine (HA.out _ (HFin.out _ BX.out)).mono ?_; rintro e w9 ⟨rfl, hb9⟩; have B9 := Lib.hid (BX.out.trans (hb9.mono BX.out.size)); clear hb9)
  go_ret
  exact ⟨rfl, B9.out⟩
set_option maxRecDepth 100000 in
set_option maxHeartbeats 2000000 in
theorem sm2 (k0 k : Int) (q : Int) (s : ByteArray) (w : World) (_hs : s.size ≤ 9223372036854775807) (_g0 : 1 ≤ k0) (_g1 : k0 ≤ 5) (h : k < 1) (hT : Tabs w) : Calls Tryd.prog 6 #[.agg #[.int .i64 k0, .int .i64 k], .int .i64 q, .string s] w fun e w' => e = .returned (.bool true) ∧ Below w.heap.size w w' := by
  have hpos := hT.pos
  have HFin := Lib.hid (show ∀ w2 : World, Below w.heap.size w w2 → Tabs w2 from fun w2 h => hT.below h hpos)
  have B0 := Lib.hid (Below.refl w.heap.size w)
  have HA := Lib.hid (fun W hW => St.awake_any W hW)
  have BX := Lib.hid (B0.out.alloc (Nat.le_refl _) (.cells #[.int .i64 k0, .int .i64 k] 48))
  have a0 : ¬ k0 < 1 := by omega
  have a1 : ¬ 5 < k0 := by omega
  clear hT
  go_enter Tryd.func6, Tryd.ntmps6
  go_wp2_with (go_at_call 9; refine (HA.out _ (HFin.out _ BX.out)).mono ?_; rintro e w9 ⟨rfl, hb9⟩; have B9 := Lib.hid (BX.out.trans (hb9.mono BX.out.size)); clear hb9)
  go_ret
  exact ⟨rfl, B9.out⟩
set_option maxRecDepth 100000 in
set_option maxHeartbeats 2000000 in
theorem sm3 (k0 k : Int) (q : Int) (s : ByteArray) (w : World) (_hs : s.size ≤ 9223372036854775807) (_g0 : 1 ≤ k0) (_g1 : k0 ≤ 5) (_g2 : 1 ≤ k) (h : 5 < k) (hT : Tabs w) : Calls Tryd.prog 6 #[.agg #[.int .i64 k0, .int .i64 k], .int .i64 q, .string s] w fun e w' => e = .returned (.bool true) ∧ Below w.heap.size w w' := by
  have hpos := hT.pos
  have HFin := Lib.hid (show ∀ w2 : World, Below w.heap.size w w2 → Tabs w2 from fun w2 h => hT.below h hpos)
  have B0 := Lib.hid (Below.refl w.heap.size w)
  have HA := Lib.hid (fun W hW => St.awake_any W hW)
  have BX := Lib.hid (B0.out.alloc (Nat.le_refl _) (.cells #[.int .i64 k0, .int .i64 k] 48))
  have a0 : ¬ k0 < 1 := by omega
  have a1 : ¬ 5 < k0 := by omega
  have a2 : ¬ k < 1 := by omega
  clear hT
  go_enter Tryd.func6, Tryd.ntmps6
  go_wp2_with (go_at_call 9; refine (HA.out _ (HFin.out _ BX.out)).mono ?_; rintro e w9 ⟨rfl, hb9⟩; have B9 := Lib.hid (BX.out.trans (hb9.mono BX.out.size)); clear hb9)
  go_ret
  exact ⟨rfl, B9.out⟩
set_option maxRecDepth 100000 in
set_option maxHeartbeats 2000000 in
theorem sm4 (k0 k : Int) (q : Int) (s : ByteArray) (w : World) (_hs : s.size ≤ 9223372036854775807) (_g0 : 1 ≤ k0) (_g1 : k0 ≤ 5) (_g2 : 1 ≤ k) (_g3 : k ≤ 5) (h : q < 1) (hT : Tabs w) : Calls Tryd.prog 6 #[.agg #[.int .i64 k0, .int .i64 k], .int .i64 q, .string s] w fun e w' => e = .returned (.bool true) ∧ Below w.heap.size w w' := by
  have hpos := hT.pos
  have HFin := Lib.hid (show ∀ w2 : World, Below w.heap.size w w2 → Tabs w2 from fun w2 h => hT.below h hpos)
  have B0 := Lib.hid (Below.refl w.heap.size w)
  have HA := Lib.hid (fun W hW => St.awake_any W hW)
  have BX := Lib.hid (B0.out.alloc (Nat.le_refl _) (.cells #[.int .i64 k0, .int .i64 k] 48))
  have a0 : ¬ k0 < 1 := by omega
  have a1 : ¬ 5 < k0 := by omega
  have a2 : ¬ k < 1 := by omega
  have a3 : ¬ 5 < k := by omega
  clear hT
  go_enter Tryd.func6, Tryd.ntmps6
  go_wp2_with (go_at_call 9; refine (HA.out _ (HFin.out _ BX.out)).mono ?_; rintro e w9 ⟨rfl, hb9⟩; have B9 := Lib.hid (BX.out.trans (hb9.mono BX.out.size)); clear hb9)
  go_ret
  exact ⟨rfl, B9.out⟩
set_option maxRecDepth 100000 in
set_option maxHeartbeats 2000000 in
theorem sm5 (k0 k : Int) (q : Int) (s : ByteArray) (w : World) (_hs : s.size ≤ 9223372036854775807) (_g0 : 1 ≤ k0) (_g1 : k0 ≤ 5) (_g2 : 1 ≤ k) (_g3 : k ≤ 5) (_g4 : 1 ≤ q) (h : 3 < q) (hT : Tabs w) : Calls Tryd.prog 6 #[.agg #[.int .i64 k0, .int .i64 k], .int .i64 q, .string s] w fun e w' => e = .returned (.bool true) ∧ Below w.heap.size w w' := by
  have hpos := hT.pos
  have HFin := Lib.hid (show ∀ w2 : World, Below w.heap.size w w2 → Tabs w2 from fun w2 h => hT.below h hpos)
  have B0 := Lib.hid (Below.refl w.heap.size w)
  have HA := Lib.hid (fun W hW => St.awake_any W hW)
  have BX := Lib.hid (B0.out.alloc (Nat.le_refl _) (.cells #[.int .i64 k0, .int .i64 k] 48))
  have a0 : ¬ k0 < 1 := by omega
  have a1 : ¬ 5 < k0 := by omega
  have a2 : ¬ k < 1 := by omega
  have a3 : ¬ 5 < k := by omega
  have a4 : ¬ q < 1 := by omega
  clear hT
  go_enter Tryd.func6, Tryd.ntmps6
  go_wp2_with (go_at_call 9; refine (HA.out _ (HFin.out _ BX.out)).mono ?_; rintro e w9 ⟨rfl, hb9⟩; have B9 := Lib.hid (BX.out.trans (hb9.mono BX.out.size)); clear hb9)
  go_ret
  exact ⟨rfl, B9.out⟩
set_option maxRecDepth 100000 in
set_option maxHeartbeats 2000000 in
theorem sm6 (k0 k : Int) (q : Int) (s : ByteArray) (w : World) (_hs : s.size ≤ 9223372036854775807) (_g0 : 1 ≤ k0) (_g1 : k0 ≤ 5) (_g2 : 1 ≤ k) (_g3 : k ≤ 5) (_g4 : 1 ≤ q) (_g5 : q ≤ 3) (h : 300 < s.size) (hT : Tabs w) : Calls Tryd.prog 6 #[.agg #[.int .i64 k0, .int .i64 k], .int .i64 q, .string s] w fun e w' => e = .returned (.bool true) ∧ Below w.heap.size w w' := by
  have hpos := hT.pos
  have HFin := Lib.hid (show ∀ w2 : World, Below w.heap.size w w2 → Tabs w2 from fun w2 h => hT.below h hpos)
  have B0 := Lib.hid (Below.refl w.heap.size w)
  have HA := Lib.hid (fun W hW => St.awake_any W hW)
  have BX := Lib.hid (B0.out.alloc (Nat.le_refl _) (.cells #[.int .i64 k0, .int .i64 k] 48))
  have a0 : ¬ k0 < 1 := by omega
  have a1 : ¬ 5 < k0 := by omega
  have a2 : ¬ k < 1 := by omega
  have a3 : ¬ 5 < k := by omega
  have a4 : ¬ q < 1 := by omega
  have a5 : ¬ 3 < q := by omega
  have a6 : (300 : Int) < s.size := by omega
  clear hT
  go_enter Tryd.func6, Tryd.ntmps6
  go_wp2_with (go_at_call 9; refine (HA.out _ (HFin.out _ BX.out)).mono ?_; rintro e w9 ⟨rfl, hb9⟩; have B9 := Lib.hid (BX.out.trans (hb9.mono BX.out.size)); clear hb9)
  go_ret
  exact ⟨rfl, B9.out⟩
set_option maxRecDepth 100000 in
set_option maxHeartbeats 2000000 in
theorem sm7 (k0 k : Int) (q : Int) (s : ByteArray) (w : World) (_hs : s.size ≤ 9223372036854775807) (_g0 : 1 ≤ k0) (_g1 : k0 ≤ 5) (_g2 : 1 ≤ k) (_g3 : k ≤ 5) (_g4 : 1 ≤ q) (_g5 : q ≤ 3) (_g6 : s.size ≤ 300) (hp : 0 < s.size) (h : s[0].toNat = 0) (hT : Tabs w) : Calls Tryd.prog 6 #[.agg #[.int .i64 k0, .int .i64 k], .int .i64 q, .string s] w fun e w' => e = .returned (.bool true) ∧ Below w.heap.size w w' := by
  have hpos := hT.pos
  have HFin := Lib.hid (show ∀ w2 : World, Below w.heap.size w w2 → Tabs w2 from fun w2 h => hT.below h hpos)
  have B0 := Lib.hid (Below.refl w.heap.size w)
  have HA := Lib.hid (fun W hW => St.awake_any W hW)
  have BX := Lib.hid (B0.out.alloc (Nat.le_refl _) (.cells #[.int .i64 k0, .int .i64 k] 48))
  have a0 : ¬ k0 < 1 := by omega
  have a1 : ¬ 5 < k0 := by omega
  have a2 : ¬ k < 1 := by omega
  have a3 : ¬ 5 < k := by omega
  have a4 : ¬ q < 1 := by omega
  have a5 : ¬ 3 < q := by omega
  have a6 : ¬ (300 : Int) < s.size := by omega
  have a7 : (0 : Int) < s.size := by omega
  have a8 : ((s[0].toNat : Int) == 0) = true := by rw [h]; rfl
  clear hT
  go_enter Tryd.func6, Tryd.ntmps6
  go_wp2_with (go_at_call 9; refine (HA.out _ (HFin.out _ BX.out)).mono ?_; rintro e w9 ⟨rfl, hb9⟩; have B9 := Lib.hid (BX.out.trans (hb9.mono BX.out.size)); clear hb9)
  go_ret
  exact ⟨rfl, B9.out⟩
theorem head_or (s : ByteArray) (h : ∀ hp : 0 < s.size, s[0].toNat ≠ 0) : bs s = [] ∨ ∃ x t, bs s = x :: t ∧ x ≠ 0 := by
  by_cases hp : 0 < s.size
  · right
    refine ⟨s[0].toNat, (bs s).drop 1, ?_, h hp⟩
    have := bs_cut s 0 hp
    rw [List.drop_zero] at this
    exact this
  · exact .inl (bs_nil s (by omega))
theorem mk_at (k : Nat) (h1 : 1 ≤ k) (h5 : k ≤ 5) : ([⟨#[]⟩, ⟨#[255, 254]⟩, ⟨#[254, 255]⟩, ⟨#[255, 254, 0, 0]⟩, ⟨#[0, 0, 254, 255]⟩, ⟨#[239, 187, 191]⟩] : List ByteArray)[k]? = some (strB (Dg.mkL k)) := by
  have hk : k = 1 ∨ k = 2 ∨ k = 3 ∨ k = 4 ∨ k = 5 := by omega
  rcases hk with rfl | rfl | rfl | rfl | rfl <;> decide
theorem mkL_B (k : Nat) (h1 : 1 ≤ k) (h5 : k ≤ 5) : allB (Dg.mkL k) := by
  have hk : k = 1 ∨ k = 2 ∨ k = 3 ∨ k = 4 ∨ k = 5 := by omega
  unfold allB
  rcases hk with rfl | rfl | rfl | rfl | rfl <;> decide
theorem own_cap {w : World} {b e z n c : Nat} {A : Option Addr} {xs : List Value} (h : w.ownsRow b e z (.slice A n c) n xs) : n ≤ c := by
  rcases h.2 with ⟨hv, h0⟩ | ⟨g, cap, cur, hv, _, _, hn, _⟩
  · omega
  · injection hv with _ _ h3
    omega
theorem shf_at (j : Nat) (l : List (Nat × Nat)) (i : Nat) (h : i < l.length) (h' : i < (St.shL j l).length) : (St.shL j l)[i] = (j + l[i].1, l[i].2) := by simp [St.shL]
end Go.Proofs.YthnfopjjghohcaaDoor

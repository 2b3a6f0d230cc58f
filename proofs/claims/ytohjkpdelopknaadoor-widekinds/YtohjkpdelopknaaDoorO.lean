import Derived.Test.YtohjkpdelopknaaDoorN
import Derived.Test.YtohjkpdelopknaaDoorTb
import Derived.Test.YtohjkpdelopknaaDoorU
namespace Go.Proofs.YtohjkpdelopknaaDoor
open Go.RowKit
theorem strs_new (xs : List ByteArray) (t : TypeId) (w : World) (c : Nat) (hc : xs.length ≤ c) : Strs (w.alloc (.cells (xs.map Value.string).toArray t)) (some ⟨w.heap.size, 0, none⟩) c xs := by
  refine .inr ⟨w.heap.size, 0, rfl, by simp, hc, fun j x hx => ?_⟩
  have := World.news_of_block (w := w.alloc (.cells (xs.map Value.string).toArray t)) (cs := (xs.map Value.string).toArray) (t := t) (fr := (0, 0)) (heap_alloc_new w _) j (.string x) (by simp [hx])
  have e : (⟨w.heap.size, 0, none⟩ : Addr).add j = ⟨w.heap.size, 0 + j, none⟩ := by unfold Addr.add; split <;> simp_all
  rw [e] at this
  exact this
theorem aw1 : encV 2 [128512] = .tuple #[.string ⟨#[216, 61, 222, 0]⟩, .int .i64 0] := by
  have h : strB (chL 2 [128512]) = ⟨#[216, 61, 222, 0]⟩ := by decide
  rw [encV_yes 2 _ (by decide), h]
theorem aw2 : nx 1 (bs ⟨#[0, 220]⟩) = (0, 2, 17) := by decide
theorem aw3 : nx 1 (bs ⟨#[61, 216, 0]⟩) = (0, 3, 18) := by decide
theorem aw4 : gss ⟨#[255, 254, 65, 0]⟩ = (1, 2) := by decide +kernel
set_option maxRecDepth 100000 in
set_option maxHeartbeats 1000000 in
theorem awake_any (w : World) (hT : Tab w) : Calls Tryd.prog 11 #[] w fun e w' => e = .returned (.bool true) ∧ Below w.heap.size w w' := by
  have HT := Lib.hid hT
  have hpos := hT.pos
  clear hT
  go_enter Tryd.func11, Tryd.ntmps11
  go_wp2_with fail
  have b1 : Below w.heap.size w (w.alloc (.cells #[.int .i32 128512] 21)) := (Below.refl _ _).alloc (Nat.le_refl _) _
  refine (encode_any 2 (some ⟨w.heap.size, 0, none⟩) 1 [128512] _ (HT.out.below b1 hpos) (by omega) (by omega) (ints_new .i32 [128512] 21 w) (by simp)).mono ?_
  rw [aw1]
  rintro e w1 ⟨rfl, hb1⟩
  have B1 := Lib.hid (b1.trans (hb1.mono (by simp)))
  clear b1 hb1
  go_wp2_with fail
  refine (next_any 1 _ _ (HT.out.below B1.out hpos) (by omega) (by omega) (by decide)).mono ?_
  rw [aw2]
  rintro e w2 ⟨rfl, hb2⟩
  have B2 := Lib.hid (B1.out.trans (hb2.mono B1.out.size))
  clear hb2
  unfold nxV
  go_wp2_with fail
  refine (next_any 1 _ _ (HT.out.below B2.out hpos) (by omega) (by omega) (by decide)).mono ?_
  rw [aw3]
  rintro e w3 ⟨rfl, hb3⟩
  have B3 := Lib.hid (B2.out.trans (hb3.mono B2.out.size))
  clear hb3
  unfold nxV
  go_wp2_with fail
  refine (guess_any _ _ (HT.out.below B3.out hpos) (by decide)).mono ?_
  rw [aw4]
  rintro e w4 ⟨rfl, hb4⟩
  have B4 := Lib.hid (B3.out.trans (hb4.mono B3.out.size))
  clear hb4
  go_wp2_with fail
  go_ret
  exact ⟨rfl, B4.out⟩
end Go.Proofs.YtohjkpdelopknaaDoor

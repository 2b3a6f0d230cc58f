import Derived.Test.YtoiedhkhmdgipaaDoorN
namespace Go.Proofs.YtoiedhkhmdgipaaDoor
open Go.RowKit

theorem ints_new (kd : IntKind) (l : List Int) (t : TypeId) (w : World) : Ints kd (w.alloc (.cells (l.map (Value.int kd)).toArray t)) (some ⟨w.heap.size, 0, none⟩) l := fun i hi => by
  refine ⟨w.heap.size, 0, rfl, by simp, ?_⟩
  have := World.news_of_block (w := w.alloc (.cells (l.map (Value.int kd)).toArray t)) (cs := (l.map (Value.int kd)).toArray) (t := t) (fr := (0, 0)) (heap_alloc_new w _) i (.int kd (l.getD i 0)) (by simp [List.getD, List.getElem?_eq_getElem hi])
  have e : (⟨w.heap.size, 0, none⟩ : Addr).add i = ⟨w.heap.size, 0 + i, none⟩ := by unfold Addr.add; split <;> simp_all
  rw [e] at this
  exact this
theorem strs_new (xs : List ByteArray) (t : TypeId) (w : World) (c : Nat) (hc : xs.length ≤ c) : Strs (w.alloc (.cells (xs.map Value.string).toArray t)) (some ⟨w.heap.size, 0, none⟩) c xs := by
  refine .inr ⟨w.heap.size, 0, rfl, by simp, hc, fun j x hx => ?_⟩
  have := World.news_of_block (w := w.alloc (.cells (xs.map Value.string).toArray t)) (cs := (xs.map Value.string).toArray) (t := t) (fr := (0, 0)) (heap_alloc_new w _) j (.string x) (by simp [hx])
  have e : (⟨w.heap.size, 0, none⟩ : Addr).add j = ⟨w.heap.size, 0 + j, none⟩ := by unfold Addr.add; split <;> simp_all
  rw [e] at this
  exact this

theorem aw1 : encV [233, 8364] = .tuple #[.string ⟨#[195, 169, 226, 130, 172]⟩, .int .i64 0] := by
  have h : strOfNums (byL [233, 8364]) = ⟨#[195, 169, 226, 130, 172]⟩ := by decide
  rw [encV_yes _ (by decide), h]
theorem aw2 : nxV (nx (bs ⟨#[226, 130]⟩)) = .tuple #[.int .i32 0, .int .i64 2, .int .i64 18] := by
  have h : nx (bs ⟨#[226, 130]⟩) = (0, 2, 18) := by decide
  rw [h]; rfl
theorem aw3 : nxV (nx (bs ⟨#[226, 40]⟩)) = .tuple #[.int .i32 0, .int .i64 1, .int .i64 17] := by
  have h : nx (bs ⟨#[226, 40]⟩) = (0, 1, 17) := by decide
  rw [h]; rfl
theorem aw4 : decP 2 (bs (catB [⟨#[65, 255, 226, 130]⟩])) = ([65, 65533, 65533], [(1, 1), (2, 2)], 0) := by decide

set_option maxRecDepth 100000 in
set_option maxHeartbeats 1000000 in
theorem awake_any (w : World) (hT : Tab w) : Calls Tryd.prog 11 #[] w fun e w' => e = .returned (.bool true) ∧ Below w.heap.size w w' := by
  have HT := Lib.hid hT
  have hpos := hT.pos
  clear hT
  go_enter Tryd.func11, Tryd.ntmps11
  go_wp2_with fail
  have b1 : Below w.heap.size w (w.alloc (.cells #[.int .i32 233, .int .i32 8364] 21)) := (Below.refl _ _).alloc (Nat.le_refl _) _
  refine (encode_any (some ⟨w.heap.size, 0, none⟩) 2 [233, 8364] _ (HT.out.below b1 hpos) (ints_new .i32 [233, 8364] 21 w) (by simp)).mono ?_
  rw [aw1]
  rintro e w1 ⟨rfl, hb1⟩
  have B1 := Lib.hid (b1.trans (hb1.mono (by simp)))
  clear b1 hb1
  go_wp2_with fail
  refine (next_any _ _ (HT.out.below B1.out hpos) (by decide)).mono ?_
  rw [aw2]
  rintro e w' ⟨rfl, rfl⟩
  go_wp2_with fail
  refine (next_any _ _ (HT.out.below B1.out hpos) (by decide)).mono ?_
  rw [aw3]
  rintro e w' ⟨rfl, rfl⟩
  go_wp2_with fail
  have b2 : Below w.heap.size w (w1.alloc (.cells #[.string ⟨#[65, 255, 226, 130]⟩] 9)) := B1.out.trans ((Below.refl _ _).alloc B1.out.size _)
  refine (decode_any 2 (some ⟨w1.heap.size, 0, none⟩) 1 [⟨#[65, 255, 226, 130]⟩] _ (HT.out.below b2 hpos) (strs_new [⟨#[65, 255, 226, 130]⟩] 9 w1 1 (by simp)) (by simp) (by decide)).mono ?_
  rw [aw4]
  rintro e w2 ⟨v1, v2, rfl, ho1, ho2, hb2⟩
  have hz1 := B1.out.size
  have b3 := b2.trans (hb2.mono (by simp; omega))
  obtain ⟨A, c, rfl, hi⟩ := own_ints ho1
  have hf : ∃ A2 c2, v2 = .slice A2 2 c2 := by
    rcases ho2.2 with ⟨_, h⟩ | ⟨g, cap, cur, h, _⟩
    · simp at h
    · exact ⟨_, _, h⟩
  obtain ⟨A2, c2, rfl⟩ := hf
  have B3 := Lib.hid b3
  have HI := Lib.hid hi
  clear b2 b3 ho1 ho2 hb2 hi
  have B4 := Lib.hid (B3.out.trans ((Below.refl _ _).alloc (B3.out.size) (.cells #[.int .i32 65, .int .i32 65533, .int .i32 65533] 21)))
  go_wp2_with fail
  refine (runes_any A (some ⟨w2.heap.size, 0, none⟩) c 3 [65, 65533, 65533] [65, 65533, 65533] _ (HI.out.below ((Below.refl _ _).alloc (Nat.le_refl _) _)) (ints_new .i32 [65, 65533, 65533] 21 w2) (by simp) (by simp)).mono ?_
  rintro e w3 ⟨rfl, hb3⟩
  rw [show decide ([65, 65533, 65533] = ([65, 65533, 65533] : List Int)) = true from by simp]
  have B5 := Lib.hid (B4.out.trans (hb3.mono (by have := B3.out.size; simp; omega)))
  clear hb3
  go_wp2
  go_ret
  exact ⟨rfl, B5.out⟩
end Go.Proofs.YtoiedhkhmdgipaaDoor

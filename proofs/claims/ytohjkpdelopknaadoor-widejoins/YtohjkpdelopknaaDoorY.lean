import Derived.Test.YtohjkpdelopknaaDoorX
import Derived.Test.YtohjkpdelopknaaDoorO
namespace Go.Proofs.YtohjkpdelopknaaDoor
open Go.RowKit
/-- Decode of parts, in a slice just made. -/
def OneP (w : World) (d : List Int × List (Nat × Nat) × Int) (e : Ending) (w' : World) : Prop :=
  ∃ A c A2 c2, e = .returned (.tuple #[.slice A d.1.length c, .slice A2 d.2.1.length c2, .int .i64 d.2.2]) ∧ w'.ownsRow w.heap.size 21 1 (.slice A d.1.length c) d.1.length (i32s d.1) ∧ w'.ownsRow w.heap.size 49 2 (.slice A2 d.2.1.length c2) d.2.1.length (flts d.2.1) ∧ Ints .i32 w' A d.1 ∧ Flts w' A2 d.2.1 ∧ Below w.heap.size w w'
theorem OneP.of {w w1 : World} {d : List Int × List (Nat × Nat) × Int} {e : Ending} {w' : World} (h : DecPost w1 d e w') (hb : Below w.heap.size w w1) : OneP w d e w' := by
  obtain ⟨v1, v2, he, h1, h2, h3⟩ := h
  obtain ⟨A, c, rfl, hi⟩ := own_ints h1
  obtain ⟨A2, c2, rfl, hf⟩ := own_flts h2
  exact ⟨A, c, A2, c2, he, h1.mono hb.size, h2.mono hb.size, hi, hf, hb.trans (h3.mono hb.size)⟩
theorem decode_list (k : Nat) (k1 : 1 ≤ k) (k4 : k ≤ 4) (pol : Int) (hp : pol = 1 ∨ pol = 2 ∨ pol = 3) (xs : List ByteArray) (w : World) (hT : Tab w) (hn : xs.length ≤ 100000) (hs : (catB xs).size ≤ 100000) :
    Calls Tryd.prog 19 #[.int .i64 (k : Int), .int .i64 pol, .slice (some ⟨w.heap.size, 0, none⟩) xs.length xs.length] (w.alloc (.cells (xs.map Value.string).toArray 9)) (OneP w (dec k pol 0 (bs (catB xs)))) := by
  have b1 : Below w.heap.size w (w.alloc (.cells (xs.map Value.string).toArray 9)) := (Below.refl _ _).alloc (Nat.le_refl _) _
  have := decode_any k pol (some ⟨w.heap.size, 0, none⟩) xs.length xs _ (hT.below b1 hT.pos) (strs_new xs 9 w xs.length (Nat.le_refl _)) hn hs
  rw [decP_dec k pol _ k1 k4 hp] at this
  exact this.mono fun e w' h => OneP.of h b1
theorem decode_list_drew (k : Nat) (k1 : 1 ≤ k) (k4 : k ≤ 4) (pol : Int) (hp : pol = 1 ∨ pol = 2 ∨ pol = 3) (xs : List ByteArray) (w : World) (hT : Tab w) (hn : xs.length ≤ 100000) (hs : (catB xs).size ≤ 100000) :
    Calls Tryd.prog 19 #[.int .i64 (k : Int), .int .i64 pol, .slice (some ⟨w.heap.size, 0, none⟩) xs.length xs.length] (w.alloc (.cells (xs.map Value.string).toArray 9)).drew (OneP w (dec k pol 0 (bs (catB xs)))) := by
  have b1 : Below w.heap.size w ((w.alloc (.cells (xs.map Value.string).toArray 9)).drew) := ((Below.refl _ _).alloc (Nat.le_refl _) _).drew
  have := decode_any k pol (some ⟨w.heap.size, 0, none⟩) xs.length xs _ (hT.below b1 hT.pos) ((strs_new xs 9 w xs.length (Nat.le_refl _)).below (Below.refl _ _).drew) hn hs
  rw [decP_dec k pol _ k1 k4 hp] at this
  exact this.mono fun e w' h => OneP.of h b1
theorem decode_one (k : Nat) (k1 : 1 ≤ k) (k4 : k ≤ 4) (pol : Int) (hp : pol = 1 ∨ pol = 2 ∨ pol = 3) (s : ByteArray) (w : World) (hT : Tab w) (hs : s.size ≤ 100000) :
    Calls Tryd.prog 19 #[.int .i64 (k : Int), .int .i64 pol, .slice (some ⟨w.heap.size, 0, none⟩) 1 1] (w.alloc (.cells #[.string s] 9)) (OneP w (dec k pol 0 (bs s))) := by
  have := decode_list k k1 k4 pol hp [s] w hT (by simp) (by rw [catB_one]; exact hs)
  rw [catB_one] at this
  exact this
theorem bs_app (s t : ByteArray) : bs (s ++ t) = bs s ++ bs t := by simp [bs]
theorem catB_two (s t : ByteArray) : catB [s, t] = s ++ t := by
  apply ByteArray.ext
  simp [catB]
theorem decode_two (k : Nat) (k1 : 1 ≤ k) (k4 : k ≤ 4) (s t : ByteArray) (w : World) (hT : Tab w) (hs : (s ++ t).size ≤ 100000) :
    Calls Tryd.prog 19 #[.int .i64 (k : Int), .int .i64 2, .slice (some ⟨w.heap.size, 0, none⟩) 2 2] (w.alloc (.cells #[.string s, .string t] 9)) (OneP w (dec k 2 0 (bs (s ++ t)))) := by
  have := decode_list k k1 k4 2 (.inr (.inl rfl)) [s, t] w hT (by simp) (by rw [catB_two]; exact hs)
  rw [catB_two] at this
  exact this
theorem cat_three (s : ByteArray) (q : Nat) : catB [s.extract 0 q, ⟨#[]⟩, s.extract q s.size] = s := by
  apply ByteArray.ext
  apply Array.toList_inj.1
  show ([s.extract 0 q, ⟨#[]⟩, s.extract q s.size].map (·.data.toList)).flatten = _
  simp only [List.map_cons, List.map_nil, List.flatten_cons, List.flatten_nil, List.append_nil]
  rw [Lib.extract_data, Lib.extract_to_end]
  simp
theorem decode_three (k : Nat) (k1 : 1 ≤ k) (k4 : k ≤ 4) (s : ByteArray) (q : Nat) (w : World) (hT : Tab w) (hs : s.size ≤ 100000) :
    Calls Tryd.prog 19 #[.int .i64 (k : Int), .int .i64 2, .slice (some ⟨w.heap.size, 0, none⟩) 3 3] (w.alloc (.cells #[.string (s.extract 0 q), .string ⟨#[]⟩, .string (s.extract q s.size)] 9)).drew (OneP w (dec k 2 0 (bs s))) := by
  have := decode_list_drew k k1 k4 2 (.inr (.inl rfl)) [s.extract 0 q, ⟨#[]⟩, s.extract q s.size] w hT (by simp) (by rw [cat_three]; exact hs)
  rw [cat_three] at this
  exact this
end Go.Proofs.YtohjkpdelopknaaDoor

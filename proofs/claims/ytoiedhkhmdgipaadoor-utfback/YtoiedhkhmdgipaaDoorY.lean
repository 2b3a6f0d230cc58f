import Derived.Test.YtoiedhkhmdgipaaDoorX
import Derived.Test.YtoiedhkhmdgipaaDoorO
namespace Go.Proofs.YtoiedhkhmdgipaaDoor
open Go.RowKit

theorem decP_dec (pol : Int) (l : List Nat) (h : pol = 1 ∨ pol = 2 ∨ pol = 3) : decP pol l = dec pol 0 l := by rw [decP, if_pos h]
theorem dec_lens (pol : Int) : ∀ (m k : Nat) (l : List Nat), l.length ≤ m → (dec pol k l).1.length ≤ l.length ∧ (dec pol k l).2.1.length ≤ l.length := by
  intro m
  induction m with
  | zero =>
    intro k l hl
    have : l = [] := List.eq_nil_of_length_eq_zero (by omega)
    subst this
    simp [dec_nil]
  | succ m ih =>
    intro k l hl
    by_cases hne : l = []
    · subst hne
      simp [dec_nil]
    obtain ⟨r, e, n, hx, h1, h2, h3, h4, h5, h6⟩ := nx_step l hne
    have hI := ih (k + n) (l.drop n) (by rw [List.length_drop]; omega)
    rw [List.length_drop] at hI
    by_cases he : e = 0
    · subst he
      rw [dec_ok pol k l hne r n hx h1]
      simp only [List.length_cons]
      omega
    · by_cases hp : pol = 1
      · subst hp
        rw [dec_bad1 k l hne r e n hx he]
        simp
        omega
      · rw [dec_bad pol hp k l hne r e n hx he h1]
        simp only [List.length_append, List.length_cons]
        have : (if pol = 2 then [(65533 : Int)] else []).length ≤ 1 := by split <;> simp
        omega
theorem decP_lens (pol : Int) (l : List Nat) : (decP pol l).1.length ≤ l.length ∧ (decP pol l).2.1.length ≤ l.length := by
  unfold decP
  split
  · exact dec_lens pol l.length 0 l (Nat.le_refl _)
  · simp
/-- Decode of one part, in a slice just made. -/
def OneP (w : World) (d : List Int × List (Nat × Nat) × Int) (e : Ending) (w' : World) : Prop :=
  ∃ A c A2 c2, e = .returned (.tuple #[.slice A d.1.length c, .slice A2 d.2.1.length c2, .int .i64 d.2.2]) ∧ w'.ownsRow w.heap.size 21 1 (.slice A d.1.length c) d.1.length (i32s d.1) ∧ w'.ownsRow w.heap.size 44 2 (.slice A2 d.2.1.length c2) d.2.1.length (flts d.2.1) ∧ Ints .i32 w' A d.1 ∧ Flts w' A2 d.2.1 ∧ Below w.heap.size w w'
theorem own_mono {w : World} {b b' : Nat} {e : TypeId} {z n : Nat} {v : Value} {xs : List Value} (h : w.ownsRow b e z v n xs) (hb : b' ≤ b) : w.ownsRow b' e z v n xs := by
  refine ⟨h.1, ?_⟩
  rcases h.2 with h2 | ⟨g, cap, cur, h1, h2, h3⟩
  · exact .inl h2
  · exact .inr ⟨g, cap, cur, h1, by omega, h3⟩
theorem OneP.of {w w1 : World} {d : List Int × List (Nat × Nat) × Int} {e : Ending} {w' : World} (h : DecPost w1 d e w') (hb : Below w.heap.size w w1) : OneP w d e w' := by
  obtain ⟨v1, v2, he, h1, h2, h3⟩ := h
  obtain ⟨A, c, rfl, hi⟩ := own_ints h1
  obtain ⟨A2, c2, rfl, hf⟩ := own_flts h2
  exact ⟨A, c, A2, c2, he, own_mono h1 hb.size, own_mono h2 hb.size, hi, hf, hb.trans (h3.mono hb.size)⟩
theorem decode_one (pol : Int) (hp : pol = 1 ∨ pol = 2 ∨ pol = 3) (s : ByteArray) (w : World) (hT : Tab w) (hs : s.size ≤ 100000) :
    Calls Tryd.prog 18 #[.int .i64 pol, .slice (some ⟨w.heap.size, 0, none⟩) 1 1] (w.alloc (.cells #[.string s] 9)) (OneP w (dec pol 0 (bs s))) := by
  have b1 : Below w.heap.size w (w.alloc (.cells #[.string s] 9)) := (Below.refl _ _).alloc (Nat.le_refl _) _
  have := decode_any pol (some ⟨w.heap.size, 0, none⟩) 1 [s] _ (hT.below b1 hT.pos) (strs_new [s] 9 w 1 (by simp)) (by simp) (by rw [catB_one]; exact hs)
  rw [catB_one, decP_dec pol _ hp] at this
  exact this.mono fun e w' h => OneP.of h b1
end Go.Proofs.YtoiedhkhmdgipaaDoor

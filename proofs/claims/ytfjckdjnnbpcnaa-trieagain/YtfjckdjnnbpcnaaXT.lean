import Derived.Test.YtfjckdjnnbpcnaaXS
import Derived.Test.YtfjckdjnnbpcnaaYU
namespace Go.Proofs.Ytfjckdjnnbpcnaa.Tr
open Go.RowKit

/-- What the program's tables are in memory, and what their calls do: the laws ask no more of the code. -/
structure Tbl where
  Tb : World → Nat → Nat → Int → (Int → Int) → Prop
  fp : World → Nat → Nat → Prop
  on : ∀ {w w' : World} {base X : Nat} {nn : Int} {g : Int → Int}, Tb w base X nn g → (∀ k, k < w.heap.size → fp w X k → w'.heap[k]? = w.heap[k]?) → Tb w' base X nn g
  fpon : ∀ {w w' : World} {base X : Nat} {nn : Int} {g : Int → Int}, Tb w base X nn g → (∀ k, k < w.heap.size → fp w X k → w'.heap[k]? = w.heap[k]?) → ∀ k, fp w' X k ↔ fp w X k
  fpb : ∀ {w : World} {base X : Nat} {nn : Int} {g : Int → Int} {k : Nat}, Tb w base X nn g → fp w X k → base ≤ k ∧ k < w.heap.size
  trk : ∀ {w : World} {base X : Nat} {nn : Int} {g : Int → Int}, Tb w base X nn g → TrK w (.pointer (some ⟨X, 0, none⟩)) g nn
  set : ∀ {w : World} {base X : Nat} {nn : Int} {g : Int → Int} (f t v : Int), Tb w base X nn g → Calls Try.prog 12 #[.pointer (some ⟨X, 0, none⟩), .int .i32 f, .int .i32 t, .int .i64 v] w
    fun e w' => e = .returned (.int .i64 (setE (f, t, v))) ∧ Tb w' base X nn (updS g (f, t, v)) ∧ Mv (fp w X) (fp w' X) w w'
  new : ∀ (w : World) (nn : Int), Calls Try.prog 9 #[.int .i64 nn] w fun e w' => ∃ X, e = .returned (.pointer (some ⟨X, 0, none⟩)) ∧ Tb w' w.heap.size X nn (fun _ => nn) ∧ Below w.heap.size w w'
  copy : ∀ {w : World} {base X : Nat} {nn : Int} {g : Int → Int}, Tb w base X nn g → Calls Try.prog 15 #[.pointer (some ⟨X, 0, none⟩)] w
    fun e w' => ∃ Y, e = .returned (.pointer (some ⟨Y, 0, none⟩)) ∧ Tb w' w.heap.size Y nn g ∧ Below w.heap.size w w'
variable (T : Tbl)
/-- A table of the program and one of the reference, apart from each other. -/
structure Pair (w0 w : World) (X Y : Nat) (nn : Int) (L : List Sp) : Prop where
  bel : Below w0.heap.size w0 w
  tb : T.Tb w w0.heap.size X nn (getL nn L)
  rt : Rt w w0.heap.size Y nn L
  dj : ∀ k, T.fp w X k → ¬ fpR w Y k
variable {T}
theorem Pair.on {w0 w w' : World} {X Y : Nat} {nn : Int} {L : List Sp} (h : Pair T w0 w X Y nn L) (hb : Below w.heap.size w w') : Pair T w0 w' X Y nn L := by
  have h1 : ∀ k, k < w.heap.size → T.fp w X k → w'.heap[k]? = w.heap[k]? := fun k hk _ => hb.block k hk
  refine ⟨h.bel.trans (hb.mono h.bel.size), T.on h.tb h1, h.rt.below hb, fun k hk hr => ?_⟩
  obtain ⟨v, hB, _⟩ := h.rt.blk
  exact h.dj k ((T.fpon h.tb h1 k).1 hk) ((fpR_on h.rt (hb.block Y hB.lt) k).1 hr)
/-- Set of both. -/
theorem Pair.set {w0 w w1 w2 : World} {X Y : Nat} {nn : Int} {L : List Sp} {s : Sp} (h : Pair T w0 w X Y nn L)
    (h1 : T.Tb w1 w0.heap.size X nn (updS (getL nn L) s)) (m1 : Mv (T.fp w X) (T.fp w1 X) w w1)
    (h2 : Rt w1 w0.heap.size Y nn L → Rt w2 w0.heap.size Y nn (setL L s) ∧ Mv (fpR w1 Y) (fpR w2 Y) w1 w2) : Pair T w0 w2 X Y nn (setL L s) := by
  have hr1 : Rt w1 w0.heap.size Y nn L := h.rt.on fun k hk hf => m1.keep k hk (fun ht => h.dj k ht hf)
  obtain ⟨h2, m2⟩ := h2 hr1
  obtain ⟨v, hB, _⟩ := h.rt.blk
  have hY : w1.heap[Y]? = w.heap[Y]? := m1.keep Y hB.lt (fun ht => h.dj Y ht (.inl rfl))
  have f1 : ∀ k, fpR w1 Y k ↔ fpR w Y k := fpR_on h.rt hY
  have dj1 : ∀ k, T.fp w1 X k → ¬ fpR w1 Y k := fun k hk hr => by
    have hr' := (f1 k).1 hr
    have := (h.rt.fp hr').2
    rcases m1.fp k hk with hk' | hk'
    · exact h.dj k hk' hr'
    · omega
  have k1 : ∀ k, k < w1.heap.size → T.fp w1 X k → w2.heap[k]? = w1.heap[k]? := fun k hk ht => m2.keep k hk (fun hr => dj1 k ht hr)
  rw [updS_getL] at h1
  have hsz := h.bel.size
  have hsz1 := m1.size
  refine ⟨?_, T.on h1 k1, h2, fun k hk hr => ?_⟩
  · exact (h.bel.trans (m1.below (B := w0.heap.size) (fun k hk => (T.fpb h.tb hk).1) hsz)).trans (m2.below (B := w0.heap.size) (fun k hk => (hr1.fp hk).1) (by omega))
  · have hk' := (T.fpon h1 k1 k).1 hk
    have := (T.fpb h1 hk').2
    rcases m2.fp k hr with hr' | hr'
    · exact dj1 k hk' hr'
    · omega

end Go.Proofs.Ytfjckdjnnbpcnaa.Tr

import Derived.Test.YtfjckdjnnbpcnaaXQ
namespace Go.Proofs.Ytfjckdjnnbpcnaa.Tr
open Go.RowKit Go.Shelf

/-- Two tables of the program, apart from each other: the second one was made behind the first. -/
structure Duo (T : Tbl) (w0 : World) (b : Nat) (w : World) (X Y : Nat) (nn : Int) (g h : Int → Int) : Prop where
  bel : Below w0.heap.size w0 w
  lo : w0.heap.size ≤ b
  tx : T.Tb w w0.heap.size X nn g
  ty : T.Tb w b Y nn h
  dj : ∀ k, T.fp w X k → ¬ T.fp w Y k
variable {T : Tbl}
theorem Duo.on {w0 w w' : World} {b X Y : Nat} {nn : Int} {g h : Int → Int} (d : Duo T w0 b w X Y nn g h) (hb : Below w.heap.size w w') : Duo T w0 b w' X Y nn g h := by
  have h1 : ∀ Z k, k < w.heap.size → T.fp w Z k → w'.heap[k]? = w.heap[k]? := fun _ k hk _ => hb.block k hk
  exact ⟨d.bel.trans (hb.mono d.bel.size), d.lo, T.on d.tx (h1 X), T.on d.ty (h1 Y), fun k hx hy => d.dj k ((T.fpon d.tx (h1 X) k).1 hx) ((T.fpon d.ty (h1 Y) k).1 hy)⟩
theorem Duo.setX {w0 w w' : World} {b X Y : Nat} {nn : Int} {g g' h : Int → Int} (d : Duo T w0 b w X Y nn g h) (h1 : T.Tb w' w0.heap.size X nn g') (m : Mv (T.fp w X) (T.fp w' X) w w') : Duo T w0 b w' X Y nn g' h := by
  have k1 : ∀ k, k < w.heap.size → T.fp w Y k → w'.heap[k]? = w.heap[k]? := fun k hk hy => m.keep k hk (fun hx => d.dj k hx hy)
  refine ⟨d.bel.trans (m.below (fun _ hk => (T.fpb d.tx hk).1) d.bel.size), d.lo, h1, T.on d.ty k1, fun k hx hy => ?_⟩
  have hy' := (T.fpon d.ty k1 k).1 hy
  have := (T.fpb d.ty hy').2
  rcases m.fp k hx with hx' | hx'
  · exact d.dj k hx' hy'
  · omega
theorem Duo.setY {w0 w w' : World} {b X Y : Nat} {nn : Int} {g h h' : Int → Int} (d : Duo T w0 b w X Y nn g h) (h1 : T.Tb w' b Y nn h') (m : Mv (T.fp w Y) (T.fp w' Y) w w') : Duo T w0 b w' X Y nn g h' := by
  have k1 : ∀ k, k < w.heap.size → T.fp w X k → w'.heap[k]? = w.heap[k]? := fun k hk hx => m.keep k hk (fun hy => d.dj k hx hy)
  refine ⟨d.bel.trans (m.below (fun _ hk => Nat.le_trans d.lo (T.fpb d.ty hk).1) d.bel.size), d.lo, T.on d.tx k1, h1, fun k hx hy => ?_⟩
  have hx' := (T.fpon d.tx k1 k).1 hx
  have := (T.fpb d.tx hx').2
  rcases m.fp k hy with hy' | hy'
  · exact d.dj k hx' hy'
  · omega
/-- A copy stands beside. -/
theorem Solo.duo {w0 w w' : World} {X Y : Nat} {nn : Int} {g h : Int → Int} (s : Solo T w0 w X nn g) (h1 : T.Tb w' w.heap.size Y nn h) (hb : Below w.heap.size w w') : Duo T w0 w.heap.size w' X Y nn g h := by
  have k1 : ∀ k, k < w.heap.size → T.fp w X k → w'.heap[k]? = w.heap[k]? := fun k hk _ => hb.block k hk
  refine ⟨s.bel.trans (hb.mono s.bel.size), s.bel.size, T.on s.tb k1, h1, fun k hx hy => ?_⟩
  have h2 := (T.fpb s.tb ((T.fpon s.tb k1 k).1 hx)).2
  have h3 := (T.fpb h1 hy).1
  omega

theorem upd_parts {g : Int → Int} {f t v a : Int} (hok : okS (f, t, v) = true) (h1 : f ≤ a) (h2 : a < t) : updS (updS g (a + 1, t, v)) (f, a, v) = updS g (f, t, v) := by
  have hk := hok
  simp only [okS, Bool.not_eq_true', Bool.or_eq_false_iff, decide_eq_false_iff_not] at hk
  have o1 : okS (a + 1, t, v) = true := by simp [okS]; omega
  have o2 : okS (f, a, v) = true := by simp [okS]; omega
  funext r
  unfold updS
  rw [if_pos hok, if_pos o1, if_pos o2]
  simp only [inS]
  by_cases c1 : f ≤ r <;> by_cases c2 : r ≤ a <;> by_cases c3 : a + 1 ≤ r <;> by_cases c4 : r ≤ t <;> simp [c1, c2, c3, c4] <;> omega
theorem parts_ok {f t v a : Int} (hok : okS (f, t, v) = true) (h1 : f ≤ a) (h2 : a < t) : okS (a + 1, t, v) = true ∧ okS (f, a, v) = true := by
  simp only [okS, Bool.not_eq_true', Bool.or_eq_false_iff, decide_eq_false_iff_not] at hok
  constructor <;> simp [okS] <;> omega

end Go.Proofs.Ytfjckdjnnbpcnaa.Tr

import Derived.Test.YtfjckdjnnbpcnaaXE
namespace Go.Proofs.Ytfjckdjnnbpcnaa.Tr
open Go.RowKit Go.Shelf

theorem Mv.or {F F' G G' : Nat → Prop} {w w' : World} (m : Mv F F' w w') (hG : ∀ k, G' k → G k) : Mv (fun k => F k ∨ G k) (fun k => F' k ∨ G' k) w w' :=
  ⟨m.os, m.tape, m.output, m.size, fun k hk hn => m.keep k hk fun hf => hn (.inl hf), fun k hk => hk.elim (fun h => (m.fp k h).elim (fun h => .inl (.inl h)) .inr) (fun h => .inl (.inr (hG k h)))⟩
theorem Mv.or' {F F' G G' : Nat → Prop} {w w' : World} (m : Mv F F' w w') (hG : ∀ k, G' k → G k) : Mv (fun k => G k ∨ F k) (fun k => G' k ∨ F' k) w w' :=
  ⟨m.os, m.tape, m.output, m.size, fun k hk hn => m.keep k hk fun hf => hn (.inr hf), fun k hk => hk.elim (fun h => .inl (.inl (hG k h))) (fun h => (m.fp k h).elim (fun h => .inl (.inr h)) .inr)⟩
/-- A table of the program and one of the reference, apart from each other, and what moved since. -/
structure Mix (T : Tbl) (w0 wq w : World) (X Y bz : Nat) (nn : Int) (g : Int → Int) (L : List Sp) : Prop where
  bel : Below w0.heap.size w0 w
  lo : w0.heap.size ≤ bz
  tb : T.Tb w w0.heap.size X nn g
  rt : Rt w bz Y nn L
  dj : ∀ k, T.fp w X k → ¬ fpR w Y k
  mv : Mv (fun k => T.fp wq X k ∨ fpR wq Y k) (fun k => T.fp w X k ∨ fpR w Y k) wq w
variable {T : Tbl}
theorem fpR_on' {w w' : World} {base X : Nat} {nn : Int} {L : List Sp} (h : Rt w base X nn L) (hk : ∀ k, k < w.heap.size → fpR w X k → w'.heap[k]? = w.heap[k]?) (k : Nat) : fpR w' X k ↔ fpR w X k := by
  obtain ⟨v, hB, _⟩ := h.blk
  exact fpR_on h (hk X hB.lt (.inl rfl)) k
theorem Mix.on {w0 wq w w' : World} {X Y bz : Nat} {nn : Int} {g : Int → Int} {L : List Sp} (d : Mix T w0 wq w X Y bz nn g L) (hb : Below w.heap.size w w') : Mix T w0 wq w' X Y bz nn g L := by
  have h1 : ∀ k, k < w.heap.size → T.fp w X k → w'.heap[k]? = w.heap[k]? := fun k hk _ => hb.block k hk
  have h2 : ∀ k, k < w.heap.size → fpR w Y k → w'.heap[k]? = w.heap[k]? := fun k hk _ => hb.block k hk
  have e1 := fun k => T.fpon d.tb h1 k
  have e2 := fun k => fpR_on' d.rt h2 k
  refine ⟨d.bel.trans (hb.mono d.bel.size), d.lo, T.on d.tb h1, d.rt.on h2, fun k hx hy => d.dj k ((e1 k).1 hx) ((e2 k).1 hy), ?_⟩
  refine d.mv.trans ⟨hb.os, hb.tape, hb.output, hb.size, fun k hk _ => hb.block k hk, fun k hk => .inl ?_⟩
  exact hk.elim (fun h => .inl ((e1 k).1 h)) (fun h => .inr ((e2 k).1 h))
theorem Mix.setX {w0 wq w w' : World} {X Y bz : Nat} {nn : Int} {g g' : Int → Int} {L : List Sp} (d : Mix T w0 wq w X Y bz nn g L) (h1 : T.Tb w' w0.heap.size X nn g') (m : Mv (T.fp w X) (T.fp w' X) w w') : Mix T w0 wq w' X Y bz nn g' L := by
  have k1 : ∀ k, k < w.heap.size → fpR w Y k → w'.heap[k]? = w.heap[k]? := fun k hk hy => m.keep k hk (fun hx => d.dj k hx hy)
  have e2 := fun k => fpR_on' d.rt k1 k
  refine ⟨d.bel.trans (m.below (fun _ hk => (T.fpb d.tb hk).1) d.bel.size), d.lo, h1, d.rt.on k1, fun k hx hy => ?_, d.mv.trans (m.or fun k hk => (e2 k).1 hk)⟩
  have hy' := (e2 k).1 hy
  have := (d.rt.fp hy').2
  rcases m.fp k hx with hx' | hx'
  · exact d.dj k hx' hy'
  · omega
theorem Mix.setR {w0 wq w w' : World} {X Y bz : Nat} {nn : Int} {g : Int → Int} {L L' : List Sp} (d : Mix T w0 wq w X Y bz nn g L) (h1 : Rt w' bz Y nn L') (m : Mv (fpR w Y) (fpR w' Y) w w') : Mix T w0 wq w' X Y bz nn g L' := by
  have k1 : ∀ k, k < w.heap.size → T.fp w X k → w'.heap[k]? = w.heap[k]? := fun k hk hx => m.keep k hk (fun hy => d.dj k hx hy)
  have e1 := fun k => T.fpon d.tb k1 k
  refine ⟨d.bel.trans (m.below (fun _ hk => Nat.le_trans d.lo (d.rt.fp hk).1) d.bel.size), d.lo, T.on d.tb k1, h1, fun k hx hy => ?_, d.mv.trans (m.or' fun k hk => (e1 k).1 hk)⟩
  have hx' := (e1 k).1 hx
  have := (T.fpb d.tb hx').2
  rcases m.fp k hy with hy' | hy'
  · exact d.dj k hx' hy'
  · omega

theorem prefix_moreG {α : Type} {pre L : List α} {x : α} (h : pre <+: L) (hl : pre.length < L.length) : pre ++ [x] <+: L ↔ x = L[pre.length] := by
  obtain ⟨r, rfl⟩ := h
  cases r with
  | nil => simp at hl
  | cons y r =>
    simp only [List.getElem_append_right (Nat.le_refl _), Nat.sub_self, List.getElem_cons_zero]
    constructor
    · rintro ⟨r', e⟩
      rw [List.append_assoc] at e
      have := List.append_cancel_left e
      simp at this
      exact this.1
    · rintro rfl
      exact ⟨r, by simp⟩
/-- The beginnings of ranges alone. -/
def fsts (l : List Sp) : List Int := l.map Prod.fst
theorem prefix_moreF {pre L : List Sp} {x : Sp} (h : fsts pre <+: fsts L) (hl : pre.length < L.length) : fsts (pre ++ [x]) <+: fsts L ↔ x.1 = (L[pre.length]).1 := by
  have hl2 : (fsts pre).length < (fsts L).length := by simp [fsts]; exact hl
  have e := prefix_moreG (x := x.1) h hl2
  have e1 : fsts (pre ++ [x]) = fsts pre ++ [x.1] := by simp [fsts]
  have e2 : (fsts L)[(fsts pre).length] = (L[pre.length]).1 := by simp [fsts]
  rw [e1, e, e2]
theorem fsts_prefix {pre L : List Sp} (h : pre <+: L) : fsts pre <+: fsts L := h.map _

end Go.Proofs.Ytfjckdjnnbpcnaa.Tr

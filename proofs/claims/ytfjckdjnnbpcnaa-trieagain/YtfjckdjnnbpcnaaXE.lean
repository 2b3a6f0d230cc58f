import Derived.Test.YtfjckdjnnbpcnaaXD
namespace Go.Proofs.Ytfjckdjnnbpcnaa.Tr
open Go.RowKit Go.Shelf

theorem heap_put (w : World) (o : Obj) {D D2 : Nat} (h : D2 ≠ D) : (w.putObj D2 o).heap[D]? = w.heap[D]? := by
  simp only [World.putObj]
  rw [Array.getElem?_setIfInBounds_ne h]
/-- A range over a table's All whose first variable lies in a block of its own: the frame of a round told from the frame that stands. -/
theorem rangeH {g : Operand} {ps : Array Tmp} {assign body : Code} {Q : Exit → Act → World → Prop} {a : Act} {w w0 : World} {G : Nat} {lb : Array Value} (hg : a.eval g = .func (.func G) #[] lb)
    (eg : ∀ args W, (callFunc G args).run Try.prog W = .ok (.enter G args) W) {S Sp9 : List Sp → Prop} {N : Nat} (hseq : SeqStopsK Fence.wide 4 Try.prog G lb encS (Below w0.heap.size) S Sp9 N w0) (hb0 : Below w0.heap.size w0 w) (hps : ∀ x, (encS x).size = ps.size)
    (I : List Sp → World → Prop) (Ix : Code → List Sp → World → Prop) (hI : OwnFrom w.heap.size I) (hIx : ∀ c, OwnFrom w.heap.size (Ix c)) (h0 : I [] w) (upd : Array Value → Nat → Sp → Array Value)
    (hassign : ∀ (l : Nat) (pre : List Sp) (x : Sp) (W : World) (K : Act → World → Prop), I pre W → w.heap.size ≤ W.heap.size →
      (∀ a' W', KeepsFrom w.heap.size W W' → Below w0.heap.size W W' → I pre W' → w.heap.size ≤ W'.heap.size → (∃ Bs, w.heap.size ≤ Bs ∧ Bk W' Bs [.int .i32 x.1, .int .i32 x.2.1] 42 ∧ a' = { tmps := upd a.tmps Bs x, defers := [] }) → K a' W') →
      assign.wpIn (Fence.wide.inRound l) 3 Try.prog (Exit.then K (fun _ _ _ => False)) { tmps := (ps.zip (encS x)).foldl (fun t (p, v) => t.setIfInBounds p v) a.tmps, defers := [] } W)
    (hbody : ∀ (l : Nat) (pre : List Sp) (x : Sp) (W : World) (Bs : Nat), I pre W → w.heap.size ≤ W.heap.size → w.heap.size ≤ Bs → Bk W Bs [.int .i32 x.1, .int .i32 x.2.1] 42 → pre.length < N →
      body.wpIn (Fence.wide.inRound l) 3 Try.prog (ownPostG w.heap.size (Below w0.heap.size) (fun pre W => I pre W ∧ w.heap.size ≤ W.heap.size) Ix (pre ++ [x]) W) { tmps := upd a.tmps Bs x, defers := [] } W)
    (hdone : ∀ (D : Nat) (xs : List Sp) (W : World), w.heap.size ≤ D → S xs → I xs W → w.heap.size ≤ W.heap.size → W.heap[D]? = some (.deferred (some [])) → Q .normal { a with defers := { target := .collected D, args := #[] } :: a.defers } W)
    (hstop : ∀ (D : Nat) (c : Code) (pre : List Sp) (W : World), w.heap.size ≤ D → Sp9 pre → Ix c pre W → W.heap[D]? = some (.deferred (some [])) → c.wpIn Fence.wide 5 Try.prog Q { a with defers := { target := .collected D, args := #[] } :: a.defers } W) :
    (Code.rangeFunc g ps assign body).wp Try.prog Q a w := by
  refine wp_of_wide (wpIn_rangeFunc_ownH (α := Sp) rfl (by omega) (gf := G) (lb := lb) hg trivial eg hseq belowK_t (belowK_b hb0.size) hb0 hps
    (fun pre W => I pre W ∧ w.heap.size ≤ W.heap.size) Ix
    (fun s A B row hs h1 h2 => ⟨hI s A B row hs.1 h1 h2, Nat.le_trans hs.2 h1.size⟩) hIx ⟨h0, Nat.le_refl _⟩
    (fun x a' W => ∃ Bs, w.heap.size ≤ Bs ∧ Bk W Bs [.int .i32 x.1, .int .i32 x.2.1] 42 ∧ a' = { tmps := upd a.tmps Bs x, defers := [] })
    (fun x a' s W W' row hs hg hr => by obtain ⟨Bs, h1, h2, h3⟩ := hs; exact ⟨Bs, h1, bk_row h2 hg hr, h3⟩)
    (fun l pre x W K hi hK => hassign l pre x W K hi.1 hi.2 fun a' W' k1 k2 k3 k4 k5 => hK a' W' k1 k2 ⟨k3, k4⟩ k5)
    (fun l pre x a' W _ _ hi hx hlt => by
      obtain ⟨Bs, h1, h2, rfl⟩ := hx
      exact hbody l pre x W Bs hi.1 hi.2 h1 h2 hlt)
    (fun D xs W hD hS hi hK => hdone D xs W hD hS hi.1 hi.2 hK) hstop)

end Go.Proofs.Ytfjckdjnnbpcnaa.Tr

import Derived.Test.YtagbeioooohbgaaGreatDoorCr
import Derived.StillTailTactics
section
namespace Go.Proofs.YtagbeioooohbgaaGreatDoor
open Go Go.RowKit

/-! A region whose last operation waits for all others, which only read: in a round of a range over a function. -/
def normQ (Q : Exit → Act → World → Prop) : Exit → Act → World → Prop
  | .normal, a, w => Q .normal a w
  | _, _, _ => False
theorem op_roundW {P : Program} {l n : Nat} {o : Oper} {a : Act} {K : Act → World → Prop} {Q : Exit → Act → World → Prop} {w : World} (hnd : noDefer o = true)
    (h : o.wp P a w K (normQ Q)) : o.wpIn (Fence.wide.inRound l) n P a w K Q := by
  refine ⟨fun _ _ => trivial, ?_⟩
  rw [Oper.semAt_eq _ _ _ (noDefer_ne hnd)]
  unfold Oper.wp at h
  revert h
  cases (execOp a.eval o).run P w with
  | halt x w' => cases x <;> exact fun h => h.elim
  | ok x w' =>
    cases x with
    | value v => exact fun h => h
    | skip => exact fun h => h
    | defer d => exact fun h => h
    | enter f args =>
      intro h
      refine ⟨fun hd => by simp [Fence.wide, Fence.inRound] at hd, CallsIn.inRound l (callsIn_wide.2 (Calls.mono h fun e w'' he => ?_))⟩
      cases e with
      | returned v => exact he
      | panicked c => exact he.elim
      | outgrown => obtain ⟨a, w, hq⟩ := he; exact hq.elim
    | row r args =>
      intro h
      refine ⟨fun hd => by simp [Fence.wide, Fence.inRound] at hd, fun c cs _ => ?_⟩
      obtain ⟨v, w1, h1, h2⟩ := (show Rows P r args w' fun v w'' => K (a.put o.dst v) w'' from h) c cs
      exact ⟨v, w1, h1, stepsIn_wide.2 h2⟩
    | _ => exact fun h => (show False from h).elim
theorem opOp_roundW {P : Program} {ops : Array Oper} {l n i : Nat} {a : Act} {K : Act → World → Prop} {Q : Exit → Act → World → Prop} {w : World} (hnd : ∀ (i : Nat) (o : Oper), ops[i]? = some o → noDefer o = true)
    (h : wpOp P ops (normQ Q) i K a w) : wpOpIn (Fence.wide.inRound l) n P ops Q i K a w := by
  unfold wpOp at h
  unfold wpOpIn
  cases ho : ops[i]? with
  | none => rw [ho] at h; exact h
  | some o =>
    rw [ho] at h
    simp only at h ⊢
    by_cases hw : Region.wanted o (yielded ops a.tmps) = true
    · rw [if_pos hw] at h ⊢
      rcases h with h | ⟨_, a', w', h⟩
      · exact op_roundW (hnd i o ho) h
      · exact h.elim
    · rw [if_neg hw] at h ⊢
      exact ⟨fun _ _ => trivial, h⟩
theorem any_roundW {P : Program} {md : Region.Mode} {ops : Array Oper} {l n : Nat} {Q : Exit → Act → World → Prop} (hnd : ∀ (i : Nat) (o : Oper), ops[i]? = some o → noDefer o = true) :
    ∀ (fuel : Nat) (listed : Array Bool) (a : Act) (w : World), wpAny P md ops (normQ Q) fuel listed a w → wpAnyIn (Fence.wide.inRound l) n P md ops Q fuel listed a w
  | 0, _, _, _, h => h
  | fuel + 1, _, _, _, h => ⟨h.1, fun i hi => opOp_roundW hnd (wpOp_mono (fun a' w' h' => any_roundW hnd fuel _ a' w' h') (h.2 i hi))⟩
theorem wpIn_round_still_tail {P : Program} {id l9 n9 : Nat} {Q : Exit → Act → World → Prop} {a : Act} {w : World} {l : List Oper} (n : Nat) (hm : P.follows .mixedOrders = true) (hB : Region.lexTailB .any l.toArray n = true) (hnd : l.all noDefer = true)
    (h : wpStill P l.toArray w.drew (fun a' => wpList P l.toArray (normQ Q) (l.drop n) a' w.drew) (l.take n) a) : (Code.region id l.toArray true).wpIn (Fence.wide.inRound l9) n9 P Q a w := by
  simp only [Region.lexTailB, Bool.and_eq_true, decide_eq_true_eq] at hB
  obtain ⟨⟨⟨⟨hsel, hn⟩, hs⟩, hc⟩, hlex⟩ := hB
  have hn' : n < l.length := by simpa using hn
  have htl : (l.take n).length = n := by simp; omega
  have hdl : (l.drop n).length = l.toArray.size - n := by simp
  have inv0 : HeadInv .any l.toArray n (Array.replicate l.toArray.size false) :=
    ⟨by simp, fun j oj _ hl => (by rw [getD_replicate_false] at hl; cases hl), fun t _ ht => getD_in (by simpa using ht) (getD_replicate_false _ _)⟩
  have H := wpAnyL_lex (md := .any) (g := l.toArray.size - n) hsel hs hc hn (l.take n) 0 _ a (fun j hj => by
    have hj' : j < n := by rw [htl] at hj; exact hj
    simp [hj']) (by simpa using htl) inv0 (by rw [htl]; exact hlex) h
  have hd : ∀ (i : Nat) (o : Oper), l.toArray[i]? = some o → noDefer o = true := fun i o ho => List.all_eq_true.1 hnd o (by
    rw [List.getElem?_toArray] at ho
    exact List.mem_of_getElem? ho)
  have h2 := wpAny_of_head (Q' := normQ Q) (g := l.toArray.size - n) (fun listed a' hL => by
    have := wpAny_of_seq (md := .any) (Q' := normQ Q) (l.drop n) n listed a' w.drew (fun j => by simp [List.getElem?_drop]) (by rw [hdl]; exact hL.1) hL.2
    rwa [hdl] at this) _ _ _ H
  rw [htl, show n + (l.toArray.size - n) = l.toArray.size by omega] at h2
  exact wpIn_region_any hm (any_roundW hd _ _ _ _ h2)

end Go.Proofs.YtagbeioooohbgaaGreatDoor
end
section
namespace Go.Proofs.YtagbeioooohbgaaGreatDoor
open Go Go.RowKit

/-! An iterator that ranges over another one, and hands on: its caller's rounds must leave the inner range's two blocks as they lie. -/
theorem round_wide {P : Program} {n m l : Nat} {f : FuncId} {tm : Array Value} {ac bd : Code} {w : World} {R : Ending → World → Prop} (h : RoundIn Fence.wide n P l f tm ac bd w R) : RoundIn Fence.wide m P l f tm ac bd w R :=
  ⟨trivial, fun c cs _ => h.2 c cs (room_wide _)⟩
/-- The contract of such an iterator: a round that goes on keeps what Kq says, and whatever is no cells and lies behind the record of the loop. -/
def SeqL {α : Type} (P : Program) (g : Nat) (lb : Array Value) (encs : α → Array Value) (Kq : World → World → Prop) (S Sp : List α → Prop) (N : Nat) (w : World) : Prop :=
  ∀ (l : Nat) (J Jx : List α → World → Prop) (W : World), Below w.heap.size w W → l < W.heap.size → OwnFrom W.heap.size J → OwnFrom W.heap.size Jx →
    (∀ pre x V, J pre V → pre.length < N → YieldAt Fence.wide 3 P l (encs x) V fun e V' =>
      (e = .returned (.bool true) ∧ J (pre ++ [x]) V' ∧ Kq V V' ∧ KeepsFrom (l + 1) V V') ∨ (e = .returned (.bool false) ∧ Jx (pre ++ [x]) V' ∧ KeepsFrom (l + 1) V V')) →
    J [] W → Calls P g (#[.func (.yield l) #[] #[]] ++ lb) W fun e W' => (∃ v, e = .returned v) ∧ ((∃ xs, S xs ∧ J xs W') ∨ ∃ pre, Sp pre ∧ Jx pre W')
/-- The two blocks of a range: its record, and what its rounds defer. -/
structure Lp (D : Nat) (r : Loop) (W : World) : Prop where
  lp : W.heap[D + 1]? = some (.loop r)
  df : W.heap[D]? = some (.deferred (some []))
theorem Lp.lt {D : Nat} {r : Loop} {W : World} (h : Lp D r W) : D + 1 < W.heap.size := (Array.getElem?_eq_some_iff.1 h.lp).1
theorem Lp.put {D : Nat} {r : Loop} {W : World} (h : Lp D r W) (r' : Loop) : Lp D r' (W.putObj (D + 1) (.loop r')) := ⟨World.putObj_heap_same h.lt, (World.putObj_heap_other (by omega)).trans h.df⟩
theorem Lp.keep {D : Nat} {r : Loop} {W V : World} (h : Lp D r W) (hk : KeepsFrom D W V) : Lp D r V := ⟨hk.same _ _ (by omega) h.lp rfl, hk.same _ _ (Nat.le_refl _) h.df rfl⟩
theorem Lp.grow {D B : Nat} {r : Loop} {W V : World} {row : Option Nat} (h : Lp D r W) (hB : D + 1 < B) (hg : W.grownBy V row) (hr : ∀ j, row = some j → B ≤ j) : Lp D r V :=
  ⟨(hg.block _ h.lt (fun e => by have := hr _ e.symm; omega)).trans h.lp, (hg.block _ (by have := h.lt; omega) (fun e => by have := hr _ e.symm; omega)).trans h.df⟩
theorem Lp.new (w : World) (r : Loop) : Lp w.heap.size r ((w.alloc (.deferred (some []))).alloc (.loop r)) := by
  refine ⟨?_, (Below.heap_alloc _ _ _ (by simp)).trans (World.alloc_heap_new w _)⟩
  have h := World.alloc_heap_new (w.alloc (.deferred (some []))) (.loop r)
  rwa [World.size_alloc] at h
theorem keeps_put {B : Nat} {W : World} {l : Nat} {o : Obj} (h : l < B) : KeepsFrom B W (W.putObj l o) := KeepsFrom.of_grownBy (grownBy_putObj' W l o) (fun j e => by cases e; exact h)
theorem keeps_up {B B' : Nat} {W V : World} (h : KeepsFrom B W V) (hB : B ≤ B') : KeepsFrom B' W V := ⟨h.size, fun k o hk => h.same k o (Nat.le_trans hB hk)⟩
/-- A range over such an iterator, in a function that is entered from without. -/
theorem wp_range_L {α : Type} {P : Program} {g : Operand} {ps : Array Tmp} {assign body : Code} {Q : Exit → Act → World → Prop} {a : Act} {w w0 : World} {G : Nat} {lb : Array Value} (hg : a.eval g = .func (.func G) #[] lb)
    (eg : ∀ args W, (callFunc G args).run P W = .ok (.enter G args) W) {encs : α → Array Value} {Kq : World → World → Prop} {S Sp : List α → Prop} {N : Nat} (hseq : SeqL P G lb encs Kq S Sp N w0)
    (hKt : ∀ {A B C : World}, Kq A B → Kq B C → Kq A C) (hKb : ∀ (W : World) (l : Nat) (o o' : Obj), w.heap.size ≤ l → W.heap[l]? = some o → o.isCells = false → Kq W (W.putObj l o')) (hb0 : Below w0.heap.size w0 w) (hps : ∀ x, (encs x).size = ps.size)
    (I : List α → World → Prop) (Ix : Code → List α → World → Prop) (hI : OwnFrom w.heap.size I) (hIx : ∀ c, OwnFrom w.heap.size (Ix c)) (h0 : I [] w) (Ax : Array Value → α → Array Value → World → Prop) (hAx : ∀ tm x t, OwnFrom w.heap.size (fun (_ : Unit) W => Ax tm x t W))
    (hassign : ∀ (l : Nat) (pre : List α) (x : α) (W : World) (K : Act → World → Prop), I pre W → (∀ t W', KeepsFrom w.heap.size W W' → Kq W W' → I pre W' → Ax a.tmps x t W' → K { tmps := t, defers := [] } W') →
      assign.wpIn (Fence.wide.inRound l) 3 P (Exit.then K (fun _ _ _ => False)) { tmps := (ps.zip (encs x)).foldl (fun t (p, v) => t.setIfInBounds p v) a.tmps, defers := [] } W)
    (hbody : ∀ (l : Nat) (pre : List α) (x : α) (t : Array Value) (W : World), I pre W → Ax a.tmps x t W → pre.length < N → body.wpIn (Fence.wide.inRound l) 3 P (ownPostG w.heap.size Kq I Ix (pre ++ [x]) W) { tmps := t, defers := [] } W)
    (hdone : ∀ (D : Nat) (xs : List α) (W : World), w.heap.size ≤ D → S xs → I xs W → W.heap[D]? = some (.deferred (some [])) → Q .normal { a with defers := { target := .collected D, args := #[] } :: a.defers } W)
    (hstop : ∀ (D : Nat) (c : Code) (pre : List α) (W : World), w.heap.size ≤ D → Sp pre → Ix c pre W → W.heap[D]? = some (.deferred (some [])) → c.wpIn Fence.wide 5 P Q { a with defers := { target := .collected D, args := #[] } :: a.defers } W) :
    (Code.rangeFunc g ps assign body).wp P Q a w := by
  refine wp_of_wide (wpIn_rangeFunc fun fn _ => ?_)
  obtain ⟨D, hD⟩ : ∃ D, D = w.heap.size := ⟨_, rfl⟩
  rw [← hD] at hKb hI hIx hAx hassign hbody hdone hstop
  obtain ⟨R, hR⟩ : ∃ R : LoopState → Option Code → Loop, R = fun st pe => { state := st, pending := pe, fn, tmps := a.tmps, params := ps, assign, body, defers := D } := ⟨_, rfl⟩
  have e1 : ∀ st pe, (R st pe).state = st := fun st pe => by rw [hR]
  have e2 : ∀ st pe, (R st pe).pending = pe := fun st pe => by rw [hR]
  have e3 : ∀ st pe st', { R st pe with state := st' } = R st' pe := fun st pe st' => by rw [hR]
  have e4 : ∀ st pe st' pe', { R st pe with state := st', pending := pe' } = R st' pe' := fun st pe st' pe' => by rw [hR]
  obtain ⟨W1, hW1⟩ : ∃ W1, W1 = (w.alloc (.deferred (some []))).alloc (.loop (R .ready none)) := ⟨_, rfl⟩
  have hL1 : Lp D (R .ready none) W1 := by rw [hW1, hD]; exact Lp.new w _
  have hI1 : I [] W1 := by rw [hW1]; exact hI.alloc _ (hI.alloc _ h0)
  have hs1 : W1.heap.size = D + 2 := by rw [hW1, hD]; simp
  have hb1 : Below w0.heap.size w0 W1 := by rw [hW1]; exact hb0.trans ((((Below.refl _ w).alloc (Nat.le_refl _) _).alloc (by simp) _).mono hb0.size)
  have hup : ∀ {β : Type} {f : β → World → Prop}, OwnFrom D f → OwnFrom W1.heap.size f := fun h s W V row hs hg hr => h s W V row hs hg fun r e => ⟨by have := (hr r e).1; omega, (hr r e).2⟩
  refine ⟨D + 1, [{ target := .collected D, args := #[] }], W1, { target := .fn (.func G) lb, args := #[.func (.yield (D + 1)) #[] #[]] }, W1, G, #[.func (.yield (D + 1)) #[] #[]] ++ lb, W1, ?_, ?_, fun _ _ => trivial, ?_, fun h => (by cases h), callsIn_wide.2 ?_⟩
  · rw [hW1, hR, hD]
    exact run_enterLoop_outer _ _ _ _ _
  · simp only [resolve, hg]
    simp [go_sem]
  · simp [invoke, go_sem, eg]
  refine (hseq (D + 1) (fun pre W => I pre W ∧ Lp D (R .ready none) W) (fun pre W => ∃ c, Ix c pre W ∧ Lp D (R .done (some c)) W) W1 hb1 (by omega)
    (fun s W V row hs hg hr => ⟨hup hI s W V row hs.1 hg hr, hs.2.grow (by omega) hg fun j e => (hr j e).1⟩)
    (fun s W V row hs hg hr => by
      obtain ⟨c, h1, h2⟩ := hs
      exact ⟨c, hup (hIx c) s W V row h1 hg hr, h2.grow (by omega) hg fun j e => (hr j e).1⟩) ?_ ⟨hI1, hL1⟩).mono ?_
  · rintro pre x V ⟨hi, hl⟩ hN
    have hy := run_yield (P := P) (args := encs x) hl.lp (by rw [hR]; exact hps x)
    have hyR : (Instr.yield (D + 1) (encs x)).run P V = .ok (.round (D + 1) fn ((ps.zip (encs x)).foldl (fun t (p, v) => t.setIfInBounds p v) a.tmps) assign body) V := by rw [hy, hR]
    refine ⟨fn, _, assign, body, hyR, roundIn_of_wpIn trivial (hassign _ pre x V _ hi fun tm V1 ka qa ia xa => ?_)⟩
    have hl1 := hl.keep ka
    have hbg := run_beginRound (P := P) hl1.lp (e1 _ _)
    rw [e3] at hbg
    have hl2 := hl1.put (R .busy none)
    have hq2 : Kq V (V1.putObj (D + 1) (.loop (R .busy none))) := hKt qa (hKb _ _ _ _ (by omega) hl1.lp rfl)
    have hk2 : KeepsFrom (D + 1 + 1) V (V1.putObj (D + 1) (.loop (R .busy none))) := (keeps_up ka (by omega)).trans (keeps_put (by omega))
    refine ⟨_, hbg, wpIn_mono (hbody _ pre x tm _ (hI.putObj _ ia (by omega) hl1.lp rfl) ((hAx _ x tm).putObj (s := ()) _ xa (by omega) hl1.lp rfl) hN) ?_⟩
    have hend : ∀ (j : Option Code) (V3 : World), Lp D (R .busy none) V3 → (Instr.endRound (D + 1) j).run P V3 = .ok (.bool j.isNone) (V3.putObj (D + 1) (.loop (R (if j.isNone then .ready else .done) j))) := fun j V3 h3 => by
      rw [run_endRound (P := P) j h3.lp, e4]
    have hdn : ∀ (c : Code) (V3 : World), KeepsFrom D (V1.putObj (D + 1) (.loop (R .busy none))) V3 ∧ Ix c (pre ++ [x]) V3 → ∃ v w', (Instr.endRound (D + 1) (some c)).run P V3 = .ok v w' ∧
        ((Ending.returned v = .returned (.bool true) ∧ (I (pre ++ [x]) w' ∧ Lp D (R .ready none) w') ∧ Kq V w' ∧ KeepsFrom (D + 1 + 1) V w') ∨ (Ending.returned v = .returned (.bool false) ∧ (∃ c, Ix c (pre ++ [x]) w' ∧ Lp D (R .done (some c)) w') ∧ KeepsFrom (D + 1 + 1) V w')) := fun c V3 h => by
      have h3 := hl2.keep h.1
      exact ⟨_, _, hend (some c) V3 h3, .inr ⟨rfl, ⟨c, (hIx c).putObj _ h.2 (by omega) h3.lp rfl, h3.put _⟩, (hk2.trans (keeps_up h.1 (by omega))).trans (keeps_put (by omega))⟩⟩
    intro e b V3 hp
    cases e with
    | normal =>
      obtain ⟨k1, k2, k3⟩ := hp
      have h3 := hl2.keep k1
      exact ⟨_, _, hend none V3 h3, .inl ⟨rfl, ⟨hI.putObj _ k3 (by omega) h3.lp rfl, h3.put _⟩, hKt (hKt hq2 k2) (hKb _ _ _ _ (by omega) h3.lp rfl), (hk2.trans (keeps_up k1 (by omega))).trans (keeps_put (by omega))⟩⟩
    | ret => exact hdn _ V3 hp
    | exit id => exact hdn _ V3 hp
    | goto t => exact hdn _ V3 hp
    | panic ch => exact hp.elim
    | outgrown => exact hp.elim
  · rintro e V ⟨⟨v, rfl⟩, ⟨xs, hS, hi, hl⟩ | ⟨pre, hS, c, hi, hl⟩⟩
    · have hel := run_endLoop (P := P) hl.lp (by rw [e1]; simp)
      rw [e2] at hel
      exact ⟨none, _, hel, hdone D xs _ (Nat.le_refl _) hS (hI.putObj _ hi (by omega) hl.lp rfl) (hl.put _).df⟩
    · have hel := run_endLoop (P := P) hl.lp (by rw [e1]; simp)
      rw [e2] at hel
      exact ⟨some c, _, hel, hstop D c pre _ (Nat.le_refl _) hS ((hIx c).putObj _ hi (by omega) hl.lp rfl) (hl.put _).df⟩

end Go.Proofs.YtagbeioooohbgaaGreatDoor
end

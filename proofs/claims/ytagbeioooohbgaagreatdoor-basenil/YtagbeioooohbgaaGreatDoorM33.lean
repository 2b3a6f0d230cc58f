import Derived.Test.YtagbeioooohbgaaGreatDoorM03
import Derived.Test.YtagbeioooohbgaaGreatDoorTie
import Derived.ProofKit
import Derived.LaidMore
import Derived.OpenShut
import Derived.Lay
import Derived.Stop.Joined
import Derived.SevenTiedAt
import Derived.SliceStrings
import Derived.Carry
import Derived.SizedLaws
import Derived.Shelf.Vars
import Derived.Test.YtagbeioooohbgaaGreatDoorM09
section
namespace Go.Proofs.YtagbeioooohbgaaGreatDoor
open Go.ChangeShapes Go.WideShapes Go.ChangeAt Go.WideMaps Go.WideElems Go.RowKit

theorem own : ownKnob Tryz.prog.godebug = none := by kernel_rfl
theorem laidOut : laidOutB Tryz.prog = true := by kernel_rfl
def laid1 : List (String × DataW Unit) := [("unicode/utf8.acceptRanges", Rows.laid_unicode_utf8_acceptRanges), ("unicode/utf8.first", Rows.laid_unicode_utf8_first)]

/-- The wrap, the world's shape kept, beside what the row lists. -/
theorem change_shaped {H : Type} {enc : TypeId × Value → H} {a : Assume} {C : Checked} {os : Os} {f : FuncId} {fn : Func} {s : ChangeSpec} {conds : List PathCond} {apart fresh handsOn again : Bool} {X : World → Array Value → Prop}
    (hX : ∀ (w w' : World) (args : Array Value), w.heap = w'.heap → X w args → X w' args)
    (own : ownKnob C.prog.godebug = none) (started : os.Started) (noInit : C.prog.inits.idxOf? f = none) (hfn : C.prog.funcs[f]? = some fn)
    (witness : ∃ (w : World) (tape : Tape) (i : Input), w.os = os ∧ (w.forCall tape i).Shaped C.prog ∧ i.vars = [] ∧ Input.okWide C.prog (w.forCall tape i) .any w.heap.size f i ∧
      ((s.pre enc C.prog fn conds apart (w.forCall tape i).memory i.args ∧ X (w.forCall tape i).memory i.args) ∧ sizedMet enc C.prog fn (OpenSpec.ofChange s) apart (w.forCall tape i).memory i.args) ∧ a.holds C.prog (lone (Frame.enter C.prog f i.args .normal) [] (w.forCall tape i)))
    (contract : ∀ (W : World) (base : Nat) (args : Array Value) (ds gs : List (DataW H)) (before : List MemPlace),
      (∀ (j : Nat) t v, fn.params[j]? = some t → args[j]? = some v → Value.okWide C.prog W .any base t v) →
      DataW.Whole enc C.prog fn.params.toList s.vars apart W args.toList ds gs before →
      (DataW.weightsEach C.prog (fn.params.toList ++ s.plain.varTypes C.prog) (ds ++ gs)).all (· ≤ reachBytes) = true → X W args → W.ShapedOpen C.prog →
      Calls C.prog f args W fun e W' => ∃ v, e = .returned v ∧ s.post enc C.prog fn apart fresh handsOn again W args v W') :
    ReturnsInHanded a C os f .any (fun w args => (s.pre enc C.prog fn conds apart w args ∧ X w args) ∧ sizedMet enc C.prog fn (OpenSpec.ofChange s) apart w args) (s.post enc C.prog fn apart fresh handsOn again) := by
  refine returnsInHanded_of_calls own started noInit witness ?_
  intro w tape i _ hsh _ hok hpre _
  obtain ⟨_, _, _, fn', hfn', _, _, _, _, hval⟩ := hok
  have e : fn' = fn := Option.some.inj (hfn'.symm.trans hfn)
  subst e
  obtain ⟨⟨⟨ds, gs, before, hw, _⟩, hx⟩, hz⟩ := hpre
  have hw' := DataW.Whole.of_heap (w' := w.forCall tape i) (by rfl) hw
  refine (contract (w.forCall tape i) w.heap.size i.args ds gs before hval hw' (hz.weights hw) (hX _ _ _ (by rfl) hx) hsh).mono fun e W' ⟨v, he, hp⟩ => ?_
  subst he
  exact ChangeSpec.post_blind hp

theorem ml_of {W : World} (h : W.ShapedOpen Tryz.prog) : Fi.Ml W := cell_of_shapedOpen_int (g := 1) (t := 3) (zero := #[.int .i64 0]) (k := .i64) h (of_decide_eq_true (by kernel_rfl)) (by kernel_rfl) rfl (by kernel_rfl) (by kernel_rfl) Tryz.underlying3

/-- What an argument of the type []rune is told to the walk as. -/
theorem ints_of_trod {H : Type} {enc : TypeId × Value → H} {W : World} {b : Nat} {sp : Nat → Bool} {hd : Bool} {A : Option Addr} {len cap : Nat} {d : DataW H} {p : List MemPlace}
    (h : DataW.Trod enc Tryz.prog W b sp hd 32 (.slice A len cap) d p) : ∃ l : List Int, len = l.length ∧ Fi.Ints .i32 W A l := by
  obtain ⟨fuel, hf⟩ := h
  rcases open_ints Tryz.underlying32 Tryz.underlying21 (by kernel_rfl) hf with ⟨hcs, _⟩ | ⟨x, l, c, zs, hcs, _, hl, hm, hz, _, hcell, hwz⟩
  · simp [Value.cells] at hcs
    obtain ⟨rfl, rfl, rfl⟩ := hcs
    exact ⟨[], rfl, fun i hi => by simp at hi⟩
  · simp [Value.cells] at hcs
    obtain ⟨rfl, rfl, rfl⟩ := hcs
    have hlz : len ≤ zs.length := by
      rw [hz]
      split <;> omega
    refine ⟨zs.take len, by simp [List.length_take]; omega, fun i hi => ?_⟩
    have hi' : i < len := by simp [List.length_take] at hi; omega
    have hc := hcell i (by omega)
    obtain ⟨bb, off, spot⟩ := x
    have hc0 := hcell 0 (by omega)
    have hspot : spot = none := by simpa [Addr.add] using World.cell?_spot hc0
    subst hspot
    have e : (⟨bb, off, none⟩ : Addr).add i = ⟨bb, off + i, none⟩ := by unfold Addr.add; split <;> simp_all
    rw [e] at hc
    refine ⟨bb, off, rfl, World.block_lt_of_cell? W _ hc, ?_⟩
    rw [hc]
    simp [hi']
end Go.Proofs.YtagbeioooohbgaaGreatDoor
end
section
namespace Go.Proofs.YtagbeioooohbgaaGreatDoor
open Go.ChangeShapes Go.WideShapes Go.ChangeAt Go.WideMaps Go.WideElems Go.RowKit

/-! The three tables that stage 8's rows list. -/
def laid3 : List (String × DataW Unit) := [("inkhorn/hangul.places", Rows.laid_inkhorn_hangul_places), ("unicode/utf8.acceptRanges", Rows.laid_unicode_utf8_acceptRanges), ("unicode/utf8.first", Rows.laid_unicode_utf8_first)]
theorem gPl : Tryz.prog.globalNamed "inkhorn/hangul.places" = some 0 := by kernel_rfl
theorem tPl : (Tryz.prog.globals[0]?).map (·.type) = some 147 := by kernel_rfl
theorem cP : Tryz.prog.cellsOf 146 = 4 := by kernel_rfl
theorem cR : Tryz.prog.cellsOf 21 = 1 := by kernel_rfl
theorem cP3 : Tryz.prog.cellsOf 147 = 12 := by kernel_rfl
set_option maxRecDepth 100000 in
theorem rowP {H : Type} {enc : TypeId × Value → H} {w : World} {base : Nat} {spare : Nat → Bool} {held : Bool} {fuel : Nat} {cs : List Value} {x : DataW H × List MemPlace} {a b c d : Int}
    (h : DataW.trod enc Tryz.prog w base spare held fuel 146 cs = some x) (hx : x.1 = .agg [.lit (.int .i32 a), .lit (.int .i32 b), .lit (.int .i32 c), .lit (.int .i32 d)]) : cs = [.int .i32 a, .int .i32 b, .int .i32 c, .int .i32 d] := by
  obtain ⟨ys, n, rfl, rfl, hl, hn, hf⟩ := DataW.trod_struct Tryz.underlying146 h
  rw [cP] at hl
  have h0 : DataW.trod enc Tryz.prog w base spare held n 21 ((cs.drop 0).take (Tryz.prog.cellsOf 21)) = ys[0]? := hf 0 _ rfl
  have h1 : DataW.trod enc Tryz.prog w base spare held n 21 ((cs.drop 1).take (Tryz.prog.cellsOf 21)) = ys[1]? := hf 1 _ rfl
  have h2 : DataW.trod enc Tryz.prog w base spare held n 21 ((cs.drop 2).take (Tryz.prog.cellsOf 21)) = ys[2]? := hf 2 _ rfl
  have h3 : DataW.trod enc Tryz.prog w base spare held n 21 ((cs.drop 3).take (Tryz.prog.cellsOf 21)) = ys[3]? := hf 3 _ rfl
  rw [cR] at h0 h1 h2 h3
  match ys, hn, hx, h0, h1, h2, h3 with
  | [y0, y1, y2, y3], _, hx, h0, h1, h2, h3 =>
    simp only [List.map_cons, List.map_nil, DataW.agg.injEq, List.cons.injEq, and_true] at hx
    match cs, hl, h0, h1, h2, h3 with
    | [v0, v1, v2, v3], _, h0, h1, h2, h3 =>
      obtain ⟨k0, e0, f0, _⟩ := DataW.trod_int Tryz.underlying21 (show DataW.trod enc Tryz.prog w base spare held n 21 _ = some y0 from h0)
      obtain ⟨k1, e1, f1, _⟩ := DataW.trod_int Tryz.underlying21 (show DataW.trod enc Tryz.prog w base spare held n 21 _ = some y1 from h1)
      obtain ⟨k2, e2, f2, _⟩ := DataW.trod_int Tryz.underlying21 (show DataW.trod enc Tryz.prog w base spare held n 21 _ = some y2 from h2)
      obtain ⟨k3, e3, f3, _⟩ := DataW.trod_int Tryz.underlying21 (show DataW.trod enc Tryz.prog w base spare held n 21 _ = some y3 from h3)
      subst f0 f1 f2 f3
      simp at e0 e1 e2 e3 hx
      obtain ⟨rfl, rfl, rfl, rfl⟩ := hx
      rw [e0, e1, e2, e3]

set_option maxRecDepth 100000 in
/-- What the condition on the listed variable gives: the table's cells. -/
theorem of_laid {W : World} (h : laidMetH Tryz.prog laid3 W) : Ha.Tab W := by
  rw [MakeChecks.laidMetH_plain _ _ _ (by kernel_rfl)] at h
  obtain ⟨ps, ⟨g0, t0, cs0, f0, p0, q0, hg0, ht0, hv0, hd0, _, _⟩, _, _⟩ := h
  obtain rfl := Option.some.inj (gPl.symm.trans hg0)
  obtain rfl := Option.some.inj (tPl.symm.trans ht0)
  have hc := fun i => World.var?_cell hg0 hv0 i
  obtain ⟨xs, m, rfl, hx, hl, hn, hel⟩ := DataW.trod_array Tryz.underlying147 hd0
  rw [cP3] at hl
  simp only [cP] at hel
  simp only [Prod.mk.injEq, Rows.laid_inkhorn_hangul_places, DataW.agg.injEq] at hx
  have e0 := hel 0 (by decide)
  have e1 := hel 1 (by decide)
  have e2 := hel 2 (by decide)
  match xs, hn, hx, e0, e1, e2 with
  | [x0, x1, x2], _, hx, e0, e1, e2 =>
    simp only [List.map_cons, List.map_nil, List.cons.injEq, and_true] at hx
    have r0 := rowP (show _ = some x0 from e0) hx.1.1.symm
    have r1 := rowP (show _ = some x1 from e1) hx.1.2.1.symm
    have r2 := rowP (show _ = some x2 from e2) hx.1.2.2.symm
    obtain ⟨l⟩ := cs0
    simp only at hl
    match l, hl, r0, r1, r2 with
    | [v0, v1, v2, v3, v4, v5, v6, v7, v8, v9, v10, v11], _, r0, r1, r2 =>
      simp at r0 r1 r2
      obtain ⟨rfl, rfl, rfl, rfl⟩ := r0
      obtain ⟨rfl, rfl, rfl, rfl⟩ := r1
      obtain ⟨rfl, rfl, rfl, rfl⟩ := r2
      exact ⟨by simpa using hc 0, by simpa using hc 1, by simpa using hc 2, by simpa using hc 3, by simpa using hc 4, by simpa using hc 5, by simpa using hc 6, by simpa using hc 7, by simpa using hc 8, by simpa using hc 9, by simpa using hc 10, by simpa using hc 11⟩

theorem cTx : Tryz.prog.cellsOf 23 = 2 := by kernel_rfl
theorem cSt : Tryz.prog.cellsOf 9 = 1 := by kernel_rfl
set_option maxRecDepth 100000 in
/-- An argument of the type Text. -/
theorem text_of_trod {H : Type} {enc : TypeId × Value → H} {W : World} {b : Nat} {sp : Nat → Bool} {hd : Bool} {cs : Array Value} {d : DataW H} {p : List MemPlace}
    (h : DataW.Trod enc Tryz.prog W b sp hd 23 (.agg cs) d p) : ∃ (s o : ByteArray), cs = #[.string s, .string o] ∧ s.size ≤ maxLen ∧ o.size ≤ maxLen := by
  obtain ⟨fuel, hf⟩ := h
  obtain ⟨ys, n, rfl, hx, hl, hn, hfd⟩ := DataW.trod_struct Tryz.underlying23 hf
  rw [cTx] at hl
  obtain ⟨l⟩ := cs
  simp only [Value.cells] at hl hfd
  have h0 : DataW.trod enc Tryz.prog W b sp hd n 9 ((l.drop 0).take (Tryz.prog.cellsOf 9)) = ys[0]? := hfd 0 _ rfl
  have h1 : DataW.trod enc Tryz.prog W b sp hd n 9 ((l.drop 1).take (Tryz.prog.cellsOf 9)) = ys[1]? := hfd 1 _ rfl
  rw [cSt] at h0 h1
  match ys, hn, h0, h1 with
  | [y0, y1], _, h0, h1 =>
    match l, hl, h0, h1 with
    | [v0, v1], _, h0, h1 =>
      obtain ⟨k0, e0, _, z0⟩ := DataW.trod_string Tryz.underlying9 (show DataW.trod enc Tryz.prog W b sp hd n 9 _ = some y0 from h0)
      obtain ⟨k1, e1, _, z1⟩ := DataW.trod_string Tryz.underlying9 (show DataW.trod enc Tryz.prog W b sp hd n 9 _ = some y1 from h1)
      simp at e0 e1
      exact ⟨k0, k1, by rw [e0, e1], z0, z1⟩
end Go.Proofs.YtagbeioooohbgaaGreatDoor
end

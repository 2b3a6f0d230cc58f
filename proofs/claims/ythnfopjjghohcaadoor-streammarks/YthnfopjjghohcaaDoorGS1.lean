import Derived.Laws.EntriesVeiled
import Derived.Test.YthnfopjjghohcaaDoorGU2
import Derived.Test.YthnfopjjghohcaaDoorGW3
import Derived.Test.YthnfopjjghohcaaDoorGD1
import Derived.Laws.AppendOwnNone
import Derived.Defers
import Derived.Shelf.Pu.Clone
import Derived.Test.YthnfopjjghohcaaDoorProg
import Derived.KernelRfl
namespace Go.Proofs.YthnfopjjghohcaaDoor.St
open Go.RowKit

/-- How a kind's bytes are decoded, and cut: the function values. -/
def fDec (k : Nat) : Value := if k = 5 then .func (.func 39) #[] #[] else .func (.func 41) #[.int .i64 (k : Int)] #[]
def fCut (k : Nat) : Value := if k = 5 then .func (.func 40) #[] #[] else .func (.func 42) #[.int .i64 (k : Int)] #[]
theorem mf (fn : Fn) (first cap : Array Value) (w : World) : (Instr.makeFunc fn first cap).run Tryd.prog w = .ok (.func fn first cap) w := rfl

set_option maxRecDepth 100000 in
set_option maxHeartbeats 1000000 in
theorem reader5 (w : World) : Calls Tryd.prog 27 #[.int .i64 5] w fun e w' => e = .returned (.tuple #[.agg #[.int .i64 5, fDec 5, fCut 5], .bool true]) ∧ Below w.heap.size w w' := by
  skip
  go_enter Tryd.func27, Tryd.ntmps27
  go_wp2
  exact bodyPost_ret (v := .tuple #[.agg #[.int .i64 5, .func (.func 39) #[] #[], .func (.func 40) #[] #[]], .bool true]) (by simp [results, Tryd.results27, go_sem]) rfl ⟨rfl, (Below.refl _ _).alloc (Nat.le_refl _) _⟩

set_option maxRecDepth 100000 in
set_option maxHeartbeats 1000000 in
theorem reader1 (w : World) : Calls Tryd.prog 27 #[.int .i64 1] w fun e w' => e = .returned (.tuple #[.agg #[.int .i64 1, fDec 1, fCut 1], .bool true]) ∧ Below w.heap.size w w' := by
  have hmf := mf
  go_enter Tryd.func27, Tryd.ntmps27
  go_wp2
  exact bodyPost_ret (v := .tuple #[.agg #[.int .i64 1, .func (.func 41) #[.int .i64 1] #[], .func (.func 42) #[.int .i64 1] #[]], .bool true]) (by simp [results, Tryd.results27, go_sem]) rfl ⟨rfl, (Below.refl _ _).alloc (Nat.le_refl _) _⟩

set_option maxRecDepth 100000 in
set_option maxHeartbeats 1000000 in
theorem reader2 (w : World) : Calls Tryd.prog 27 #[.int .i64 2] w fun e w' => e = .returned (.tuple #[.agg #[.int .i64 2, fDec 2, fCut 2], .bool true]) ∧ Below w.heap.size w w' := by
  have hmf := mf
  go_enter Tryd.func27, Tryd.ntmps27
  go_wp2
  exact bodyPost_ret (v := .tuple #[.agg #[.int .i64 2, .func (.func 41) #[.int .i64 2] #[], .func (.func 42) #[.int .i64 2] #[]], .bool true]) (by simp [results, Tryd.results27, go_sem]) rfl ⟨rfl, (Below.refl _ _).alloc (Nat.le_refl _) _⟩

set_option maxRecDepth 100000 in
set_option maxHeartbeats 1000000 in
theorem reader3 (w : World) : Calls Tryd.prog 27 #[.int .i64 3] w fun e w' => e = .returned (.tuple #[.agg #[.int .i64 3, fDec 3, fCut 3], .bool true]) ∧ Below w.heap.size w w' := by
  have hmf := mf
  go_enter Tryd.func27, Tryd.ntmps27
  go_wp2
  exact bodyPost_ret (v := .tuple #[.agg #[.int .i64 3, .func (.func 41) #[.int .i64 3] #[], .func (.func 42) #[.int .i64 3] #[]], .bool true]) (by simp [results, Tryd.results27, go_sem]) rfl ⟨rfl, (Below.refl _ _).alloc (Nat.le_refl _) _⟩

set_option maxRecDepth 100000 in
set_option maxHeartbeats 1000000 in
theorem reader4 (w : World) : Calls Tryd.prog 27 #[.int .i64 4] w fun e w' => e = .returned (.tuple #[.agg #[.int .i64 4, fDec 4, fCut 4], .bool true]) ∧ Below w.heap.size w w' := by
  have hmf := mf
  go_enter Tryd.func27, Tryd.ntmps27
  go_wp2
  exact bodyPost_ret (v := .tuple #[.agg #[.int .i64 4, .func (.func 41) #[.int .i64 4] #[], .func (.func 42) #[.int .i64 4] #[]], .bool true]) (by simp [results, Tryd.results27, go_sem]) rfl ⟨rfl, (Below.refl _ _).alloc (Nat.le_refl _) _⟩

theorem reader_any (k : Nat) (w : World) (h1 : 1 ≤ k) (h5 : k ≤ 5) : Calls Tryd.prog 27 #[.int .i64 (k : Int)] w fun e w' => e = .returned (.tuple #[.agg #[.int .i64 (k : Int), fDec k, fCut k], .bool true]) ∧ Below w.heap.size w w' := by
  have hk : k = 1 ∨ k = 2 ∨ k = 3 ∨ k = 4 ∨ k = 5 := by omega
  rcases hk with rfl | rfl | rfl | rfl | rfl
  · exact reader1 w
  · exact reader2 w
  · exact reader3 w
  · exact reader4 w
  · exact reader5 w
set_option maxRecDepth 100000 in
set_option maxHeartbeats 1000000 in
theorem reader_no (k : Int) (w : World) (h : k < 1 ∨ 5 < k) : Calls Tryd.prog 27 #[.int .i64 k] w fun e w' => e = .returned (.tuple #[.agg #[.int .i64 0, .nilFunc, .nilFunc], .bool false]) ∧ Below w.heap.size w w' := by
  have e5 : (k == 5) = false := by simp; omega
  have e1 : (k == 1) = false := by simp; omega
  have e2 : (k == 2) = false := by simp; omega
  have e3 : (k == 3) = false := by simp; omega
  have e4 : (k == 4) = false := by simp; omega
  clear h
  go_enter Tryd.func27, Tryd.ntmps27
  go_wp2
  exact bodyPost_ret (v := .tuple #[.agg #[.int .i64 0, .nilFunc, .nilFunc], .bool false]) (by simp [results, Tryd.results27, go_sem]) rfl ⟨rfl, (Below.refl _ _).alloc (Nat.le_refl _) _⟩
set_option maxRecDepth 100000 in
set_option maxHeartbeats 1000000 in
theorem wdecode_any (k : Nat) (pol : Int) (A : Option Addr) (c : Nat) (xs : List ByteArray) (w : World) (hT : Wd.Tab w) (hx : Strs w A c xs) (hn : xs.length ≤ 100000) (hs : (catB xs).size ≤ 100000) :
    Calls Tryd.prog 41 #[.int .i64 (k : Int), .int .i64 pol, .slice A xs.length c] w (DecPost w (Wd.decP k pol (bs (catB xs)))) := by
  have HD := Lib.hid (Wd.decode_any k pol A c xs w hT hx hn hs)
  clear hT hx hs
  generalize Wd.decP k pol (bs (catB xs)) = dd at *
  generalize xs.length = n at *
  clear hn
  go_enter Tryd.func41, Tryd.ntmps41
  go_wp2_with (go_at_call 56; refine HD.out.mono ?_; rintro e w' ⟨v1, v2, rfl, ho1, ho2, hb⟩; have O1 := Lib.hid ho1; have O2 := Lib.hid ho2; have HB := Lib.hid hb; clear ho1 ho2 hb)
  go_ret3
  exact ⟨v1, v2, rfl, O1.out, O2.out, HB.out⟩
set_option maxRecDepth 100000 in
set_option maxHeartbeats 1000000 in
theorem wcut_any (k : Nat) (s : ByteArray) (w : World) (hT : Wd.Tab w) (h1 : 1 ≤ k) (h4 : k ≤ 4) (hz : s.size ≤ 100000) :
    Calls Tryd.prog 42 #[.int .i64 (k : Int), .string s] w fun e w' => e = .returned (.int .i64 (Wd.cutK k (bs s) : Int)) ∧ Below w.heap.size w w' := by
  have HD := Lib.hid (Wd.cut_any k s w hT h1 h4 hz)
  clear hT hz h1 h4
  generalize Wd.cutK k (bs s) = dd at *
  go_enter Tryd.func42, Tryd.ntmps42
  go_wp2_with (go_at_call 57; refine HD.out.mono ?_; rintro e w' ⟨rfl, hb⟩; have HB := Lib.hid hb; clear hb)
  go_ret
  exact ⟨rfl, HB.out⟩
end Go.Proofs.YthnfopjjghohcaaDoor.St
namespace Go.Proofs.YthnfopjjghohcaaDoor.St
open Go.RowKit

/-- A decoder that lies in block B. -/
structure Dcd (w : World) (B : Nat) (fv : Value) (p : Nat) (wt : ByteArray) (k : Nat) (pol : Int) (gs ov : Bool) : Prop where
  blk : w.heap[B]? = some (.cells #[.int .i64 (p : Int), .string wt, fv, .int .i64 (k : Int), fDec k, fCut k, .int .i64 pol, .bool gs, .bool ov] 62 (0, 0))
section
variable {w w' : World} {B : Nat} {fv : Value} {p : Nat} {wt : ByteArray} {k : Nat} {pol : Int} {gs ov : Bool}
theorem Dcd.c0 (h : Dcd w B fv p wt k pol gs ov) : w.cell? ⟨B, 0, none⟩ = some (.int .i64 (p : Int)) := by simp [World.cell?, h.blk]
theorem Dcd.c1 (h : Dcd w B fv p wt k pol gs ov) : w.cell? ⟨B, 1, none⟩ = some (.string wt) := by simp [World.cell?, h.blk]
theorem Dcd.c2 (h : Dcd w B fv p wt k pol gs ov) : w.cell? ⟨B, 2, none⟩ = some fv := by simp [World.cell?, h.blk]
theorem Dcd.c3 (h : Dcd w B fv p wt k pol gs ov) : w.cell? ⟨B, 3, none⟩ = some (.int .i64 (k : Int)) := by simp [World.cell?, h.blk]
theorem Dcd.c4 (h : Dcd w B fv p wt k pol gs ov) : w.cell? ⟨B, 4, none⟩ = some (fDec k) := by simp [World.cell?, h.blk]
theorem Dcd.c5 (h : Dcd w B fv p wt k pol gs ov) : w.cell? ⟨B, 5, none⟩ = some (fCut k) := by simp [World.cell?, h.blk]
theorem Dcd.c6 (h : Dcd w B fv p wt k pol gs ov) : w.cell? ⟨B, 6, none⟩ = some (.int .i64 pol) := by simp [World.cell?, h.blk]
theorem Dcd.c7 (h : Dcd w B fv p wt k pol gs ov) : w.cell? ⟨B, 7, none⟩ = some (.bool gs) := by simp [World.cell?, h.blk]
theorem Dcd.c8 (h : Dcd w B fv p wt k pol gs ov) : w.cell? ⟨B, 8, none⟩ = some (.bool ov) := by simp [World.cell?, h.blk]
theorem Dcd.fr (h : Dcd w B fv p wt k pol gs ov) (o : Nat) : w.frozen? ⟨B, o, none⟩ = false := by simp [World.frozen?, h.blk]
theorem Dcd.lt (h : Dcd w B fv p wt k pol gs ov) : B < w.heap.size := (Array.getElem?_eq_some_iff.1 h.blk).1
theorem Dcd.of (h : Dcd w B fv p wt k pol gs ov) (hb : w'.heap[B]? = w.heap[B]?) : Dcd w' B fv p wt k pol gs ov := ⟨hb.trans h.blk⟩
theorem Dcd.set0 (h : Dcd w B fv p wt k pol gs ov) (x : Nat) : Dcd (w.setCell ⟨B, 0, none⟩ (.int .i64 (x : Int))) B fv x wt k pol gs ov := ⟨by simp [World.setCell, Array.getElem?_modify, h.blk]⟩
theorem Dcd.set1 (h : Dcd w B fv p wt k pol gs ov) (x : ByteArray) : Dcd (w.setCell ⟨B, 1, none⟩ (.string x)) B fv p x k pol gs ov := ⟨by simp [World.setCell, Array.getElem?_modify, h.blk]⟩
theorem Dcd.set2 (h : Dcd w B fv p wt k pol gs ov) (x : Value) : Dcd (w.setCell ⟨B, 2, none⟩ x) B x p wt k pol gs ov := ⟨by simp [World.setCell, Array.getElem?_modify, h.blk]⟩
theorem Dcd.setR (h : Dcd w B fv p wt k pol gs ov) (x : Nat) : Dcd (((w.setCell ⟨B, 3, none⟩ (.int .i64 (x : Int))).setCell ⟨B, 4, none⟩ (fDec x)).setCell ⟨B, 5, none⟩ (fCut x)) B fv p wt x pol gs ov := ⟨by simp [World.setCell, Array.getElem?_modify, h.blk]⟩
theorem Dcd.set7 (h : Dcd w B fv p wt k pol gs ov) (x : Bool) : Dcd (w.setCell ⟨B, 7, none⟩ (.bool x)) B fv p wt k pol x ov := ⟨by simp [World.setCell, Array.getElem?_modify, h.blk]⟩
theorem Dcd.set8 (h : Dcd w B fv p wt k pol gs ov) (x : Bool) : Dcd (w.setCell ⟨B, 8, none⟩ (.bool x)) B fv p wt k pol gs x := ⟨by simp [World.setCell, Array.getElem?_modify, h.blk]⟩
theorem Dcd.ne (h : Dcd w B fv p wt k pol gs ov) {b n e z : Nat} {v' : Value} {xs : List Value} (ho : w.ownsRow b e z v' n xs) (he : e ≠ 62) : v'.ownBlock ≠ some B := by
  intro hh
  rcases ho.2 with ⟨rfl, _⟩ | ⟨g, cap, cur, rfl, _, hg, _⟩
  · cases hh
  · have : g = B := by injection hh
    subst this
    rw [h.blk] at hg
    simp at hg
    exact he hg.2.symm
end
/-- What a step of a decoder leaves as it was: all but its block and its malformed units. -/
structure Stp (B : Nat) (w : World) (fv : Value) (w' : World) (fv' : Value) : Prop where
  os : w'.os = w.os
  tape : w'.tape = w.tape
  output : w'.output = w.output
  size : w.heap.size ≤ w'.heap.size
  block : ∀ i, i < w.heap.size → i ≠ B → fv.ownBlock ≠ some i → w'.heap[i]? = w.heap[i]?
  own : ∀ g, fv'.ownBlock = some g → fv.ownBlock = some g ∨ w.heap.size ≤ g
section
variable {w w' w'' : World} {B : Nat} {fv fv' fv'' : Value}
theorem Stp.refl (B : Nat) (w : World) (fv : Value) : Stp B w fv w fv := ⟨rfl, rfl, rfl, Nat.le_refl _, fun _ _ _ _ => rfl, fun _ h => .inl h⟩
theorem Stp.trans (h : Stp B w fv w' fv') (h' : Stp B w' fv' w'' fv'') : Stp B w fv w'' fv'' := by
  refine ⟨h'.os.trans h.os, h'.tape.trans h.tape, h'.output.trans h.output, Nat.le_trans h.size h'.size, fun i hi hB hf => ?_, fun g hg => ?_⟩
  · rw [h'.block i (Nat.lt_of_lt_of_le hi h.size) hB (fun he => ?_)]
    · exact h.block i hi hB hf
    · rcases h.own i he with h1 | h1
      · exact hf h1
      · omega
  · rcases h'.own g hg with h1 | h1
    · exact h.own g h1
    · exact .inr (Nat.le_trans h.size h1)
theorem Stp.drew (h : Stp B w fv w' fv') : Stp B w fv w'.drew fv' := ⟨h.os, h.tape, h.output, h.size, h.block, h.own⟩
theorem Stp.drewN (h : Stp B w fv w' fv') (n : Nat) : Stp B w fv (w'.drewN n) fv' := ⟨h.os, h.tape, h.output, h.size, h.block, h.own⟩
theorem Stp.bel (h : Stp B w fv w' fv') (hb : Below w'.heap.size w' w'') : Stp B w fv w'' fv' :=
  h.trans ⟨hb.os, hb.tape, hb.output, hb.size, fun i hi _ _ => hb.block i hi, fun _ h => .inl h⟩
theorem Stp.alloc (h : Stp B w fv w' fv') (o : Obj) : Stp B w fv (w'.alloc o) fv' := h.bel ((Below.refl _ _).alloc (Nat.le_refl _) _)
theorem Stp.set (h : Stp B w fv w' fv') (o : Nat) (x : Value) : Stp B w fv (w'.setCell ⟨B, o, none⟩ x) fv' :=
  h.trans ⟨rfl, rfl, rfl, by simp [World.setCell], fun i _ hB _ => Below.heap_setCell _ _ _ _ hB, fun _ h => .inl h⟩
/-- Below where a decoder began nothing turns. -/
theorem Stp.below (h : Stp B w fv w' fv') {base : Nat} (hb : base ≤ B) (hs : base ≤ w.heap.size) (ho : ∀ g, fv.ownBlock = some g → base ≤ g) : Below base w w' :=
  ⟨h.os, h.tape, h.output, h.size, fun i hi => h.block i (by omega) (by omega) (fun he => by have := ho i he; omega)⟩
/-- Another row stays. -/
theorem Stp.keep (h : Stp B w fv w' fv') {b n e z : Nat} {v : Value} {xs : List Value} (ho : w.ownsRow b e z v n xs) (hB : v.ownBlock ≠ some B) (hf : v.ownBlock = none ∨ v.ownBlock ≠ fv.ownBlock) : w'.ownsRow b e z v n xs := by
  refine ⟨ho.1, ?_⟩
  rcases ho.2 with h2 | ⟨g, cap, cur, h1, h2, h3, h4⟩
  · exact .inl h2
  · refine .inr ⟨g, cap, cur, h1, h2, ?_, h4⟩
    subst h1
    have hg : g < w.heap.size := (Array.getElem?_eq_some_iff.1 h3).1
    rw [h.block g hg (fun he => hB (by rw [he]; rfl)) (fun he => by rcases hf with hf | hf; cases hf; exact hf he.symm)]
    exact h3
end
/-- A decoder, and its malformed units. -/
structure Dc (w : World) (base B : Nat) (fv : Value) (p : Nat) (wt : ByteArray) (fl : List (Nat × Nat)) (k : Nat) (pol : Int) (gs ov : Bool) : Prop where
  d : Dcd w B fv p wt k pol gs ov
  f : w.ownsRow base 50 2 fv fl.length (flts fl)
  b : base ≤ B
section
variable {w w' : World} {base B : Nat} {fv fv' : Value} {p : Nat} {wt : ByteArray} {fl : List (Nat × Nat)} {k : Nat} {pol : Int} {gs ov : Bool}
theorem Dc.ne (h : Dc w base B fv p wt fl k pol gs ov) : fv.ownBlock ≠ some B := h.d.ne h.f (by decide)
theorem Dc.le (h : Dc w base B fv p wt fl k pol gs ov) : base ≤ w.heap.size := by have := h.d.lt; have := h.b; omega
theorem Dc.belowS (h : Dc w base B fv p wt fl k pol gs ov) (hs : Stp B w fv w' fv') : Below base w w' := hs.below h.b h.le (fun g hg => (h.f.lt g hg).1)
theorem Dc.bel (h : Dc w base B fv p wt fl k pol gs ov) (hb : Below w.heap.size w w') : Dc w' base B fv p wt fl k pol gs ov := ⟨h.d.of (hb.block B h.d.lt), own_below h.f hb, h.b⟩
theorem Dc.drew (h : Dc w base B fv p wt fl k pol gs ov) : Dc w.drew base B fv p wt fl k pol gs ov := ⟨⟨h.d.blk⟩, h.f, h.b⟩
theorem Dc.drewN (h : Dc w base B fv p wt fl k pol gs ov) (n : Nat) : Dc (w.drewN n) base B fv p wt fl k pol gs ov := ⟨⟨h.d.blk⟩, h.f, h.b⟩
/-- A row of another kind lies elsewhere, and stays. -/
theorem Dc.keep (h : Dc w base B fv p wt fl k pol gs ov) (hs : Stp B w fv w' fv') {b n e z : Nat} {v : Value} {xs : List Value} (ho : w.ownsRow b e z v n xs) (he : e ≠ 62) (hf : e ≠ 50) : w'.ownsRow b e z v n xs :=
  hs.keep ho (h.d.ne ho he) (own_apart ho h.f hf)
/-- Another decoder stays. -/
theorem Dc.other (h : Dc w base B fv p wt fl k pol gs ov) (hs : Stp B w fv w' fv') {base2 B2 : Nat} {fv2 : Value} {p2 : Nat} {wt2 : ByteArray} {fl2 : List (Nat × Nat)} {k2 : Nat} {pol2 : Int} {gs2 ov2 : Bool}
    (h2 : Dc w base2 B2 fv2 p2 wt2 fl2 k2 pol2 gs2 ov2) (hB : B2 ≠ B) (hf : fv2.ownBlock = none ∨ fv2.ownBlock ≠ fv.ownBlock) : Dc w' base2 B2 fv2 p2 wt2 fl2 k2 pol2 gs2 ov2 :=
  ⟨h2.d.of (hs.block B2 h2.d.lt hB (h2.d.ne h.f (by decide))), hs.keep h2.f (h.d.ne h2.f (by decide)) hf, h2.b⟩
theorem Dc.set0 (h : Dc w base B fv p wt fl k pol gs ov) (x : Nat) : Dc (w.setCell ⟨B, 0, none⟩ (.int .i64 (x : Int))) base B fv x wt fl k pol gs ov := ⟨h.d.set0 x, own_set h.f h.ne _, h.b⟩
theorem Dc.set1 (h : Dc w base B fv p wt fl k pol gs ov) (x : ByteArray) : Dc (w.setCell ⟨B, 1, none⟩ (.string x)) base B fv p x fl k pol gs ov := ⟨h.d.set1 x, own_set h.f h.ne _, h.b⟩
theorem Dc.setR (h : Dc w base B fv p wt fl k pol gs ov) (x : Nat) : Dc (((w.setCell ⟨B, 3, none⟩ (.int .i64 (x : Int))).setCell ⟨B, 4, none⟩ (fDec x)).setCell ⟨B, 5, none⟩ (fCut x)) base B fv p wt fl x pol gs ov := ⟨h.d.setR x, own_set (own_set (own_set h.f h.ne _) h.ne _) h.ne _, h.b⟩
theorem Dc.set7 (h : Dc w base B fv p wt fl k pol gs ov) (x : Bool) : Dc (w.setCell ⟨B, 7, none⟩ (.bool x)) base B fv p wt fl k pol x ov := ⟨h.d.set7 x, own_set h.f h.ne _, h.b⟩
theorem Dc.set8 (h : Dc w base B fv p wt fl k pol gs ov) (x : Bool) : Dc (w.setCell ⟨B, 8, none⟩ (.bool x)) base B fv p wt fl k pol gs x := ⟨h.d.set8 x, own_set h.f h.ne _, h.b⟩
end
/-- Onto a row of its own, all of another row. -/
theorem wpList_append_row {P : Program} {w : World} {ops : Array Oper} {rest : List Oper} {o : Oper} {a : Act} {Q : Exit → Act → World → Prop} (hgd : o.guard = none) (s x : Operand) (t : TypeId)
    (ho : o.op = .call { callee := .builtin .append, args := #[s, x], argTypes := #[t, t] })
    (base : Nat) (e : TypeId) (i : TypeInfo) (z : Value) (size bytes : Nat) (ht : P.underlying t = some (.slice e)) (hi : P.info? e = some i) (hz : i.zero = some z)
    (hsize : i.size = size) (hby : i.bytes = bytes) (hzs : z.cells.size = size) (hsz : 0 < size)
    (v : Value) (n : Nat) (xs : List Value) (hs : a.eval s = v) (hown : w.ownsRow base e size v n xs)
    (base2 : Nat) (v2 : Value) (m : Nat) (ys : List Value) (hx : a.eval x = v2) (hown2 : w.ownsRow base2 e size v2 m ys) (h1 : ∀ u ∈ ys, u.oneCell' = true)
    (h63 : n + m ≤ maxLen) (hbytes : (n + m) * bytes ≤ 140737488355328) (hbase : base ≤ w.heap.size)
    (h : ∀ v' w', w'.ownsRow base e size v' (n + m) (xs ++ ys) → w.grownBy w' v.ownBlock → (v'.ownBlock = v.ownBlock ∨ v'.ownBlock = some w.heap.size) → wpList P ops Q rest (a.put o.dst v') w') :
    wpList P ops Q (o :: rest) a w := by
  have hl := hown2.1
  rcases hown2.2 with ⟨rfl, rfl⟩ | ⟨g, cap, cur, rfl, _⟩
  · have : ys = [] := List.eq_nil_of_length_eq_zero (by rw [hl]; simp)
    subst this
    refine wpList_append_own_none hgd s x t ho base e i size ht hi v n xs hs hown hx ?_
    exact h v w (by simpa using hown) ⟨rfl, rfl, rfl, Nat.le_refl _, fun _ _ _ => rfl⟩ (.inl rfl)
  · refine wpList_append_own_at _ hgd s x t ho base e i z size bytes ht hi hz hsize hby hzs hsz v n xs hs hown ⟨g, 0, none⟩ m cap ys hx hl (hown2.cells (g := g) rfl) h1 h63 hbytes hbase ?_
    intro v' w' h2 h3 _ h5
    exact h v' w' h2 h3 h5
theorem i32s_one (l : List Int) : ∀ u ∈ i32s l, u.oneCell' = true := by
  intro u hu
  simp only [i32s, List.mem_map] at hu
  obtain ⟨x, _, rfl⟩ := hu
  rfl
theorem flts_one (l : List (Nat × Nat)) : ∀ u ∈ flts l, u.oneCell' = true := by
  intro u hu
  simp only [flts, List.mem_flatMap] at hu
  obtain ⟨x, _, hx⟩ := hu
  simp at hx
  rcases hx with rfl | rfl <;> rfl
end Go.Proofs.YthnfopjjghohcaaDoor.St
namespace Go.Proofs.YthnfopjjghohcaaDoor.St
open Go.RowKit
set_option maxRecDepth 100000
set_option maxHeartbeats 1000000
theorem add_any (base B : Nat) (fv : Value) (p : Nat) (wt : ByteArray) (fl : List (Nat × Nat)) (k : Nat) (pol : Int) (gs ov : Bool) (s : ByteArray) (w : World) (h : Dc w base B fv p wt fl k pol gs ov) (hp : p ≤ 100000) (hw : wt.size ≤ 100000) (hs : s.size ≤ 100000) :
    Calls Tryd.prog 23 #[.pointer (some ⟨B, 0, none⟩), .string s] w fun e w' => e = .returned (.tuple #[]) ∧ Dc w' base B fv (p + s.size) (wt ++ s) fl k pol gs ov ∧ Stp B w fv w' fv := by
  have c0 := h.d.c0
  have c1 := h.d.c1
  have f0 := h.d.fr 0
  have f1 := h.d.fr 1
  have H := Lib.hid ((h.set0 (p + s.size)).set1 (wt ++ s))
  have HS := Lib.hid (((Stp.refl B w fv).set 0 (.int .i64 ((p + s.size : Nat) : Int))).set 1 (.string (wt ++ s)))
  have hsum : wt.size + s.size ≤ 9223372036854775807 := by omega
  have hpn : ((p + s.size : Nat) : Int) = (p : Int) + (s.size : Int) := by omega
  rw [hpn] at H HS
  clear h hpn
  go_enter Tryd.func23, Tryd.ntmps23
  go_wp2
  go_end0
  exact ⟨rfl, H.out, HS.out⟩

theorem end_any (base B : Nat) (fv : Value) (p : Nat) (wt : ByteArray) (fl : List (Nat × Nat)) (k : Nat) (pol : Int) (gs ov : Bool) (w : World) (h : Dc w base B fv p wt fl k pol gs ov) :
    Calls Tryd.prog 30 #[.pointer (some ⟨B, 0, none⟩)] w fun e w' => e = .returned (.tuple #[]) ∧ Dc w' base B fv p ⟨#[]⟩ fl k pol gs true ∧ Stp B w fv w' fv := by
  have c1 := h.d.c1
  have c8 := h.d.c8
  have f1 := h.d.fr 1
  have f8 := h.d.fr 8
  have H := Lib.hid ((h.set1 ⟨#[]⟩).set8 true)
  have HS := Lib.hid (((Stp.refl B w fv).set 1 (.string ⟨#[]⟩)).set 8 (.bool true))
  clear h
  go_enter Tryd.func30, Tryd.ntmps30
  go_wp2
  go_end0
  exact ⟨rfl, H.out, HS.out⟩
theorem end_deferred (base B : Nat) (fv : Value) (p : Nat) (wt : ByteArray) (fl : List (Nat × Nat)) (k : Nat) (pol : Int) (gs ov : Bool) (u : FrameMode) (w : World) (h : Dc w base B fv p wt fl k pol gs ov) :
    CallsD Tryd.prog 30 #[.pointer (some ⟨B, 0, none⟩)] u w fun e u' w' => u' = u ∧ (e = .returned (.tuple #[]) ∧ Dc w' base B fv p ⟨#[]⟩ fl k pol gs true ∧ Stp B w fv w' fv) := by
  have c1 := h.d.c1
  have c8 := h.d.c8
  have f1 := h.d.fr 1
  have f8 := h.d.fr 8
  have H := Lib.hid ((h.set1 ⟨#[]⟩).set8 true)
  have HS := Lib.hid (((Stp.refl B w fv).set 1 (.string ⟨#[]⟩)).set 8 (.bool true))
  clear h
  go_enter_d Tryd.func30, Tryd.ntmps30
  go_wp2
  go_end0
  exact ⟨rfl, H.out, HS.out⟩

theorem refuses_ok (base B : Nat) (fv : Value) (p : Nat) (wt : ByteArray) (fl : List (Nat × Nat)) (k : Nat) (pol : Int) (gs : Bool) (w : World) (h : Dc w base B fv p wt fl k pol gs false) :
    Calls Tryd.prog 28 #[.pointer (some ⟨B, 0, none⟩)] w fun e w' => e = .returned (.int .i64 0) ∧ w = w' := by
  have c8 := h.d.c8
  clear h
  go_enter Tryd.func28, Tryd.ntmps28
  go_wp2
  go_ret
  exact ⟨rfl, rfl⟩

theorem refuses_over (base B : Nat) (fv : Value) (p : Nat) (wt : ByteArray) (fl : List (Nat × Nat)) (k : Nat) (pol : Int) (gs : Bool) (w : World) (h : Dc w base B fv p wt fl k pol gs true) :
    Calls Tryd.prog 28 #[.pointer (some ⟨B, 0, none⟩)] w fun e w' => e = .returned (.int .i64 21) ∧ w = w' := by
  have c8 := h.d.c8
  clear h
  go_enter Tryd.func28, Tryd.ntmps28
  go_wp2
  go_ret
  exact ⟨rfl, rfl⟩

theorem refuses_nil (w : World) : Calls Tryd.prog 28 #[.pointer none] w fun e w' => e = .returned (.int .i64 2) ∧ w = w' := by
  go_enter Tryd.func28, Tryd.ntmps28
  go_wp2
  go_ret
  exact ⟨rfl, rfl⟩

theorem kind_any (base B : Nat) (fv : Value) (p : Nat) (wt : ByteArray) (fl : List (Nat × Nat)) (k : Nat) (pol : Int) (gs ov : Bool) (w : World) (h : Dc w base B fv p wt fl k pol gs ov) :
    Calls Tryd.prog 19 #[.pointer (some ⟨B, 0, none⟩)] w fun e w' => e = .returned (.int .i64 (k : Int)) ∧ w = w' := by
  have c0 := h.d.c3
  clear h
  go_enter Tryd.func19, Tryd.ntmps19
  go_wp2
  go_ret
  exact ⟨rfl, rfl⟩
theorem kind_nil (w : World) : Calls Tryd.prog 19 #[.pointer none] w fun e w' => e = .returned (.int .i64 0) ∧ w = w' := by
  go_enter Tryd.func19, Tryd.ntmps19
  go_wp2
  go_ret
  exact ⟨rfl, rfl⟩

theorem waits_any (base B : Nat) (fv : Value) (p : Nat) (wt : ByteArray) (fl : List (Nat × Nat)) (k : Nat) (pol : Int) (gs ov : Bool) (w : World) (h : Dc w base B fv p wt fl k pol gs ov) :
    Calls Tryd.prog 20 #[.pointer (some ⟨B, 0, none⟩)] w fun e w' => e = .returned (.string wt) ∧ w = w' := by
  have c0 := h.d.c1
  clear h
  go_enter Tryd.func20, Tryd.ntmps20
  go_wp2
  go_ret
  exact ⟨rfl, rfl⟩
theorem waits_nil (w : World) : Calls Tryd.prog 20 #[.pointer none] w fun e w' => e = .returned (.string ⟨#[]⟩) ∧ w = w' := by
  go_enter Tryd.func20, Tryd.ntmps20
  go_wp2
  go_ret
  exact ⟨rfl, rfl⟩

theorem at_any (base B : Nat) (fv : Value) (p : Nat) (wt : ByteArray) (fl : List (Nat × Nat)) (k : Nat) (pol : Int) (gs ov : Bool) (w : World) (h : Dc w base B fv p wt fl k pol gs ov) :
    Calls Tryd.prog 21 #[.pointer (some ⟨B, 0, none⟩)] w fun e w' => e = .returned (.int .i64 (p : Int)) ∧ w = w' := by
  have c0 := h.d.c0
  clear h
  go_enter Tryd.func21, Tryd.ntmps21
  go_wp2
  go_ret
  exact ⟨rfl, rfl⟩
theorem at_nil (w : World) : Calls Tryd.prog 21 #[.pointer none] w fun e w' => e = .returned (.int .i64 0) ∧ w = w' := by
  go_enter Tryd.func21, Tryd.ntmps21
  go_wp2
  go_ret
  exact ⟨rfl, rfl⟩

/-- What is taken of the bytes that wait. -/
theorem take_any (base B : Nat) (fv : Value) (p : Nat) (wt : ByteArray) (fl : List (Nat × Nat)) (k : Nat) (pol : Int) (gs ov : Bool) (n : Nat) (w : World) (h : Dc w base B fv p wt fl k pol gs ov) (hp : p ≤ 100000) (hn : n ≤ wt.size) (hw : wt.size ≤ p) :
    Calls Tryd.prog 46 #[.pointer (some ⟨B, 0, none⟩), .int .i64 (n : Int)] w fun e w' => e = .returned (.tuple #[.string (wt.extract 0 n), .int .i64 ((p - wt.size : Nat) : Int)]) ∧ Dc w' base B fv p (wt.extract n wt.size) fl k pol gs ov ∧ Stp B w fv w' fv := by
  have c0 := h.d.c0
  have c1 := h.d.c1
  have f1 := h.d.fr 1
  have H := Lib.hid (fun q => (h.drewN q).set1 (wt.extract n wt.size))
  have HS := Lib.hid (fun q => ((Stp.refl B w fv).drewN q).set 1 (.string (wt.extract n wt.size)))
  have hn' : (n : Int) ≤ wt.size := by omega
  have hn0 : (0 : Int) ≤ n := by omega
  have hpn : ((p - wt.size : Nat) : Int) = (p : Int) - (wt.size : Int) := by omega
  rw [hpn]
  clear h hpn
  go_enter Tryd.func46, Tryd.ntmps46
  go_wp2_with fail
  go_quiet (fail)
  go_wp2
  go_ret2
  exact ⟨rfl, H.out _, HS.out _⟩
end Go.Proofs.YthnfopjjghohcaaDoor.St
/- The contract of strings.Clone over this program (the shelf's, laid in plain words). -/
namespace Go.Proofs
open Go.Shelf
def Tryd.laysPu25_ren : Go.Shelf.Ren := ⟨fun | 25 => 60 | n => n, fun | 0 => 0 | 3 => 3 | 4 => 4 | 5 => 5 | 9 => 9 | 37 => 92 | 47 => 115 | n => n, fun | n => n⟩
theorem Tryd.laysPu25 : LaysPu.n25 Tryd.prog Tryd.laysPu25_ren := {
  mixed := by kernel_rfl
  f25 := Tryd.func60.trans (congrArg some (by kernel_rfl))
  t0 := Tryd.underlying0
  a0 := Tryd.isAgg0
  z0 := Tryd.sizeOf0
  v0 := Tryd.zeroValue0
  i0 := by kernel_rfl
  t3 := Tryd.underlying3
  a3 := Tryd.isAgg3
  z3 := Tryd.sizeOf3
  v3 := Tryd.zeroValue3
  i3 := by kernel_rfl
  t4 := Tryd.underlying4
  a4 := Tryd.isAgg4
  z4 := Tryd.sizeOf4
  v4 := Tryd.zeroValue4
  i4 := by kernel_rfl
  t5 := Tryd.underlying5
  a5 := Tryd.isAgg5
  z5 := Tryd.sizeOf5
  v5 := Tryd.zeroValue5
  i5 := by kernel_rfl
  t9 := Tryd.underlying9
  a9 := Tryd.isAgg9
  z9 := Tryd.sizeOf9
  v9 := Tryd.zeroValue9
  i9 := by kernel_rfl
  t37 := Tryd.underlying92
  a37 := Tryd.isAgg92
  z37 := Tryd.sizeOf92
  v37 := Tryd.zeroValue92
  i37 := by kernel_rfl
  t47 := Tryd.underlying115
  a47 := Tryd.isAgg115
  z47 := Tryd.sizeOf115
  v47 := Tryd.zeroValue115
  i47 := by kernel_rfl
}
theorem Tryd.stringslite_Clone (s : ByteArray) (w : World) (hlim : s.size ≤ 281474976710656) : Calls Tryd.prog 60 #[.string s] w fun e w' => e = .returned (.string s) ∧ Go.RowKit.Below w.heap.size w w' :=
  AnyPu.stringslite_Clone Tryd.laysPu25 s w hlim
end Go.Proofs
namespace Go.Proofs.YthnfopjjghohcaaDoor.St
open Go.RowKit
set_option maxRecDepth 100000
set_option maxHeartbeats 1000000
theorem clone_any (s : ByteArray) (w : World) (hs : s.size ≤ 100000) : Calls Tryd.prog 44 #[.string s] w fun e w' => e = .returned (.string s) ∧ Below w.heap.size w w' := by
  have HC := Lib.hid (Tryd.stringslite_Clone s w (by omega))
  go_enter Tryd.func44, Tryd.ntmps44
  go_wp2_with (go_at_call 60; refine HC.out.mono ?_; rintro e w' ⟨rfl, hb⟩; have HB := Lib.hid hb; clear hb)
  go_ret
  exact ⟨rfl, HB.out⟩
theorem own_any (base B : Nat) (fv : Value) (p : Nat) (wt : ByteArray) (fl : List (Nat × Nat)) (k : Nat) (pol : Int) (gs ov : Bool) (w : World) (h : Dc w base B fv p wt fl k pol gs ov) (hw : wt.size ≤ 100000) :
    Calls Tryd.prog 31 #[.pointer (some ⟨B, 0, none⟩)] w fun e w' => e = .returned (.tuple #[]) ∧ Dc w' base B fv p wt fl k pol gs ov ∧ Stp B w fv w' fv := by
  have c1 := h.d.c1
  have HC := Lib.hid (clone_any wt w hw)
  have H := Lib.hid h
  clear h
  go_enter Tryd.func31, Tryd.ntmps31
  go_wp2_with (go_at_call 44; refine HC.out.mono ?_; rintro e w1 ⟨rfl, hb⟩; have H1 := Lib.hid (H.out.bel hb); have HS := Lib.hid ((Stp.refl B w fv).bel hb); have q1 := H1.out.d.c1; have f1 := H1.out.d.fr 1; clear hb)
  go_end0
  exact ⟨rfl, H1.out.set1 wt, HS.out.set 1 _⟩
theorem new_nok (k pol : Int) (gs : Bool) (w : World) (h : k < 1 ∨ 5 < k) :
    Calls Tryd.prog 15 #[.int .i64 k, .int .i64 pol, .bool gs] w fun e w' => e = .returned (.tuple #[.pointer none, .int .i64 16]) ∧ Below w.heap.size w w' := by
  have HR := Lib.hid (reader_no k w h)
  clear h
  go_enter Tryd.func15, Tryd.ntmps15
  go_wp2_with (go_at_call 27; refine HR.out.mono ?_; rintro e w1 ⟨rfl, hb⟩; have HB := Lib.hid hb; clear hb)
  go_ret2
  exact ⟨rfl, HB.out.alloc HB.out.size _⟩
theorem new5_ok (pol : Int) (gs : Bool) (w : World) (hT : U8.Tab w) (hq : pol = 1 ∨ pol = 2 ∨ pol = 3) :
    Calls Tryd.prog 15 #[.int .i64 5, .int .i64 pol, .bool gs] w fun e w' => ∃ B, e = .returned (.tuple #[.pointer (some ⟨B, 0, none⟩), .int .i64 0]) ∧ Dc w' w.heap.size B (.slice none 0 0) 0 ⟨#[]⟩ [] 5 pol gs false ∧ Below w.heap.size w w' := by
  have hfd : fDec 5 = .func (.func 39) #[] #[] := rfl
  have hfc : fCut 5 = .func (.func 40) #[] #[] := rfl
  have hdp : U8.decP pol (bs (catB [])) = ([], [], 0) := by unfold U8.decP; rw [if_pos hq]; rfl
  have hpos := hT.pos
  have HT := Lib.hid hT
  have HD := Lib.hid (fun W (hW : U8.Tab W) => U8.decode_any pol none 0 [] W hW (.inl rfl) (by simp) (Nat.zero_le _))
  rw [hdp] at HD
  have HR := Lib.hid (reader5 w)
  rw [hfd, hfc] at HR
  have HFD := Lib.hid hfd
  have HFC := Lib.hid hfc
  clear hT hdp hfd hfc hq
  go_enter Tryd.func15, Tryd.ntmps15
  go_wp2_with (first
    | (go_at_call 27; refine HR.out.mono ?_; rintro e w1 ⟨rfl, hb⟩; have B1 := Lib.hid hb; have z1 := hb.size; clear hb)
    | (go_at_call 39; refine (HD.out _ ((HT.out.below B1.out hpos).below ((Below.refl _ w1).alloc (Nat.le_refl _) _) (by omega))).mono ?_; rintro e w2 ⟨v1, v2, rfl, ho1, ho2, hb⟩; have B2 := Lib.hid ((B1.out.alloc z1 _).trans (hb.mono (by simp; omega))); have k0 := (hb.cell (p := ⟨w1.heap.size, 0, none⟩) (by simp)); have k1 := (hb.cell (p := ⟨w1.heap.size, 1, none⟩) (by simp)); have k2 := (hb.cell (p := ⟨w1.heap.size, 2, none⟩) (by simp)); simp at k0 k1 k2; clear ho1 ho2 hb))
  go_ret2
  exact ⟨_, rfl, ⟨⟨by rw [HFD.out, HFC.out]; exact heap_alloc_new _ _⟩, World.ownsRow_nil _ _ _ _, B2.out.size⟩, B2.out.alloc B2.out.size _⟩
theorem new5_nop (pol : Int) (gs : Bool) (w : World) (hT : U8.Tab w) (hq : ¬ (pol = 1 ∨ pol = 2 ∨ pol = 3)) :
    Calls Tryd.prog 15 #[.int .i64 5, .int .i64 pol, .bool gs] w fun e w' => e = .returned (.tuple #[.pointer none, .int .i64 16]) ∧ Below w.heap.size w w' := by
  have hfd : fDec 5 = .func (.func 39) #[] #[] := rfl
  have hfc : fCut 5 = .func (.func 40) #[] #[] := rfl
  have hdp : U8.decP pol (bs (catB [])) = ([], [], 16) := by unfold U8.decP; rw [if_neg hq]
  have hpos := hT.pos
  have HT := Lib.hid hT
  have HD := Lib.hid (fun W (hW : U8.Tab W) => U8.decode_any pol none 0 [] W hW (.inl rfl) (by simp) (Nat.zero_le _))
  rw [hdp] at HD
  have HR := Lib.hid (reader5 w)
  rw [hfd, hfc] at HR
  have HFD := Lib.hid hfd
  have HFC := Lib.hid hfc
  clear hT hdp hfd hfc hq
  go_enter Tryd.func15, Tryd.ntmps15
  go_wp2_with (first
    | (go_at_call 27; refine HR.out.mono ?_; rintro e w1 ⟨rfl, hb⟩; have B1 := Lib.hid hb; have z1 := hb.size; clear hb)
    | (go_at_call 39; refine (HD.out _ ((HT.out.below B1.out hpos).below ((Below.refl _ w1).alloc (Nat.le_refl _) _) (by omega))).mono ?_; rintro e w2 ⟨v1, v2, rfl, ho1, ho2, hb⟩; have B2 := Lib.hid ((B1.out.alloc z1 _).trans (hb.mono (by simp; omega))); have k0 := (hb.cell (p := ⟨w1.heap.size, 0, none⟩) (by simp)); have k1 := (hb.cell (p := ⟨w1.heap.size, 1, none⟩) (by simp)); have k2 := (hb.cell (p := ⟨w1.heap.size, 2, none⟩) (by simp)); simp at k0 k1 k2; clear ho1 ho2 hb))
  go_ret2
  exact ⟨rfl, B2.out⟩
theorem newW_ok (k : Nat) (pol : Int) (gs : Bool) (w : World) (hT : Wd.Tab w) (h1 : 1 ≤ k) (h4 : k ≤ 4) (hq : pol = 1 ∨ pol = 2 ∨ pol = 3) :
    Calls Tryd.prog 15 #[.int .i64 (k : Int), .int .i64 pol, .bool gs] w fun e w' => ∃ B, e = .returned (.tuple #[.pointer (some ⟨B, 0, none⟩), .int .i64 0]) ∧ Dc w' w.heap.size B (.slice none 0 0) 0 ⟨#[]⟩ [] k pol gs false ∧ Below w.heap.size w w' := by
  have hfd : fDec k = .func (.func 41) #[.int .i64 (k : Int)] #[] := if_neg (by omega)
  have hfc : fCut k = .func (.func 42) #[.int .i64 (k : Int)] #[] := if_neg (by omega)
  have hdp : Wd.decP k pol (bs (catB [])) = ([], [], 0) := by unfold Wd.decP; rw [if_pos ⟨by omega, hq⟩]; rfl
  have hpos := hT.pos
  have HT := Lib.hid hT
  have HD := Lib.hid (fun W (hW : Wd.Tab W) => wdecode_any k pol none 0 [] W hW (.inl rfl) (by simp) (Nat.zero_le _))
  rw [hdp] at HD
  have HR := Lib.hid (reader_any k w h1 (by omega))
  rw [hfd, hfc] at HR
  have HFD := Lib.hid hfd
  have HFC := Lib.hid hfc
  clear hT hdp hfd hfc hq
  go_enter Tryd.func15, Tryd.ntmps15
  go_wp2_with (first
    | (go_at_call 27; refine HR.out.mono ?_; rintro e w1 ⟨rfl, hb⟩; have B1 := Lib.hid hb; have z1 := hb.size; clear hb)
    | (go_at_call 41; refine (HD.out _ ((HT.out.below B1.out hpos).below ((Below.refl _ w1).alloc (Nat.le_refl _) _) (by omega))).mono ?_; rintro e w2 ⟨v1, v2, rfl, ho1, ho2, hb⟩; have B2 := Lib.hid ((B1.out.alloc z1 _).trans (hb.mono (by simp; omega))); have k0 := (hb.cell (p := ⟨w1.heap.size, 0, none⟩) (by simp)); have k1 := (hb.cell (p := ⟨w1.heap.size, 1, none⟩) (by simp)); have k2 := (hb.cell (p := ⟨w1.heap.size, 2, none⟩) (by simp)); simp at k0 k1 k2; clear ho1 ho2 hb))
  go_ret2
  exact ⟨_, rfl, ⟨⟨by rw [HFD.out, HFC.out]; exact heap_alloc_new _ _⟩, World.ownsRow_nil _ _ _ _, B2.out.size⟩, B2.out.alloc B2.out.size _⟩
theorem newW_nop (k : Nat) (pol : Int) (gs : Bool) (w : World) (hT : Wd.Tab w) (h1 : 1 ≤ k) (h4 : k ≤ 4) (hq : ¬ (pol = 1 ∨ pol = 2 ∨ pol = 3)) :
    Calls Tryd.prog 15 #[.int .i64 (k : Int), .int .i64 pol, .bool gs] w fun e w' => e = .returned (.tuple #[.pointer none, .int .i64 16]) ∧ Below w.heap.size w w' := by
  have hfd : fDec k = .func (.func 41) #[.int .i64 (k : Int)] #[] := if_neg (by omega)
  have hfc : fCut k = .func (.func 42) #[.int .i64 (k : Int)] #[] := if_neg (by omega)
  have hdp : Wd.decP k pol (bs (catB [])) = ([], [], 16) := by unfold Wd.decP; rw [if_neg (fun h => hq h.2)]
  have hpos := hT.pos
  have HT := Lib.hid hT
  have HD := Lib.hid (fun W (hW : Wd.Tab W) => wdecode_any k pol none 0 [] W hW (.inl rfl) (by simp) (Nat.zero_le _))
  rw [hdp] at HD
  have HR := Lib.hid (reader_any k w h1 (by omega))
  rw [hfd, hfc] at HR
  have HFD := Lib.hid hfd
  have HFC := Lib.hid hfc
  clear hT hdp hfd hfc hq
  go_enter Tryd.func15, Tryd.ntmps15
  go_wp2_with (first
    | (go_at_call 27; refine HR.out.mono ?_; rintro e w1 ⟨rfl, hb⟩; have B1 := Lib.hid hb; have z1 := hb.size; clear hb)
    | (go_at_call 41; refine (HD.out _ ((HT.out.below B1.out hpos).below ((Below.refl _ w1).alloc (Nat.le_refl _) _) (by omega))).mono ?_; rintro e w2 ⟨v1, v2, rfl, ho1, ho2, hb⟩; have B2 := Lib.hid ((B1.out.alloc z1 _).trans (hb.mono (by simp; omega))); have k0 := (hb.cell (p := ⟨w1.heap.size, 0, none⟩) (by simp)); have k1 := (hb.cell (p := ⟨w1.heap.size, 1, none⟩) (by simp)); have k2 := (hb.cell (p := ⟨w1.heap.size, 2, none⟩) (by simp)); simp at k0 k1 k2; clear ho1 ho2 hb))
  go_ret2
  exact ⟨rfl, B2.out⟩
/-- Both tables. -/
structure Tabs (w : World) : Prop where
  u : U8.Tab w
  d : Wd.Tab w
theorem Tabs.pos {w : World} (h : Tabs w) : 0 + 1 + 1 ≤ w.heap.size := by
  have h1 := h.u.pos
  have h2 := h.d.pos
  omega
theorem Tabs.below {B : Nat} {w w' : World} (h : Tabs w) (hb : Below B w w') (hB : 0 + 1 + 1 ≤ B) : Tabs w' := ⟨h.u.below hb (by omega), h.d.below hb (by omega)⟩
theorem new_ok (k : Nat) (pol : Int) (gs : Bool) (w : World) (hT : Tabs w) (h1 : 1 ≤ k) (h5 : k ≤ 5) (hq : pol = 1 ∨ pol = 2 ∨ pol = 3) :
    Calls Tryd.prog 15 #[.int .i64 (k : Int), .int .i64 pol, .bool gs] w fun e w' => ∃ B, e = .returned (.tuple #[.pointer (some ⟨B, 0, none⟩), .int .i64 0]) ∧ Dc w' w.heap.size B (.slice none 0 0) 0 ⟨#[]⟩ [] k pol gs false ∧ Below w.heap.size w w' := by
  by_cases h : k = 5
  · subst h
    exact new5_ok pol gs w hT.u hq
  · exact newW_ok k pol gs w hT.d h1 (by omega) hq
theorem new_no (k pol : Int) (gs : Bool) (w : World) (hT : Tabs w) (h : ¬ (1 ≤ k ∧ k ≤ 5 ∧ (pol = 1 ∨ pol = 2 ∨ pol = 3))) :
    Calls Tryd.prog 15 #[.int .i64 k, .int .i64 pol, .bool gs] w fun e w' => e = .returned (.tuple #[.pointer none, .int .i64 16]) ∧ Below w.heap.size w w' := by
  by_cases hk : k < 1 ∨ 5 < k
  · exact new_nok k pol gs w hk
  · have hq : ¬ (pol = 1 ∨ pol = 2 ∨ pol = 3) := fun hq => h ⟨by omega, by omega, hq⟩
    by_cases h5 : k = 5
    · subst h5
      exact new5_nop pol gs w hT.u hq
    · obtain ⟨n, rfl⟩ : ∃ n : Nat, k = n := ⟨k.toNat, by omega⟩
      exact newW_nop n pol gs w hT.d (by omega) (by omega) hq
end Go.Proofs.YthnfopjjghohcaaDoor.St

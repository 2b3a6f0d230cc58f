import Derived.Test.YthnfopjjghohcaaDoorSK
namespace Go.Proofs.YthnfopjjghohcaaDoor.St
open Go.RowKit

/-- A decoder that was fed bytes, and was not wrong. -/
def Fed (w : World) (base B : Nat) (fv : Value) (k : Nat) (pol : Int) (g : Bool) (L : List Nat) : Prop :=
  ∃ wt, bs wt = L.drop (Dg.cut5 k g L) ∧ (Dg.sure k pol g L).2.2 = 0 ∧ Dc w base B fv L.length wt (Dg.sure k pol g L).2.1 (Dg.sureK k g L) pol (g && Dg.und L) false
theorem wt_size {wt : ByteArray} {L : List Nat} {k : Nat} {g : Bool} (h : bs wt = L.drop (Dg.cut5 k g L)) : wt.size = L.length - Dg.cut5 k g L ∧ wt.size ≤ 3 := by
  have h1 := bs_len wt
  rw [h, List.length_drop] at h1
  have := Dg.waits_le k g L
  omega
theorem part_eqs (k : Nat) (pol : Int) (g : Bool) (L : List Nat) (wt s : ByteArray) (hwt : bs wt = L.drop (Dg.cut5 k g L)) (he : (Dg.sure k pol g L).2.2 = 0) :
    (Dg.sure k pol g (L ++ bs s)).1 = (Dg.sure k pol g L).1 ++ (Dg.sure (Dg.sureK k g L) pol (g && Dg.und L) (bs (wt ++ s))).1
    ∧ (Dg.sure k pol g (L ++ bs s)).2.2 = (Dg.sure (Dg.sureK k g L) pol (g && Dg.und L) (bs (wt ++ s))).2.2
    ∧ (Dg.sure k pol g L).2.1 ++ shL (L.length + s.size - (wt ++ s).size) (Dg.sure (Dg.sureK k g L) pol (g && Dg.und L) (bs (wt ++ s))).2.1 = (Dg.sure k pol g (L ++ bs s)).2.1
    ∧ Dg.sureK (Dg.sureK k g L) (g && Dg.und L) (bs (wt ++ s)) = Dg.sureK k g (L ++ bs s)
    ∧ ((g && Dg.und L) && Dg.und (bs (wt ++ s))) = (g && Dg.und (L ++ bs s))
    ∧ bs ((wt ++ s).extract (Dg.cut5 (Dg.sureK k g L) (g && Dg.und L) (bs (wt ++ s))) (wt ++ s).size) = (L ++ bs s).drop (Dg.cut5 k g (L ++ bs s))
    ∧ (wt ++ s).size = wt.size + s.size ∧ (wt ++ s).size ≤ L.length + s.size := by
  have hb : bs (wt ++ s) = L.drop (Dg.cut5 k g L) ++ bs s := by rw [bs_app, hwt]
  have hz := (wt_size hwt).1
  have hsz : (wt ++ s).size = wt.size + s.size := by
    have := bs_len (wt ++ s)
    rw [bs_app, List.length_append, bs_len, bs_len] at this
    omega
  have hcl := (Dg.waits_le k g L).1
  obtain ⟨h1, h2, h3, h4⟩ := Dg.feed_step k pol g L (bs s)
  rw [← hb] at h1 h2 h3 h4
  rw [h1, Dg.cat_err _ _ he]
  refine ⟨rfl, rfl, ?_, h3.symm, h4.symm, ?_, hsz, by omega⟩
  · show _ = _ ++ shL _ _
    rw [show L.length + s.size - (wt ++ s).size = Dg.cut5 k g L by omega]
  · rw [bs_from, h2, hb, ← List.drop_drop, List.drop_append_of_le_length hcl]
theorem over_stay (k : Nat) (pol : Int) (g : Bool) (L m : List Nat) (h : (Dg.sure k pol g L).2.2 ≠ 0) : Dg.sure k pol g (L ++ m) = Dg.sure k pol g L ∧ Dg.sureK k g (L ++ m) = Dg.sureK k g L := by
  have hu : ¬ (g && Dg.und L) = true := by
    intro hu
    apply h
    unfold Dg.sure
    rw [if_pos hu]
  obtain ⟨h1, h2, _⟩ := Dg.dec_stay k g L m hu
  constructor
  · rw [(Dg.feed_step k pol g L m).1, Dg.cat_bad17 _ _ h]
  · unfold Dg.sureK
    rw [if_neg h1, if_neg hu, h2]
theorem cat_more (xs : List ByteArray) (q : Nat) (h : q < xs.length) : bs (catB (xs.take (q + 1))) = bs (catB (xs.take q)) ++ bs xs[q] := by
  rw [catB_bs, catB_bs, List.take_succ_eq_append_getElem h, List.map_append, List.flatten_append]
  simp
theorem cat_rest (xs : List ByteArray) (q : Nat) : bs (catB xs) = bs (catB (xs.take q)) ++ bs (catB (xs.drop q)) := by
  rw [catB_bs, catB_bs, catB_bs, ← List.flatten_append, ← List.map_append, List.take_append_drop]
/-- What Feed leaves. -/
def FeedP (w : World) (base B : Nat) (fv : Value) (k : Nat) (pol : Int) (g : Bool) (L : List Nat) (one : Prop) (X : List Nat) (e : Ending) (w' : World) : Prop :=
  ∃ fv' v1 o, e = .returned (.tuple #[v1, .int .i64 (Dg.sure k pol g X).2.2]) ∧ w'.ownsRow w.heap.size 21 1 v1 o.length (i32s o) ∧ (Dg.sure k pol g L).1 ++ o = (Dg.sure k pol g X).1 ∧ Stp B w fv w' fv'
    ∧ (((Dg.sure k pol g X).2.2 = 0 ∧ Fed w' base B fv' k pol g X) ∨ ((Dg.sure k pol g X).2.2 = 17 ∧ ∃ p gs, (one → p = X.length) ∧ Dc w' base B fv' p ⟨#[]⟩ (Dg.sure k pol g X).2.1 (Dg.sureK k g X) pol gs true))
theorem Stp.strs {B : Nat} {w w' : World} {fv fv' : Value} (h : Stp B w fv w' fv') {A : Option Addr} {c : Nat} {xs : List ByteArray} (hx : Strs w A c xs) (ha : ∀ a, A = some a → a.block ≠ B ∧ fv.ownBlock ≠ some a.block) : Strs w' A c xs := by
  rcases hx with hx | ⟨bk, o, e, h1, h2, h3⟩
  · exact .inl hx
  · obtain ⟨a1, a2⟩ := ha _ e
    exact .inr ⟨bk, o, e, Nat.lt_of_lt_of_le h1 h.size, h2, fun j x hj => (World.cell?_of_block (w := w) (a := ⟨bk, o + j, none⟩) (h.block bk h1 a1 a2)).trans (h3 j x hj)⟩
theorem Dc.grown {w w' : World} {base B : Nat} {fv : Value} {p : Nat} {wt : ByteArray} {fl : List (Nat × Nat)} {k : Nat} {pol : Int} {gs ov : Bool} (h : Dc w base B fv p wt fl k pol gs ov) {b n e z : Nat} {v : Value} {xs : List Value} (ho : w.ownsRow b e z v n xs) (he : e ≠ 62) (hf : e ≠ 50) (hg : w.grownBy w' v.ownBlock) : Dc w' base B fv p wt fl k pol gs ov :=
  ⟨h.d.of (hg.block B h.d.lt (fun e => h.d.ne ho he e.symm)), h.f.kept hg (own_apart h.f ho (fun e => hf e.symm)), h.b⟩
theorem Stp.grownRow {B : Nat} {w w2 w3 : World} {fv fv2 : Value} (h : Stp B w fv w2 fv2) {n e z : Nat} {v : Value} {xs : List Value} (ho : w2.ownsRow w.heap.size e z v n xs) (hg : w2.grownBy w3 v.ownBlock) : Stp B w fv w3 fv2 := by
  refine ⟨hg.os.trans h.os, hg.tape.trans h.tape, hg.output.trans h.output, Nat.le_trans h.size hg.size, fun i hi hB hf => ?_, h.own⟩
  rw [hg.block i (Nat.lt_of_lt_of_le hi h.size) (fun e => by have := (ho.lt i e.symm).1; omega)]
  exact h.block i hi hB hf
end Go.Proofs.YthnfopjjghohcaaDoor.St

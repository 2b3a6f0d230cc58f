import Derived.Test.YtohjkpdelopknaaDoorL
import Derived.Test.YtohjkpdelopknaaDoorSh
import Derived.Deep.Onto
namespace Go.Proofs.YtohjkpdelopknaaDoor
open Go.RowKit

/-! A slice of strings, and what Join makes of it. -/
def Strs (w : World) (A : Option Addr) (c : Nat) (xs : List ByteArray) : Prop :=
  xs = [] ∨ ∃ bk o, A = some ⟨bk, o, none⟩ ∧ bk < w.heap.size ∧ xs.length ≤ c ∧ ∀ (j : Nat) x, xs[j]? = some x → w.cell? ⟨bk, o + j, none⟩ = some (.string x)
theorem Strs.below {w w' : World} {A : Option Addr} {c : Nat} {xs : List ByteArray} (h : Strs w A c xs) (hb : Below w.heap.size w w') : Strs w' A c xs := by
  rcases h with h | ⟨bk, o, e, h1, h2, h3⟩
  · exact .inl h
  · exact .inr ⟨bk, o, e, Nat.lt_of_lt_of_le h1 hb.size, h2, fun j x hx => (hb.cell (p := ⟨bk, o + j, none⟩) h1).trans (h3 j x hx)⟩
def catB (xs : List ByteArray) : ByteArray := ⟨((xs.map (·.data.toList)).flatten).toArray⟩
theorem join_cat (xs : List (List UInt8)) : Lib.join xs [] = xs.flatten := by
  cases xs with
  | nil => rfl
  | cons x r => rw [Lib.join_cons]; simp [Lib.joinTail]
theorem catB_bs (xs : List ByteArray) : bs (catB xs) = (xs.map bs).flatten := by
  simp [bs, catB, List.map_flatten]; rfl
theorem catB_one (s : ByteArray) : catB [s] = s := by
  simp [catB]
theorem join_any (A : Option Addr) (c : Nat) (xs : List ByteArray) (w : World) (hs : Strs w A c xs) (hn : xs.length ≤ 100000) (hl : (catB xs).size ≤ 100000) :
    Calls Tryd.prog 32 #[.slice A xs.length c, .string ⟨#[]⟩] w fun e w' => e = .returned (.string (catB xs)) ∧ Below w.heap.size w w' := by
  rcases hs with rfl | ⟨bk, o, rfl, h1, h2, h3⟩
  · exact (Tryd.strings_Join_none A c ⟨#[]⟩ w).mono fun e w' ⟨he, hw⟩ => ⟨he, hw ▸ Below.refl _ _⟩
  · have hj : (Lib.join (xs.map (·.data.toList)) ((⟨#[]⟩ : ByteArray).data.toList)) = (xs.map (·.data.toList)).flatten := join_cat _
    have hz : (catB xs).size = ((xs.map (·.data.toList)).flatten).length := by simp [catB, ByteArray.size]
    have := Tryd.strings_Join bk o c xs ⟨#[]⟩ w h3 h1 (by omega) h2 (by rw [hj]; omega)
    rw [hj] at this
    exact this

def i32s (l : List Int) : List Value := l.map fun x => .int .i32 x
def flts (l : List (Nat × Nat)) : List Value := l.flatMap fun x => [.int .i64 x.1, .int .i64 x.2]
theorem i32s_app (a b : List Int) : i32s (a ++ b) = i32s a ++ i32s b := by simp [i32s]
theorem flts_app (a b : List (Nat × Nat)) : flts (a ++ b) = flts a ++ flts b := by simp [flts]
/-- Two rows of different element types lie in different blocks. -/
theorem own_apart {w : World} {b b' : Nat} {e e' : TypeId} {z z' n n' : Nat} {v v' : Value} {xs xs' : List Value} (h : w.ownsRow b e z v n xs) (h' : w.ownsRow b' e' z' v' n' xs') (hne : e ≠ e') : v.ownBlock = none ∨ v.ownBlock ≠ v'.ownBlock := by
  rcases h.2 with ⟨rfl, _⟩ | ⟨g, cap, cur, rfl, _, hg, _⟩
  · exact .inl rfl
  · right
    rcases h'.2 with ⟨rfl, _⟩ | ⟨g', cap', cur', rfl, _, hg', _⟩
    · simp [Value.ownBlock]
    · simp only [Value.ownBlock, ne_eq, Option.some.injEq]
      intro hh
      have hh' : g = g' := hh
      subst hh'
      rw [hg] at hg'
      simp at hg'
      exact hne hg'.2
theorem r_info : (Tryd.prog.info? 21).map (fun i => (i.zero, i.size, i.bytes)) = some (some (.int .i32 0), 1, 4) := by kernel_rfl
theorem f_info : (Tryd.prog.info? 49).map (fun i => (i.zero, i.size, i.bytes)) = some (some (.agg #[.int .i64 0, .int .i64 0]), 2, 16) := by kernel_rfl

/-- What the loop of a decoder knows at place k. -/
structure DecRel (w wr : World) (out flt : Value) (kd : Nat) (pol : Int) (k : Nat) (l : List Nat) (tot : List Int × List (Nat × Nat) × Int) (os : List Int) (fs : List (Nat × Nat)) : Prop where
  bel : Below w.heap.size w wr
  o : wr.ownsRow w.heap.size 21 1 out os.length (i32s os)
  f : wr.ownsRow w.heap.size 49 2 flt fs.length (flts fs)
  lo : os.length ≤ k
  lf : fs.length ≤ k
  tot : tot = (os ++ (dec kd pol k l).1, fs ++ (dec kd pol k l).2.1, (dec kd pol k l).2.2)

theorem DecRel.start (w : World) (kd : Nat) (pol : Int) (l : List Nat) {wr : World} (hb : Below w.heap.size w wr) : DecRel w wr (.slice none 0 0) (.slice none 0 0) kd pol 0 l (dec kd pol 0 l) [] [] :=
  ⟨hb, World.ownsRow_nil _ _ _ _, World.ownsRow_nil _ _ _ _, by simp, by simp, by simp⟩
theorem DecRel.ok {w wr w2 : World} {out flt v2 : Value} {kd : Nat} {pol : Int} {k : Nat} {l : List Nat} {tot : List Int × List (Nat × Nat) × Int} {os : List Int} {fs : List (Nat × Nat)} {o : Obj} (h : DecRel w wr out flt kd pol k l tot os fs)
    (hl : l ≠ []) {r : Int} {n : Nat} (hx : nx kd l = (r, (n : Int), 0)) (h1 : 1 ≤ n) (ho : w2.ownsRow w.heap.size 21 1 v2 (os.length + 1) (i32s os ++ [.int .i32 r])) (hg : (wr.alloc o).grownBy w2 out.ownBlock) :
    DecRel w w2 v2 flt kd pol (k + n) (l.drop n) tot (os ++ [r]) fs := by
  have ha := h.o.alloc o
  have hbl := h.bel.size
  refine ⟨h.bel.trans (((Below.refl _ _).alloc hbl _).trans (below_grown ha hg (by simp; omega))), by simpa [i32s] using ho, (h.f.alloc o).kept hg (own_apart (h.f.alloc o) ha (by decide)), by simp; have := h.lo; omega, by have := h.lf; omega, ?_⟩
  rw [h.tot, dec_ok kd pol k l hl r n hx h1]
  simp
theorem DecRel.flt1 {w wr w2 : World} {out flt v2 : Value} {kd : Nat} {k : Nat} {l : List Nat} {tot : List Int × List (Nat × Nat) × Int} {os : List Int} {fs : List (Nat × Nat)} {o : Obj} (h : DecRel w wr out flt kd 1 k l tot os fs)
    (hl : l ≠ []) {r e : Int} {n : Nat} (hx : nx kd l = (r, (n : Int), e)) (he : e ≠ 0) (ho : w2.ownsRow w.heap.size 49 2 v2 (fs.length + 1) (flts fs ++ [.int .i64 k, .int .i64 n])) (hg : (wr.alloc o).grownBy w2 flt.ownBlock) :
    Below w.heap.size w w2 ∧ w2.ownsRow w.heap.size 21 1 out tot.1.length (i32s tot.1) ∧ w2.ownsRow w.heap.size 49 2 v2 tot.2.1.length (flts tot.2.1) ∧ tot.2.2 = 17 := by
  have ha := h.f.alloc o
  have hbl := h.bel.size
  have ht := h.tot
  rw [dec_bad1 kd k l hl r e n hx he] at ht
  subst ht
  refine ⟨h.bel.trans (((Below.refl _ _).alloc hbl _).trans (below_grown ha hg (by simp; omega))), ?_, ?_, rfl⟩
  · have := (h.o.alloc o).kept hg (own_apart (h.o.alloc o) ha (by decide))
    simpa using this
  · simpa [flts_app, flts] using ho
theorem DecRel.bad3 {w wr w2 : World} {out flt v2 : Value} {kd : Nat} {k : Nat} {l : List Nat} {tot : List Int × List (Nat × Nat) × Int} {os : List Int} {fs : List (Nat × Nat)} {o : Obj} (h : DecRel w wr out flt kd 3 k l tot os fs)
    (hl : l ≠ []) {r e : Int} {n : Nat} (hx : nx kd l = (r, (n : Int), e)) (he : e ≠ 0) (h1 : 1 ≤ n) (ho : w2.ownsRow w.heap.size 49 2 v2 (fs.length + 1) (flts fs ++ [.int .i64 k, .int .i64 n])) (hg : (wr.alloc o).grownBy w2 flt.ownBlock) :
    DecRel w w2 out v2 kd 3 (k + n) (l.drop n) tot os (fs ++ [(k, n)]) := by
  have ha := h.f.alloc o
  have hbl := h.bel.size
  refine ⟨h.bel.trans (((Below.refl _ _).alloc hbl _).trans (below_grown ha hg (by simp; omega))), (h.o.alloc o).kept hg (own_apart (h.o.alloc o) ha (by decide)), by simpa [flts_app, flts] using ho, by have := h.lo; omega, by simp; have := h.lf; omega, ?_⟩
  rw [h.tot, dec_bad kd 3 (by decide) k l hl r e n hx he h1]
  simp
theorem DecRel.bad2 {w wr w2 w3 : World} {out flt v2 v3 : Value} {kd : Nat} {k : Nat} {l : List Nat} {tot : List Int × List (Nat × Nat) × Int} {os : List Int} {fs : List (Nat × Nat)} {o o' : Obj} (h : DecRel w wr out flt kd 2 k l tot os fs)
    (hl : l ≠ []) {r e : Int} {n : Nat} (hx : nx kd l = (r, (n : Int), e)) (he : e ≠ 0) (h1 : 1 ≤ n) (ho : w2.ownsRow w.heap.size 49 2 v2 (fs.length + 1) (flts fs ++ [.int .i64 k, .int .i64 n])) (hg : (wr.alloc o).grownBy w2 flt.ownBlock)
    (ho3 : w3.ownsRow w.heap.size 21 1 v3 (os.length + 1) (i32s os ++ [.int .i32 65533])) (hg3 : (w2.alloc o').grownBy w3 out.ownBlock) :
    DecRel w w3 v3 v2 kd 2 (k + n) (l.drop n) tot (os ++ [65533]) (fs ++ [(k, n)]) := by
  have ha := h.f.alloc o
  have hbl := h.bel.size
  have hb2 := h.bel.trans (((Below.refl _ _).alloc hbl _).trans (below_grown ha hg (by simp; omega)))
  have ho2 := (h.o.alloc o).kept hg (own_apart (h.o.alloc o) ha (by decide))
  have hbl2 := hb2.size
  refine ⟨hb2.trans (((Below.refl _ _).alloc hbl2 _).trans (below_grown (ho2.alloc o') hg3 (by simp; omega))), by simpa [i32s] using ho3, ?_, by simp; have := h.lo; omega, by simp; have := h.lf; omega, ?_⟩
  · have := (ho.alloc o').kept hg3 (own_apart (ho.alloc o') (ho2.alloc o') (by decide))
    simpa [flts_app, flts] using this
  · rw [h.tot, dec_bad kd 2 (by decide) k l hl r e n hx he h1]
    simp
theorem DecRel.keepO {w wr w2 : World} {out flt : Value} {kd : Nat} {pol : Int} {k : Nat} {l : List Nat} {tot : List Int × List (Nat × Nat) × Int} {os : List Int} {fs : List (Nat × Nat)} {o : Obj} (h : DecRel w wr out flt kd pol k l tot os fs) (hg : (wr.alloc o).grownBy w2 flt.ownBlock) :
    w2.ownsRow w.heap.size 21 1 out os.length (i32s os) ∧ w.heap.size ≤ w2.heap.size := by
  refine ⟨(h.o.alloc o).kept hg (own_apart (h.o.alloc o) (h.f.alloc o) (by decide)), ?_⟩
  have h1 := h.bel.size
  have h2 := hg.size
  simp at h2
  omega

/-- What a decoder answers. -/
def DecPost (w : World) (d : List Int × List (Nat × Nat) × Int) (e : Ending) (w' : World) : Prop :=
  ∃ v1 v2, e = .returned (.tuple #[v1, v2, .int .i64 d.2.2]) ∧ w'.ownsRow w.heap.size 21 1 v1 d.1.length (i32s d.1) ∧ w'.ownsRow w.heap.size 49 2 v2 d.2.1.length (flts d.2.1) ∧ Below w.heap.size w w'
def decP (kd : Int) (pol : Int) (l : List Nat) : List Int × List (Nat × Nat) × Int := if (1 ≤ kd ∧ kd ≤ 4) ∧ (pol = 1 ∨ pol = 2 ∨ pol = 3) then dec kd.toNat pol 0 l else ([], [], 16)
theorem DecPost.mono {w w2 : World} {d : List Int × List (Nat × Nat) × Int} {e : Ending} {w' : World} (h : DecPost w2 d e w') (hb : Below w.heap.size w w2) : DecPost w d e w' := by
  obtain ⟨v1, v2, he, h1, h2, h3⟩ := h
  exact ⟨v1, v2, he, h1.mono hb.size, h2.mono hb.size, hb.trans (h3.mono hb.size)⟩
theorem snext_from (kd : Nat) (s : ByteArray) (k : Nat) (w : World) (h1 : 1 ≤ kd) (h4 : kd ≤ 4) (hs : s.size ≤ 100000) (r e : Int) (n : Nat) (hx : nx kd ((bs s).drop k) = (r, (n : Int), e)) :
    Calls Tryd.prog 27 #[.agg #[.int .i64 (szK kd : Int), .bool (loK kd), .bool (prK kd), .string (s.extract k s.size)]] w fun v w' => v = .returned (.tuple #[.int .i32 r, .int .i64 n, .int .i64 e]) ∧ Below w.heap.size w w' := by
  have := snext_any kd (s.extract k s.size) w h1 h4 (by rw [ext_from]; omega)
  rw [bs_from, hx] at this
  exact this
theorem rnext_from (kd : Nat) (s : ByteArray) (k : Nat) (w : World) (h1 : 1 ≤ kd) (h4 : kd ≤ 4) (hs : s.size ≤ 100000) (r e : Int) (n : Nat) (hx : nx kd ((bs s).drop k) = (r, (n : Int), e)) :
    Calls Tryd.prog 14 #[.int .i64 (kd : Int), .string (s.extract k s.size)] w fun v w' => v = .returned (.tuple #[.int .i32 r, .int .i64 n, .int .i64 e]) ∧ w = w' := by
  have := rnext_any kd (s.extract k s.size) w h1 h4 (by rw [ext_from]; omega)
  rw [bs_from, hx] at this
  exact this
/-- What the decoder knows behind the call of 'next'. -/
theorem DecRel.step {w wr w2 : World} {out flt : Value} {kd : Nat} {pol : Int} {k : Nat} {l : List Nat} {tot : List Int × List (Nat × Nat) × Int} {os : List Int} {fs : List (Nat × Nat)} (h : DecRel w wr out flt kd pol k l tot os fs) (hb : Below wr.drew.heap.size wr.drew w2) :
    DecRel w w2 out flt kd pol k l tot os fs := by
  have hbs := h.bel.size
  exact ⟨h.bel.drew.trans (hb.mono (by simpa using hbs)), own_below h.o.drew hb, own_below h.f.drew hb, h.lo, h.lf, h.tot⟩
end Go.Proofs.YtohjkpdelopknaaDoor

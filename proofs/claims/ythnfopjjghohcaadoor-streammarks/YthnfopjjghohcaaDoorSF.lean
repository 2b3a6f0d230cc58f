import Derived.Test.YthnfopjjghohcaaDoorGS1
namespace Go.Proofs.YthnfopjjghohcaaDoor.St
open Go.RowKit

theorem Stp.grown {w w' : World} {B : Nat} {fv : Value} {o : Obj} {g n c : Nat} (hg : (w.alloc o).grownBy w' fv.ownBlock) (hat : fv.ownBlock = some g ∨ g = w.heap.size + 1) : Stp B w fv w' (.slice (some ⟨g, 0, none⟩) n c) := by
  have hsz := hg.size
  simp at hsz
  refine ⟨hg.os, hg.tape, hg.output, by omega, fun i hi _ hf => ?_, fun g' hg' => ?_⟩
  · rw [hg.block i (by simp; omega) (fun e => hf e.symm)]
    exact Below.heap_alloc _ _ _ hi
  · have : g' = g := by simp only [Value.ownBlock, Option.some.injEq] at hg'; exact hg'.symm
    subst this
    rcases hat with h | h
    · exact .inl h
    · exact .inr (by omega)
def shL (j : Nat) (l : List (Nat × Nat)) : List (Nat × Nat) := l.map fun x => (j + x.1, x.2)
set_option maxRecDepth 100000 in
set_option maxHeartbeats 2000000 in
theorem note_any (base B : Nat) (fv : Value) (p : Nat) (wt : ByteArray) (fl : List (Nat × Nat)) (k : Nat) (pol : Int) (gs ov : Bool) (j : Nat) (b2 : Nat) (A : Option Addr) (c : Nat) (l : List (Nat × Nat)) (w : World)
    (h : Dc w base B fv p wt fl k pol gs ov) (ho : w.ownsRow b2 50 2 (.slice A l.length c) l.length (flts l)) (hne : (Value.slice A l.length c).ownBlock = none ∨ (Value.slice A l.length c).ownBlock ≠ fv.ownBlock) (hl : l.length ≤ 100000) (hfl : fl.length ≤ 100000) (hj : j ≤ 100000) (hlb : ∀ x ∈ l, x.1 ≤ 100000) :
    Calls Tryd.prog 47 #[.pointer (some ⟨B, 0, none⟩), .int .i64 (j : Int), .slice A l.length c] w fun e w' => ∃ fv', e = .returned (.tuple #[]) ∧ Dc w' base B fv' p wt (fl ++ shL j l) k pol gs ov ∧ Stp B w fv w' fv' := by
  obtain ⟨j0, hj0, hz0, hz1, hz2⟩ := info_parts f_info
  have J0 := Lib.hid hj0
  have J1 := Lib.hid hz0
  have J2 := Lib.hid hz1
  have J3 := Lib.hid hz2
  clear hj0 hz0 hz1 hz2
  have H := Lib.hid h
  have HO := Lib.hid ho
  have HN := Lib.hid hne
  have HL := Lib.hid hlb
  clear h ho hne hlb
  go_enter Tryd.func47, Tryd.ntmps47
  go_wp2_with fail
  go_loopw [10] (fun i wr => ∃ q : Nat, i = .int .i64 q ∧ q ≤ l.length ∧ ∃ fv', Hid (Dc wr base B fv' p wt (fl ++ shL j (l.take q)) k pol gs ov ∧ Stp B w fv wr fv')) (fun i _ => l.length - (intOf i).toNat)
  case atStart => exact ⟨0, rfl, by omega, fv, by simpa [shL] using H.out, Stp.refl _ _ _⟩
  case round =>
    obtain ⟨q, rfl, hq, fv', HR⟩ := hrel
    by_cases hlt : q < l.length
    · have hlt' : (q : Int) < l.length := by omega
      have hor := HR.out.2.keep HO.out (H.out.d.ne HO.out (by decide)) HN.out
      obtain ⟨A', c', hA, hF⟩ := own_flts hor
      have hA' : A' = A := by injection hA with h1 h2 h3; exact h1.symm
      subst hA'
      obtain ⟨bb, off, rfl, hbb, k0, k1⟩ := hF q hlt
      generalize hx : l[q] = x at k0 k1
      have hx1 : x.1 ≤ 100000 := by rw [← hx]; exact HL.out _ (List.getElem_mem hlt)
      have HX := Lib.hid hx
      obtain ⟨x1, x2⟩ := x
      have hx1' : x1 ≤ 100000 := hx1
      clear hx hor hF hA hx1
      have q2 := HR.out.1.d.c2
      have f2 := HR.out.1.d.fr 2
      go_wp2_with fail
      have HA := Lib.hid (HR.out.1.bel ((Below.refl _ _).alloc (Nat.le_refl _) (.cells #[.int .i64 (x1 : Int), .int .i64 (x2 : Int)] 50)))
      have HSA := Lib.hid (HR.out.2.alloc (.cells #[.int .i64 (x1 : Int), .int .i64 (x2 : Int)] 50))
      have y0 : (wr.alloc (.cells #[.int .i64 (x1 : Int), .int .i64 (x2 : Int)] 50)).cell? ⟨wr.heap.size, 0, none⟩ = some (.int .i64 (x1 : Int)) := by simp
      have y1 : (wr.alloc (.cells #[.int .i64 (x1 : Int), .int .i64 (x2 : Int)] 50)).cell? ⟨wr.heap.size, 1, none⟩ = some (.int .i64 (x2 : Int)) := by simp
      generalize hwA : wr.alloc (.cells #[.int .i64 (x1 : Int), .int .i64 (x2 : Int)] 50) = wA at *
      generalize hwT : wr.heap.size = T at *
      clear hwA hwT q2 f2
      have q2 := HA.out.d.c2
      have f2 := HA.out.d.fr 2
      have hle := HA.out.le
      have hBl := HA.out.d.lt
      have hTl : T < wA.heap.size := World.block_lt_of_cell? wA _ y0
      generalize hfq : fl ++ shL j (l.take q) = fq at *
      have hfz : fq.length + 1 ≤ 300000 := by rw [← hfq]; simp [shL]; omega
      have hmx : fq.length + 1 ≤ maxLen := by unfold maxLen; omega
      have HFQ := Lib.hid hfq
      clear hfq
      obtain ⟨z, hz⟩ : ∃ z : Nat, z = j + x1 := ⟨_, rfl⟩
      have hwrap : IntKind.i64.wrap ((j : Int) + (x1 : Int)) = (z : Int) := by rw [IntKind.wrap_i64]; omega
      have HZ := Lib.hid hz
      clear hz
      go_region_law
        (refine step_append_lies _ (by rfl) _ _ _ (by rfl) base 50 j0 _ 2 16 Tryd.underlying26 J0.out J1.out J2.out J3.out rfl (by omega) fv' fq.length (flts fq) (by rfl) (HA.out.f.alloc _) ⟨wA.heap.size, 0, none⟩ 1 1 [.int .i64 (z : Int), .int .i64 (x2 : Int)] (by rfl) (by rfl) (World.news_of_block (cs := #[.int .i64 (z : Int), .int .i64 (x2 : Int)]) (t := 50) (fr := (0, 0)) (heap_alloc_new wA _)) (by simp [Value.oneCell']) (by omega) hmx (by omega) (by simp; omega) (wA.heap.size + 1) (by simp) ?_; intro gg cap w8 hown8 hgrow0 hat hlt8; have hgrow : (wA.alloc (.cells #[.int .i64 (z : Int), .int .i64 (x2 : Int)] 50)).grownBy w8 fv'.ownBlock := ⟨hgrow0.os, hgrow0.tape, hgrow0.output, hgrow0.size, hgrow0.block⟩; clear hgrow0; have D8 := Lib.hid (HA.out.d.of ((hgrow.block B (by have := HA.out.d.lt; simp; omega) (fun e => HA.out.ne e.symm)).trans (Below.heap_alloc _ _ _ HA.out.d.lt))); have S8 := Lib.hid (HSA.out.trans (Stp.grown (n := fq.length + 1) (c := cap) hgrow hat)); have O8 := Lib.hid hown8; have q8 := D8.out.c2; have f8 := D8.out.fr 2; clear hown8 hgrow hat hlt8)
      all_goals
        have HN8 := Lib.hid (own_set (T := B) (o := 2) O8.out (D8.out.ne O8.out (by decide)) (.slice (some ⟨gg, 0, none⟩) (fq.length + 1) cap))
        have HD8 := Lib.hid (D8.out.set2 (.slice (some ⟨gg, 0, none⟩) (fq.length + 1) cap))
        have HS8 := Lib.hid (S8.out.set 2 (.slice (some ⟨gg, 0, none⟩) (fq.length + 1) cap))
        clear q8 f8 q2 f2 y0 y1 hwrap
        go_wp2_with fail
        go_roundw
        case rel =>
          refine ⟨q + 1, by go_num, by omega, _, ⟨HD8.out, ?_, HA.out.b⟩, HS8.out⟩
          have e : fl ++ shL j (l.take (q + 1)) = fq ++ [(z, x2)] := by
            rw [← HFQ.out, List.take_succ_eq_append_getElem hlt, HX.out]
            simp [shL, HZ.out]
          rw [e, flts_app]
          simpa [flts] using HN8.out
        case measure => simp [intOf]; omega
    · have hlt' : ¬ (q : Int) < l.length := by omega
      have HE := Lib.hid (show l.take q = l from List.take_of_length_le (by omega))
      go_wp2
      go_end0
      exact ⟨rfl, fv', by have := HR.out.1; rw [HE.out] at this; exact this, HR.out.2⟩
end Go.Proofs.YthnfopjjghohcaaDoor.St

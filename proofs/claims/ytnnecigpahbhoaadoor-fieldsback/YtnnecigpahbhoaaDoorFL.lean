import Derived.Test.YtnnecigpahbhoaaDoorFK
namespace Go.Proofs.YtnnecigpahbhoaaDoor.Fi
open Go.RowKit

/-- A slice of numbers, in memory that is there. -/
def Ints (kd : IntKind) (w : World) (A : Option Addr) (l : List Int) : Prop :=
  ∀ i, i < l.length → ∃ b off, A = some ⟨b, off, none⟩ ∧ b < w.heap.size ∧ w.cell? ⟨b, off + i, none⟩ = some (.int kd (l.getD i 0))
theorem Ints.below {kd : IntKind} {w w' : World} {A : Option Addr} {l : List Int} (h : Ints kd w A l) (hb : Below w.heap.size w w') : Ints kd w' A l := fun i hi => by
  obtain ⟨b, off, e, hl, hc⟩ := h i hi
  exact ⟨b, off, e, Nat.lt_of_lt_of_le hl hb.size, (hb.cell (p := ⟨b, off + i, none⟩) hl).trans hc⟩
theorem take_more (l : List Int) (k : Nat) (h : k < l.length) : l.take (k + 1) = l.take k ++ [l.getD k 0] := by
  rw [List.take_succ_eq_append_getElem h]; simp [List.getD, List.getElem?_eq_getElem h]
theorem own_ints {w : World} {base : Nat} {v : Value} {l : List Int} (h : w.ownsRow base 21 1 v l.length (i32s l)) : ∃ A c, v = .slice A l.length c ∧ Ints .i32 w A l := by
  rcases h.2 with ⟨hv, hn⟩ | ⟨g, cap, cur, hv, hg, hh, hn, hm, hc, ht⟩
  · exact ⟨none, 0, by rw [hv, hn], fun i hi => by omega⟩
  · refine ⟨some ⟨g, 0, none⟩, cap, hv, fun i hi => ⟨g, 0, rfl, (h.lt g (by rw [hv]; rfl)).2, ?_⟩⟩
    have := h.cells (g := g) (by rw [hv]; rfl) i (.int .i32 (l.getD i 0)) (by simp [i32s, List.getD, List.getElem?_eq_getElem hi])
    have e : (⟨g, 0, none⟩ : Addr).add i = ⟨g, 0 + i, none⟩ := by unfold Addr.add; split <;> simp_all
    rw [e] at this
    exact this

theorem take_eq_more (l m : List Int) (k : Nat) (h : l.take k = m.take k) (hl : k < l.length) (hm : k < m.length) (he : l.getD k 0 = m.getD k 0) : l.take (k + 1) = m.take (k + 1) := by
  rw [take_more l k hl, take_more m k hm, h, he]
theorem ne_of_at (l m : List Int) (k : Nat) (he : l.getD k 0 ≠ m.getD k 0) : l ≠ m := fun h => he (by rw [h])

set_option maxRecDepth 100000 in
set_option maxHeartbeats 1000000 in
theorem eqR (A B : Option Addr) (c d : Nat) (l m : List Int) (w : World) (hl : Ints .i32 w A l) (hm : Ints .i32 w B m) (zl : l.length ≤ 100000) (_zm : m.length ≤ 100000) :
    Calls Tryd.prog 23 #[.slice A l.length c, .slice B m.length d] w fun e w' => e = .returned (.bool (decide (l = m))) ∧ Below w.heap.size w w' := by
  have HL := Lib.hid hl
  have HM := Lib.hid hm
  clear hl hm
  by_cases hn : l.length = m.length
  · have e1 : ((l.length : Int) != (m.length : Int)) = false := by rw [hn]; simp
    have HN := Lib.hid hn
    clear hn
    go_enter Tryd.func23, Tryd.ntmps23
    go_wp2_with fail
    go_loopw [5] (fun i wr => ∃ k : Nat, i = .int .i64 k ∧ k ≤ l.length ∧ Hid (l.take k = m.take k ∧ Below w.heap.size w wr)) (fun i _ => l.length - (intOf i).toNat)
    case atStart => exact ⟨0, rfl, by omega, rfl, Below.refl _ _⟩
    case round =>
      obtain ⟨k, rfl, hk, HQ⟩ := hrel
      by_cases hlt : k < l.length
      · have hlt2 : k < m.length := by rw [← HN.out]; exact hlt
        obtain ⟨b, off, rfl, hb, hc⟩ := HL.out k hlt
        obtain ⟨b2, off2, rfl, hb2, hc2⟩ := HM.out k hlt2
        have hc' : wr.cell? ⟨b, off + k, none⟩ = some (.int .i32 (l.getD k 0)) := (HQ.out.2.cell (p := ⟨b, off + k, none⟩) hb).trans hc
        have hc2' : wr.cell? ⟨b2, off2 + k, none⟩ = some (.int .i32 (m.getD k 0)) := (HQ.out.2.cell (p := ⟨b2, off2 + k, none⟩) hb2).trans hc2
        clear hc hc2
        have g1 : (k : Int) < l.length := by omega
        have g2 : (k : Int) < m.length := by omega
        generalize hx : l.getD k 0 = x at hc'
        generalize hy : m.getD k 0 = y at hc2'
        have HX := Lib.hid hx
        have HY := Lib.hid hy
        clear hx hy
        by_cases hxy : x = y
        · subst hxy
          go_wp2_with fail
          go_quiet (fail)
          go_wp2_with fail
          go_roundw
          case rel => exact ⟨k + 1, by go_num, by omega, take_eq_more l m k HQ.out.1 hlt hlt2 (by rw [HX.out, HY.out]), bel_drewN HQ.out.2 _⟩
          case measure => simp [intOf]; omega
        · have hne : (x != y) = true := by simpa using hxy
          have HE := Lib.hid (ne_of_at l m k (by rw [HX.out, HY.out]; exact hxy))
          clear hxy
          go_wp2_with fail
          go_quiet (fail)
          go_wp2_with fail
          go_ret
          exact ⟨ret_bool (by simp [HE.out]), bel_drewN HQ.out.2 _⟩
      · have g1 : ¬ (k : Int) < l.length := by omega
        have HE : Hid (l = m) := by
          have h := HQ.out.1
          have hh := HN.out
          rw [List.take_of_length_le (by omega), List.take_of_length_le (by omega)] at h
          exact h
        go_wp2
        go_ret
        exact ⟨ret_bool (by simp [HE.out]), HQ.out.2⟩
  · have e1 : ((l.length : Int) != (m.length : Int)) = true := by simp; omega
    have HE : Hid (¬ l = m) := fun h => hn (by rw [h])
    clear hn
    go_enter Tryd.func23, Tryd.ntmps23
    go_wp2
    go_ret
    exact ⟨ret_bool (by simp [HE.out]), Below.refl _ _⟩

theorem undL : Tryd.prog.underlying 31 = some (.struct (Tryd.prog.fieldsOf 31)) := by kernel_rfl
theorem heldL : Tryd.prog.stoodInHeld 31 = false := by kernel_rfl
theorem guardL : Tryd.prog.eqGuardType Tryd.prog.depth 31 = false := by kernel_rfl
theorem eqlL (a : Int) (b : ByteArray) (W : World) : (binOp .eql 31 (.agg #[.int .i64 a, .string b]) (.agg #[.int .i64 a, .string b])).run Tryd.prog W = .ok (.bool true) W := by
  have u3 := Tryd.underlying3
  have a3 := Tryd.isAgg3
  have z3 := Tryd.sizeOf3
  have u9 := Tryd.underlying9
  have a9 := Tryd.isAgg9
  have z9 := Tryd.sizeOf9
  rw [run_eql_struct, show (10000 : Nat) = 9999 + 1 from rfl, run_equalIn_agg W 9999 31 _ _ undL heldL]
  simp only [Program.fieldsOf, Tryd.underlying31]
  go_simp
theorem grdL (x y : Operand) (xs ys : Array Value) (W : World) : (eqGuard .eql 31 x y (.agg xs) (.agg ys)).run Tryd.prog W = .ok () W := run_eqGuard_agg W .eql 31 x y xs ys guardL

theorem aw1 : linE (⟨#[97, 32, 35, 32, 98, 10, 32, 9, 10, 99]⟩ : ByteArray).data.toList = ([(1, [97]), (3, [99])], 0) := by decide +kernel
theorem aw2 : rngE (⟨#[48, 48, 52, 49, 46, 46, 48, 48, 53, 65]⟩ : ByteArray).data.toList = (65, 90, 0) := by decide +kernel
theorem aw3 : bytE (⟨#[48, 120]⟩ : ByteArray).data.toList (⟨#[48, 120, 56, 49, 52, 48]⟩ : ByteArray).data.toList = ([], 10) := by decide +kernel
theorem aw4 : bytE (⟨#[92, 120]⟩ : ByteArray).data.toList (⟨#[92, 120, 56, 49, 92, 120, 52, 48]⟩ : ByteArray).data.toList = ([129, 64], 0) := by decide +kernel
set_option maxRecDepth 1000000 in
set_option maxHeartbeats 4000000 in
theorem awake_any (w : World) (hL : Ml w) : Calls Tryd.prog 9 #[] w fun e w' => e = .returned (.bool true) ∧ Below w.heap.size w w' := by
  have h1 := lines_any ⟨#[97, 32, 35, 32, 98, 10, 32, 9, 10, 99]⟩ w hL (by decide)
  rw [aw1] at h1
  have h2 := fun W hW => range_any ⟨#[48, 48, 52, 49, 46, 46, 48, 48, 53, 65]⟩ W hW (by decide)
  simp only [aw2] at h2
  have h3 := fun W => bytes_any ⟨#[48, 120, 56, 49, 52, 48]⟩ ⟨#[48, 120]⟩ W (by decide) (by decide)
  simp only [aw3] at h3
  have h4 := fun W => bytes_any ⟨#[92, 120, 56, 49, 92, 120, 52, 48]⟩ ⟨#[92, 120]⟩ W (by decide) (by decide)
  simp only [aw4] at h4
  unfold r3V at h2
  unfold bytV at h3 h4
  have HL1 := Lib.hid (show Calls Tryd.prog 10 #[.string ⟨#[97, 32, 35, 32, 98, 10, 32, 9, 10, 99]⟩] w fun e w' => ∃ g cap, e = .returned (.tuple #[.slice (some ⟨g, 0, none⟩) 2 cap, .int .i64 0]) ∧ g < w'.heap.size ∧ 2 ≤ cap ∧ w'.cell? ⟨g, 0, none⟩ = some (.int .i64 1) ∧ w'.cell? ⟨g, 1, none⟩ = some (.string ⟨#[97]⟩) ∧ w'.cell? ⟨g, 2, none⟩ = some (.int .i64 3) ∧ w'.cell? ⟨g, 3, none⟩ = some (.string ⟨#[99]⟩) ∧ Below w.heap.size w w' from by
    refine h1.mono ?_
    rintro e w' ⟨v, he, ho, hb⟩
    rcases ho.2 with ⟨_, hn⟩ | ⟨g, cap, cur, hv, hg, hh, hn, hm, hc, ht⟩
    · cases hn
    · have hq := fun j u hj => ho.cells (g := g) (by rw [hv]; rfl) j u hj
      have e : ∀ j, (⟨g, 0, none⟩ : Addr).add j = ⟨g, j, none⟩ := fun j => by unfold Addr.add; split <;> simp_all
      simp only [e] at hq
      subst hv
      exact ⟨g, cap, he, (ho.lt g rfl).2, hn, hq 0 _ rfl, hq 1 _ rfl, hq 2 _ rfl, hq 3 _ rfl, hb⟩)
  have HL2 := Lib.hid h2
  have HL3 := Lib.hid (fun W => (show Calls Tryd.prog 24 #[.string ⟨#[48, 120, 56, 49, 52, 48]⟩, .string ⟨#[48, 120]⟩] W fun e w' => e = .returned (.tuple #[.string ⟨#[]⟩, .int .i64 10]) ∧ Below W.heap.size W w' from h3 W))
  have HL4 := Lib.hid (fun W => (show Calls Tryd.prog 24 #[.string ⟨#[92, 120, 56, 49, 92, 120, 52, 48]⟩, .string ⟨#[92, 120]⟩] W fun e w' => e = .returned (.tuple #[.string ⟨#[129, 64]⟩, .int .i64 0]) ∧ Below W.heap.size W w' from h4 W))
  have HML := Lib.hid hL
  clear h1 h2 h3 h4 hL
  have hnq1 := fun W => eqlL 1 ⟨#[97]⟩ W
  have hgd1 := fun W => grdL (.tmp 37) (.tmp 38) #[.int .i64 1, .string ⟨#[97]⟩] #[.int .i64 1, .string ⟨#[97]⟩] W
  have hnq2 := fun W => eqlL 3 ⟨#[99]⟩ W
  have hgd2 := fun W => grdL (.tmp 44) (.tmp 45) #[.int .i64 3, .string ⟨#[99]⟩] #[.int .i64 3, .string ⟨#[99]⟩] W
  go_enter Tryd.func9, Tryd.ntmps9
  go_wp2_with fail
  refine HL1.out.mono ?_
  rintro e w1 ⟨g, cap, rfl, hg, hcap, d0, d1, d2, d3, hb⟩
  have B1 := Lib.hid hb
  have D := Lib.hid (And.intro d0 (And.intro d1 (And.intro d2 d3)))
  clear hb d0 d1 d2 d3
  go_wp2_with fail
  refine (HL2.out _ (HML.out.on B1.out)).mono ?_
  rintro e w2 ⟨rfl, hb⟩
  have B2 := Lib.hid hb
  clear hb
  go_wp2_with fail
  refine (HL3.out _).mono ?_
  rintro e w3 ⟨rfl, hb⟩
  have B3 := Lib.hid hb
  clear hb
  go_wp2_with fail
  refine (HL4.out _).mono ?_
  rintro e w4 ⟨rfl, hb⟩
  have B4 := Lib.hid hb
  clear hb
  have b34 := B3.out.trans (B4.out.mono B3.out.size)
  have b24 := B2.out.trans (b34.mono B2.out.size)
  have b14 := Lib.hid (B1.out.trans (b24.mono B1.out.size))
  have c0 : w4.cell? ⟨g, 0, none⟩ = some (.int .i64 1) := (b24.cell (p := ⟨g, 0, none⟩) hg).trans D.out.1
  have c1 : w4.cell? ⟨g, 1, none⟩ = some (.string ⟨#[97]⟩) := (b24.cell (p := ⟨g, 1, none⟩) hg).trans D.out.2.1
  have c2 : w4.cell? ⟨g, 2, none⟩ = some (.int .i64 3) := (b24.cell (p := ⟨g, 2, none⟩) hg).trans D.out.2.2.1
  have c3 : w4.cell? ⟨g, 3, none⟩ = some (.string ⟨#[99]⟩) := (b24.cell (p := ⟨g, 3, none⟩) hg).trans D.out.2.2.2
  clear b34 b24
  go_wp2_with fail
  go_ret
  exact ⟨rfl, b14.out⟩

end Go.Proofs.YtnnecigpahbhoaaDoor.Fi

import Derived.Test.YtohjkpdelopknaaDoorMd1
import Derived.Test.YtohjkpdelopknaaDoorMd2
import Derived.Test.YtohjkpdelopknaaDoorMd3
import Derived.Test.YtohjkpdelopknaaDoorMr1
import Derived.Test.YtohjkpdelopknaaDoorMr2
import Derived.Test.YtohjkpdelopknaaDoorMr3
import Derived.Deep.QuietTactic
import Derived.BigQuiet
namespace Go.Proofs.YtohjkpdelopknaaDoor
open Go.RowKit

set_option maxRecDepth 100000 in
set_option maxHeartbeats 1000000 in
theorem decode_nok (kd pol : Int) (A : Option Addr) (n c : Nat) (w : World) (h : kd < 1 ∨ 4 < kd) :
    Calls Tryd.prog 19 #[.int .i64 kd, .int .i64 pol, .slice A n c] w (DecPost w ([], [], 16)) := by
  go_enter Tryd.func19, Tryd.ntmps19
  go_wp2_with fail
  refine (layout_no kd w h).mono ?_
  rintro e w1 ⟨rfl, hb1⟩
  have z1 := hb1.size
  have B1 := Lib.hid hb1
  clear hb1
  go_wp2_with fail
  go_ret3
  exact ⟨_, _, rfl, World.ownsRow_nil _ _ _ _, World.ownsRow_nil _ _ _ _, B1.out.alloc z1 _⟩
set_option maxRecDepth 100000 in
set_option maxHeartbeats 1000000 in
theorem decode_nop (kd : Nat) (pol : Int) (A : Option Addr) (n c : Nat) (w : World) (hT : Tab w) (g1 : 1 ≤ kd) (g4 : kd ≤ 4) (h1 : pol ≠ 1) (h2 : pol ≠ 2) (h3 : pol ≠ 3) :
    Calls Tryd.prog 19 #[.int .i64 (kd : Int), .int .i64 pol, .slice A n c] w (DecPost w ([], [], 16)) := by
  have e1 : (pol != 1) = true := by simpa using h1
  have e2 : (pol != 2) = true := by simpa using h2
  have e3 : (pol != 3) = true := by simpa using h3
  have HL := Lib.hid (layout_any kd w hT g1 g4)
  generalize hzk : (szK kd : Int) = z at *
  generalize loK kd = lo at *
  generalize prK kd = pr at *
  clear h1 h2 h3 hT hzk
  go_enter Tryd.func19, Tryd.ntmps19
  go_wp2_with fail
  refine HL.out.mono ?_
  rintro e w1 ⟨rfl, hb1⟩
  have z1 := hb1.size
  have B1 := Lib.hid hb1
  clear hb1
  go_wp2_with fail
  go_ret3
  exact ⟨_, _, rfl, World.ownsRow_nil _ _ _ _, World.ownsRow_nil _ _ _ _, B1.out.alloc z1 _⟩
set_option maxRecDepth 100000 in
set_option maxHeartbeats 1000000 in
theorem rdecode_nok (kd pol : Int) (s : ByteArray) (w : World) (h : kd < 1 ∨ 4 < kd) :
    Calls Tryd.prog 20 #[.int .i64 kd, .int .i64 pol, .string s] w (DecPost w ([], [], 16)) := by
  go_enter Tryd.func20, Tryd.ntmps20
  go_wp2_with fail
  refine (may_no kd _ h).mono ?_
  rintro e w' ⟨rfl, rfl⟩
  go_wp2_with fail
  go_ret3
  exact ⟨_, _, rfl, World.ownsRow_nil _ _ _ _, World.ownsRow_nil _ _ _ _, Below.refl _ _⟩
set_option maxRecDepth 100000 in
set_option maxHeartbeats 1000000 in
theorem rdecode_nop (kd pol : Int) (s : ByteArray) (w : World) (g1 : 1 ≤ kd) (g4 : kd ≤ 4) (h : pol < 1 ∨ 3 < pol) :
    Calls Tryd.prog 20 #[.int .i64 kd, .int .i64 pol, .string s] w (DecPost w ([], [], 16)) := by
  rcases h with h | h
  · go_enter Tryd.func20, Tryd.ntmps20
    go_wp2_with fail
    refine (may_yes kd _ g1 g4).mono ?_
    rintro e w' ⟨rfl, rfl⟩
    go_wp2_with fail
    go_ret3
    exact ⟨_, _, rfl, World.ownsRow_nil _ _ _ _, World.ownsRow_nil _ _ _ _, Below.refl _ _⟩
  · have h' : ¬ pol < 1 := by omega
    go_enter Tryd.func20, Tryd.ntmps20
    go_wp2_with fail
    refine (may_yes kd _ g1 g4).mono ?_
    rintro e w' ⟨rfl, rfl⟩
    go_wp2_with fail
    go_ret3
    exact ⟨_, _, rfl, World.ownsRow_nil _ _ _ _, World.ownsRow_nil _ _ _ _, Below.refl _ _⟩

theorem decP_dec (kd : Nat) (pol : Int) (l : List Nat) (g1 : 1 ≤ kd) (g4 : kd ≤ 4) (h : pol = 1 ∨ pol = 2 ∨ pol = 3) : decP (kd : Int) pol l = dec kd pol 0 l := by
  unfold decP
  rw [if_pos ⟨⟨by omega, by omega⟩, h⟩, Int.toNat_natCast]
theorem decode_any (kd pol : Int) (A : Option Addr) (c : Nat) (xs : List ByteArray) (w : World) (hT : Tab w) (hx : Strs w A c xs) (hn : xs.length ≤ 100000) (hs : (catB xs).size ≤ 100000) :
    Calls Tryd.prog 19 #[.int .i64 kd, .int .i64 pol, .slice A xs.length c] w (DecPost w (decP kd pol (bs (catB xs)))) := by
  by_cases hk : 1 ≤ kd ∧ kd ≤ 4
  · obtain ⟨n, rfl⟩ : ∃ n : Nat, kd = n := ⟨kd.toNat, by omega⟩
    have g1 : 1 ≤ n := by omega
    have g4 : n ≤ 4 := by omega
    by_cases h1 : pol = 1
    · subst h1; rw [decP_dec n 1 _ g1 g4 (.inl rfl)]; exact decode1 n g1 g4 A c xs w hT hx hn hs
    by_cases h2 : pol = 2
    · subst h2; rw [decP_dec n 2 _ g1 g4 (.inr (.inl rfl))]; exact decode2 n g1 g4 A c xs w hT hx hn hs
    by_cases h3 : pol = 3
    · subst h3; rw [decP_dec n 3 _ g1 g4 (.inr (.inr rfl))]; exact decode3 n g1 g4 A c xs w hT hx hn hs
    unfold decP
    rw [if_neg (by simp [h1, h2, h3])]
    exact decode_nop n pol A _ c w hT g1 g4 h1 h2 h3
  · unfold decP
    rw [if_neg (fun h => hk h.1)]
    exact decode_nok kd pol A _ c w (by omega)
theorem rdecode_any (kd pol : Int) (s : ByteArray) (w : World) (hs : s.size ≤ 100000) :
    Calls Tryd.prog 20 #[.int .i64 kd, .int .i64 pol, .string s] w (DecPost w (decP kd pol (bs s))) := by
  by_cases hk : 1 ≤ kd ∧ kd ≤ 4
  · obtain ⟨n, rfl⟩ : ∃ n : Nat, kd = n := ⟨kd.toNat, by omega⟩
    have g1 : 1 ≤ n := by omega
    have g4 : n ≤ 4 := by omega
    by_cases h1 : pol = 1
    · subst h1; rw [decP_dec n 1 _ g1 g4 (.inl rfl)]; exact rdecode1 n g1 g4 s w hs
    by_cases h2 : pol = 2
    · subst h2; rw [decP_dec n 2 _ g1 g4 (.inr (.inl rfl))]; exact rdecode2 n g1 g4 s w hs
    by_cases h3 : pol = 3
    · subst h3; rw [decP_dec n 3 _ g1 g4 (.inr (.inr rfl))]; exact rdecode3 n g1 g4 s w hs
    unfold decP
    rw [if_neg (by simp [h1, h2, h3])]
    exact rdecode_nop n pol s w hk.1 hk.2 (by omega)
  · unfold decP
    rw [if_neg (fun h => hk h.1)]
    exact rdecode_nok kd pol s w (by omega)
theorem decP_lens (kd pol : Int) (l : List Nat) : (decP kd pol l).1.length ≤ l.length ∧ (decP kd pol l).2.1.length ≤ l.length := by
  unfold decP
  split
  · exact dec_lens _ pol l.length 0 l (Nat.le_refl _)
  · simp
theorem own_ints {w : World} {base : Nat} {v : Value} {l : List Int} (h : w.ownsRow base 21 1 v l.length (i32s l)) : ∃ A c, v = .slice A l.length c ∧ Ints .i32 w A l := by
  rcases h.2 with ⟨hv, hn⟩ | ⟨g, cap, cur, hv, hg, hh, hn, hm, hc, ht⟩
  · exact ⟨none, 0, by rw [hv, hn], fun i hi => by omega⟩
  · refine ⟨some ⟨g, 0, none⟩, cap, hv, fun i hi => ⟨g, 0, rfl, (h.lt g (by rw [hv]; rfl)).2, ?_⟩⟩
    have := h.cells (g := g) (by rw [hv]; rfl) i (.int .i32 (l.getD i 0)) (by simp [i32s, List.getD, List.getElem?_eq_getElem hi])
    have e : (⟨g, 0, none⟩ : Addr).add i = ⟨g, 0 + i, none⟩ := by unfold Addr.add; split <;> simp_all
    rw [e] at this
    exact this

theorem take_eq_more (l m : List Int) (k : Nat) (h : l.take k = m.take k) (hl : k < l.length) (hm : k < m.length) (he : l.getD k 0 = m.getD k 0) : l.take (k + 1) = m.take (k + 1) := by
  rw [take_more l k hl, take_more m k hm, h, he]
theorem ne_of_at (l m : List Int) (k : Nat) (he : l.getD k 0 ≠ m.getD k 0) : l ≠ m := fun h => he (by rw [h])

set_option maxRecDepth 100000 in
set_option maxHeartbeats 1000000 in
theorem runes_any (A B : Option Addr) (c d : Nat) (l m : List Int) (w : World) (hl : Ints .i32 w A l) (hm : Ints .i32 w B m) (zl : l.length ≤ 100000) (_zm : m.length ≤ 100000) :
    Calls Tryd.prog 21 #[.slice A l.length c, .slice B m.length d] w fun e w' => e = .returned (.bool (decide (l = m))) ∧ Below w.heap.size w w' := by
  have HL := Lib.hid hl
  have HM := Lib.hid hm
  clear hl hm
  by_cases hn : l.length = m.length
  · have e1 : ((l.length : Int) != (m.length : Int)) = false := by rw [hn]; simp
    have HN := Lib.hid hn
    clear hn
    go_enter Tryd.func21, Tryd.ntmps21
    go_wp2_with fail
    go_loopw [5] (fun i wr => ∃ k : Nat, i = .int .i64 k ∧ k ≤ l.length ∧ Hid (l.take k = m.take k ∧ Below w.heap.size w wr)) (fun i _ => l.length - (intOf i).toNat)
    case atStart => exact ⟨0, rfl, by omega, rfl, Below.refl _ _⟩
    case round =>
      obtain ⟨k, rfl, hk, HQ⟩ := hrel
      by_cases hlt : k < l.length
      · have hlt2 : k < m.length := by rw [← HN.out]; exact hlt
        obtain ⟨b, off, rfl, hb, hc⟩ := HL.out k hlt
        obtain ⟨b2, off2, rfl, hb2, hc2⟩ := HM.out k hlt2
        have hc' : wr.cell? ⟨b, off + k, none⟩ = some (.int .i32 (l.getD k 0)) := (HQ.out.2.cell (p := ⟨b, off + k, none⟩) hb).trans hc
        have hc2' : wr.cell? ⟨b2, off2 + k, none⟩ = some (.int .i32 (m.getD k 0)) := (HQ.out.2.cell (p := ⟨b2, off2 + k, none⟩) hb2).trans hc2
        clear hc hc2
        have g1 : (k : Int) < l.length := by omega
        have g2 : (k : Int) < m.length := by omega
        generalize hx : l.getD k 0 = x at hc'
        generalize hy : m.getD k 0 = y at hc2'
        have HX := Lib.hid hx
        have HY := Lib.hid hy
        clear hx hy
        by_cases hxy : x = y
        · subst hxy
          go_wp2_with fail
          go_quiet (fail)
          go_wp2_with fail
          go_roundw
          case rel => exact ⟨k + 1, by go_num, by omega, take_eq_more l m k HQ.out.1 hlt hlt2 (by rw [HX.out, HY.out]), bel_drewN HQ.out.2 _⟩
          case measure => simp [intOf]; omega
        · have hne : (x != y) = true := by simpa using hxy
          have HE := Lib.hid (ne_of_at l m k (by rw [HX.out, HY.out]; exact hxy))
          clear hxy
          go_wp2_with fail
          go_quiet (fail)
          go_wp2_with fail
          go_ret
          exact ⟨ret_bool (by simp [HE.out]), bel_drewN HQ.out.2 _⟩
      · have g1 : ¬ (k : Int) < l.length := by omega
        have HE : Hid (l = m) := by
          have h := HQ.out.1
          have hh := HN.out
          rw [List.take_of_length_le (by omega), List.take_of_length_le (by omega)] at h
          exact h
        go_wp2
        go_ret
        exact ⟨ret_bool (by simp [HE.out]), HQ.out.2⟩
  · have e1 : ((l.length : Int) != (m.length : Int)) = true := by simp; omega
    have HE : Hid (¬ l = m) := fun h => hn (by rw [h])
    clear hn
    go_enter Tryd.func21, Tryd.ntmps21
    go_wp2
    go_ret
    exact ⟨ret_bool (by simp [HE.out]), Below.refl _ _⟩
theorem und49 : Tryd.prog.underlying 49 = some (.struct (Tryd.prog.fieldsOf 49)) := by kernel_rfl
theorem held49 : Tryd.prog.stoodInHeld 49 = false := by kernel_rfl
theorem guard49 : Tryd.prog.eqGuardType Tryd.prog.depth 49 = false := by kernel_rfl
theorem neq49 (a b c d : Int) (W : World) : (binOp .neq 49 (.agg #[.int .i64 a, .int .i64 b]) (.agg #[.int .i64 c, .int .i64 d])).run Tryd.prog W = .ok (.bool (!(a == c && b == d))) W := by
  have u3 := Tryd.underlying3
  have a3 := Tryd.isAgg3
  have z3 := Tryd.sizeOf3
  rw [run_neq_struct, show (10000 : Nat) = 9999 + 1 from rfl, run_equalIn_agg W 9999 49 _ _ und49 held49]
  simp only [Program.fieldsOf, Tryd.underlying49]
  go_simp
  by_cases h1 : a = c <;> by_cases h2 : b = d <;> simp [h1, h2]
theorem grd49 (x y : Operand) (xs ys : Array Value) (W : World) : (eqGuard .neq 49 x y (.agg xs) (.agg ys)).run Tryd.prog W = .ok () W := run_eqGuard_agg W .neq 49 x y xs ys guard49

/-- A slice of malformed units, in memory that is there. -/
def Flts (w : World) (A : Option Addr) (l : List (Nat × Nat)) : Prop :=
  ∀ i (hi : i < l.length), ∃ b off, A = some ⟨b, off, none⟩ ∧ b < w.heap.size ∧ w.cell? ⟨b, off + i * 2, none⟩ = some (.int .i64 (l[i].1 : Int)) ∧ w.cell? ⟨b, off + i * 2 + 1, none⟩ = some (.int .i64 (l[i].2 : Int))
theorem Flts.below {w w' : World} {A : Option Addr} {l : List (Nat × Nat)} (h : Flts w A l) (hb : Below w.heap.size w w') : Flts w' A l := fun i hi => by
  obtain ⟨b, off, e, hl, hc, hd⟩ := h i hi
  exact ⟨b, off, e, Nat.lt_of_lt_of_le hl hb.size, (hb.cell (p := ⟨b, off + i * 2, none⟩) hl).trans hc, (hb.cell (p := ⟨b, off + i * 2 + 1, none⟩) hl).trans hd⟩

set_option maxRecDepth 100000 in
set_option maxHeartbeats 1000000 in
theorem faults_any (A B : Option Addr) (c d : Nat) (l m : List (Nat × Nat)) (w : World) (hl : Flts w A l) (hm : Flts w B m) (zl : l.length ≤ 100000) (_zm : m.length ≤ 100000) :
    Calls Tryd.prog 22 #[.slice A l.length c, .slice B m.length d] w fun e w' => e = .returned (.bool (decide (l = m))) ∧ Below w.heap.size w w' := by
  have HL := Lib.hid hl
  have HM := Lib.hid hm
  clear hl hm
  by_cases hn : l.length = m.length
  · have e1 : ((l.length : Int) != (m.length : Int)) = false := by rw [hn]; simp
    have HN := Lib.hid hn
    clear hn
    go_enter Tryd.func22, Tryd.ntmps22
    go_wp2_with fail
    go_loopw [5] (fun i wr => ∃ k : Nat, i = .int .i64 k ∧ k ≤ l.length ∧ Hid (l.take k = m.take k ∧ Below w.heap.size w wr)) (fun i _ => l.length - (intOf i).toNat)
    case atStart => exact ⟨0, rfl, by omega, rfl, Below.refl _ _⟩
    case round =>
      obtain ⟨k, rfl, hk, HQ⟩ := hrel
      by_cases hlt : k < l.length
      · have hlt2 : k < m.length := by rw [← HN.out]; exact hlt
        obtain ⟨b, off, rfl, hb, hc, hd⟩ := HL.out k hlt
        obtain ⟨b2, off2, rfl, hb2, hc2, hd2⟩ := HM.out k hlt2
        have hc' := (HQ.out.2.cell (p := ⟨b, off + k * 2, none⟩) hb).trans hc
        have hd' := (HQ.out.2.cell (p := ⟨b, off + k * 2 + 1, none⟩) hb).trans hd
        have hc2' := (HQ.out.2.cell (p := ⟨b2, off2 + k * 2, none⟩) hb2).trans hc2
        have hd2' := (HQ.out.2.cell (p := ⟨b2, off2 + k * 2 + 1, none⟩) hb2).trans hd2
        clear hc hc2 hd hd2
        have g1 : (k : Int) < l.length := by omega
        have g2 : (k : Int) < m.length := by omega
        generalize hx : l[k] = x at hc' hd'
        generalize hy : m[k] = y at hc2' hd2'
        have HX := Lib.hid hx
        have HY := Lib.hid hy
        clear hx hy
        obtain ⟨x1, x2⟩ := x
        obtain ⟨y1, y2⟩ := y
        have hnq := fun W => neq49 (x1 : Int) x2 y1 y2 W
        have hgd := fun W => grd49 (.tmp 20) (.tmp 24) #[.int .i64 (x1 : Int), .int .i64 x2] #[.int .i64 (y1 : Int), .int .i64 y2] W
        by_cases hxy : (x1, x2) = (y1, y2)
        · have hb1 : (!(((x1 : Int) == y1) && ((x2 : Int) == y2))) = false := by simp at hxy; simp [hxy]
          simp only [hb1] at hnq
          have HXY := Lib.hid hxy
          clear hxy hb1
          go_wp2_with fail
          go_quiet (fail)
          go_wp2_with fail
          go_roundw
          case rel => exact ⟨k + 1, by go_num, by omega, by rw [List.take_succ_eq_append_getElem hlt, List.take_succ_eq_append_getElem hlt2, HQ.out.1, HX.out, HY.out, HXY.out], bel_drewN HQ.out.2 _⟩
          case measure => simp [intOf]; omega
        · have hb1 : (!(((x1 : Int) == y1) && ((x2 : Int) == y2))) = true := by simp at hxy; simp; omega
          simp only [hb1] at hnq
          have HE : Hid (¬ l = m) := by
            intro h
            apply hxy
            rw [← HX.out, ← HY.out]
            subst h
            rfl
          clear hxy hb1
          go_wp2_with fail
          go_quiet (fail)
          go_wp2_with fail
          go_ret
          exact ⟨ret_bool (by simp [HE.out]), bel_drewN HQ.out.2 _⟩
      · have g1 : ¬ (k : Int) < l.length := by omega
        have HE : Hid (l = m) := by
          have h := HQ.out.1
          have hh := HN.out
          rw [List.take_of_length_le (by omega), List.take_of_length_le (by omega)] at h
          exact h
        go_wp2
        go_ret
        exact ⟨ret_bool (by simp [HE.out]), HQ.out.2⟩
  · have e1 : ((l.length : Int) != (m.length : Int)) = true := by simp; omega
    have HE : Hid (¬ l = m) := fun h => hn (by rw [h])
    clear hn
    go_enter Tryd.func22, Tryd.ntmps22
    go_wp2
    go_ret
    exact ⟨ret_bool (by simp [HE.out]), Below.refl _ _⟩

theorem flts_at : ∀ (l : List (Nat × Nat)) (i : Nat) (hi : i < l.length), (flts l)[i * 2]? = some (.int .i64 (l[i].1 : Int)) ∧ (flts l)[i * 2 + 1]? = some (.int .i64 (l[i].2 : Int))
  | x :: t, 0, _ => by simp [flts]
  | x :: t, i + 1, hi => by
    have ih := flts_at t i (by simpa using hi)
    have e : flts (x :: t) = .int .i64 (x.1 : Int) :: .int .i64 (x.2 : Int) :: flts t := by simp [flts]
    rw [e]
    have e1 : (i + 1) * 2 = (i * 2) + 1 + 1 := by omega
    rw [e1]
    simpa using ih
theorem own_flts {w : World} {base : Nat} {v : Value} {l : List (Nat × Nat)} (h : w.ownsRow base 49 2 v l.length (flts l)) : ∃ A c, v = .slice A l.length c ∧ Flts w A l := by
  rcases h.2 with ⟨hv, hn⟩ | ⟨g, cap, cur, hv, hg, hh, hn, hm, hc, ht⟩
  · exact ⟨none, 0, by rw [hv, hn], fun i hi => by omega⟩
  · refine ⟨some ⟨g, 0, none⟩, cap, hv, fun i hi => ⟨g, 0, rfl, (h.lt g (by rw [hv]; rfl)).2, ?_, ?_⟩⟩
    · have := h.cells (g := g) (by rw [hv]; rfl) (i * 2) _ (flts_at l i hi).1
      have e : (⟨g, 0, none⟩ : Addr).add (i * 2) = ⟨g, 0 + i * 2, none⟩ := by unfold Addr.add; split <;> simp_all
      rw [e] at this
      exact this
    · have := h.cells (g := g) (by rw [hv]; rfl) (i * 2 + 1) _ (flts_at l i hi).2
      have e : (⟨g, 0, none⟩ : Addr).add (i * 2 + 1) = ⟨g, 0 + i * 2 + 1, none⟩ := by unfold Addr.add; split <;> simp_all <;> omega
      rw [e] at this
      exact this
end Go.Proofs.YtohjkpdelopknaaDoor

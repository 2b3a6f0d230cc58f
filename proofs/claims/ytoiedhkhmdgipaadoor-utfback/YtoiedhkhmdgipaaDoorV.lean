import Derived.Test.YtoiedhkhmdgipaaDoorU
import Derived.Test.YtoiedhkhmdgipaaDoorN
namespace Go.Proofs.YtoiedhkhmdgipaaDoor
open Go.RowKit

def szOf : Value → Nat | .string t => t.size | _ => 0
/-- Whether bytes are characters alone. -/
def vld (l : List Nat) : Bool := (dec 1 0 l).2.2 == 0

set_option maxRecDepth 100000 in
set_option maxHeartbeats 1000000 in
theorem valid_any (s : ByteArray) (w : World) (hT : Tab w) (hs : s.size ≤ 100000) : Calls Tryd.prog 22 #[.string s] w fun e w' => e = .returned (.bool (vld (bs s))) ∧ w = w' := by
  have HT := Lib.hid hT
  clear hT
  generalize hv : vld (bs s) = vb
  have HV := Lib.hid hv
  clear hv
  go_enter Tryd.func22, Tryd.ntmps22
  go_wp2_with fail
  go_loop [0] (fun u => ∃ t : ByteArray, u = .string t ∧ t.size ≤ 100000 ∧ ∃ k : Nat, Hid (vb = ((dec 1 k (bs t)).2.2 == 0))) (fun u => szOf u)
  case atStart => exact ⟨s, rfl, hs, 0, HV.out.symm⟩
  case round =>
    obtain ⟨t, rfl, ht, k, HK⟩ := hrel
    by_cases h0 : t.size = 0
    · have he : t.toList.isEmpty = true := by rw [isE]; simpa using h0
      have HE : Hid (vb = true) := by
        have := HK.out
        rw [bs_nil t h0, dec_nil] at this
        exact this
      clear h0
      go_wp2
      go_ret
      exact ⟨ret_bool HE.out.symm, rfl⟩
    · have he : t.toList.isEmpty = false := by rw [isE]; simpa using h0
      have hne : bs t ≠ [] := by
        intro h
        have := bs_len t
        rw [h] at this
        simp at this
        omega
      obtain ⟨r, e, n, hx, n1, n2, n3, n4, n5, n6⟩ := nx_step _ hne
      have HX := Lib.hid hx
      rw [bs_len] at n2
      clear n4 n5 n6
      by_cases hz : e = 0
      · have HR : Hid (vb = ((dec 1 (k + n) ((bs t).drop n)).2.2 == 0)) := by
          have := HK.out
          rw [dec_ok 1 k (bs t) hne r n (by rw [hx, hz]) n1] at this
          exact this
        subst hz
        clear hx hne h0
        have hsz := ext_from t n
        have HSZ := Lib.hid hsz
        clear hsz
        go_wp2_with fail
        have hn := next_any t w HT.out ht
        rw [HX.out] at hn
        refine hn.mono ?_
        rintro v w' ⟨rfl, rfl⟩
        unfold nxV
        go_wp2_with fail
        go_round
        case rel => exact ⟨_, rfl, by rw [HSZ.out]; omega, k + n, by rw [bs_from]; exact HR.out⟩
        case measure => simp only [szOf]; rw [HSZ.out]; omega
      · have HR : Hid (vb = false) := by
          have := HK.out
          rw [dec_bad1 k (bs t) hne r e n hx hz] at this
          exact this
        have he1 : (e != 0) = true := by simpa using hz
        clear hx hne h0 hz
        go_wp2_with fail
        have hn := next_any t w HT.out ht
        rw [HX.out] at hn
        refine hn.mono ?_
        rintro v w' ⟨rfl, rfl⟩
        unfold nxV
        go_wp2_with fail
        go_ret
        exact ⟨ret_bool HR.out.symm, rfl⟩

theorem cut_hit1 {l : List Nat} {z : Nat} (hl : l.length = z) (h : 1 ≤ z) (h1 : (nx (l.drop (z - 1))).2.2 = 18) : cutN l = z - 1 := by
  unfold cutN; rw [hl, if_pos ⟨h, h1⟩]
theorem cut_hit2 {l : List Nat} {z : Nat} (hl : l.length = z) (h : 2 ≤ z) (h1 : ¬ (nx (l.drop (z - 1))).2.2 = 18) (h2 : (nx (l.drop (z - 2))).2.2 = 18) : cutN l = z - 2 := by
  unfold cutN; rw [hl, if_neg (fun c => h1 c.2), if_pos ⟨h, h2⟩]
theorem cut_hit3 {l : List Nat} {z : Nat} (hl : l.length = z) (h : 3 ≤ z) (h1 : ¬ (nx (l.drop (z - 1))).2.2 = 18) (h2 : ¬ (nx (l.drop (z - 2))).2.2 = 18) (h3 : (nx (l.drop (z - 3))).2.2 = 18) : cutN l = z - 3 := by
  unfold cutN; rw [hl, if_neg (fun c => h1 c.2), if_neg (fun c => h2 c.2), if_pos ⟨h, h3⟩]
theorem cut_none {l : List Nat} {z : Nat} (hl : l.length = z) (h1 : 1 ≤ z → ¬ (nx (l.drop (z - 1))).2.2 = 18) (h2 : 2 ≤ z → ¬ (nx (l.drop (z - 2))).2.2 = 18) (h3 : 3 ≤ z → ¬ (nx (l.drop (z - 3))).2.2 = 18) : cutN l = z := by
  unfold cutN; rw [hl, if_neg (fun c => h1 c.1 c.2), if_neg (fun c => h2 c.1 c.2), if_neg (fun c => h3 c.1 c.2)]

set_option maxRecDepth 100000 in
set_option maxHeartbeats 1000000 in
theorem cut_any (s : ByteArray) (w : World) (hT : Tab w) (hs : s.size ≤ 100000) : Calls Tryd.prog 23 #[.string s] w fun e w' => e = .returned (.int .i64 (cutN (bs s))) ∧ w = w' := by
  have HT := Lib.hid hT
  have HL := Lib.hid (bs_len s)
  clear hT
  go_enter Tryd.func23, Tryd.ntmps23
  go_wp2_with fail
  go_loop [3] (fun u => ∃ j : Nat, u = .int .i64 ((s.size : Int) - j) ∧ 1 ≤ j ∧ j ≤ 4 ∧ j ≤ s.size + 1 ∧ Hid (∀ i, 1 ≤ i → i < j → i ≤ s.size → ¬ (nx ((bs s).drop (s.size - i))).2.2 = 18)) (fun u => (intOf u + 1).toNat)
  case atStart => exact ⟨1, rfl, by omega, by omega, by omega, fun i h1 h2 => by omega⟩
  case round =>
    obtain ⟨j, rfl, j1, j4, js, HJ⟩ := hrel
    by_cases hc : j ≤ s.size ∧ j < 4
    · obtain ⟨c1, c2⟩ := hc
      obtain ⟨k, hk⟩ : ∃ k : Nat, s.size = k + j := ⟨s.size - j, by omega⟩
      have hk' : (s.size : Int) - j = k := by omega
      have hne : (bs s).drop k ≠ [] := by
        intro h
        have := congrArg List.length h
        rw [List.length_drop, bs_len] at this
        simp at this
        omega
      obtain ⟨r, e, n, hx, n1, n2, n3, n4, n5, n6⟩ := nx_step _ hne
      have HX := Lib.hid hx
      rw [hk']
      have g0 : (0 : Int) ≤ k := by omega
      have g1 : (s.size : Int) - k < 4 := by omega
      have g2 : (k : Int) ≤ s.size := by omega
      have HK := Lib.hid hk
      have hkj : s.size - j = k := by omega
      have HKJ := Lib.hid hkj
      clear hx hne n4 n5 n6 hk hk' hkj n2
      by_cases hz : e = 18
      · have HC : Hid (cutN (bs s) = k) := by
          have h18 : (nx ((bs s).drop (s.size - j))).2.2 = 18 := by rw [HKJ.out, HX.out]; exact hz
          have : j = 1 ∨ j = 2 ∨ j = 3 := by omega
          rcases this with rfl | rfl | rfl
          · exact (cut_hit1 HL.out c1 h18).trans HKJ.out
          · exact (cut_hit2 HL.out c1 (HJ.out 1 (by omega) (by omega) (by omega)) h18).trans HKJ.out
          · exact (cut_hit3 HL.out c1 (HJ.out 1 (by omega) (by omega) (by omega)) (HJ.out 2 (by omega) (by omega) (by omega)) h18).trans HKJ.out
        subst hz
        go_wp2_with fail
        refine (next_from s k _ HT.out hs r 18 n HX.out).mono ?_
        rintro v w' ⟨rfl, rfl⟩
        go_wp2_with fail
        go_ret
        exact ⟨ret_int (by rw [HC.out]), rfl⟩
      · have hq : (e == 18) = false := by simpa using hz
        have HZ := Lib.hid hz
        clear hz
        go_wp2_with fail
        refine (next_from s k _ HT.out hs r e n HX.out).mono ?_
        rintro v w' ⟨rfl, rfl⟩
        go_wp2_with fail
        go_round
        case rel =>
          refine ⟨j + 1, by have := HK.out; go_num, by omega, by omega, by omega, fun i h1 h2 h3 => ?_⟩
          rcases Nat.lt_or_ge i j with h4 | h4
          · exact HJ.out i h1 h4 h3
          · obtain rfl : i = j := by omega
            rw [HKJ.out, HX.out]
            exact HZ.out
        case measure => simp [intOf]
    · have HC : Hid (cutN (bs s) = s.size) := cut_none HL.out (fun h => HJ.out 1 (by omega) (by omega) h) (fun h => HJ.out 2 (by omega) (by omega) h) (fun h => HJ.out 3 (by omega) (by omega) h)
      have hor : s.size < j ∨ (j ≤ s.size ∧ 4 ≤ j) := by omega
      clear hc
      rcases hor with h | ⟨h, h'⟩
      · have g0 : (s.size : Int) - j < 0 := by omega
        go_wp2
        go_ret
        exact ⟨ret_int (by rw [HC.out]), rfl⟩
      · have g0 : (0 : Int) ≤ (s.size : Int) - j := by omega
        have g1 : ¬ (s.size : Int) - ((s.size : Int) - j) < 4 := by omega
        go_wp2
        go_ret
        exact ⟨ret_int (by rw [HC.out]), rfl⟩

theorem und44 : Tryd.prog.underlying 44 = some (.struct (Tryd.prog.fieldsOf 44)) := by kernel_rfl
theorem held44 : Tryd.prog.stoodInHeld 44 = false := by kernel_rfl
theorem guard44 : Tryd.prog.eqGuardType Tryd.prog.depth 44 = false := by kernel_rfl
theorem neq44 (a b c d : Int) (W : World) : (binOp .neq 44 (.agg #[.int .i64 a, .int .i64 b]) (.agg #[.int .i64 c, .int .i64 d])).run Tryd.prog W = .ok (.bool (!(a == c && b == d))) W := by
  have u3 := Tryd.underlying3
  have a3 := Tryd.isAgg3
  have z3 := Tryd.sizeOf3
  rw [run_neq_struct, show (10000 : Nat) = 9999 + 1 from rfl, run_equalIn_agg W 9999 44 _ _ und44 held44]
  simp only [Program.fieldsOf, Tryd.underlying44]
  go_simp
  by_cases h1 : a = c <;> by_cases h2 : b = d <;> simp [h1, h2]
theorem grd44 (x y : Operand) (xs ys : Array Value) (W : World) : (eqGuard .neq 44 x y (.agg xs) (.agg ys)).run Tryd.prog W = .ok () W := run_eqGuard_agg W .neq 44 x y xs ys guard44

/-- A slice of malformed units, in memory that is there. -/
def Flts (w : World) (A : Option Addr) (l : List (Nat × Nat)) : Prop :=
  ∀ i (hi : i < l.length), ∃ b off, A = some ⟨b, off, none⟩ ∧ b < w.heap.size ∧ w.cell? ⟨b, off + i * 2, none⟩ = some (.int .i64 (l[i].1 : Int)) ∧ w.cell? ⟨b, off + i * 2 + 1, none⟩ = some (.int .i64 (l[i].2 : Int))
theorem Flts.below {w w' : World} {A : Option Addr} {l : List (Nat × Nat)} (h : Flts w A l) (hb : Below w.heap.size w w') : Flts w' A l := fun i hi => by
  obtain ⟨b, off, e, hl, hc, hd⟩ := h i hi
  exact ⟨b, off, e, Nat.lt_of_lt_of_le hl hb.size, (hb.cell (p := ⟨b, off + i * 2, none⟩) hl).trans hc, (hb.cell (p := ⟨b, off + i * 2 + 1, none⟩) hl).trans hd⟩

set_option maxRecDepth 100000 in
set_option maxHeartbeats 1000000 in
theorem faults_any (A B : Option Addr) (c d : Nat) (l m : List (Nat × Nat)) (w : World) (hl : Flts w A l) (hm : Flts w B m) (zl : l.length ≤ 100000) (_zm : m.length ≤ 100000) :
    Calls Tryd.prog 21 #[.slice A l.length c, .slice B m.length d] w fun e w' => e = .returned (.bool (decide (l = m))) ∧ Below w.heap.size w w' := by
  have HL := Lib.hid hl
  have HM := Lib.hid hm
  clear hl hm
  by_cases hn : l.length = m.length
  · have e1 : ((l.length : Int) != (m.length : Int)) = false := by rw [hn]; simp
    have HN := Lib.hid hn
    clear hn
    go_enter Tryd.func21, Tryd.ntmps21
    go_wp2_with fail
    go_loopw [5] (fun i wr => ∃ k : Nat, i = .int .i64 k ∧ k ≤ l.length ∧ Hid (l.take k = m.take k ∧ Below w.heap.size w wr)) (fun i _ => l.length - (intOf i).toNat)
    case atStart => exact ⟨0, rfl, by omega, rfl, Below.refl _ _⟩
    case round =>
      obtain ⟨k, rfl, hk, HQ⟩ := hrel
      by_cases hlt : k < l.length
      · have hlt2 : k < m.length := by rw [← HN.out]; exact hlt
        obtain ⟨b, off, rfl, hb, hc, hd⟩ := HL.out k hlt
        obtain ⟨b2, off2, rfl, hb2, hc2, hd2⟩ := HM.out k hlt2
        have hc' := (HQ.out.2.cell (p := ⟨b, off + k * 2, none⟩) hb).trans hc
        have hd' := (HQ.out.2.cell (p := ⟨b, off + k * 2 + 1, none⟩) hb).trans hd
        have hc2' := (HQ.out.2.cell (p := ⟨b2, off2 + k * 2, none⟩) hb2).trans hc2
        have hd2' := (HQ.out.2.cell (p := ⟨b2, off2 + k * 2 + 1, none⟩) hb2).trans hd2
        clear hc hc2 hd hd2
        have g1 : (k : Int) < l.length := by omega
        have g2 : (k : Int) < m.length := by omega
        generalize hx : l[k] = x at hc' hd'
        generalize hy : m[k] = y at hc2' hd2'
        have HX := Lib.hid hx
        have HY := Lib.hid hy
        clear hx hy
        obtain ⟨x1, x2⟩ := x
        obtain ⟨y1, y2⟩ := y
        have hnq := fun W => neq44 (x1 : Int) x2 y1 y2 W
        have hgd := fun W => grd44 (.tmp 20) (.tmp 24) #[.int .i64 (x1 : Int), .int .i64 x2] #[.int .i64 (y1 : Int), .int .i64 y2] W
        by_cases hxy : (x1, x2) = (y1, y2)
        · have hb1 : (!(((x1 : Int) == y1) && ((x2 : Int) == y2))) = false := by simp at hxy; simp [hxy]
          simp only [hb1] at hnq
          have HXY := Lib.hid hxy
          clear hxy hb1
          go_wp2_with fail
          go_quiet (fail)
          go_wp2_with fail
          go_roundw
          case rel => exact ⟨k + 1, by go_num, by omega, by rw [List.take_succ_eq_append_getElem hlt, List.take_succ_eq_append_getElem hlt2, HQ.out.1, HX.out, HY.out, HXY.out], bel_drewN HQ.out.2 _⟩
          case measure => simp [intOf]; omega
        · have hb1 : (!(((x1 : Int) == y1) && ((x2 : Int) == y2))) = true := by simp at hxy; simp; omega
          simp only [hb1] at hnq
          have HE : Hid (¬ l = m) := by
            intro h
            apply hxy
            rw [← HX.out, ← HY.out]
            subst h
            rfl
          clear hxy hb1
          go_wp2_with fail
          go_quiet (fail)
          go_wp2_with fail
          go_ret
          exact ⟨ret_bool (by simp [HE.out]), bel_drewN HQ.out.2 _⟩
      · have g1 : ¬ (k : Int) < l.length := by omega
        have HE : Hid (l = m) := by
          have h := HQ.out.1
          have hh := HN.out
          rw [List.take_of_length_le (by omega), List.take_of_length_le (by omega)] at h
          exact h
        go_wp2
        go_ret
        exact ⟨ret_bool (by simp [HE.out]), HQ.out.2⟩
  · have e1 : ((l.length : Int) != (m.length : Int)) = true := by simp; omega
    have HE : Hid (¬ l = m) := fun h => hn (by rw [h])
    clear hn
    go_enter Tryd.func21, Tryd.ntmps21
    go_wp2
    go_ret
    exact ⟨ret_bool (by simp [HE.out]), Below.refl _ _⟩

theorem flts_at : ∀ (l : List (Nat × Nat)) (i : Nat) (hi : i < l.length), (flts l)[i * 2]? = some (.int .i64 (l[i].1 : Int)) ∧ (flts l)[i * 2 + 1]? = some (.int .i64 (l[i].2 : Int))
  | x :: t, 0, _ => by simp [flts]
  | x :: t, i + 1, hi => by
    have ih := flts_at t i (by simpa using hi)
    have e : flts (x :: t) = .int .i64 (x.1 : Int) :: .int .i64 (x.2 : Int) :: flts t := by simp [flts]
    rw [e]
    have e1 : (i + 1) * 2 = (i * 2) + 1 + 1 := by omega
    rw [e1]
    simpa using ih
theorem own_flts {w : World} {base : Nat} {v : Value} {l : List (Nat × Nat)} (h : w.ownsRow base 44 2 v l.length (flts l)) : ∃ A c, v = .slice A l.length c ∧ Flts w A l := by
  rcases h.2 with ⟨hv, hn⟩ | ⟨g, cap, cur, hv, hg, hh, hn, hm, hc, ht⟩
  · exact ⟨none, 0, by rw [hv, hn], fun i hi => by omega⟩
  · refine ⟨some ⟨g, 0, none⟩, cap, hv, fun i hi => ⟨g, 0, rfl, (h.lt g (by rw [hv]; rfl)).2, ?_, ?_⟩⟩
    · have := h.cells (g := g) (by rw [hv]; rfl) (i * 2) _ (flts_at l i hi).1
      have e : (⟨g, 0, none⟩ : Addr).add (i * 2) = ⟨g, 0 + i * 2, none⟩ := by unfold Addr.add; split <;> simp_all
      rw [e] at this
      exact this
    · have := h.cells (g := g) (by rw [hv]; rfl) (i * 2 + 1) _ (flts_at l i hi).2
      have e : (⟨g, 0, none⟩ : Addr).add (i * 2 + 1) = ⟨g, 0 + i * 2 + 1, none⟩ := by unfold Addr.add; split <;> simp_all <;> omega
      rw [e] at this
      exact this
end Go.Proofs.YtoiedhkhmdgipaaDoor

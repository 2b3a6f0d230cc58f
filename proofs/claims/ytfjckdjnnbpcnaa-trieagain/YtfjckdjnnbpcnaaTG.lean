import Derived.Test.YtfjckdjnnbpcnaaTF
import Derived.StillTailTactics
import Derived.Deep.Cut
namespace Go.Proofs.Ytfjckdjnnbpcnaa.Tr
open Go.RowKit

/-- Onto a row of its own, all of another row: the run. -/
theorem run_append_row {P : Program} {w : World} (base : Nat) (t ty e : TypeId) (i : TypeInfo) (z : Value) (size bytes : Nat) (ht : P.underlying t = some (.slice e)) (hi : P.info? e = some i) (hz : i.zero = some z)
    (hsize : i.size = size) (hby : i.bytes = bytes) (hzs : z.cells.size = size) (hsz : 0 < size)
    (v : Value) (n : Nat) (xs : List Value) (hown : w.ownsRow base e size v n xs)
    (base2 : Nat) (v2 : Value) (m : Nat) (ys : List Value) (hown2 : w.ownsRow base2 e size v2 m ys) (h1 : ∀ u ∈ ys, u.oneCell' = true)
    (h63 : n + m ≤ maxLen) (hbytes : (n + m) * bytes ≤ 140737488355328) (hbase : base ≤ w.heap.size) :
    ∃ v' w', (Builtin.append_ #[t, t] ty #[v, v2]).run P w = .ok v' w' ∧ w'.ownsRow base e size v' (n + m) (xs ++ ys) ∧ w.grownBy w' v.ownBlock ∧ (v'.ownBlock = v.ownBlock ∨ v'.ownBlock = some w.heap.size) := by
  have hl := hown2.1
  rcases hown2.2 with ⟨rfl, rfl⟩ | ⟨g, cap, cur, rfl, _⟩
  · have : ys = [] := List.eq_nil_of_length_eq_zero (by rw [hl]; simp)
    subst this
    exact ⟨v, w, run_append_owned_none (P := P) (w := w) base t ty e i size ht hi v n xs hown, by simpa using hown, ⟨rfl, rfl, rfl, Nat.le_refl _, fun _ _ _ => rfl⟩, .inl rfl⟩
  · obtain ⟨v', w', hr, h2, h3, _, h5⟩ := run_append_own_at (P := P) w base t ty e i z size bytes ht hi hz hsize hby hzs hsz v n xs hown ⟨g, 0, none⟩ m cap ys hl (hown2.cells (g := g) rfl) h1 h63 hbytes hbase
    exact ⟨v', w', hr, h2, h3, h5⟩
/-- At a step of a region that draws its order: an append, by its run. -/
theorem step_append_run {P : Program} {w : World} {ops : Array Oper} {o : Oper} {a : Act} {K : Act → World → Prop} {Q : Exit → Act → World → Prop} {E : Prop} (hgd : o.guard = none) (s x : Operand) (t : TypeId)
    (ho : o.op = .call { callee := .builtin .append, args := #[s, x], argTypes := #[t, t] }) (v v2 : Value) (hs : a.eval s = v) (hx : a.eval x = v2) (v' : Value) (w' : World) (hr : (Builtin.append_ #[t, t] o.type #[v, v2]).run P w = .ok v' w')
    (h : K (a.put o.dst v') w') : if Region.wanted o (yielded ops a.tmps) = true then Oper.wp P o a w K Q else E := by
  have hw : Region.wanted o (yielded ops a.tmps) = true := by simp [Region.wanted, hgd]
  rw [if_pos hw]
  unfold Oper.wp execOp
  simp only [ho, resolve, invoke, builtin, Sem.run_bind, Sem.run_pure, Result.andThen_ok, List.map_toArray, List.map_cons, List.map_nil, hs, hx, hr]
  exact h
theorem blkF_take {l : List Sp} {j : Nat} (h : j < l.length) : blkF (l.take (j + 1)) = blkS (blkF (l.take j)) l[j] := by
  rw [List.take_succ_eq_append_getElem h, blkF_snoc]
theorem all_in {g : Int → Int} {nn : Int} {s : Sp} (h : s ∈ allG g nn) : 0 ≤ s.1 ∧ s.1 ≤ s.2.1 ∧ s.2.1 ≤ 1114111 ∧ s.2.2 ≠ nn := by
  obtain ⟨a, b, c, d⟩ := scan_last g nn 1114112 s h
  exact ⟨a, b, by omega, d⟩

set_option maxHeartbeats 8000000 in
set_option maxRecDepth 100000 in
theorem rblocks_any (w : World) (base X : Nat) (nn : Int) (L : List Sp) (h : Rt w base X nn L) (hL : L.length ≤ 1000) (hok : ∀ s ∈ L, okS s = true) :
    Calls Try.prog 31 #[.pointer (some ⟨X, 0, none⟩)] w fun e w' => e = .returned (.int .i64 (blkN (getL nn L) nn : Nat)) ∧ Below w.heap.size w w' := by
  have hA := rall_any w base X nn L h hL hok
  have hin := fun s hs => @all_in (getL nn L) nn s hs
  have hbl := blkF_all (getL nn L) nn
  have hsl : (allG (getL nn L) nn).length ≤ 1114112 := scan_len _ _ _
  generalize allG (getL nn L) nn = l at *
  generalize blkN (getL nn L) nn = NB at *
  have HA := Lib.hid hA
  have HI := Lib.hid hin
  have HBL := Lib.hid hbl
  obtain ⟨M, hM⟩ : ∃ M : Nat, M = 1114112 := ⟨_, rfl⟩
  rw [← hM] at hsl
  have hM2 : M ≤ 2000000 := by omega
  clear hA hin hbl h hok hM
  go_enter Try.func31, Try.ntmps31
  go_wp2_with fail
  refine HA.out.mono ?_
  rintro e w1 ⟨v1, rfl, ho, hb⟩
  obtain ⟨A, c, rfl, hs⟩ := own_sps ho
  have HS := Lib.hid hs
  have HB := Lib.hid hb
  clear ho hb hs HA
  go_wp2_with fail
  go_loopw [4, 5, 6, 7, 8] (fun n la i _ _ wr => ∃ k : Nat, i = .int .i64 k ∧ k ≤ l.length ∧ wr = w1 ∧ ∃ x y : Int, n = .int .i64 x ∧ la = .int .i32 y ∧ 0 ≤ x ∧ x ≤ 4353 * k ∧ -1 ≤ y ∧ y ≤ 4351 ∧ Hid (blkF (l.take k) = (x, y))) (fun _ _ i _ _ _ => l.length - (intOf i).toNat)
  case atStart => exact ⟨0, rfl, by omega, rfl, 0, -1, rfl, rfl, by omega, by omega, by omega, by omega, rfl⟩
  case round =>
    obtain ⟨k, rfl, hk, rfl, x, y, rfl, rfl, x0, x1, y0, y1, HF⟩ := hrel
    by_cases hlt : k < l.length
    · obtain ⟨b, off, rfl, hbl, p0, p1, _⟩ := HS.out k hlt
      obtain ⟨s0, s1, s2, _⟩ := HI.out l[k] (List.getElem_mem hlt)
      have hn := blkF_take hlt
      rw [HF.out] at hn
      generalize l[k] = s at *
      obtain ⟨f, t, u⟩ := s
      simp only at p0 p1 s0 s1 s2
      have HN := Lib.hid hn
      have g2 : (k : Int) < l.length := by omega
      clear hn
      have q1 : IntKind.i32.wrap (f.tdiv 256) = f / 256 := by rw [Int.tdiv_eq_ediv_of_nonneg s0, IntKind.wrap_i32]; omega
      have q2 : IntKind.i32.wrap (t.tdiv 256) = t / 256 := by rw [Int.tdiv_eq_ediv_of_nonneg (by omega), IntKind.wrap_i32]; omega
      have q3 : f.tdiv 256 = f / 256 := Int.tdiv_eq_ediv_of_nonneg s0
      have q4 : t.tdiv 256 = t / 256 := Int.tdiv_eq_ediv_of_nonneg (by omega)
      obtain ⟨a, ha⟩ : ∃ a, a = f / 256 := ⟨_, rfl⟩
      obtain ⟨d, hd⟩ : ∃ d, d = t / 256 := ⟨_, rfl⟩
      have a0 : 0 ≤ a := by omega
      have a1 : a ≤ d := by omega
      have a2 : d ≤ 4351 := by omega
      rw [← ha] at q1 q3
      rw [← hd] at q2 q4
      have HAA := Lib.hid ha
      have HDD := Lib.hid hd
      clear ha hd s0 s1 s2
      by_cases hy : a = y
      · subst hy
        have e1 : (a == a) = true := by simp
        by_cases hd : a + 1 ≤ d
        · go_wp2_with fail
          go_roundw
          case measure => simp [intOf] <;> omega
          case rel =>
            refine ⟨k + 1, by go_num, by omega, trivial, x + (d - (a + 1)) + 1, d, by go_num, rfl, by omega, by omega, by omega, by omega, ?_⟩
            show blkF _ = _
            rw [HN.out]
            unfold blkS
            simp only [← HAA.out, ← HDD.out]
            simp [hd]
        · go_wp2_with fail
          go_roundw
          case measure => simp [intOf] <;> omega
          case rel =>
            refine ⟨k + 1, by go_num, by omega, trivial, x, a, by go_num, rfl, by omega, by omega, by omega, by omega, ?_⟩
            show blkF _ = _
            rw [HN.out]
            unfold blkS
            simp only [← HAA.out, ← HDD.out]
            simp [hd]
      · have e1 : (a == y) = false := by simpa using hy
        go_wp2_with fail
        go_roundw
        case measure => simp [intOf] <;> omega
        case rel =>
          refine ⟨k + 1, by go_num, by omega, trivial, x + (d - a) + 1, d, by go_num, rfl, by omega, by omega, by omega, by omega, ?_⟩
          show blkF _ = _
          rw [HN.out]
          unfold blkS
          simp only [← HAA.out, ← HDD.out]
          simp [hy, a1]
    · obtain rfl : k = l.length := by omega
      have g2 : ¬ (l.length : Int) < l.length := by omega
      go_wp2_with fail
      go_ret
      refine ⟨?_, HB.out⟩
      have h9 := HF.out
      rw [List.take_length] at h9
      have h8 := HBL.out
      rw [h9] at h8
      rw [← h8]
      rfl

theorem ret_b {a b : Bool} (h : a = b) : Ending.returned (.bool a) = .returned (.bool b) := by rw [h]
theorem rcopy_fin {w W1 w6 : World} {nn : Int} {L : List Sp} {v6 : Value} (hb1 : Below w.heap.size w W1) (hk1 : Bk W1 w.heap.size [.int .i64 nn, .slice none 0 0] 29) (ho6 : w6.ownsRow w.heap.size 33 3 v6 (0 + L.length) ([] ++ spC L)) (hg6 : W1.grownBy w6 (Value.slice none 0 0).ownBlock) :
    Rt (w6.setCell ⟨w.heap.size, 1, none⟩ v6) w.heap.size w.heap.size nn L ∧ Below w.heap.size w (w6.setCell ⟨w.heap.size, 1, none⟩ v6) ∧ w6.cell? ⟨w.heap.size, 1, none⟩ = some (.slice none 0 0) ∧ w6.frozen? ⟨w.heap.size, 1, none⟩ = false := by
  have hb6 : Bk w6 w.heap.size [.int .i64 nn, .slice none 0 0] 29 := hk1.on (hg6.block w.heap.size hk1.lt (by simp [Value.ownBlock]))
  rw [Nat.zero_add, List.nil_append] at ho6
  refine ⟨⟨Nat.le_refl _, v6, hb6.set 1 v6, own_set ho6 (hb6.ne ho6 (by decide)) _⟩, ?_, hb6.c (i := 1) rfl, hb6.fr 1⟩
  exact (hb1.grown hg6 hb1.size (fun k hk => by simp [Value.ownBlock] at hk)).setCell (Nat.le_refl _) _

set_option maxHeartbeats 4000000 in
set_option maxRecDepth 100000 in
theorem rcopy_any (w : World) (base X : Nat) (nn : Int) (L : List Sp) (h : Rt w base X nn L) (hL : L.length ≤ 1000) :
    Calls Try.prog 17 #[.pointer (some ⟨X, 0, none⟩)] w
      fun e w' => ∃ Y, e = .returned (.pointer (some ⟨Y, 0, none⟩)) ∧ Rt w' w.heap.size Y nn L ∧ Below w.heap.size w w' := by
  obtain ⟨v, hb, ho⟩ := h.blk
  obtain ⟨A, c, rfl, _⟩ := own_slice ho
  obtain ⟨i0, hi0, hz0, hz1, hz2⟩ := info_parts sp_info
  have I0 := Lib.hid hi0
  have I1 := Lib.hid hz0
  have I2 := Lib.hid hz1
  have I3 := Lib.hid hz2
  have c0 := hb.c (i := 0) rfl
  have c1 := hb.c (i := 1) rfl
  have HO := Lib.hid ho
  have ON := Lib.hid (spC_one L)
  have hlt := hb.lt
  clear hi0 hz0 hz1 hz2 hb ho h
  go_enter Try.func17, Try.ntmps17
  obtain ⟨W0, hW0⟩ : ∃ x, x = w.alloc (.cells #[.int .i64 nn, .slice none 0 0] 29) := ⟨_, rfl⟩
  have K0 : Bk W0 w.heap.size [.int .i64 nn, .slice none 0 0] 29 := by rw [hW0]; exact ⟨heap_alloc_new w _⟩
  have D0 : Below w.heap.size w W0 := by rw [hW0]; exact (Below.refl _ w).alloc (Nat.le_refl _) _
  obtain ⟨v6, w6, hr6, ho6, hg6, _⟩ := run_append_row (P := Try.prog) (w := W0.drew) w.heap.size 22 22 33 i0 _ 3 16 Try.underlying22 I0.out I1.out I2.out I3.out rfl (by omega) (.slice none 0 0) 0 _ (World.ownsRow_nil _ _ _ _) base _ L.length _ (own_below HO.out D0.drew) ON.out (by unfold maxLen; omega) (by omega) D0.size
  obtain ⟨q1, q2, q3, q4⟩ := rcopy_fin D0.drew (K0.below (Below.refl _ W0).drew) ho6 hg6
  rw [Nat.zero_add] at ho6
  obtain ⟨A6, c6, rfl, _⟩ := own_slice ho6
  go_upto_region 2 with fail
  rw [← hW0]
  have c2 := (D0.cell (p := ⟨X, 1, none⟩) hlt).trans c1
  have c3 := K0.c (i := 1) rfl
  have f3 := K0.fr 1
  have c7 : w6.cell? ⟨X, 1, none⟩ = some (.slice A L.length c) := (World.cell?_of_block (hg6.block X (Nat.lt_of_lt_of_le hlt D0.size) (by simp [Value.ownBlock]))).trans c2
  have Q := Lib.hid (And.intro q1 q2)
  have E7 := Lib.hid (And.intro c7 (And.intro q3 q4))
  have HR6 := Lib.hid hr6
  clear hW0 K0 D0 c0 c1 HO ho6 hg6 q1 q2 hr6
  have q3 := E7.out.2.1
  have q4 := E7.out.2.2
  go_region_law (first
    | (refine step_append_run (by rfl) _ _ _ (by rfl) _ _ (by rfl) (by rfl) _ _ HR6.out ?_))
  all_goals
    go_wp2_with fail
    go_ret
    exact ⟨w.heap.size, rfl, Q.out.1, Q.out.2⟩

def sumW (l : List Sp) : Int := l.foldl (fun n s => if okS s then n + (s.2.1 - s.1) + 1 else n) 0
def wideB (l : List Sp) : Bool := decide (40 < l.length) || decide (200000 < sumW l)
theorem sumW_take {l : List Sp} {j : Nat} (h : j < l.length) : sumW (l.take (j + 1)) = if okS l[j] then sumW (l.take j) + ((l[j]).2.1 - (l[j]).1) + 1 else sumW (l.take j) := by
  rw [List.take_succ_eq_append_getElem h]
  unfold sumW
  rw [List.foldl_append]
  rfl
set_option maxHeartbeats 8000000 in
set_option maxRecDepth 100000 in
theorem wide_any (w : World) (A : Option Addr) (c : Nat) (l : List Sp) (h : Sps w A l) (hl : l.length ≤ 140737488355328) :
    Calls Try.prog 10 #[.slice A l.length c] w fun e w' => e = .returned (.bool (wideB l)) ∧ ∃ m, w' = w.drewN m := by
  have HS := Lib.hid h
  clear h
  by_cases h40 : l.length ≤ 40
  · go_enter Try.func10, Try.ntmps10
    go_wp2_with fail
    go_loopw [3, 4] (fun n i wr => ∃ k : Nat, i = .int .i64 k ∧ k ≤ l.length ∧ (∃ m, wr = w.drewN m) ∧ ∃ x : Int, n = .int .i64 x ∧ 0 ≤ x ∧ x ≤ 2000000 * k ∧ Hid (sumW (l.take k) = x)) (fun _ i _ => l.length - (intOf i).toNat)
    case atStart => exact ⟨0, rfl, by omega, ⟨0, rfl⟩, 0, rfl, by omega, by omega, rfl⟩
    case round =>
      obtain ⟨k, rfl, hk, ⟨m, rfl⟩, x, rfl, x0, x1, HF⟩ := hrel
      by_cases hlt : k < l.length
      · obtain ⟨b, off, rfl, hbl, p0, p1, _⟩ := HS.out k hlt
        have hn := sumW_take hlt
        rw [HF.out] at hn
        generalize l[k] = s at *
        obtain ⟨f, t, u⟩ := s
        simp only at p0 p1 hn
        have HN := Lib.hid hn
        have g2 : (k : Int) < l.length := by omega
        clear hn
        by_cases a : 0 ≤ f
        · by_cases b1 : t ≤ 1114111
          · by_cases b2 : f ≤ t
            · have hw : IntKind.i32.wrap (t - f) = t - f := by rw [IntKind.wrap_i32]; omega
              have hok : okS (f, t, u) = true := by simp [okS]; omega
              have HK := Lib.hid hok
              clear hok
              go_wp2_with fail
              go_quiet (fail)
              go_wp2_with fail
              go_quiet (fail)
              go_wp2_with fail
              go_roundw
              case measure => simp [intOf] <;> omega
              case rel => exact ⟨k + 1, by go_num, by omega, ⟨_, rfl⟩, x + (t - f) + 1, by go_num, by omega, by omega, (by show sumW _ = _; rw [HN.out, if_pos HK.out])⟩
            · have d9 : decide (f ≤ t) = false := by simpa using b2
              have HK := Lib.hid (show ¬ okS (f, t, u) = true by simp [okS]; omega)
              go_wp2_with fail
              go_quiet (fail)
              go_wp2_with fail
              go_roundw
              case measure => simp [intOf] <;> omega
              case rel => exact ⟨k + 1, by go_num, by omega, ⟨_, rfl⟩, x, rfl, by omega, by omega, (by show sumW _ = _; rw [HN.out, if_neg HK.out])⟩
          · have d9 : decide (t ≤ 1114111) = false := by simpa using b1
            have HK := Lib.hid (show ¬ okS (f, t, u) = true by simp [okS]; omega)
            go_wp2_with fail
            go_quiet (fail)
            go_wp2_with fail
            go_roundw
            case measure => simp [intOf] <;> omega
            case rel => exact ⟨k + 1, by go_num, by omega, ⟨_, rfl⟩, x, rfl, by omega, by omega, (by show sumW _ = _; rw [HN.out, if_neg HK.out])⟩
        · have d9 : decide (0 ≤ f) = false := by simpa using a
          have HK := Lib.hid (show ¬ okS (f, t, u) = true by simp [okS]; omega)
          go_wp2_with fail
          go_quiet (fail)
          go_wp2_with fail
          go_roundw
          case measure => simp [intOf] <;> omega
          case rel => exact ⟨k + 1, by go_num, by omega, ⟨_, rfl⟩, x, rfl, by omega, by omega, (by show sumW _ = _; rw [HN.out, if_neg HK.out])⟩
      · obtain rfl : k = l.length := by omega
        have g2 : ¬ (l.length : Int) < l.length := by omega
        have hx := HF.out
        rw [List.take_length] at hx
        have HX := Lib.hid hx
        have g3 : ¬ (40 : Int) < l.length := by omega
        clear hx
        go_wp2_with fail
        go_ret
        refine ⟨?_, m, rfl⟩
        refine ret_b ?_
        unfold wideB
        rw [HX.out, decide_eq_false (show ¬ 40 < l.length by omega)]
        simp
  · have hwd : wideB l = true := by unfold wideB; rw [decide_eq_true (show 40 < l.length by omega)]; rfl
    rw [hwd]
    go_enter Try.func10, Try.ntmps10
    go_wp2_with fail
    go_loopw [3, 4] (fun n i wr => ∃ k : Nat, i = .int .i64 k ∧ k ≤ l.length ∧ (∃ m, wr = w.drewN m) ∧ ∃ x : Int, n = .int .i64 x) (fun _ i _ => l.length - (intOf i).toNat)
    case atStart => exact ⟨0, rfl, by omega, ⟨0, rfl⟩, 0, rfl⟩
    case round =>
      obtain ⟨k, rfl, hk, ⟨m, rfl⟩, x, rfl⟩ := hrel
      by_cases hlt : k < l.length
      · obtain ⟨b, off, rfl, hbl, p0, p1, _⟩ := HS.out k hlt
        generalize l[k] = s at *
        obtain ⟨f, t, u⟩ := s
        simp only at p0 p1
        have g2 : (k : Int) < l.length := by omega
        by_cases a : 0 ≤ f
        · by_cases b1 : t ≤ 1114111
          · by_cases b2 : f ≤ t
            · go_wp2_with fail
              go_quiet (fail)
              go_wp2_with fail
              go_quiet (fail)
              go_wp2_with fail
              go_roundw
              case measure => simp [intOf] <;> omega
              case rel => exact ⟨k + 1, by go_num, by omega, ⟨_, rfl⟩, _, rfl⟩
            · have d9 : decide (f ≤ t) = false := by simpa using b2
              go_wp2_with fail
              go_quiet (fail)
              go_wp2_with fail
              go_roundw
              case measure => simp [intOf] <;> omega
              case rel => exact ⟨k + 1, by go_num, by omega, ⟨_, rfl⟩, _, rfl⟩
          · have d9 : decide (t ≤ 1114111) = false := by simpa using b1
            go_wp2_with fail
            go_quiet (fail)
            go_wp2_with fail
            go_roundw
            case measure => simp [intOf] <;> omega
            case rel => exact ⟨k + 1, by go_num, by omega, ⟨_, rfl⟩, _, rfl⟩
        · have d9 : decide (0 ≤ f) = false := by simpa using a
          go_wp2_with fail
          go_quiet (fail)
          go_wp2_with fail
          go_roundw
          case measure => simp [intOf] <;> omega
          case rel => exact ⟨k + 1, by go_num, by omega, ⟨_, rfl⟩, _, rfl⟩
      · obtain rfl : k = l.length := by omega
        have g2 : ¬ (l.length : Int) < l.length := by omega
        have g3 : (40 : Int) < l.length := by omega
        go_wp2_with fail
        go_ret
        exact ⟨rfl, m, rfl⟩

end Go.Proofs.Ytfjckdjnnbpcnaa.Tr

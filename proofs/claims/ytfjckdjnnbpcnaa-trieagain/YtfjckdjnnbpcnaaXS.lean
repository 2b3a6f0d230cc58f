import Derived.Test.YtfjckdjnnbpcnaaTG
import Derived.Test.YtfjckdjnnbpcnaaCr
namespace Go.Proofs.Ytfjckdjnnbpcnaa.Tr
open Go.RowKit Go.Shelf

attribute [local go_sem] Oper.semAt_some

def encS (s : Sp) : Array Value := #[.agg #[.int .i32 s.1, .int .i32 s.2.1], .int .i64 s.2.2]
attribute [local go_sem] encS
/-- What a table of the program answers, in every world behind. -/
structure TrK (w : World) (p : Value) (g : Int → Int) (nn : Int) : Prop where
  all : ∀ W, Below w.heap.size w W → Calls Try.prog 16 #[p] W fun e w' => ∃ G lb, e = .returned (.func (.func G) #[] lb) ∧ (∀ args W', (callFunc G args).run Try.prog W' = .ok (.enter G args) W') ∧
    SeqStopsK Fence.wide 4 Try.prog G lb encS (Below w'.heap.size) (fun ys => ys = allG g nn) (fun pre => pre <+: allG g nn) (allG g nn).length w' ∧ Below W.heap.size W w'
  get : ∀ W, Below w.heap.size w W → ∀ r, Calls Try.prog 20 #[p, .int .i32 r] W fun e w' => e = .returned (.int .i64 (if 0 ≤ r ∧ r ≤ 1114111 then g r else nn)) ∧ Below W.heap.size W w'
  blocks : ∀ W, Below w.heap.size w W → Calls Try.prog 19 #[p] W fun e w' => e = .returned (.int .i64 (blkN g nn : Nat)) ∧ Below W.heap.size W w'

theorem prefix_more {pre L : List Sp} {x : Sp} (h : pre <+: L) (hl : pre.length < L.length) : pre ++ [x] <+: L ↔ x = L[pre.length] := by
  obtain ⟨r, rfl⟩ := h
  cases r with
  | nil => simp at hl
  | cons y r =>
    simp only [List.getElem_append_right (Nat.le_refl _), Nat.sub_self, List.getElem_cons_zero]
    constructor
    · rintro ⟨r', e⟩
      rw [List.append_assoc] at e
      have := List.append_cancel_left e
      simp at this
      exact this.1
    · rintro rfl
      exact ⟨r, by simp⟩
theorem blkN_same {g g' : Int → Int} {nn : Int} (h : ∀ x : Nat, x < 1114112 → g x = g' x) : blkN g nn = blkN g' nn := by
  unfold blkN
  refine List.countP_congr fun b hb => ?_
  have hb' := List.mem_range.1 hb
  unfold nzB
  have e : ((List.range 256).any fun i => decide (g ((b * 256 + i : Nat) : Int) ≠ nn)) = ((List.range 256).any fun i => decide (g' ((b * 256 + i : Nat) : Int) ≠ nn)) := by
    rw [Bool.eq_iff_iff, List.any_eq_true, List.any_eq_true]
    constructor
    · rintro ⟨i, hi, h9⟩
      have hi' := List.mem_range.1 hi
      exact ⟨i, hi, by rw [← h _ (by omega)]; exact h9⟩
    · rintro ⟨i, hi, h9⟩
      have hi' := List.mem_range.1 hi
      exact ⟨i, hi, by rw [h _ (by omega)]; exact h9⟩
  rw [e]
theorem keeps_below {W W' : World} (h : Below W.heap.size W W') : KeepsOthers W W' := ⟨h.size, fun k _ hk _ => (h.block k (Array.getElem?_eq_some_iff.1 hk).1).trans hk⟩
theorem Bk.other {w : World} {X Y o : Nat} {cs : List Value} {t : TypeId} (h : Bk w X cs t) (hne : X ≠ Y) (v : Value) : Bk (w.setCell ⟨Y, o, none⟩ v) X cs t := h.on (Below.heap_setCell _ _ _ _ hne)
theorem bk_row {W W' : World} {B X : Nat} {cs : List Value} {t : TypeId} {row : Option Nat} (h : Bk W X cs t) (hg : W.grownBy W' row) (hr : ∀ r, row = some r → B ≤ r ∧ ∃ o : Obj, W.heap[r]? = some o ∧ o.isCells = false) : Bk W' X cs t :=
  h.on (hg.block X h.lt (fun e => by
    obtain ⟨_, o, ho, hc⟩ := hr X e.symm
    rw [h.blk] at ho
    cases ho
    cases hc))
set_option maxHeartbeats 16000000 in
set_option maxRecDepth 100000 in
theorem same_any (w : World) (p : Value) (g : Int → Int) (base X : Nat) (nn : Int) (L : List Sp) (A : Option Addr) (c : Nat) (l : List Sp) (hT : TrK w p g nn) (hR : Rt w base X nn L) (hL : L.length ≤ 1000) (hok : ∀ s ∈ L, okS s = true) (hg : ∀ r, 0 ≤ r → r ≤ 1114111 → g r = getL nn L r) (hl : Sps w A l) (hll : l.length ≤ 40) :
    Calls Try.prog 14 #[p, .pointer (some ⟨X, 0, none⟩), .slice A l.length c] w fun e w' => e = .returned (.bool true) ∧ Below w.heap.size w w' := by
  obtain ⟨G0, hG0⟩ : ∃ x, x = getL nn L := ⟨_, rfl⟩
  have hAll : allG g nn = allG G0 nn := scan_same fun x hx => by rw [hG0]; exact hg x (by omega) (by omega)
  have hRA := fun (W : World) (hb : Below w.heap.size w W) => rall_any W base X nn L (hR.below hb) hL hok
  have hTA := hT.all
  rw [hAll] at hTA
  rw [← hG0] at hRA
  have hsl : (allG G0 nn).length ≤ 1114112 := scan_len _ _ _
  generalize allG G0 nn = L1 at *
  have HTA := Lib.hid hTA
  have HRA := Lib.hid hRA
  have hnf : ∀ (G : Nat) (cap : Array Value) (W : World), (binOp BinOp.eql 38 (.func (.func G) #[] cap) .nilFunc).run Try.prog W = .ok (.bool false) W := fun _ _ _ => by kernel_rfl
  have hF : ∀ r, (if 0 ≤ r ∧ r ≤ 1114111 then g r else nn) = getL nn L r := fun r => by
    by_cases hr : 0 ≤ r ∧ r ≤ 1114111
    · rw [if_pos hr]; exact hg r hr.1 hr.2
    · rw [if_neg hr]
      exact (getL_out fun s hs => by
        have h9 := hok s hs
        simp only [okS, Bool.not_eq_true', Bool.or_eq_false_iff, decide_eq_false_iff_not] at h9
        simp [inS]
        omega).symm
  have hGet := fun (W : World) (hb : Below w.heap.size w W) (r : Int) => hT.get W hb r
  simp only [hF] at hGet
  have hAt := fun (W : World) (hb : Below w.heap.size w W) (r : Int) => at_any W base X nn L r (hR.below hb) hL hok
  have hBR := fun (W : World) (hb : Below w.heap.size w W) => rblocks_any W base X nn L (hR.below hb) hL hok
  have hBT := hT.blocks
  have hBN : blkN g nn = blkN (getL nn L) nn := blkN_same fun x hx => hg x (by omega) (by omega)
  rw [hBN] at hBT
  generalize blkN (getL nn L) nn = NB at hBT hBR
  generalize getL nn L = FF at hGet hAt
  have HFG := Lib.hid hGet
  have HFA := Lib.hid hAt
  have HBT := Lib.hid hBT
  have HBR := Lib.hid hBR
  have HSL := Lib.hid hl
  clear hTA hRA hAll hF hGet hAt hBT hBR hBN hl hg hG0 hT hR hok
  refine calls_marks Try.func14 rfl ?_
  simp only [Try.ntmps14, List.size_toArray, List.length_cons, List.length_nil, Nat.reduceAdd, Nat.reduceSub, Array.replicate_succ, Array.replicate_zero, List.push_toArray, List.append_toArray, List.nil_append, List.cons_append]
  go_upto_region 1 with fail
  obtain ⟨w1, hw1⟩ : ∃ x, x = w.alloc (.cells #[.bool false] 4) := ⟨_, rfl⟩
  have k1 : Bk w1 w.heap.size [.bool false] 4 := by rw [hw1]; exact ⟨heap_alloc_new w _⟩
  have d1 : Below w.heap.size w w1 := by rw [hw1]; exact (Below.refl _ w).alloc (Nat.le_refl _) _
  rw [← hw1]
  clear hw1
  have D1 := Lib.hid d1
  have K1 := Lib.hid k1
  clear d1 k1
  go_wp2_with (first
    | (go_at_call 16; refine (HTA.out _ D1.out).mono ?_; rintro e w2 ⟨G, lb, rfl, hen, hsq, hb⟩; have EN := Lib.hid hen; have SQ := Lib.hid hsq; have D2 := Lib.hid (D1.out.trans (hb.mono D1.out.size)); have K2 := Lib.hid (K1.out.below hb); clear hen hsq hb)
    | (go_at_call 18; refine (HRA.out _ D2.out).mono ?_; rintro e w3 ⟨v3, rfl, ho3, hb⟩; obtain ⟨A3, c3, rfl, hs3⟩ := own_sps ho3; have S3 := Lib.hid hs3; have B3 := Lib.hid hb; have D3 := Lib.hid (D2.out.trans (hb.mono D2.out.size)); have K3 := Lib.hid (K2.out.below hb); clear ho3 hs3 hb))
  obtain ⟨w4, hw4⟩ : ∃ x, x = (w3.alloc (.cells #[.slice A3 L1.length c3] 22)).alloc (.cells #[.int .i64 0] 3) := ⟨_, rfl⟩
  have z4 : (w3.alloc (.cells #[.slice A3 L1.length c3] 22)).heap.size = w3.heap.size + 1 := by simp
  have d4 : Below w3.heap.size w3 w4 := by rw [hw4]; exact ((Below.refl _ w3).alloc (Nat.le_refl _) _).alloc (by simp) _
  have k8 : Bk w4 w3.heap.size [.slice A3 L1.length c3] 22 := by
    have h9 : Bk (w3.alloc (.cells #[.slice A3 L1.length c3] 22)) w3.heap.size [.slice A3 L1.length c3] 22 := ⟨heap_alloc_new w3 _⟩
    rw [hw4]; exact h9.below ((Below.refl _ _).alloc (Nat.le_refl _) _)
  have k9 : Bk w4 (w3.heap.size + 1) [.int .i64 0] 3 := ⟨by rw [hw4]; have h9 := heap_alloc_new (w3.alloc (.cells #[.slice A3 L1.length c3] 22)) (.cells #[.int .i64 0] 3); rwa [z4] at h9⟩
  have hz4 : w4.heap.size = w3.heap.size + 2 := by rw [hw4]; simp
  rw [← hw4]
  clear hw4 z4
  have D4 := Lib.hid (D3.out.trans (d4.mono D3.out.size))
  have S4 := Lib.hid (S3.out.below d4)
  have K4 := Lib.hid (K3.out.below d4)
  have D34 := Lib.hid d4
  have hz2 : w.heap.size < w2.heap.size := K2.out.lt
  have hz3 : w2.heap.size ≤ w3.heap.size := B3.out.size
  refine wp_of_wide (wpIn_rangeFunc_ownH (α := Sp) rfl (by omega) (gf := G) (lb := lb) rfl trivial EN.out SQ.out belowK_t (belowK_b (by omega)) (B3.out.trans (d4.mono B3.out.size)) (fun _ => rfl)
    (fun pre W => pre <+: L1 ∧ Bk W w.heap.size [.bool false] 4 ∧ Bk W w3.heap.size [.slice A3 L1.length c3] 22 ∧ Bk W (w3.heap.size + 1) [.int .i64 pre.length] 3 ∧ Below w3.heap.size w3 W ∧ w4.heap.size ≤ W.heap.size)
    (fun c pre W => ¬ pre <+: L1)
    (fun s A B row hs hg hr => ⟨hs.1, bk_row hs.2.1 hg hr, bk_row hs.2.2.1 hg hr, bk_row hs.2.2.2.1 hg hr, hs.2.2.2.2.1.grown hg hs.2.2.2.2.1.size (fun k e => by have := (hr k e).1; omega), Nat.le_trans hs.2.2.2.2.2 hg.size⟩)
    (fun _ _ _ _ _ hs _ _ => hs)
    ⟨List.nil_prefix, K4.out, k8, k9, D34.out, Nat.le_refl _⟩
    (fun x a' W => ∃ Bs, w4.heap.size ≤ Bs ∧ Bk W Bs [.int .i32 x.1, .int .i32 x.2.1] 42 ∧ a' = { tmps := #[p, .pointer (some ⟨X, 0, none⟩), .slice A l.length c, undef, undef, undef, .pointer (some ⟨w.heap.size, 0, none⟩), .func (.func G) #[] lb, .pointer (some ⟨w3.heap.size, 0, none⟩), .pointer (some ⟨w3.heap.size + 1, 0, none⟩), .pointer (some ⟨Bs, 0, none⟩), .int .i64 x.2.2, undef, undef, undef, undef, p, .func (.func G) #[] lb, .func (.func G) #[] lb, .bool false, .pointer (some ⟨X, 0, none⟩), .slice A3 L1.length c3, .func (.func G) #[] lb, .agg #[.int .i32 x.1, .int .i32 x.2.1], .int .i64 x.2.2, undef, undef, undef, undef, undef, undef, undef, undef, undef, undef, undef, undef, undef, undef, undef, undef, undef, undef, undef, undef, undef, undef, undef, undef, undef, undef, undef, undef, undef, undef, undef, undef, undef, undef, undef, undef, undef, undef, undef, undef, undef, undef, undef, undef, undef, undef, undef, undef, undef, undef, undef, undef, undef, undef, undef, undef, undef, undef, undef, undef, undef, undef, undef, undef, undef, undef, undef, undef, undef, undef, undef, undef, undef, undef, undef, undef, undef, undef, undef, undef, undef, undef, undef, undef, undef, undef, undef, undef, undef, undef, undef, undef, undef, undef, undef, undef, undef, undef, undef, undef, undef, undef, undef, undef, undef, undef], defers := [] })
    (fun x a' s W W' row hs hg hr => by obtain ⟨Bs, h1, h2, h3⟩ := hs; exact ⟨Bs, h1, bk_row h2 hg hr, h3⟩)
    ?assign ?body ?done ?stop)
  case stop =>
    rintro D c pre W _ h1 h2 _
    exact absurd h1 h2
  case assign =>
    rintro l pre x W K ⟨hp, h6, h8, h9, hB, hz⟩ hK
    gi_wp2
    exact hK _ _ ((KeepsOthers.alloc _ _).from _) ((Below.refl _ W).alloc (by omega) _)
      ⟨hp, h6.below ((Below.refl _ W).alloc (Nat.le_refl _) _), h8.below ((Below.refl _ W).alloc (Nat.le_refl _) _), h9.below ((Below.refl _ W).alloc (Nat.le_refl _) _), hB.alloc hB.size _, by simp; omega⟩
      ⟨W.heap.size, hz, ⟨heap_alloc_new W _⟩, rfl⟩
  case body =>
    rintro l pre x a' W hl hr ⟨hp, h6, h8, h9, hB, hzW⟩ ⟨Bs, hBs, hbx, rfl⟩ hlt
    obtain ⟨b, off, rfl, hbl, p0, p1, p2⟩ := (S3.out.below hB) pre.length hlt
    have hpx : pre ++ [x] <+: L1 ↔ x = L1[pre.length] := prefix_more hp hlt
    have HPX := Lib.hid hpx
    generalize L1[pre.length] = s at *
    obtain ⟨f, t, u⟩ := s
    obtain ⟨f2, t2, u2⟩ := x
    simp only at p0 p1 p2
    have y1 := Bel.cell (h9.c (i := 0) rfl) h9.lt
    have y2 := Bel.cell (h8.c (i := 0) rfl) h8.lt
    have y3 := Bel.cell (hbx.c (i := 0) rfl) hbx.lt
    have y4 := Bel.cell (hbx.c (i := 1) rfl) hbx.lt
    have y5 := Bel.cell p0 (by show b < _; exact hbl)
    have y6 := Bel.cell p1 (by show b < _; exact hbl)
    have y7 := Bel.cell p2 (by show b < _; exact hbl)
    have H6 := Lib.hid h6
    have H8 := Lib.hid h8
    have H9 := Lib.hid h9
    have HBB := Lib.hid hB
    have g2 : (pre.length : Int) < (L1.length : Int) := by omega
    have g3 : decide (L1.length ≤ pre.length) = false := by simpa using hlt
    clear hpx p0 p1 p2 h6 h8 h9 hB hbx hlt
    by_cases e1 : f2 = f
    · have q1 : (f2 != f) = false := by simpa using e1
      by_cases e2 : t2 = t
      · have q2 : (t2 != t) = false := by simpa using e2
        by_cases e3 : u2 = u
        · have q3 : (u2 != u) = false := by simpa using e3
          have HX := Lib.hid (HPX.out.2 (by rw [e1, e2, e3]))
          clear e1 e2 e3
          gi_wp2
          refine wpIn_round_bel (by kernel_rfl) (by kernel_rfl) (by kernel_rfl) ?_
          repeat (go_big_quiet_step (fail))
          refine wpQuiet_nil ?_
          intro y
          have y9 := y1 y
          have f9 := (H9.out.below y.b).fr 0
          gi_wp2
          have hyz := y.b.size
          refine ⟨((keeps_below y.b).trans (KeepsOthers.setCell _ _ _)).from _, (y.b.mono (by omega)).setCell (p := ⟨w3.heap.size + 1, 0, none⟩) (by show w2.heap.size ≤ w3.heap.size + 1; omega) _, HX.out, (H6.out.below y.b).other (by omega) _, (H8.out.below y.b).other (by omega) _, ?_, ?_, ?_⟩
          · have h9 := (H9.out.below y.b).set 0 (.int .i64 ((pre.length : Int) + 1))
            rw [show (pre ++ [(f2, t2, u2)]).length = pre.length + 1 by simp]
            exact h9
          · exact (HBB.out.trans (y.b.mono HBB.out.size)).setCell (p := ⟨w3.heap.size + 1, 0, none⟩) (by show w3.heap.size ≤ w3.heap.size + 1; omega) _
          · simp [World.setCell]; omega
        · have q3 : (u2 != u) = true := by simpa using e3
          have HX := Lib.hid (fun h => e3 (by have h8 := HPX.out.1 h; simp only [Prod.mk.injEq] at h8; exact h8.2.2))
          clear e1 e2 e3
          gi_wp2
          refine wpIn_round_bel (by kernel_rfl) (by kernel_rfl) (by kernel_rfl) ?_
          repeat (go_big_quiet_step (fail))
          refine wpQuiet_nil ?_
          intro y
          have y9 := (H6.out.below y.b).c (i := 0) rfl
          have f9 := (H6.out.below y.b).fr 0
          gi_wp2
          exact ⟨((keeps_below y.b).trans (KeepsOthers.setCell _ _ _)).from _, HX.out⟩
      · have q2 : (t2 != t) = true := by simpa using e2
        have HX := Lib.hid (fun h => e2 (by have h8 := HPX.out.1 h; simp only [Prod.mk.injEq] at h8; exact h8.2.1))
        clear e1 e2
        gi_wp2
        refine wpIn_round_bel (by kernel_rfl) (by kernel_rfl) (by kernel_rfl) ?_
        repeat (go_big_quiet_step (fail))
        refine wpQuiet_nil ?_
        intro y
        have y9 := (H6.out.below y.b).c (i := 0) rfl
        have f9 := (H6.out.below y.b).fr 0
        gi_wp2
        exact ⟨((keeps_below y.b).trans (KeepsOthers.setCell _ _ _)).from _, HX.out⟩
    · have q1 : (f2 != f) = true := by simpa using e1
      have HX := Lib.hid (fun h => e1 (by have h8 := HPX.out.1 h; simp only [Prod.mk.injEq] at h8; exact h8.1))
      clear e1
      gi_wp2
      refine wpIn_round_bel (by kernel_rfl) (by kernel_rfl) (by kernel_rfl) ?_
      repeat (go_big_quiet_step (fail))
      refine wpQuiet_nil ?_
      intro y
      have y9 := (H6.out.below y.b).c (i := 0) rfl
      have f9 := (H6.out.below y.b).fr 0
      gi_wp2
      exact ⟨((keeps_below y.b).trans (KeepsOthers.setCell _ _ _)).from _, HX.out⟩
  case done =>
    rintro D ys W hD rfl ⟨_, h6, h8, h9, hB, hzW⟩ hK
    have HK := Lib.hid hK
    have HB := Lib.hid hB
    have H6 := Lib.hid h6
    have H8 := Lib.hid h8
    have H9 := Lib.hid h9
    have hDl : D < W.heap.size := (Array.getElem?_eq_some_iff.1 HK.out).1
    clear hK hB h6 h8 h9
    have DW := Lib.hid (D3.out.trans (HB.out.mono D3.out.size))
    have eb : ∀ z : Int, (z != z) = false := fun z => by simp
    go_wp2_with fail
    go_loopw [12, 13, 14, 15] (fun i _ _ _ wr => ∃ q : Nat, i = .int .i64 q ∧ q ≤ l.length ∧ Hid (Below W.heap.size W wr)) (fun i _ _ _ _ => l.length - (intOf i).toNat)
    case atStart => exact ⟨0, rfl, by omega, Below.refl _ _⟩
    case round =>
      obtain ⟨q, rfl, hq, HQ⟩ := hrel
      by_cases hlt : q < l.length
      · have g2 : (q : Int) < l.length := by omega
        obtain ⟨wo, hwo⟩ : ∃ x, x = wr := ⟨_, rfl⟩
        subst hwo
        go_wp2_with fail
        go_loopw [13, 14, 15] (fun j _ _ wx => ∃ k : Nat, j = .int .i64 k ∧ k ≤ 3 ∧ Hid (Below W.heap.size W wx)) (fun j _ _ _ => 3 - (intOf j).toNat)
        case atStart => exact ⟨0, rfl, by omega, HQ.out⟩
        case round =>
          obtain ⟨k, rfl, hk, HP⟩ := hrel
          by_cases hk3 : k < 3
          · obtain ⟨b, off, rfl, hbl, p0, p1, p2⟩ := (HSL.out.below (DW.out.trans (HP.out.mono DW.out.size))) q hlt
            generalize l[q] = s at *
            obtain ⟨f, t, u⟩ := s
            simp only at p0 p1 p2
            have g3 : (k : Int) < 3 := by omega
            clear p2
            go_wp2_with fail
            go_quiet (fail)
            have DP := Lib.hid (DW.out.trans (HP.out.mono DW.out.size))
            go_wp2_with fail
            go_quiet (fail)
            go_wp2_with fail
            refine (HFG.out _ (by repeat (first | exact DP.out | refine bel_drewN ?_ _)) _).mono ?_
            rintro e w7 ⟨rfl, hb7⟩
            have E7 := Lib.hid (show Below W.heap.size W w7 from Below.trans (by repeat (first | exact HP.out | refine bel_drewN ?_ _)) (hb7.mono HP.out.size))
            have D7 := Lib.hid (DW.out.trans (E7.out.mono DW.out.size))
            clear hb7
            go_wp2_with fail
            refine (HFA.out _ D7.out _).mono ?_
            rintro e w8 ⟨rfl, rfl⟩
            go_wp2_with fail
            refine (HFG.out _ D7.out _).mono ?_
            rintro e w9 ⟨rfl, hb9⟩
            have E9 := Lib.hid (E7.out.trans (hb9.mono E7.out.size))
            have D9 := Lib.hid (DW.out.trans (E9.out.mono DW.out.size))
            clear hb9
            go_wp2_with fail
            refine (HFA.out _ D9.out _).mono ?_
            rintro e w10 ⟨rfl, rfl⟩
            go_wp2_with fail
            go_roundw
            case measure => simp [intOf] <;> omega
            case rel => exact ⟨k + 1, by go_num, by omega, E9.out⟩
          · obtain rfl : k = 3 := by omega
            go_wp2_with fail
            go_roundw
            case measure => simp [intOf] <;> omega
            case rel => exact ⟨q + 1, by go_num, by omega, HP.out⟩
      · have g2 : ¬ (q : Int) < l.length := by omega
        have E1 := Lib.hid HQ.out
        have D1' := Lib.hid (DW.out.trans (HQ.out.mono DW.out.size))
        have H9q := Lib.hid (H9.out.below HQ.out)
        have H8q := Lib.hid (H8.out.below HQ.out)
        have H6q := Lib.hid (H6.out.below HQ.out)
        have HKq := Lib.hid ((HQ.out.block D hDl).trans HK.out)
        have hqz := HQ.out.size
        have c9 := H9q.out.c (i := 0) rfl
        have c8 := H8q.out.c (i := 0) rfl
        clear HQ
        go_wp2_with fail
        refine (HBT.out _ D1'.out).mono ?_
        rintro e w12 ⟨rfl, hb⟩
        have D12 := Lib.hid (D1'.out.trans (hb.mono D1'.out.size))
        have H6r := Lib.hid (H6q.out.below hb)
        have HKr := Lib.hid ((hb.block D (by omega)).trans HKq.out)
        have hz12 := hb.size
        clear hb c9 c8
        go_wp2_with fail
        refine (HBR.out _ D12.out).mono ?_
        rintro e w13 ⟨rfl, hb⟩
        have D13 := Lib.hid (D12.out.trans (hb.mono D12.out.size))
        have H6s := Lib.hid (H6r.out.below hb)
        have HKs := Lib.hid ((hb.block D (by omega)).trans HKr.out)
        have hz13 := hb.size
        have c6 := H6s.out.c (i := 0) rfl
        have f6 := H6s.out.fr 0
        clear hb
        go_wp2_with fail
        have H6t := H6s.out.set 0 (.bool true)
        refine leave_mark (D := D) ((Below.heap_setCell _ _ _ _ (by show D ≠ w.heap.size; omega)).trans HKs.out) (leave_nil (v := .bool true) ?_ ⟨rfl, ?_⟩)
        · have h9 := cell_put (D := D) (o := .deferred none) (H6t.c (i := 0) rfl) (by show w.heap.size ≠ D; omega)
          simp [results, Try.results14, go_sem, h9]
        · exact below_put (D13.out.setCell (p := ⟨w.heap.size, 0, none⟩) (Nat.le_refl _) _) (by omega)

end Go.Proofs.Ytfjckdjnnbpcnaa.Tr

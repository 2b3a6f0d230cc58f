import Derived.Test.YtfjckdjnnbpcnaaYR
import Derived.Test.YtfjckdjnnbpcnaaTF
namespace Go.Proofs.Ytfjckdjnnbpcnaa.Tr
open Go.RowKit Go.Maps Go.Shelf

attribute [local go_sem] Oper.semAt_some
attribute [local go_sem] encT

theorem info73 : (Try.prog.info? 73).map (fun i => (i.zero, i.size, i.bytes)) = some (some (.agg #[.int .i32 0, .int .i32 0, .int .i64 0]), 3, 16) := by kernel_rfl
/-- As the program counts: the number before is taken at 32 bits. -/
def pushW (l : List Sp) (p : Int × Int) : List Sp :=
  match l.getLast? with
  | none => l ++ [(p.1, p.1, p.2)]
  | some s => if s.2.1 = IntKind.i32.wrap (p.1 - 1) ∧ s.2.2 = p.2 then l.dropLast ++ [(s.1, p.1, s.2.2)] else l ++ [(p.1, p.1, p.2)]
def spnW (ps : List (Int × Int)) : List Sp := ps.foldl pushW []
theorem spnW_snoc (ps : List (Int × Int)) (p : Int × Int) : spnW (ps ++ [p]) = pushW (spnW ps) p := by unfold spnW; rw [List.foldl_append]; rfl
theorem pushW_len (l : List Sp) (p : Int × Int) : (pushW l p).length ≤ l.length + 1 := by
  unfold pushW
  split
  · simp
  · split
    · simp
    · simp
theorem spnW_len (ps : List (Int × Int)) : (spnW ps).length ≤ ps.length := by
  suffices h : ∀ (ps : List (Int × Int)) (l : List Sp), (ps.foldl pushW l).length ≤ l.length + ps.length by
    have h1 := h ps []
    unfold spnW
    simpa using h1
  intro ps
  induction ps with
  | nil => intro l; simp
  | cons p ps ih =>
    intro l
    have h1 := ih (pushW l p)
    have h2 := pushW_len l p
    simp only [List.foldl_cons, List.length_cons]
    omega
theorem spnW_eq (ps : List (Int × Int)) (h : ∀ p ∈ ps, 0 ≤ p.1 ∧ p.1 ≤ 1114111) : spnW ps = spnL ps := by
  suffices h9 : ∀ (ps : List (Int × Int)) (l : List Sp), (∀ p ∈ ps, 0 ≤ p.1 ∧ p.1 ≤ 1114111) → ps.foldl pushW l = ps.foldl pushP l from h9 ps [] h
  intro ps
  induction ps with
  | nil => intro l _; rfl
  | cons p ps ih =>
    intro l hp
    obtain ⟨h1, h2⟩ := hp p List.mem_cons_self
    have h3 : IntKind.i32.wrap (p.1 - 1) = p.1 - 1 := by rw [IntKind.wrap_i32]; omega
    have h4 : pushW l p = pushP l p := by
      unfold pushW pushP
      rw [h3]
      cases l.getLast? <;> rfl
    rw [List.foldl_cons, List.foldl_cons, h4]
    exact ih _ fun q hq => hp q (List.mem_cons_of_mem _ hq)
theorem blT_mem (g : Int → Int) (nn : Int) (i : Nat) (hi : i < 4352) : ∀ n : Nat, n ≤ 256 → ∀ p ∈ blT g nn i n, 0 ≤ p.1 ∧ p.1 ≤ 1114111
  | 0, _ => fun p hp => by cases hp
  | n + 1, hn => fun p hp => by
    rw [blT] at hp
    split at hp
    · exact blT_mem g nn i hi n (by omega) p hp
    · rcases List.mem_append.1 hp with hp | hp
      · exact blT_mem g nn i hi n (by omega) p hp
      · obtain rfl := List.mem_singleton.1 hp
        constructor
        · show (0 : Int) ≤ ((i * 256 + n : Nat) : Int)
          omega
        · show ((i * 256 + n : Nat) : Int) ≤ 1114111
          omega
theorem spnW_all (g : Int → Int) (nn : Int) (bm : Nat → Option Nat) (hz : ∀ i, i < 4352 → (bm i).isSome = nzB g nn i) : spnW (tolT g nn (keysL bm)) = allG g nn := by
  rw [spnW_eq _ fun p hp => ?_, spnL_all g nn bm hz]
  obtain ⟨i, hi, hpi⟩ := List.mem_flatMap.1 hp
  exact blT_mem g nn i (keysL_mem hi).1 256 (Nat.le_refl _) p hpi
theorem kpT_app {n0 B k : Nat} {W w1 : World} {v v' : Value} {tmp : Obj} {xs : List Value} (hv : Boxed W B 69 v) (hrow : W.ownsRow n0 73 3 v k xs) (hgrow : (W.alloc tmp).grownBy w1 v.ownBlock)
    (hlow : Below n0 W (w1.setCell ⟨B, 0, none⟩ v')) : KpT n0 W (w1.setCell ⟨B, 0, none⟩ v') :=
  ⟨fun k hk => hlow.block k hk, fun j cs t hb ht => by
    have hjl := hb.lt
    have ht1 : t ≠ 69 := by rcases ht with rfl | rfl <;> decide
    have ht2 : t ≠ 73 := by rcases ht with rfl | rfl <;> decide
    have hne : j ≠ B := fun e => by
      subst e
      have h1 := hb.blk.symm.trans hv
      simp only [Option.some.injEq, Obj.cells.injEq] at h1
      exact ht1 h1.2.1
    have hne2 := hb.ne hrow ht2
    rw [Below.heap_setCell _ _ _ _ hne]
    exact (hgrow.block j (by simp; omega) (fun e => hne2 e.symm)).trans (Below.heap_alloc _ _ _ hjl)⟩
theorem kpT_set {n0 G c n o : Nat} {W : World} {x : Value} {xs : List Value} (hrow : W.ownsRow n0 73 3 (.slice (some ⟨G, 0, none⟩) n c) n xs) : n0 ≤ G ∧ KpT n0 W (W.setCell ⟨G, o, none⟩ x) := by
  have hG : n0 ≤ G := by
    rcases hrow.2 with ⟨h9, _⟩ | ⟨g', cap, cur, h9, h8, _⟩
    · cases h9
    · cases h9
      exact h8
  refine ⟨hG, ⟨fun k hk => Below.heap_setCell _ _ _ _ (by show k ≠ G; omega), fun j cs t hb ht => ?_⟩⟩
  have ht2 : t ≠ 73 := by rcases ht with rfl | rfl <;> decide
  have hne := hb.ne hrow ht2
  exact Below.heap_setCell _ _ _ _ (fun e => hne (by simp [Value.ownBlock, e]))
theorem spC_end (m : List Sp) (f t q r : Int) : (spC (m ++ [(f, t, q)])).set (m.length * 3 + 1) (.int .i32 r) = spC (m ++ [(f, r, q)]) := by
  rw [spC_app, spC_app, List.set_append_right _ _ (by rw [spC_len]; omega), spC_len, show m.length * 3 + 1 - m.length * 3 = 1 by omega]
  rfl
set_option maxHeartbeats 4000000 in
set_option maxRecDepth 100000 in
theorem spans_any (w : World) (base X : Nat) (nn : Int) (g : Int → Int) (h : Tab w base X nn g) :
    Calls Try.prog 32 #[.pointer (some ⟨X, 0, none⟩)] w fun e w' => ∃ v, e = .returned v ∧ w'.ownsRow w.heap.size 73 3 v (allG g nn).length (spC (allG g nn)) ∧ Below w.heap.size w w' := by
  obtain ⟨M, D, bm, h1, hz, h2⟩ := h
  have hAll := spnW_all g nn bm hz
  rw [← hAll]
  obtain ⟨i0, hi0, hz0, hz1, hz2⟩ := info_parts info73
  have I0 := Lib.hid hi0
  have I1 := Lib.hid hz0
  have I2 := Lib.hid hz1
  have I3 := Lib.hid hz2
  clear hi0 hz0 hz1 hz2 hAll hz
  refine calls_marks Try.func32 rfl ?_
  simp only [Try.ntmps32, List.size_toArray, List.length_cons, List.length_nil, Nat.reduceAdd, Nat.reduceSub, Array.replicate_succ, Array.replicate_zero, List.push_toArray, List.append_toArray, List.nil_append, List.cons_append]
  go_wp2_with (go_at_call 45; refine (told_any _ _).mono ?_; rintro e w1 ⟨rfl, rfl⟩)
  obtain ⟨W0, hW0⟩ : ∃ W0, W0 = (w.alloc (.cells #[.slice none 0 0] 69)).alloc (.cells #[.pointer (some ⟨X, 0, none⟩)] 23) := ⟨_, rfl⟩
  rw [← hW0]
  have z1 : (w.alloc (.cells #[.slice none 0 0] 69)).heap.size = w.heap.size + 1 := by simp
  have hb2 : Bk W0 (w.heap.size + 1) [.pointer (some ⟨X, 0, none⟩)] 23 := ⟨by rw [hW0, ← z1]; exact heap_alloc_new _ _⟩
  have hB0 : Boxed W0 w.heap.size 69 (.slice none 0 0) := by
    have h9 : Boxed (w.alloc (.cells #[.slice none 0 0] 69)) w.heap.size 69 (.slice none 0 0) := Boxed.new w _ _
    rw [hW0]
    exact (((Below.refl _ _).alloc (Nat.le_refl _) _).block _ (by simp)).trans h9
  have D0 : Below w.heap.size w W0 := by rw [hW0]; exact ((Below.refl _ w).alloc (Nat.le_refl _) _).alloc (by simp) _
  have hz0 : W0.heap.size = w.heap.size + 2 := by rw [hW0]; simp
  clear hW0 z1
  have HTW : TW W0 w.heap.size (w.heap.size + 1) base X M nn g D bm := ⟨h1.on (D0.block X h1.blk.lt) (fun i b hi e => D0.block b (h1.at_ i b hi e).2.lt), own_keep h2 (D0.block M h2.lt), hb2, h1.blk.lt, h2.lt, fun i b hi e => (h1.at_ i b hi e).2.lt⟩
  clear h1 h2 hb2
  have HLN : Hid ((tolT g nn (keysL bm)).length ≤ 1114112) := Lib.hid (by have h3 := tolT_len g nn (keysL bm); have h4 := keysL_len bm; omega)
  refine wp_of_wide (wpIn_rangeFunc_ownF (α := Int × Int) rfl (by omega) (gf := 50) (lb := #[.pointer (some ⟨w.heap.size + 1, 0, none⟩)]) rfl trivial (enters_of Try.func50 (by kernel_rfl) rfl)
    (told_iter 4 w.heap.size (w.heap.size + 1) base X M nn g D bm W0 HTW (by omega)) kpT_t (kpT_b (by omega)) (Below.refl _ _) (fun _ => rfl)
    (fun pre W => (∃ v, Boxed W w.heap.size 69 v ∧ W.ownsRow w.heap.size 73 3 v (spnW pre).length (spC (spnW pre)) ∧ True) ∧ Below w.heap.size w W)
    (fun _ _ _ => False)
    (OwnFrom.and (Own.from (holdsRow_own w.heap.size w.heap.size 69 73 3 (fun pre : List (Int × Int) => (spnW pre).length) (fun pre => spC (spnW pre)) (fun _ _ => True)) _) (ownFrom_below (Nat.le_refl _) (by omega)))
    (fun _ _ _ _ _ hs _ _ => hs)
    ⟨⟨_, hB0, World.ownsRow_nil _ _ _ _, trivial⟩, D0⟩
    ?a1 ?assign ?body ?done ?stop)
  case a1 => exact fun x => { tmps := #[.pointer (some ⟨X, 0, none⟩), undef, .slice none 0 0, .pointer (some ⟨w.heap.size, 0, none⟩), .int .i32 x.1, .int .i64 x.2, undef, .pointer (some ⟨X, 0, none⟩), .func (.func 50) #[] #[.pointer (some ⟨w.heap.size + 1, 0, none⟩)], .int .i32 x.1, .int .i64 x.2] ++ Array.replicate 40 undef, defers := [] }
  case assign =>
    intro l x W K hK
    simp only [Array.replicate_succ, Array.replicate_zero, List.push_toArray, List.append_toArray, List.nil_append, List.cons_append] at hK
    unfold encT
    gi_wp2
    exact hK
  case stop =>
    rintro D c pre W _ _ h _
    exact h.elim
  case body =>
    rintro l pre ⟨r, u⟩ W ⟨⟨v, hv, hrow, _⟩, hB⟩ hlen
    have HW := Lib.hid (spnW_snoc pre (r, u))
    have hl0 := spnW_len pre
    have hln : (spnW pre).length < 1114112 := by have := HLN.out; omega
    generalize spnW pre = L at *
    clear hlen hl0
    have hvc := hv.cell
    have hle := hB.size
    obtain ⟨A, c, rfl, hA⟩ := own_slice hrow
    by_cases hL : L.length = 0
    · obtain rfl : L = [] := List.length_eq_zero_iff.1 hL
      have hPW : pushW [] (r, u) = [(r, r, u)] := rfl
      have HPW := Lib.hid hPW
      have HN := Lib.hid hrow
      have HV := Lib.hid hv
      have HBB := Lib.hid hB
      clear hPW hrow hv hB hL hln
      simp only [Array.replicate_succ, Array.replicate_zero, List.push_toArray, List.append_toArray, List.nil_append, List.cons_append]
      gi_wp2_with (gi_big_skip2)
      refine ⟨trivial, ?_⟩
      gi_wp2_with (first
        | (gi_at_builtin; refine wpListIn_append_own _ rfl _ _ 69 rfl w.heap.size 73 i0 _ 3 16 Try.underlying69 I0.out I1.out I2.out I3.out rfl (by decide) _ _ _ rfl (HN.out.alloc _) ⟨W.heap.size, 0, none⟩ 1 1 [.int .i32 r, .int .i32 r, .int .i64 u] rfl rfl (World.news_of_block (cs := #[.int .i32 r, .int .i32 r, .int .i64 u]) (t := 73) (fr := (0, 0)) (heap_alloc_new W _)) (by simp [Value.oneCell']) (by decide) (by decide) (by simp; omega) ?_; intro v' w1 hown' hgrow _; obtain ⟨g', cap', rfl⟩ := ownsRow_succ hown'; obtain ⟨hv1, hv2, hr2, hk2, hb2⟩ := HV.out.appended (by decide) HN.out hle (Nat.le_refl _) hown' hgrow; have hkp := kpT_app HV.out HN.out hgrow hb2; have hvc1 := hv1.cell; have hvf1 := hv1.frozen; have HH2 := Lib.hid (And.intro hk2 (And.intro hkp (And.intro hv2 (And.intro hr2 hb2)))); clear hk2 hkp hv2 hr2 hb2 hv1 hown' hgrow))
      refine ⟨HH2.out.1, HH2.out.2.1, ⟨_, HH2.out.2.2.1, ?_, trivial⟩, HBB.out.trans HH2.out.2.2.2.2⟩
      rw [HW.out, HPW.out]
      exact HH2.out.2.2.2.1
    · obtain ⟨k, hk⟩ : ∃ k, k = L.length - 1 := ⟨_, rfl⟩
      have hkl : k < L.length := by omega
      have hkI : (L.length : Int) - 1 = k := by omega
      obtain ⟨f, t, q, hs⟩ : ∃ f t q, L[k] = (f, t, q) := ⟨_, _, _, rfl⟩
      obtain ⟨G, rfl⟩ : ∃ G, A = some ⟨G, 0, none⟩ := by
        rcases hrow.2 with ⟨_, h9⟩ | ⟨g', cap, cur, h9, _⟩
        · exact absurd h9 hL
        · cases h9
          exact ⟨g', rfl⟩
      have c1 := own_cell hrow (k := k * 3 + 1) ((spC_at L k hkl 1 (by omega)).trans (by rw [hs]; rfl))
      have c2 := own_cell hrow (k := k * 3 + 2) ((spC_at L k hkl 2 (by omega)).trans (by rw [hs]; rfl))
      have fz := own_fz hrow
      have hlast : L.getLast? = some (f, t, q) := by rw [List.getLast?_eq_getElem?, ← hk, List.getElem?_eq_getElem hkl, hs]
      have hPW : pushW L (r, u) = if t = IntKind.i32.wrap (r - 1) ∧ q = u then L.dropLast ++ [(f, r, q)] else L ++ [(r, r, u)] := by unfold pushW; rw [hlast]
      have HS := Lib.hid hs
      have HPW := Lib.hid hPW
      have HN := Lib.hid hrow
      have HV := Lib.hid hv
      have HBB := Lib.hid hB
      have HK := Lib.hid hk
      clear hPW hrow hv hB hk hlast hs
      have hkJ : ¬ ((k : Int) < 0) := by omega
      obtain ⟨rw1, hrw1⟩ : ∃ x, x = IntKind.i32.wrap (r - 1) := ⟨_, rfl⟩
      have HRW := Lib.hid hrw1
      have hrw2 : IntKind.i32.wrap (r - 1) = rw1 := hrw1.symm
      clear hrw1
      simp only [Array.replicate_succ, Array.replicate_zero, List.push_toArray, List.append_toArray, List.nil_append, List.cons_append]
      by_cases h1 : t = rw1
      · have h1B : (t == rw1) = true := by simpa using h1
        by_cases h2 : q = u
        · have h2B : (q == u) = true := by simpa using h2
          have hlt : W.heap.size ≤ W.heap.size := Nat.le_refl _
          obtain ⟨hnG, hkp⟩ := kpT_set (o := k * 3 + 1) (x := .int .i32 r) HN.out
          have hpv := own_putv HN.out (k * 3 + 1) (.int .i32 r)
          have hLd : L = L.dropLast ++ [(f, t, q)] := by
            have h7 := List.dropLast_concat_getLast (l := L) (fun e => hL (by rw [e]; rfl))
            rw [List.getLast_eq_getElem] at h7
            have h8 : L[L.length - 1]'(by omega) = (f, t, q) := by
              have h9 := HS.out
              simp only [HK.out] at h9
              exact h9
            rw [h8] at h7
            exact h7.symm
          have hdl : L.dropLast.length = k := by rw [List.length_dropLast]; exact HK.out.symm
          have hset : (spC L).set (k * 3 + 1) (.int .i32 r) = spC (L.dropLast ++ [(f, r, q)]) := by
            rw [← hdl]
            conv => lhs; rw [hLd]
            rw [List.dropLast_concat]
            exact spC_end _ f t q r
          rw [hset] at hpv
          have hlen2 : (L.dropLast ++ [(f, r, q)]).length = L.length := by
            rw [List.length_append, hdl, List.length_singleton]
            omega
          have hneG : w.heap.size ≠ G := fun e => HV.out.not_row (by decide) HN.out (by simp [Value.ownBlock, e])
          have HX := Lib.hid (And.intro hkp (And.intro hpv (And.intro hlen2 (And.intro hnG hneG))))
          clear hkp hpv hLd hdl hset hlen2 hnG hneG
          gi_wp2_with (gi_big_skip2)
          refine ⟨trivial, ?_⟩
          refine CallsIn.inRound l (callsIn_wide.2 ((sameV_any _ _ W).mono ?_))
          rintro e w9 ⟨rfl, rfl⟩
          gi_wp2
          obtain ⟨x1, x2, x3, x4, x5⟩ := HX.out
          refine ⟨KeepsOthers.setCell _ _ _, x1, ⟨_, (Below.heap_setCell _ _ _ _ x5).trans HV.out, ?_, trivial⟩, HBB.out.trans ((Below.refl _ W).setCell x4 _)⟩
          rw [HW.out, HPW.out, hrw2, if_pos ⟨h1, h2⟩, x3]
          exact x2
        · have h2B : (q == u) = false := by simpa using h2
          gi_wp2_with (gi_big_skip2)
          refine ⟨trivial, ?_⟩
          refine CallsIn.inRound l (callsIn_wide.2 ((sameV_any q u W).mono ?_))
          rintro e w9 ⟨rfl, rfl⟩
          gi_wp2_with (first
            | (gi_at_builtin; refine wpListIn_append_own _ rfl _ _ 69 rfl w.heap.size 73 i0 _ 3 16 Try.underlying69 I0.out I1.out I2.out I3.out rfl (by decide) _ _ _ rfl (HN.out.alloc _) ⟨W.heap.size, 0, none⟩ 1 1 [.int .i32 r, .int .i32 r, .int .i64 u] rfl rfl (World.news_of_block (cs := #[.int .i32 r, .int .i32 r, .int .i64 u]) (t := 73) (fr := (0, 0)) (heap_alloc_new W _)) (by simp [Value.oneCell']) (by unfold maxLen; omega) (by omega) (by simp; omega) ?_; intro v' w1 hown' hgrow _; obtain ⟨g', cap', rfl⟩ := ownsRow_succ hown'; obtain ⟨hv1, hv2, hr2, hk2, hb2⟩ := HV.out.appended (by decide) HN.out hle (Nat.le_refl _) hown' hgrow; have hkp := kpT_app HV.out HN.out hgrow hb2; have hvc1 := hv1.cell; have hvf1 := hv1.frozen; have HH2 := Lib.hid (And.intro hk2 (And.intro hkp (And.intro hv2 (And.intro hr2 hb2)))); clear hk2 hkp hv2 hr2 hb2 hv1 hown' hgrow))
          refine ⟨HH2.out.1, HH2.out.2.1, ⟨_, HH2.out.2.2.1, ?_, trivial⟩, HBB.out.trans HH2.out.2.2.2.2⟩
          rw [HW.out, HPW.out, hrw2, if_neg (by rintro ⟨a1, a2⟩; exact absurd a2 h2), List.length_append, spC_app]
          exact HH2.out.2.2.2.1
      · have h1B : (t == rw1) = false := by simpa using h1
        gi_wp2_with (gi_big_skip2)
        refine ⟨trivial, ?_⟩
        gi_wp2_with (first
          | (gi_at_builtin; refine wpListIn_append_own _ rfl _ _ 69 rfl w.heap.size 73 i0 _ 3 16 Try.underlying69 I0.out I1.out I2.out I3.out rfl (by decide) _ _ _ rfl (HN.out.alloc _) ⟨W.heap.size, 0, none⟩ 1 1 [.int .i32 r, .int .i32 r, .int .i64 u] rfl rfl (World.news_of_block (cs := #[.int .i32 r, .int .i32 r, .int .i64 u]) (t := 73) (fr := (0, 0)) (heap_alloc_new W _)) (by simp [Value.oneCell']) (by unfold maxLen; omega) (by omega) (by simp; omega) ?_; intro v' w1 hown' hgrow _; obtain ⟨g', cap', rfl⟩ := ownsRow_succ hown'; obtain ⟨hv1, hv2, hr2, hk2, hb2⟩ := HV.out.appended (by decide) HN.out hle (Nat.le_refl _) hown' hgrow; have hkp := kpT_app HV.out HN.out hgrow hb2; have hvc1 := hv1.cell; have hvf1 := hv1.frozen; have HH2 := Lib.hid (And.intro hk2 (And.intro hkp (And.intro hv2 (And.intro hr2 hb2)))); clear hk2 hkp hv2 hr2 hb2 hv1 hown' hgrow))
        refine ⟨HH2.out.1, HH2.out.2.1, ⟨_, HH2.out.2.2.1, ?_, trivial⟩, HBB.out.trans HH2.out.2.2.2.2⟩
        rw [HW.out, HPW.out, hrw2, if_neg (by rintro ⟨a1, a2⟩; exact absurd a1 h1), List.length_append, spC_app]
        exact HH2.out.2.2.2.1
  case done =>
    rintro D ys W hD rfl ⟨⟨v, hv, hrow, _⟩, hB⟩ hK
    have hvc := hv.cell
    have HK := Lib.hid hK
    have HB := Lib.hid hB
    have HR := Lib.hid hrow
    clear hK hB hrow
    go_wp2_with fail
    refine leave_mark HK.out (leave_nil (results_tmp rfl _ _ _) ⟨v, rfl, ?_, ?_⟩)
    · exact ownsRow_putObj HR.out _ HK.out rfl
    · exact below_put HB.out (by omega)

end Go.Proofs.Ytfjckdjnnbpcnaa.Tr

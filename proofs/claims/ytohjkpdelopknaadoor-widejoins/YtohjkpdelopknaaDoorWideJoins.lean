/- WideJoins: for every kind and every two strings the law returns true and all read as before: of bytes that do not end with a beginning that is not whole, and others behind them, the characters are those of both. Conditions: the table 'layouts' as the program's text lays it (tied). -/
import Derived.Test.YtohjkpdelopknaaDoorR
import Derived.Test.YtohjkpdelopknaaDoorY
import Derived.IntWalk
import Derived.Laws.AppendOwnNone
import Derived.Deep.AppendLies
import Derived.Test.YtohjkpdelopknaaDoorCards
import Derived.ShutString
import Derived.ChangeOld
namespace Go.Proofs.YtohjkpdelopknaaDoor
open Go.ChangeShapes Go.WideShapes Go.ChangeAt Go.WideMaps Go.WideElems Go.RowKit
open Go.ChangeMaps (open_string shut_string)

def shf (n : Nat) (x : Nat × Nat) : Nat × Nat := (n + x.1, x.2)
/-- What the law's loop knows behind k rounds. -/
structure JoinRel (w1 w2 wr : World) (n : Nat) (bv zv yv : Value) (lb : List Int) (ly lz fy : List (Nat × Nat)) (k : Nat) : Prop where
  bel : Below w1.heap.size w1 wr
  hb : wr.ownsRow w1.heap.size 21 1 bv lb.length (i32s lb)
  hy : wr.ownsRow w1.heap.size 49 2 yv fy.length (flts fy)
  hz : wr.ownsRow w2.heap.size 49 2 zv lz.length (flts lz)
  ap : zv.ownBlock = none ∨ zv.ownBlock ≠ yv.ownBlock
  eq : fy = ly ++ (lz.take k).map (shf n)
theorem JoinRel.next {w1 w2 wr w' : World} {n : Nat} {bv zv yv : Value} {lb : List Int} {ly lz fy : List (Nat × Nat)} {k g cap : Nat} {o : Obj} (h : JoinRel w1 w2 wr n bv zv yv lb ly lz fy k) (hk : k < lz.length) {z1 z2 : Nat} (hzz : lz[k] = (z1, z2))
    (hown : w'.ownsRow w1.heap.size 49 2 (.slice (some ⟨g, 0, none⟩) (fy.length + 1) cap) (fy.length + 1) (flts fy ++ [.int .i64 ((n : Int) + z1), .int .i64 (z2 : Int)]))
    (hg : (wr.alloc o).drew.grownBy w' yv.ownBlock) (hat : yv.ownBlock = some g ∨ g = wr.heap.size + 1) :
    JoinRel w1 w2 w' n bv zv (.slice (some ⟨g, 0, none⟩) (fy.length + 1) cap) lb ly lz (fy ++ [(n + z1, z2)]) (k + 1) := by
  have hy := (h.hy.alloc o).drew
  have hz := (h.hz.alloc o).drew
  have hb := (h.hb.alloc o).drew
  have hbs := h.bel.size
  refine ⟨h.bel.trans (((Below.refl _ _).alloc hbs _).drew.trans (below_grown hy hg (by simp; omega))), hb.kept hg (own_apart hb hy (by decide)), ?_, hz.kept hg h.ap, ?_, ?_⟩
  · rw [flts_app, List.length_append]
    have e : flts [(n + z1, z2)] = [.int .i64 ((n : Int) + z1), .int .i64 (z2 : Int)] := by simp [flts]
    rw [e]
    exact hown
  · rcases h.ap with ha | ha
    · exact .inl ha
    · rcases hat with hat | hat
      · right
        intro hh
        exact ha (hh.trans hat.symm)
      · right
        intro hh
        have := (h.hz.lt g hh).2
        omega
  · rw [h.eq, List.take_succ_eq_append_getElem hk, hzz, List.map_append, List.append_assoc]
    simp only [List.map_cons, List.map_nil, shf]


set_option maxRecDepth 100000 in
set_option maxHeartbeats 8000000 in
theorem joins_in (k : Nat) (k1 : 1 ≤ k) (k4 : k ≤ 4) (s t : ByteArray) (w : World) (n : Nat) (h1 : s.size ≤ 200) (h2 : t.size ≤ 200) (hcut : cutK k (bs s) = n) (hne : n = s.size) (hT : Tab w) : Calls Tryd.prog 10 #[.int .i64 (k : Int), .string s, .string t] w fun e w' => e = .returned (.bool true) ∧ Below w.heap.size w w' := by
  have hpos := hT.pos
  have HFin := Lib.hid (show ∀ w2 : World, Below w.heap.size w w2 → Tab w2 from fun w2 h => hT.below h hpos)
  have B0 := Lib.hid (Below.refl w.heap.size w)
  clear hT
  have g1 : ¬ (200 : Int) < s.size := by omega
  have g2 : ¬ (200 : Int) < t.size := by omega
  have g3 : ¬ (k : Int) < 1 := by omega
  have g4 : ¬ (4 : Int) < k := by omega
  have n0 : ¬ (n : Int) < 0 := by omega
  have n1 : ¬ (s.size : Int) < n := by omega
  have n2 : ¬ (3 : Int) < (s.size : Int) - n := by omega
  have hst : (s ++ t).size ≤ 400 := by rw [ByteArray.size_append]; omega
  have hjn := dec_join k (bs s) (bs t) (by rw [bs_len]; omega)
  rw [bs_len, ← bs_app] at hjn
  have HCut := Lib.hid hcut
  have q1 : ((n : Int) != (s.size : Int)) = false := by rw [hne]; simp
  have HNE := Lib.hid hne
  clear hcut hne
  obtain ⟨⟨l1, f1, e1⟩, hd1⟩ : ∃ d, dec k 2 0 (bs (s ++ t)) = d := ⟨_, rfl⟩
  obtain ⟨⟨l2, f2, e2⟩, hd2⟩ : ∃ d, dec k 2 0 (bs s) = d := ⟨_, rfl⟩
  obtain ⟨⟨l3, f3, e3⟩, hd3⟩ : ∃ d, dec k 2 0 (bs t) = d := ⟨_, rfl⟩
  rw [hd1, hd2, hd3] at hjn
  simp only [Prod.mk.injEq] at hjn
  obtain ⟨j1, j2, j3⟩ := hjn
  have z2 := dec_err k 2 (by decide) (bs s).length 0 (bs s) (Nat.le_refl _)
  have z3 := dec_err k 2 (by decide) (bs t).length 0 (bs t) (Nat.le_refl _)
  rw [hd2] at z2
  rw [hd3] at z3
  simp only at z2 z3
  subst z2 z3 j3
  have ln1 := dec_lens k 2 (bs (s ++ t)).length 0 (bs (s ++ t)) (Nat.le_refl _)
  rw [hd1, bs_len] at ln1
  have ln2 := dec_lens k 2 (bs s).length 0 (bs s) (Nat.le_refl _)
  rw [hd2, bs_len] at ln2
  have ln3 := dec_lens k 2 (bs t).length 0 (bs t) (Nat.le_refl _)
  rw [hd3, bs_len] at ln3
  simp only at ln1 ln2 ln3
  have fr3 := dec_from k 2 (bs t).length 0 (bs t) (Nat.le_refl _)
  rw [hd3, bs_len] at fr3
  simp only at fr3
  have FR3 := Lib.hid fr3
  have J1 := Lib.hid j1
  have J2 := Lib.hid j2
  have HD1 := Lib.hid hd1
  have HD2 := Lib.hid hd2
  have HD3 := Lib.hid hd3
  clear hd1 hd2 hd3 j1 j2 fr3
  obtain ⟨i0, hi0, hz0, hz1, hz2⟩ := info_parts r_info
  have I0 := Lib.hid hi0
  have I1 := Lib.hid hz0
  have I2 := Lib.hid hz1
  have I3 := Lib.hid hz2
  clear hi0 hz0 hz1 hz2
  obtain ⟨j0, hj0, hz0, hz1, hz2⟩ := info_parts f_info
  have K0 := Lib.hid hj0
  have K1 := Lib.hid hz0
  have K2 := Lib.hid hz1
  have K3 := Lib.hid hz2
  clear hj0 hz0 hz1 hz2
  obtain ⟨ln1a, ln1b⟩ := ln1
  obtain ⟨ln2a, ln2b⟩ := ln2
  obtain ⟨ln3a, ln3b⟩ := ln3
  go_enter Tryd.func10, Tryd.ntmps10
  go_wp2_with fail
  refine (cut_any k s _ (HFin.out _ B0.out) k1 k4 (by omega)).mono ?_
  rw [HCut.out]
  rintro e w0 ⟨rfl, hb0⟩
  have BC := Lib.hid hb0
  clear hb0
  go_wp2_with fail
  refine (decode_two k k1 k4 s t _ (HFin.out _ BC.out) (by omega)).mono ?_
  rw [HD1.out]
  rintro e w1 ⟨A1, c1', A2, c2', rfl, -, -, hi1, hf1, hb1⟩
  have B1 := Lib.hid (BC.out.trans (hb1.mono BC.out.size))
  have HI1 := Lib.hid hi1
  have HF1 := Lib.hid hf1
  clear hb1 hi1 hf1
  go_wp2_with fail
  refine (decode_one k k1 k4 2 (.inr (.inl rfl)) s _ (HFin.out _ B1.out) (by omega)).mono ?_
  rw [HD2.out]
  rintro e w2 ⟨A3, c3, A4, c4, rfl, ho3, ho4, -, -, hb2⟩
  have B2 := Lib.hid (B1.out.trans (hb2.mono B1.out.size))
  have O3 := Lib.hid ho3
  have O4 := Lib.hid ho4
  have B12 := Lib.hid hb2
  clear hb2 ho3 ho4
  go_wp2_with fail
  refine (decode_one k k1 k4 2 (.inr (.inl rfl)) t _ (HFin.out _ B2.out) (by omega)).mono ?_
  rw [HD3.out]
  rintro e w3 ⟨A5, c5, A6, c6, rfl, ho5, ho6, -, -, hb3⟩
  have B3 := Lib.hid (B2.out.trans (hb3.mono B2.out.size))
  have O3' := Lib.hid (own_below O3.out hb3)
  have O4' := Lib.hid (own_below O4.out hb3)
  have hap : Hid ((Value.slice A6 f3.length c6).ownBlock = none ∨ (Value.slice A6 f3.length c6).ownBlock ≠ (Value.slice A4 f2.length c4).ownBlock) := by
    rcases A6 with _ | a6
    · exact .inl rfl
    · right
      intro hh
      have h1 := (ho6.lt a6.block rfl).1
      have h3 := (O4.out.lt a6.block hh.symm).2
      omega
  have O5 := Lib.hid ho5
  have O6 := Lib.hid ho6
  have B13 := Lib.hid (B12.out.trans (hb3.mono B12.out.size))
  clear hb3 ho5 ho6 O3 O4
  have hs13 := B13.out.size
  have hml : l2.length + l3.length ≤ maxLen := by unfold maxLen; omega
  have HAll : Hid (∀ (v4 : Value) (w4 : World), w4.ownsRow w1.heap.size 21 1 v4 (l2.length + l3.length) (i32s l2 ++ i32s l3) → w3.grownBy w4 (Value.slice A3 l2.length c3).ownBlock → JoinRel w1 w2 w4 n v4 (.slice A6 f3.length c6) (.slice A4 f2.length c4) l1 f2 f3 f2 0) := by
    intro v4 w4 ho hg
    refine ⟨B13.out.trans (below_grown O3'.out hg hs13), by rw [J1.out, i32s_app, List.length_append]; exact ho, O4'.out.kept hg (own_apart O4'.out O3'.out (by decide)), O6.out.kept hg (own_apart O6.out O3'.out (by decide)), hap.out, by simp⟩
  rcases O5.out.2 with ⟨hv5, hl5⟩ | ⟨g5, cap5, cur5, hv5, hg5, hh5, _⟩
  · have hl3 : l3 = [] := List.eq_nil_of_length_eq_zero hl5
    rw [hv5]
    have HR0 := Lib.hid (HAll.out _ w3 (by rw [hl3]; simpa [i32s] using O3'.out) (World.grownBy.refl w3 _))
    clear hv5 hl5
    go_wp2_with (at_builtin; refine wpList_append_own_none rfl (.tmp 91) (.tmp 92) _ rfl w1.heap.size 21 i0 1 Tryd.underlying28 I0.out (.slice A3 l2.length c3) l2.length _ rfl O3'.out rfl ?_)
    generalize Value.slice A3 l2.length c3 = bv at HR0 ⊢
    go_loopw [13, 18] (fun yv i wr => ∃ j : Nat, i = .int .i64 j ∧ j ≤ f3.length ∧ ∃ fy, fy.length ≤ f2.length + j ∧ Hid (JoinRel w1 w2 wr n bv (.slice A6 f3.length c6) yv l1 f2 f3 fy j)) (fun _ i _ => f3.length - (intOf i).toNat)
    case atStart => exact ⟨0, rfl, by omega, f2, by omega, HR0.out⟩
    case round =>
      obtain ⟨j, rfl, hk, fy, hfl, HR⟩ := hrel
      have hbs := HR.out.bel.size
      by_cases hlt : j < f3.length
      · obtain ⟨z1, z2, hzk⟩ : ∃ z1 z2, f3[j] = (z1, z2) := ⟨_, _, rfl⟩
        have hzb := FR3.out f3[j] (List.getElem_mem hlt)
        rw [hzk] at hzb
        simp only at hzb
        obtain ⟨A7, c7, hA7, hF7⟩ := own_flts HR.out.hz
        simp only [Value.slice.injEq, true_and] at hA7
        obtain ⟨hA7, -⟩ := hA7
        rw [← hA7] at hF7
        obtain ⟨b, off, hAb, hbl, hc1, hc2⟩ := hF7 j hlt
        rw [hzk] at hc1 hc2
        simp only at hc1 hc2
        have hyne : u13.ownBlock ≠ some b := by
          have := HR.out.ap
          rw [hAb] at this
          rcases this with h | h
          · simp [Value.ownBlock] at h
          · intro hh
            exact h (by rw [hh]; rfl)
        have HZK := Lib.hid hzk
        have hlt' : (j : Int) < f3.length := by omega
        have hk0 : (0 : Int) ≤ j := by omega
        have hmf : fy.length + 1 ≤ maxLen := by unfold maxLen; omega
        have hwr : IntKind.i64.wrap ((n : Int) + z1) = (n : Int) + z1 := IntWalk.i64_in _ (by omega)
        rw [hAb] at HR ⊢
        clear hzk hA7 hF7 hAb
        go_wp2_with fail
        go_region_held3 (fun w' => w'.cell? ⟨b, off + j * 2, none⟩ = some (.int .i64 (z1 : Int)) ∧ w'.cell? ⟨b, off + j * 2 + 1, none⟩ = some (.int .i64 (z2 : Int)))
          (first
            | go_keep
            | (go_split_ands
               refine ⟨?_, ?_⟩
               · (rw [hgrow.cell_far _ (by simp; omega) (Ne.symm hyne)]; assumption)
               · (rw [hgrow.cell_far _ (by simp; omega) (Ne.symm hyne)]; assumption)))
          ((refine step_append_lies _ (by rfl) _ _ _ (by rfl) w1.heap.size 49 j0 _ 2 16 Tryd.underlying36 K0.out K1.out K2.out K3.out rfl (by omega) u13 fy.length (flts fy) (by rfl) ((HR.out.hy.alloc _).drew) ⟨wr.heap.size, 0, none⟩ 1 1 [.int .i64 ((n : Int) + z1), .int .i64 (z2 : Int)] (by rfl) (by rfl) (World.news_of_block (cs := #[.int .i64 ((n : Int) + z1), .int .i64 (z2 : Int)]) (t := 49) (fr := (0, 0)) (heap_alloc_new wr _)) (by simp [Value.oneCell']) (by omega) hmf (by omega) (by simp; omega) (wr.heap.size + 1) (by simp) ?_; intro gg cap w5 hown5 hgrow hat hlt5))
        have HN := Lib.hid (HR.out.next hlt HZK.out hown5 hgrow hat)
        clear hown5 hgrow hat hlt5 hwr hc1 hc2
        go_wp2_with fail
        go_roundw
        case rel => exact ⟨j + 1, by go_num, by omega, fy ++ [(n + z1, z2)], by simp; omega, HN.out⟩
        case measure => simp [intOf]; omega
      · obtain rfl : j = f3.length := by omega
        have hlt' : ¬ ((f3.length : Nat) : Int) < f3.length := by omega
        have HFE : Hid (f1 = fy) := by
          show f1 = fy
          rw [J2.out, HR.out.eq, List.take_length, ← HNE.out]
          exact rfl
        obtain ⟨Ab, cb, rfl, hib⟩ := own_ints HR.out.hb
        obtain ⟨Ay, cy, hyv, hiy⟩ := own_flts HR.out.hy
        rw [hyv]
        have HIB := Lib.hid hib
        have HIY := Lib.hid hiy
        clear hib hiy hyv
        have B5 := Lib.hid (B1.out.trans (HR.out.bel.mono B1.out.size))
        go_wp2_with fail
        refine (runes_any A1 Ab c1' cb l1 l1 _ (HI1.out.below HR.out.bel) HIB.out (by omega) (by omega)).mono ?_
        rintro e w6 ⟨rfl, hb6⟩
        rw [show decide (l1 = l1) = true from by simp]
        have B6 := Lib.hid (B5.out.trans (hb6.mono B5.out.size))
        have HX6 := Lib.hid ((HF1.out.below HR.out.bel).below hb6)
        have HY6 := Lib.hid (HIY.out.below hb6)
        clear hb6
        go_wp2_with fail
        refine (faults_any A2 Ay c2' cy f1 fy _ HX6.out HY6.out (by omega) (by omega)).mono ?_
        rintro e w7 ⟨rfl, hb7⟩
        rw [show decide (f1 = fy) = true from by simpa using HFE.out]
        have B7 := Lib.hid (B6.out.trans (hb7.mono B6.out.size))
        clear hb7
        go_wp2_with fail
        refine (awake_any _ (HFin.out _ B7.out)).mono ?_
        rintro e w8 ⟨rfl, hb8⟩
        have B8 := Lib.hid (B7.out.trans (hb8.mono B7.out.size))
        clear hb8
        go_wp2
        go_ret
        exact ⟨rfl, B8.out⟩
  · have hc5 := O5.out.cells (g := g5) (by rw [hv5]; rfl)
    rw [hv5]
    have HC5 := Lib.hid hc5
    clear hv5 hc5 hh5
    go_wp2_with (at_builtin; refine wpList_append_own_at _ rfl (.tmp 91) (.tmp 92) _ rfl w1.heap.size 21 i0 _ 1 4 Tryd.underlying28 I0.out I1.out I2.out I3.out rfl (by omega) (.slice A3 l2.length c3) l2.length _ rfl O3'.out ⟨g5, 0, none⟩ l3.length cap5 (i32s l3) rfl (by simp [i32s]) HC5.out (by intro u hu; simp [i32s] at hu; obtain ⟨x, _, rfl⟩ := hu; rfl) hml (by omega) hs13 ?_; intro bv w4 ho4 hg4 hn4 ha4; have HR0 := Lib.hid (HAll.out bv w4 ho4 hg4); clear ho4 hg4 hn4 ha4)
    go_loopw [13, 18] (fun yv i wr => ∃ j : Nat, i = .int .i64 j ∧ j ≤ f3.length ∧ ∃ fy, fy.length ≤ f2.length + j ∧ Hid (JoinRel w1 w2 wr n bv (.slice A6 f3.length c6) yv l1 f2 f3 fy j)) (fun _ i _ => f3.length - (intOf i).toNat)
    case atStart => exact ⟨0, rfl, by omega, f2, by omega, HR0.out⟩
    case round =>
      obtain ⟨j, rfl, hk, fy, hfl, HR⟩ := hrel
      have hbs := HR.out.bel.size
      by_cases hlt : j < f3.length
      · obtain ⟨z1, z2, hzk⟩ : ∃ z1 z2, f3[j] = (z1, z2) := ⟨_, _, rfl⟩
        have hzb := FR3.out f3[j] (List.getElem_mem hlt)
        rw [hzk] at hzb
        simp only at hzb
        obtain ⟨A7, c7, hA7, hF7⟩ := own_flts HR.out.hz
        simp only [Value.slice.injEq, true_and] at hA7
        obtain ⟨hA7, -⟩ := hA7
        rw [← hA7] at hF7
        obtain ⟨b, off, hAb, hbl, hc1, hc2⟩ := hF7 j hlt
        rw [hzk] at hc1 hc2
        simp only at hc1 hc2
        have hyne : u13.ownBlock ≠ some b := by
          have := HR.out.ap
          rw [hAb] at this
          rcases this with h | h
          · simp [Value.ownBlock] at h
          · intro hh
            exact h (by rw [hh]; rfl)
        have HZK := Lib.hid hzk
        have hlt' : (j : Int) < f3.length := by omega
        have hk0 : (0 : Int) ≤ j := by omega
        have hmf : fy.length + 1 ≤ maxLen := by unfold maxLen; omega
        have hwr : IntKind.i64.wrap ((n : Int) + z1) = (n : Int) + z1 := IntWalk.i64_in _ (by omega)
        rw [hAb] at HR ⊢
        clear hzk hA7 hF7 hAb
        go_wp2_with fail
        go_region_held3 (fun w' => w'.cell? ⟨b, off + j * 2, none⟩ = some (.int .i64 (z1 : Int)) ∧ w'.cell? ⟨b, off + j * 2 + 1, none⟩ = some (.int .i64 (z2 : Int)))
          (first
            | go_keep
            | (go_split_ands
               refine ⟨?_, ?_⟩
               · (rw [hgrow.cell_far _ (by simp; omega) (Ne.symm hyne)]; assumption)
               · (rw [hgrow.cell_far _ (by simp; omega) (Ne.symm hyne)]; assumption)))
          ((refine step_append_lies _ (by rfl) _ _ _ (by rfl) w1.heap.size 49 j0 _ 2 16 Tryd.underlying36 K0.out K1.out K2.out K3.out rfl (by omega) u13 fy.length (flts fy) (by rfl) ((HR.out.hy.alloc _).drew) ⟨wr.heap.size, 0, none⟩ 1 1 [.int .i64 ((n : Int) + z1), .int .i64 (z2 : Int)] (by rfl) (by rfl) (World.news_of_block (cs := #[.int .i64 ((n : Int) + z1), .int .i64 (z2 : Int)]) (t := 49) (fr := (0, 0)) (heap_alloc_new wr _)) (by simp [Value.oneCell']) (by omega) hmf (by omega) (by simp; omega) (wr.heap.size + 1) (by simp) ?_; intro gg cap w5 hown5 hgrow hat hlt5))
        have HN := Lib.hid (HR.out.next hlt HZK.out hown5 hgrow hat)
        clear hown5 hgrow hat hlt5 hwr hc1 hc2
        go_wp2_with fail
        go_roundw
        case rel => exact ⟨j + 1, by go_num, by omega, fy ++ [(n + z1, z2)], by simp; omega, HN.out⟩
        case measure => simp [intOf]; omega
      · obtain rfl : j = f3.length := by omega
        have hlt' : ¬ ((f3.length : Nat) : Int) < f3.length := by omega
        have HFE : Hid (f1 = fy) := by
          show f1 = fy
          rw [J2.out, HR.out.eq, List.take_length, ← HNE.out]
          exact rfl
        obtain ⟨Ab, cb, rfl, hib⟩ := own_ints HR.out.hb
        obtain ⟨Ay, cy, hyv, hiy⟩ := own_flts HR.out.hy
        rw [hyv]
        have HIB := Lib.hid hib
        have HIY := Lib.hid hiy
        clear hib hiy hyv
        have B5 := Lib.hid (B1.out.trans (HR.out.bel.mono B1.out.size))
        go_wp2_with fail
        refine (runes_any A1 Ab c1' cb l1 l1 _ (HI1.out.below HR.out.bel) HIB.out (by omega) (by omega)).mono ?_
        rintro e w6 ⟨rfl, hb6⟩
        rw [show decide (l1 = l1) = true from by simp]
        have B6 := Lib.hid (B5.out.trans (hb6.mono B5.out.size))
        have HX6 := Lib.hid ((HF1.out.below HR.out.bel).below hb6)
        have HY6 := Lib.hid (HIY.out.below hb6)
        clear hb6
        go_wp2_with fail
        refine (faults_any A2 Ay c2' cy f1 fy _ HX6.out HY6.out (by omega) (by omega)).mono ?_
        rintro e w7 ⟨rfl, hb7⟩
        rw [show decide (f1 = fy) = true from by simpa using HFE.out]
        have B7 := Lib.hid (B6.out.trans (hb7.mono B6.out.size))
        clear hb7
        go_wp2_with fail
        refine (awake_any _ (HFin.out _ B7.out)).mono ?_
        rintro e w8 ⟨rfl, hb8⟩
        have B8 := Lib.hid (B7.out.trans (hb8.mono B7.out.size))
        clear hb8
        go_wp2
        go_ret
        exact ⟨rfl, B8.out⟩

set_option maxRecDepth 100000 in
set_option maxHeartbeats 2000000 in
theorem wideJoins_walk (kd : Int) (s t : ByteArray) (w : World) (_hk : (Lit.int .i64 kd).wf = true) (_hm : s.size ≤ maxLen) (_hm' : t.size ≤ maxLen) (hT : Tab w) : Calls Tryd.prog 10 #[.int .i64 kd, .string s, .string t] w fun e w' => e = .returned (.bool true) ∧ Below w.heap.size w w' := by
  by_cases c1 : kd < 1
  · have hpos := hT.pos
    have HFin := Lib.hid (show ∀ w2 : World, Below w.heap.size w w2 → Tab w2 from fun w2 h => hT.below h hpos)
    have B0 := Lib.hid (Below.refl w.heap.size w)
    clear hT _hk _hm _hm'
    go_enter Tryd.func10, Tryd.ntmps10
    go_wp2_with fail
    refine (awake_any _ (HFin.out _ B0.out)).mono ?_
    rintro e w9 ⟨rfl, hb9⟩
    have B9 := Lib.hid (B0.out.trans (hb9.mono B0.out.size))
    clear hb9
    go_wp2
    go_ret
    exact ⟨rfl, B9.out⟩
  by_cases c2 : 4 < kd
  · have hpos := hT.pos
    have HFin := Lib.hid (show ∀ w2 : World, Below w.heap.size w w2 → Tab w2 from fun w2 h => hT.below h hpos)
    have B0 := Lib.hid (Below.refl w.heap.size w)
    clear hT _hk _hm _hm'
    go_enter Tryd.func10, Tryd.ntmps10
    go_wp2_with fail
    refine (awake_any _ (HFin.out _ B0.out)).mono ?_
    rintro e w9 ⟨rfl, hb9⟩
    have B9 := Lib.hid (B0.out.trans (hb9.mono B0.out.size))
    clear hb9
    go_wp2
    go_ret
    exact ⟨rfl, B9.out⟩
  by_cases c3 : 200 < s.size
  · have hpos := hT.pos
    have HFin := Lib.hid (show ∀ w2 : World, Below w.heap.size w w2 → Tab w2 from fun w2 h => hT.below h hpos)
    have B0 := Lib.hid (Below.refl w.heap.size w)
    have c3' : (200 : Int) < s.size := by omega
    clear hT _hk _hm _hm'
    go_enter Tryd.func10, Tryd.ntmps10
    go_wp2_with fail
    refine (awake_any _ (HFin.out _ B0.out)).mono ?_
    rintro e w9 ⟨rfl, hb9⟩
    have B9 := Lib.hid (B0.out.trans (hb9.mono B0.out.size))
    clear hb9
    go_wp2
    go_ret
    exact ⟨rfl, B9.out⟩
  by_cases c4 : 200 < t.size
  · have hpos := hT.pos
    have HFin := Lib.hid (show ∀ w2 : World, Below w.heap.size w w2 → Tab w2 from fun w2 h => hT.below h hpos)
    have B0 := Lib.hid (Below.refl w.heap.size w)
    have c3' : ¬ (200 : Int) < s.size := by omega
    have c4' : (200 : Int) < t.size := by omega
    clear hT _hk _hm _hm'
    go_enter Tryd.func10, Tryd.ntmps10
    go_wp2_with fail
    refine (awake_any _ (HFin.out _ B0.out)).mono ?_
    rintro e w9 ⟨rfl, hb9⟩
    have B9 := Lib.hid (B0.out.trans (hb9.mono B0.out.size))
    clear hb9
    go_wp2
    go_ret
    exact ⟨rfl, B9.out⟩
  obtain ⟨k, rfl⟩ : ∃ n : Nat, kd = n := ⟨kd.toNat, by omega⟩
  have k1 : 1 ≤ k := by omega
  have k4 : k ≤ 4 := by omega
  obtain ⟨n, hn⟩ : ∃ n, cutK k (bs s) = n := ⟨_, rfl⟩
  by_cases c5 : n = s.size
  · exact joins_in k k1 k4 s t w n (by omega) (by omega) hn c5 hT
  · have hpos := hT.pos
    have HFin := Lib.hid (show ∀ w2 : World, Below w.heap.size w w2 → Tab w2 from fun w2 h => hT.below h hpos)
    have B0 := Lib.hid (Below.refl w.heap.size w)
    have hcl := cutK_le k (bs s).length (bs s) (Nat.le_refl _)
    rw [bs_len, hn] at hcl
    have HCut := Lib.hid hn
    have c3' : ¬ (200 : Int) < s.size := by omega
    have c4' : ¬ (200 : Int) < t.size := by omega
    have n0 : ¬ (n : Int) < 0 := by omega
    have n1 : ¬ (s.size : Int) < n := by omega
    have n2 : ¬ (3 : Int) < (s.size : Int) - n := by omega
    have q1 : ((n : Int) != (s.size : Int)) = true := by simp; omega
    clear hT _hk _hm _hm' hn c5 hcl
    go_enter Tryd.func10, Tryd.ntmps10
    go_wp2_with fail
    refine (cut_any k s _ (HFin.out _ B0.out) k1 k4 (by omega)).mono ?_
    rw [HCut.out]
    rintro e w0 ⟨rfl, hb0⟩
    have BC := Lib.hid hb0
    clear hb0
    go_wp2_with fail
    refine (awake_any _ (HFin.out _ BC.out)).mono ?_
    rintro e w9 ⟨rfl, hb9⟩
    have B9 := Lib.hid (BC.out.trans (hb9.mono BC.out.size))
    clear hb9
    go_wp2
    go_ret
    exact ⟨rfl, B9.out⟩

set_option maxRecDepth 100000 in
theorem wideJoins_lifted (os : Os) (started : os.Started) (H : Type) (enc : TypeId × Value → H) :
    ReturnsInHanded {} Tryd.checked os 10 .any (fun w args => (Rows.wideJoinsSpec.pre enc Tryd.prog Tryd.f10 [] false w args ∧ laidMetH Tryd.prog laid1 w) ∧ sizedMet enc Tryd.prog Tryd.f10 (OpenSpec.ofChange Rows.wideJoinsSpec) false w args)
      (Rows.wideJoinsSpec.post enc Tryd.prog Tryd.f10 false true false false) := by
  refine returnsInHanded_of_change_and (C := Tryd.checked) (X := fun w _ => laidMetH Tryd.prog laid1 w) (fun _ _ _ hh h => h.of_heap hh) own started (by kernel_rfl) Tryd.func10
    (ChangeSpec.witness_shaped (enc := enc) (C := Tryd.checked) (os := os) (X := fun w _ => laidMetH Tryd.prog laid1 w) false (World.doorLaid Tryd.prog 400 os) #[.int .i64 0, .string ⟨#[]⟩, .string ⟨#[]⟩] 8 rfl (World.shaped_of_RefB (by kernel_rfl) (by kernel_rfl)) (by kernel_rfl) (by kernel_rfl) (by kernel_rfl) (door_met os _)) ?_
  intro W base args ds gs before hval0 hW _ hsz hL _
  have hval : ∀ (j : Nat) t v, Tryd.f10.params[j]? = some t → args[j]? = some v → Value.okWide Tryd.prog W .any base t v := hval0
  have hW' := hW
  obtain ⟨p, q, hA0, hV, rfl, hfz, hnd⟩ := hW
  have hA : DataW.TrodAll enc Tryd.prog W 0 (fun _ => true) true Tryd.f10.params.toList args.toList ds p := hA0
  rw [Tryd.params10] at hA hval
  obtain ⟨v0, vs0, d0, ds0, p0, q0, hargs, rfl, rfl, h0, r0⟩ := trodAll_cons hA
  obtain ⟨v1, vs1, d1, ds1, p1, q1, rfl, rfl, rfl, h1, r1⟩ := trodAll_cons r0
  obtain ⟨v2, vs2, d2, ds2, p2, q2, rfl, rfl, rfl, h2, r2⟩ := trodAll_cons r1
  obtain ⟨rfl, rfl, rfl⟩ := trodAll_nil r2
  obtain rfl : args = #[v0, v1, v2] := by cases args; simp_all
  obtain ⟨rfl, rfl⟩ := trodVars_none hV
  obtain ⟨a0, rfl, rfl, rfl, m0⟩ := open_int Tryd.underlying3 (hval 0 3 v0 rfl rfl) h0
  obtain ⟨s1, rfl, rfl, rfl, m1⟩ := open_string Tryd.underlying9 (hval 1 9 v1 rfl rfl) h1
  obtain ⟨s2, rfl, rfl, rfl, m2⟩ := open_string Tryd.underlying9 (hval 2 9 v2 rfl rfl) h2
  clear hA0 hval0
  refine (wideJoins_walk a0 s1 s2 W m0 m1 m2 (of_laid hL)).mono fun e W' ⟨he, bel⟩ => ?_
  subst he
  exact ⟨_, rfl, _, _, _, [], _, [], hW', trodAll_mk1 (shut_bool Tryd.underlying4 _), (trodAll_cons_mk (shut_int Tryd.underlying3 m0) (trodAll_cons_mk (shut_string Tryd.underlying9 m1) (trodAll_cons_mk (shut_string Tryd.underlying9 m2) trodAll_mk0))), rfl, bel.frame _, fun h => by cases h⟩

theorem wideJoins_row : Rows.WideJoinsSaid :=
  OpenClaim.holds_of_wide 10 Tryd.f10 rfl rfl rfl rfl rfl rfl rfl ⟨rfl, rfl, rfl, rfl, rfl⟩ rfl rfl rfl rfl rfl (by kernel_rfl) Tryd.func10 (by kernel_rfl)
    (of_decide_eq_true (by kernel_rfl)) (by unfold Func.isWrapper; first | (rw [if_pos (by decide +kernel)]; kernel_rfl) | (rw [if_neg (by decide +kernel)]; exact ⟨rfl, rfl⟩))
    (fun os started H enc _ => wideJoins_lifted os started H enc)

theorem wideJoins_holds : Rows.WideJoinsCardSaid :=
  Claim7.holds_tied_plain_at .later [] [.data] true Rows.wideJoinsCard.stood.harness false
    wideJoins_row (fun _ h => by cases h) (by kernel_rfl) (fun _ h => by cases h) wideJoins_row_tie rfl ⟨rfl, rfl⟩ (by kernel_rfl) rfl
    (fun f fn hf hfn => by
      obtain rfl : f = 10 := Option.some.inj ((show Tryd.prog.funcNamed Rows.wideJoinsRow.func = some 10 by kernel_rfl).symm.trans hf) |>.symm
      obtain rfl : fn = Tryd.f10 := (Option.some.inj (Tryd.func10.symm.trans hfn)).symm
      exact ⟨by kernel_rfl, fun j t ht => by
        rw [Tryd.params10] at ht
        have hm : t ∈ [3, 9, 9] := by simpa using Array.mem_of_getElem? ht
        have hall : ([3, 9, 9].all fun u => !Tryd.prog.wantsStandIn u) = true := by kernel_rfl
        exact (show Tryd.prog.wantsStandIn t = false by simpa using List.all_eq_true.1 hall t hm)⟩)
    (by kernel_rfl)
#print axioms wideJoins_holds
end Go.Proofs.YtohjkpdelopknaaDoor

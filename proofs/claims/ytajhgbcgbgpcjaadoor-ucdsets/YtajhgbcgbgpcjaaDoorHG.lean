import Derived.Test.YtajhgbcgbgpcjaaDoorHF
import Derived.Test.YtajhgbcgbgpcjaaDoorFRc
import Derived.Test.YtajhgbcgbgpcjaaDoorFSc
namespace Go.Proofs.YtajhgbcgbgpcjaaDoor.Uc
open Go.RowKit Fi

/-- A cell of a row of its own is another one. -/
theorem own_put {w : World} {base n g c : Nat} {xs : List Int} (h : w.ownsRow base 21 1 (.slice (some ⟨g, 0, none⟩) n c) n (i32s xs)) (k : Nat) (y : Int) : (w.setCell ⟨g, k, none⟩ (.int .i32 y)).ownsRow base 21 1 (.slice (some ⟨g, 0, none⟩) n c) n (i32s (xs.set k y)) := by
  have h1 := h.1
  rw [i32s_len] at h1
  rcases h.2 with ⟨hv, _⟩ | ⟨g', cap, cur, hv, hg, hh, hn, hm, hc, ht⟩
  · cases hv
  · simp only [Value.slice.injEq, Option.some.injEq, Addr.mk.injEq, true_and, and_true] at hv
    obtain ⟨rfl, rfl⟩ := hv
    refine ⟨by rw [i32s_len, List.length_set]; exact h1, .inr ⟨g, c, cur.setIfInBounds k (.int .i32 y), rfl, hg, by simp [World.setCell, Array.getElem?_modify, hh], hn, hm, by simpa using hc, ?_⟩⟩
    rw [Array.toList_setIfInBounds, List.take_set, ht]
    simp [i32s, List.map_set]
theorem own_at {w : World} {base n g c : Nat} {xs : List Int} (h : w.ownsRow base 21 1 (.slice (some ⟨g, 0, none⟩) n c) n (i32s xs)) {k : Nat} {y : Int} (hk : xs[k]? = some y) : w.cell? ⟨g, k, none⟩ = some (.int .i32 y) := by
  have := h.cells (g := g) rfl k (.int .i32 y) (by simp [i32s, hk])
  have e : (⟨g, 0, none⟩ : Addr).add k = ⟨g, k, none⟩ := by unfold Addr.add; split <;> simp_all
  rw [e] at this
  exact this
theorem own_fz {w : World} {base n g c : Nat} {xs : List Value} (h : w.ownsRow base 21 1 (.slice (some ⟨g, 0, none⟩) n c) n xs) (k : Nat) : w.frozen? ⟨g, k, none⟩ = false := by
  rcases h.2 with ⟨hv, _⟩ | ⟨g', cap, cur, hv, hg, hh, _⟩
  · cases hv
  · simp only [Value.slice.injEq, Option.some.injEq, Addr.mk.injEq, true_and, and_true] at hv
    obtain ⟨rfl, rfl⟩ := hv
    simp [World.frozen?, hh]
theorem any_more {us : List Int} {p : Int → Bool} {k : Nat} (h : k < us.length) : (us.take (k + 1)).any p = ((us.take k).any p || p (us.getD k 0)) := by
  rw [take_more us k h, List.any_append]
  simp
/-- While one is put where it belongs: what is ahead of it, it, what is behind it. -/
structure Put (us : List Int) (i k : Nat) (xs : List Int) : Prop where
  parts : ∃ a x b r, xs = a ++ x :: (b ++ r) ∧ a.length = k ∧ a.length + b.length = i ∧ (a ++ b).Pairwise (· ≤ ·) ∧ ∀ y ∈ b, x ≤ y
  perm : us.Perm xs
structure Srt (us : List Int) (i : Nat) (xs : List Int) : Prop where
  rise : (xs.take i).Pairwise (· ≤ ·)
  perm : us.Perm xs
theorem Put.start {us xs : List Int} {i : Nat} (h : Srt us i xs) (hi : i < xs.length) : Put us i i xs := by
  refine ⟨⟨xs.take i, xs[i], [], xs.drop (i + 1), ?_, ?_, ?_, ?_, ?_⟩, h.perm⟩
  · rw [List.nil_append, ← List.drop_eq_getElem_cons hi, List.take_append_drop]
  · rw [List.length_take]; omega
  · rw [List.length_take]; simp; omega
  · rw [List.append_nil]; exact h.rise
  · intro y hy; cases hy
theorem Put.swap {us xs : List Int} {i k : Nat} {y x : Int} (h : Put us i (k + 1) xs) (hy : xs[k]? = some y) (hx : xs[k + 1]? = some x) (hlt : x < y) : Put us i k ((xs.set (k + 1) y).set k x) := by
  obtain ⟨a, x', b, r, rfl, hk, hi, hr, hb⟩ := h.parts
  have hne : a ≠ [] := by rintro rfl; simp at hk
  obtain ⟨a', z, rfl⟩ : ∃ a' z, a = a' ++ [z] := ⟨_, _, (List.dropLast_concat_getLast hne).symm⟩
  have hk' : a'.length = k := by simpa using hk
  subst hk'
  have e1 : (a' ++ [z] ++ x' :: (b ++ r))[a'.length]? = some z := by simp
  have e2 : (a' ++ [z] ++ x' :: (b ++ r))[a'.length + 1]? = some x' := by rw [List.getElem?_append_right (by simp)]; simp
  obtain rfl : z = y := Option.some.inj (e1.symm.trans hy)
  obtain rfl : x' = x := Option.some.inj (e2.symm.trans hx)
  have e3 : ((a' ++ [z] ++ x' :: (b ++ r)).set (a'.length + 1) z).set a'.length x' = a' ++ x' :: (z :: b ++ r) := by
    rw [List.append_assoc, List.set_append_right _ _ (by omega), List.set_append_right _ _ (by omega)]
    simp
  rw [e3]
  refine ⟨⟨a', x', z :: b, r, rfl, rfl, by simp at hi ⊢; omega, by simpa using hr, fun q hq => ?_⟩, ?_⟩
  · rcases List.mem_cons.1 hq with rfl | hq
    · omega
    · exact hb q hq
  · refine h.perm.trans ?_
    rw [List.append_assoc]
    refine List.Perm.append_left _ ?_
    exact List.Perm.swap _ _ _
theorem pw_ins {a b : List Int} {x : Int} (h : (a ++ b).Pairwise (· ≤ ·)) (ha : ∀ y ∈ a, y ≤ x) (hb : ∀ y ∈ b, x ≤ y) : (a ++ x :: b).Pairwise (· ≤ ·) := by
  rw [List.pairwise_append] at h ⊢
  refine ⟨h.1, List.pairwise_cons.2 ⟨hb, h.2.1⟩, fun p hp q hq => ?_⟩
  rcases List.mem_cons.1 hq with rfl | hq
  · exact ha p hp
  · exact h.2.2 p hp q hq
theorem Put.ends {us xs : List Int} {i k : Nat} (h : Put us i k xs) (he : k = 0 ∨ ∃ j y x, k = j + 1 ∧ xs[j]? = some y ∧ xs[j + 1]? = some x ∧ y ≤ x) : Srt us (i + 1) xs := by
  obtain ⟨a, x', b, r, rfl, hk, hi, hr, hb⟩ := h.parts
  refine ⟨?_, h.perm⟩
  have e : (a ++ x' :: (b ++ r)).take (i + 1) = a ++ x' :: b := by
    have : a ++ x' :: (b ++ r) = (a ++ x' :: b) ++ r := by simp
    rw [this, List.take_append_of_le_length (by simp; omega), List.take_of_length_le (by simp; omega)]
  rw [e]
  refine pw_ins hr ?_ hb
  rcases he with rfl | ⟨j, y, x, rfl, h1, h2, hle⟩
  · have : a = [] := List.length_eq_zero_iff.1 hk
    subst this
    intro y hy; cases hy
  · have hne : a ≠ [] := by rintro rfl; simp at hk
    obtain ⟨a', z, rfl⟩ : ∃ a' z, a = a' ++ [z] := ⟨_, _, (List.dropLast_concat_getLast hne).symm⟩
    have hk' : a'.length = j := by simpa using hk
    subst hk'
    have e1 : (a' ++ [z] ++ x' :: (b ++ r))[a'.length]? = some z := by simp
    have e2 : (a' ++ [z] ++ x' :: (b ++ r))[a'.length + 1]? = some x' := by rw [List.getElem?_append_right (by simp)]; simp
    obtain rfl : z = y := Option.some.inj (e1.symm.trans h1)
    obtain rfl : x' = x := Option.some.inj (e2.symm.trans h2)
    rw [List.append_assoc, List.pairwise_append] at hr
    intro p hp
    rcases List.mem_append.1 hp with hp | hp
    · have := hr.2.2 p hp z (by simp)
      omega
    · simp at hp
      omega
theorem own_len {w : World} {b e z n k c : Nat} {A : Option Addr} {xs : List Value} (h : w.ownsRow b e z (.slice A k c) n xs) : k = n := by
  rcases h.2 with ⟨hv, hn⟩ | ⟨g, cap, cur, hv, _⟩
  · injection hv with _ h2 _; omega
  · injection hv with _ h2 _
theorem own_ne {w : World} {b e z n b' e' z' n' : Nat} {v v' : Value} {xs xs' : List Value} (h : w.ownsRow b e z v n xs) (k : w.ownsRow b' e' z' v' n' xs') (hne : e ≠ e') {g : Nat} (h1 : v.ownBlock = some g) (h2 : v'.ownBlock = some g) : False := by
  rcases h.2 with ⟨rfl, _⟩ | ⟨g1, cap, cur, rfl, _, hh, _⟩
  · cases h1
  · rcases k.2 with ⟨rfl, _⟩ | ⟨g2, cap2, cur2, rfl, _, hh2, _⟩
    · cases h2
    · have e1 : g1 = g := by injection h1
      have e2 : g2 = g := by injection h2
      subst e1
      subst e2
      rw [hh] at hh2
      simp at hh2
      exact hne hh2.2
theorem che_len {f t : Int} {j : Nat} (hj : (j : Int) ≤ t - f + 1) : (chP f j).length ≤ (chs f t).length := by
  obtain ⟨r, hr⟩ := chP_pre f j (t - f + 1).toNat (by omega)
  unfold chs
  rw [hr]
  simp
structure HRel (w wr : World) (A1 : Option Addr) (c1 k : Nat) (ls : List (Nat × List UInt8)) (v : Value) (us s : List Int) (tot : List Int × Nat × Int) : Prop where
  bel : Below w.heap.size w wr
  lns : wr.ownsRow w.heap.size 56 2 (.slice A1 ls.length c1) ls.length (lnV ls)
  out : wr.ownsRow w.heap.size 21 1 v us.length (i32s us)
  inv : SInv s
  perm : us.Perm s
  run : runS s (ls.drop k) = tot
/-- While characters are put behind the others. -/
structure Mor (w wr : World) (A1 : Option Addr) (c1 : Nat) (ls : List (Nat × List UInt8)) (v : Value) (us : List Int) : Prop where
  bel : Below w.heap.size w wr
  lns : wr.ownsRow w.heap.size 56 2 (.slice A1 ls.length c1) ls.length (lnV ls)
  out : wr.ownsRow w.heap.size 21 1 v us.length (i32s us)
theorem Mor.on {w wr w' : World} {A1 : Option Addr} {c1 : Nat} {ls : List (Nat × List UInt8)} {v : Value} {us : List Int} (h : Mor w wr A1 c1 ls v us) (hb : Below wr.heap.size wr w') : Mor w w' A1 c1 ls v us := ⟨h.bel.trans (hb.mono h.bel.size), own_below' h.lns hb, own_below' h.out hb⟩
theorem Mor.more {w wa w6 : World} {A1 : Option Addr} {c1 : Nat} {ls : List (Nat × List UInt8)} {v v6 : Value} {us : List Int} {x : Int} (h : Mor w wa A1 c1 ls v us)
    (h6 : w6.ownsRow w.heap.size 21 1 v6 (us.length + 1) (i32s us ++ [.int .i32 x])) (hg : wa.grownBy w6 v.ownBlock) : Mor w w6 A1 c1 ls v6 (us ++ [x]) := by
  refine ⟨h.bel.grown hg h.bel.size (fun z hz => (h.out.lt z hz).1), KeepT.own (KeepT.grown h.out (by decide) hg) h.lns, ?_⟩
  rw [List.length_append, i32s_app]
  exact h6

set_option maxRecDepth 100000 in
set_option maxHeartbeats 16000000 in
theorem rsets_any (s : ByteArray) (w : World) (hs : s.size ≤ 100000) : Calls Tryd.prog 12 #[.string s] w (SetP w (setsE s.data.toList)) := by
  have hL := rlines_any s w hs
  unfold LinR at hL
  have hE : setsE s.data.toList = setsE s.data.toList := rfl
  conv at hE => rhs; unfold setsE
  obtain ⟨hb1, hb2⟩ := lin_bd s.data.toList
  obtain ⟨x, hx⟩ : ∃ x, x = linE s.data.toList := ⟨_, rfl⟩
  rw [← hx] at hL hb1 hb2 hE
  clear hx
  obtain ⟨ls, er⟩ := x
  simp only at hL hb1 hb2 hE
  have HL := Lib.hid hL
  have HB2 := Lib.hid hb2
  clear hL hb2
  by_cases h1 : er ≠ 0
  · simp only [if_pos h1] at hE
    have HE := Lib.hid hE
    have e1 : (er != 0) = true := by simpa using h1
    clear hE h1
    go_enter Tryd.func12, Tryd.ntmps12
    go_wp2_with (go_at_call 22; refine HL.out.mono ?_; rintro e w1 ⟨v1, rfl, ho1, hb1'⟩; have B1 := Lib.hid hb1'; clear ho1 hb1')
    refine bodyPost_ret (v := .tuple #[.slice none 0 0, .int .i64 0, .int .i64 er]) (by simp [results, Tryd.results12, go_sem]) rfl ⟨_, by rw [HE.out]; rfl, by rw [HE.out]; exact World.ownsRow_nil _ _ _ _, B1.out⟩
  · simp only [if_neg h1] at hE
    obtain rfl : er = 0 := by simpa using h1
    generalize htot : runS [] ls = tot at hE
    have HT := Lib.hid htot
    have HE := Lib.hid hE
    clear htot hE h1
    obtain ⟨i0, hi0, hz0, hz1, hz2⟩ := info_parts r_info
    have I0 := Lib.hid hi0
    have I1 := Lib.hid hz0
    have I2 := Lib.hid hz1
    have I3 := Lib.hid hz2
    clear hi0 hz0 hz1 hz2
    go_enter Tryd.func12, Tryd.ntmps12
    go_wp2_with (go_at_call 22; refine HL.out.mono ?_; rintro e w1 ⟨v1, rfl, ho1, hb1'⟩; obtain ⟨A1, c1, rfl, _⟩ := own_lns ho1; have O1 := Lib.hid ho1; have B1 := Lib.hid hb1'; clear ho1 hb1')
    clear HL
    go_loopw [7, 8, 9, 10, 11, 12, 13, 14, 15, 16] (fun v7 i _ _ _ _ _ _ _ _ wr => ∃ k : Nat, i = .int .i64 k ∧ k ≤ ls.length ∧ ∃ us s, Hid (HRel w wr A1 c1 k ls v7 us s tot)) (fun _ i _ _ _ _ _ _ _ _ _ => ls.length - (intOf i).toNat)
    case atStart => exact ⟨0, rfl, by omega, [], [], B1.out, O1.out, World.ownsRow_nil _ _ _ _, SInv.nil, List.Perm.refl _, HT.out⟩
    case round =>
      obtain ⟨k, rfl, hk, us, ss, HQ⟩ := hrel
      clear HT O1 B1
      have HQL := Lib.hid HQ.out.perm.length_eq
      have hssl := HQ.out.inv.len
      have husl : us.length ≤ 4096 := by have := HQL.out; omega
      obtain ⟨A7, c7, rfl, _⟩ := own_ints HQ.out.out
      by_cases hlt : k < ls.length
      · obtain ⟨A', c', e', hN⟩ := own_lns HQ.out.lns
        have e'' : A' = A1 := by injection e' with e1 e2 e3; exact e1.symm
        subst e''
        obtain ⟨b, off, rfl, hb, hc, hd⟩ := hN k hlt
        clear e' hN
        have hy := HB2.out ls[k] (List.getElem_mem hlt)
        have hdr : ls.drop k = ls[k] :: ls.drop (k + 1) := List.drop_eq_getElem_cons hlt
        have hrun := HQ.out.run
        rw [hdr] at hrun
        generalize ls[k] = y at *
        obtain ⟨no, tx⟩ := y
        simp only at hc hd hy
        obtain ⟨tb, htb⟩ : ∃ tb : ByteArray, tb = ⟨tx.toArray⟩ := ⟨_, rfl⟩
        have htl : tb.data.toList = tx := by rw [htb]
        have htz : tb.size ≤ 512 := by rw [htb, size_mk]; exact hy.2.2
        rw [← htb] at hd
        have hSp := fun W => rsplit_any tb 59 W (by omega)
        rw [htl] at hSp
        change ∀ W, Calls Tryd.prog _ _ W (CutP W (fld tx)) at hSp
        have hm := fld_mem tx 0
        have hp := fld_pos tx
        have hI2 := stR_inv (r := rngE ((fld tx).getD 0 [])) HQ.out.inv
        have hw1 := @runS_wrong ss no tx (ls.drop (k + 1))
        have hw2 := @runS_cons ss no tx (ls.drop (k + 1))
        unfold stS at hw1 hw2
        have htx : tx.length ≤ 512 := hy.2.2
        generalize fld tx = fs at *
        obtain ⟨x0, hx0⟩ : ∃ x : ByteArray, x = ⟨(fs.getD 0 []).toArray⟩ := ⟨_, rfl⟩
        have hR := fun W => rrange_any x0 W (by rw [hx0, size_mk]; omega)
        rw [show x0.data.toList = fs.getD 0 [] by rw [hx0]] at hR
        have HQ0 := Lib.hid hx0
        have hok := @rng_ok (fs.getD 0 [])
        have k1 := @stR_err ss (rngE (fs.getD 0 []))
        have k2 := @stR_there ss (rngE (fs.getD 0 []))
        have k3 := @stR_full ss (rngE (fs.getD 0 []))
        have k4 := @stR_put ss (rngE (fs.getD 0 []))
        generalize rngE (fs.getD 0 []) = x at *
        obtain ⟨f, tt, er⟩ := x
        unfold r3V at hR
        simp only at hR hok k1 k2 k3 k4
        have HSP := Lib.hid hSp
        have HR := Lib.hid hR
        have g1 : (k : Int) < ls.length := by omega
        have HRUN := Lib.hid hrun
        have hblt := hb
        clear hSp hR hx0 hm hrun htb htl hy
        by_cases h1 : er = 0
        · subst h1
          obtain ⟨hf, htt, hft⟩ := hok rfl
          clear hok k1
          have f0 := (scal_bd hf).1
          have f1 := (scal_bd htt).2
          go_wp2_with fail
          refine (HSP.out _).mono ?_
          rintro e w3 ⟨v2, rfl, ho, hb2⟩
          obtain ⟨A2, c2, rfl, hx⟩ := own_txs ho
          obtain ⟨tb2, tf, rfl, htb2, t0⟩ := txs_one hx hp
          rw [← HQ0.out] at t0
          have hlp : (0 : Int) < (fs.length : Int) := by omega
          clear ho hx HSP
          go_wp2_with fail
          refine (HR.out _).mono ?_
          rintro e w9 ⟨rfl, rfl⟩
          have BB := Lib.hid hb2
          have M3 := Lib.hid ((Mor.mk HQ.out.bel HQ.out.lns HQ.out.out).on BB.out)
          have hc3 := (BB.out.cell (p := ⟨b, off + k * 2, none⟩) hblt).trans hc
          clear hb2 t0 htb2 HR
          obtain ⟨wo, hwo⟩ : ∃ x, x = wr := ⟨_, rfl⟩
          subst hwo
          clear hc hd hb
          go_wp2_with fail
          go_loopw [13, 15] (fun th i wr => ∃ j : Nat, i = .int .i64 j ∧ j ≤ us.length ∧ th = .bool ((us.take j).any (inR f tt)) ∧ wr = w3) (fun _ i _ => us.length - (intOf i).toNat)
          case atStart => exact ⟨0, rfl, by omega, by simp, rfl⟩
          case round =>
            obtain ⟨j, rfl, hj, rfl, rfl⟩ := hrel
            by_cases hjl : j < us.length
            · obtain ⟨A', c', e', hN⟩ := own_ints M3.out.out
              have e'' : A' = A7 := by injection e' with e1 e2 e3; exact e1.symm
              subst e''
              obtain ⟨gb, go, rfl, _, cs⟩ := hN j hjl
              clear e' hN
              have hmo := any_more (p := inR f tt) hjl
              generalize us.getD j 0 = y at *
              have HMO := Lib.hid hmo
              clear hmo
              have g2 : (j : Int) < (us.length : Int) := by omega
              rcases (Bool.eq_false_or_eq_true ((us.take j).any (inR f tt))).symm with ha | ha
              · rw [ha] at HMO
                have HA := Lib.hid ha
                by_cases hy1 : f ≤ y
                · by_cases hy2 : y ≤ tt
                  all_goals
                    have HV := Lib.hid (show inR f tt y = _ by simp [inR, hy1, hy2]; rfl)
                    simp only [ha]
                    clear ha
                    go_wp2_with fail
                    go_roundw
                    case rel => exact ⟨j + 1, by go_num, by omega, by rw [HMO.out, HV.out]; rfl, trivial⟩
                    case measure => simp [intOf]; omega
                · have HV := Lib.hid (show inR f tt y = false by simp [inR, hy1])
                  simp only [ha]
                  clear ha
                  go_wp2_with fail
                  go_roundw
                  case rel => exact ⟨j + 1, by go_num, by omega, by rw [HMO.out, HV.out]; rfl, trivial⟩
                  case measure => simp [intOf]; omega
              · rw [ha] at HMO
                simp only [ha]
                clear ha
                go_wp2_with fail
                go_roundw
                case rel => exact ⟨j + 1, by go_num, by omega, by rw [HMO.out]; simp, trivial⟩
                case measure => simp [intOf]; omega
            · obtain rfl : j = us.length := by omega
              have g2 : ¬ ((us.length : Int) < (us.length : Int)) := by omega
              rw [List.take_length]
              have hpa := perm_any HQ.out.perm (inR f tt)
              generalize us.any (inR f tt) = th at *
              have HPA := Lib.hid hpa
              clear hpa
              go_wp2_with fail
              go_loopw [7, 12, 16] (fun v7 fu r wr => ∃ j : Nat, r = .int .i32 (f + j) ∧ (j : Int) ≤ tt - f + 1 ∧ us.length + (chP f j).length ≤ 4097 ∧ fu = .bool (decide (4096 < us.length + (chP f j).length)) ∧ Hid (Mor w wr (some ⟨b, off, none⟩) c1 ls v7 (us ++ chP f j) ∧ wr.cell? ⟨b, off + k * 2, none⟩ = some (.int .i64 no))) (fun _ _ r _ => (tt + 1 - intOf r).toNat)
              case atStart => exact ⟨0, by simp, by omega, by simp [chP]; omega, by simp [chP]; omega, by rw [chP_zero, List.append_nil]; exact M3.out, hc3⟩
              case round =>
                obtain ⟨j, rfl, hj, hjl, rfl, HM⟩ := hrel
                clear hc3 M3
                obtain ⟨A8, c8, rfl, _⟩ := own_ints HM.out.1.out
                have hu8 : (us ++ chP f j).length = us.length + (chP f j).length := by simp
                by_cases hle : f + j ≤ tt
                · by_cases hfu : 4096 < us.length + (chP f j).length
                  · have hd9 : decide (4096 < us.length + (chP f j).length) = true := by simpa using hfu
                    rw [hd9]
                    by_cases hth : th = true
                    · subst hth
                      have hst := k2 (by simp) HPA.out.symm
                      rw [hst] at hw1
                      have HTO := Lib.hid (HRUN.out.symm.trans (hw1 (by simp)))
                      have hcc := HM.out.2
                      clear hw1 hw2 hst k2 k3 k4
                      go_wp2_with fail
                      go_quiet (fail)
                      go_wp2_with fail
                      refine bodyPost_ret (v := .tuple #[.slice none 0 0, .int .i64 no, .int .i64 12]) (by simp [results, Tryd.results12, go_sem]) rfl ⟨_, by rw [HE.out, HTO.out]; rfl, by rw [HE.out, HTO.out]; exact World.ownsRow_nil _ _ _ _, bel_drewN HM.out.1.bel _⟩
                    · have hth' : th = false := by simpa using hth
                      subst hth'
                      have hany : ¬ ss.any (inR f tt) = true := by rw [← HPA.out]; decide
                      have hst := k3 (by simp) hany (by have h9 := che_len (f := f) (t := tt) hj; have := HQL.out; omega)
                      rw [hst] at hw1
                      have HTO := Lib.hid (HRUN.out.symm.trans (hw1 (by simp)))
                      have hcc := HM.out.2
                      clear hw1 hw2 hst k2 k3 k4
                      go_wp2_with fail
                      go_quiet (fail)
                      go_wp2_with fail
                      refine bodyPost_ret (v := .tuple #[.slice none 0 0, .int .i64 no, .int .i64 14]) (by simp [results, Tryd.results12, go_sem]) rfl ⟨_, by rw [HE.out, HTO.out]; rfl, by rw [HE.out, HTO.out]; exact World.ownsRow_nil _ _ _ _, bel_drewN HM.out.1.bel _⟩
                  · have hd9 : decide (4096 < us.length + (chP f j).length) = false := by simpa using hfu
                    rw [hd9]
                    rcases (Bool.eq_false_or_eq_true (scal (f + j))).symm with hs9 | hs9
                    · have HS' := Lib.hid (fun W => by have := scalar_any (f + j) W; rw [hs9] at this; exact this)
                      have HN := Lib.hid (chP_no hs9)
                      clear hs9
                      generalize hq : us ++ chP f j = q at *
                      have HQQ := Lib.hid hq
                      clear hq
                      have g3 : ¬ (4096 : Int) < (q.length : Int) := by omega
                      have HU8 := Lib.hid hu8
                      clear hu8
                      go_wp2_with (go_at_call 15; refine (HS'.out _).mono ?_; rintro e w' ⟨rfl, rfl⟩)
                      go_roundw
                      case measure => simp [intOf]; omega
                      case rel => exact ⟨j + 1, by simp [Int.add_assoc], by omega, by rw [HN.out]; omega, by rw [HN.out]; have := HU8.out; simp; omega, by rw [HN.out, HQQ.out]; exact HM.out⟩
                    · have HS' := Lib.hid (fun W => by have := scalar_any (f + j) W; rw [hs9] at this; exact this)
                      have HN := Lib.hid (chP_yes hs9)
                      have HNL := Lib.hid (show (chP f (j + 1)).length = (chP f j).length + 1 by rw [HN.out]; simp)
                      clear hs9
                      generalize hq : us ++ chP f j = q at *
                      have HQQ := Lib.hid hq
                      clear hq
                      have HU8 := Lib.hid hu8
                      have hq97 : q.length ≤ 4096 := by omega
                      clear hu8
                      by_cases h97 : 4096 < q.length + 1
                      · have g3 : (4096 : Int) < (q.length : Int) + 1 := by omega
                        go_wp2_with (first
                          | (go_at_call 15; refine (HS'.out _).mono ?_; rintro e w' ⟨rfl, rfl⟩)
                          | (at_builtin; refine wpList_append_own_at _ rfl (.tmp 91) (.tmp 93) _ rfl w.heap.size 21 i0 _ 1 4 Tryd.underlying31 I0.out I1.out I2.out I3.out rfl (by omega) _ q.length _ rfl (HM.out.1.out.alloc _) ⟨wr.heap.size, 0, none⟩ 1 1 [.int .i32 (f + j)] rfl rfl (World.news_of_block (cs := #[.int .i32 (f + j)]) (t := 21) (fr := (0, 0)) (heap_alloc_new wr _)) (by simp [Value.oneCell']) (by unfold maxLen; omega) (by omega) (by have := HM.out.1.bel.size; simp; omega) ?_; intro v6 w6 ho6 hg6 hn6 ha6; obtain ⟨A6, k6, c6, rfl⟩ := own_slice ho6; have hk6 : k6 = q.length + 1 := (own_len ho6); subst hk6; have MM := Lib.hid ((HM.out.1.on ((Below.refl _ wr).alloc (Nat.le_refl _) (.cells #[.int .i32 (f + j)] 21))).more ho6 hg6); have hc6 : w6.cell? ⟨b, off + k * 2, none⟩ = some (.int .i64 no) := (World.cell?_of_block (hg6.block b (Nat.lt_of_lt_of_le (HM.out.1.lns.lt b rfl).2 (by simp)) (fun e => own_ne HM.out.1.lns HM.out.1.out (by decide) rfl e.symm))).trans (((Below.refl _ wr).alloc (Nat.le_refl _) (.cells #[.int .i32 (f + j)] 21)).cell (p := ⟨b, off + k * 2, none⟩) (HM.out.1.lns.lt b rfl).2 |>.trans HM.out.2); have HC6 := Lib.hid hc6; clear ho6 hg6 hn6 ha6 hc6))
                        go_roundw
                        case measure => simp [intOf]; omega
                        case rel =>
                          have hNL := HNL.out
                          refine ⟨j + 1, by simp [Int.add_assoc], by omega, by omega, by rw [hNL]; have := HU8.out; simp; omega, ?_, HC6.out⟩
                          rw [HN.out, ← List.append_assoc, HQQ.out]
                          exact MM.out
                      · have g3 : ¬ (4096 : Int) < (q.length : Int) + 1 := by omega
                        go_wp2_with (first
                          | (go_at_call 15; refine (HS'.out _).mono ?_; rintro e w' ⟨rfl, rfl⟩)
                          | (at_builtin; refine wpList_append_own_at _ rfl (.tmp 91) (.tmp 93) _ rfl w.heap.size 21 i0 _ 1 4 Tryd.underlying31 I0.out I1.out I2.out I3.out rfl (by omega) _ q.length _ rfl (HM.out.1.out.alloc _) ⟨wr.heap.size, 0, none⟩ 1 1 [.int .i32 (f + j)] rfl rfl (World.news_of_block (cs := #[.int .i32 (f + j)]) (t := 21) (fr := (0, 0)) (heap_alloc_new wr _)) (by simp [Value.oneCell']) (by unfold maxLen; omega) (by omega) (by have := HM.out.1.bel.size; simp; omega) ?_; intro v6 w6 ho6 hg6 hn6 ha6; obtain ⟨A6, k6, c6, rfl⟩ := own_slice ho6; have hk6 : k6 = q.length + 1 := (own_len ho6); subst hk6; have MM := Lib.hid ((HM.out.1.on ((Below.refl _ wr).alloc (Nat.le_refl _) (.cells #[.int .i32 (f + j)] 21))).more ho6 hg6); have hc6 : w6.cell? ⟨b, off + k * 2, none⟩ = some (.int .i64 no) := (World.cell?_of_block (hg6.block b (Nat.lt_of_lt_of_le (HM.out.1.lns.lt b rfl).2 (by simp)) (fun e => own_ne HM.out.1.lns HM.out.1.out (by decide) rfl e.symm))).trans (((Below.refl _ wr).alloc (Nat.le_refl _) (.cells #[.int .i32 (f + j)] 21)).cell (p := ⟨b, off + k * 2, none⟩) (HM.out.1.lns.lt b rfl).2 |>.trans HM.out.2); have HC6 := Lib.hid hc6; clear ho6 hg6 hn6 ha6 hc6))
                        go_roundw
                        case measure => simp [intOf]; omega
                        case rel =>
                          have hNL := HNL.out
                          refine ⟨j + 1, by simp [Int.add_assoc], by omega, by omega, by rw [hNL]; have := HU8.out; simp; omega, ?_, HC6.out⟩
                          rw [HN.out, ← List.append_assoc, HQQ.out]
                          exact MM.out
                · have ej : j = (tt - f + 1).toNat := by omega
                  have hch : chP f j = chs f tt := by rw [ej]; rfl
                  rw [hch] at HM hjl hu8
                  rw [hch]
                  clear ej hch
                  by_cases hfu : 4096 < us.length + (chs f tt).length
                  · have hd9 : decide (4096 < us.length + (chs f tt).length) = true := by simpa using hfu
                    rw [hd9]
                    by_cases hth : th = true
                    · subst hth
                      have hst := k2 (by simp) HPA.out.symm
                      rw [hst] at hw1
                      have HTO := Lib.hid (HRUN.out.symm.trans (hw1 (by simp)))
                      have hcc := HM.out.2
                      clear hw1 hw2 hst k2 k3 k4
                      go_wp2_with fail
                      go_quiet (fail)
                      go_wp2_with fail
                      refine bodyPost_ret (v := .tuple #[.slice none 0 0, .int .i64 no, .int .i64 12]) (by simp [results, Tryd.results12, go_sem]) rfl ⟨_, by rw [HE.out, HTO.out]; rfl, by rw [HE.out, HTO.out]; exact World.ownsRow_nil _ _ _ _, bel_drewN HM.out.1.bel _⟩
                    · have hth' : th = false := by simpa using hth
                      subst hth'
                      have hany : ¬ ss.any (inR f tt) = true := by rw [← HPA.out]; decide
                      have hst := k3 (by simp) hany (by have := HQL.out; omega)
                      rw [hst] at hw1
                      have HTO := Lib.hid (HRUN.out.symm.trans (hw1 (by simp)))
                      have hcc := HM.out.2
                      clear hw1 hw2 hst k2 k3 k4
                      go_wp2_with fail
                      go_quiet (fail)
                      go_wp2_with fail
                      refine bodyPost_ret (v := .tuple #[.slice none 0 0, .int .i64 no, .int .i64 14]) (by simp [results, Tryd.results12, go_sem]) rfl ⟨_, by rw [HE.out, HTO.out]; rfl, by rw [HE.out, HTO.out]; exact World.ownsRow_nil _ _ _ _, bel_drewN HM.out.1.bel _⟩
                  · have hd9 : decide (4096 < us.length + (chs f tt).length) = false := by simpa using hfu
                    rw [hd9]
                    by_cases hth : th = true
                    · subst hth
                      have hst := k2 (by simp) HPA.out.symm
                      rw [hst] at hw1
                      have HTO := Lib.hid (HRUN.out.symm.trans (hw1 (by simp)))
                      have hcc := HM.out.2
                      clear hw1 hw2 hst k2 k3 k4
                      go_wp2_with fail
                      go_quiet (fail)
                      go_wp2_with fail
                      refine bodyPost_ret (v := .tuple #[.slice none 0 0, .int .i64 no, .int .i64 12]) (by simp [results, Tryd.results12, go_sem]) rfl ⟨_, by rw [HE.out, HTO.out]; rfl, by rw [HE.out, HTO.out]; exact World.ownsRow_nil _ _ _ _, bel_drewN HM.out.1.bel _⟩
                    · have hth' : th = false := by simpa using hth
                      subst hth'
                      have hany : ¬ ss.any (inR f tt) = true := by rw [← HPA.out]; decide
                      have hst := k4 (by simp) hany (by have := HQL.out; omega)
                      rw [hst] at hw2 hI2
                      have HP2 := Lib.hid (perm_st HQ.out.perm f tt)
                      have hI2' := hI2
                      have HTO := Lib.hid ((hw2 rfl).symm.trans HRUN.out)
                      have HI2 := Lib.hid hI2
                      clear hw1 hw2 hst k2 k3 k4 hI2 hI2'
                      generalize hq : us ++ chs f tt = q at *
                      clear hq
                      go_wp2_with fail
                      go_roundw
                      case measure => simp [intOf]; omega
                      case rel => exact ⟨k + 1, by go_num, by omega, q, _, HM.out.1.bel, HM.out.1.lns, HM.out.1.out, HI2.out, HP2.out, HTO.out⟩
        · have e1 : (er != 0) = true := by simpa using h1
          have hst := k1 h1
          rw [hst] at hw1
          have HTO := Lib.hid (HRUN.out.symm.trans (hw1 h1))
          clear hw1 hw2 hst k1 k2 k3 k4 hok
          go_wp2_with fail
          refine (HSP.out _).mono ?_
          rintro e w3 ⟨v2, rfl, ho, hb2⟩
          obtain ⟨A2, c2, rfl, hx⟩ := own_txs ho
          obtain ⟨tb2, tf, rfl, htb2, t0⟩ := txs_one hx hp
          rw [← HQ0.out] at t0
          have hlp : (0 : Int) < (fs.length : Int) := by omega
          clear ho hx HSP
          go_wp2_with fail
          refine (HR.out _).mono ?_
          rintro e w9 ⟨rfl, rfl⟩
          have BB := Lib.hid hb2
          have M3 := Lib.hid ((Mor.mk HQ.out.bel HQ.out.lns HQ.out.out).on BB.out)
          have hc3 := (BB.out.cell (p := ⟨b, off + k * 2, none⟩) hblt).trans hc
          clear hb2 t0 htb2 HR
          go_wp2_with fail
          go_quiet (fail)
          go_wp2_with fail
          refine bodyPost_ret (v := .tuple #[.slice none 0 0, .int .i64 no, .int .i64 er]) (by simp [results, Tryd.results12, go_sem]) rfl ⟨_, by rw [HE.out, HTO.out, if_pos h1], by rw [HE.out, HTO.out, if_pos h1]; exact World.ownsRow_nil _ _ _ _, bel_drewN M3.out.bel _⟩
      · have g1 : ¬ (k : Int) < ls.length := by omega
        have hrun := HQ.out.run
        rw [List.drop_eq_nil_of_le (by omega), runS] at hrun
        subst hrun
        have HU := Lib.hid (show setsE _ = (ss, 0, 0) by rw [HE.out]; simp)
        clear hlt HE HB2
        have O0 := Lib.hid HQ.out.out
        have B0 := Lib.hid HQ.out.bel
        have P0 := Lib.hid HQ.out.perm
        have R0 := Lib.hid HQ.out.inv.rise
        clear HQ
        have HFIN := Lib.hid (show ∀ xs : List Int, Srt us us.length xs → xs = ss from fun xs h => by have e := h.perm.length_eq; have hr := h.rise; rw [e, List.take_length] at hr; exact perm_rise (h.perm.symm.trans P0.out) hr R0.out)
        go_wp2_with fail
        go_loopw [17, 18, 19] (fun i _ _ wr => ∃ m : Nat, i = .int .i64 m ∧ 1 ≤ m ∧ (m ≤ us.length ∨ us.length ≤ 1) ∧ ∃ xs, xs.length = us.length ∧ Hid (Srt us m xs ∧ Below w.heap.size w wr ∧ wr.ownsRow w.heap.size 21 1 (.slice A7 us.length c7) us.length (i32s xs))) (fun i _ _ _ => us.length - (intOf i).toNat)
        case atStart => exact ⟨1, rfl, by omega, by omega, us, rfl, ⟨by rw [List.pairwise_iff_getElem]; intro i j hi hj hij; rw [List.length_take] at hj; omega, List.Perm.refl _⟩, B0.out, O0.out⟩
        case round =>
          obtain ⟨m, rfl, hm1, hm2, xs, hxl, HX⟩ := hrel
          clear O0 B0 P0 R0
          by_cases hml : m < us.length
          · have HX1 := Lib.hid (Put.start HX.out.1 (by omega))
            obtain ⟨g, hA⟩ : ∃ g, A7 = some ⟨g, 0, none⟩ := by
              rcases HX.out.2.2.2 with ⟨hv, hn⟩ | ⟨g, cap, cur, hv, _⟩
              · omega
              · injection hv with e1; exact ⟨g, e1⟩
            subst hA
            have g2 : (m : Int) < (us.length : Int) := by omega
            go_wp2_with fail
            obtain ⟨wo, hwo⟩ : ∃ x, x = wr := ⟨_, rfl⟩
            subst hwo
            go_loopw [18, 19] (fun i _ wr => ∃ j : Nat, i = .int .i64 j ∧ j ≤ m ∧ ∃ ys, ys.length = us.length ∧ Hid (Put us m j ys ∧ Below w.heap.size w wr ∧ wr.ownsRow w.heap.size 21 1 (.slice (some ⟨g, 0, none⟩) us.length c7) us.length (i32s ys))) (fun i _ _ => (intOf i).toNat)
            case atStart => exact ⟨m, rfl, Nat.le_refl _, xs, hxl, HX1.out, HX.out.2.1, HX.out.2.2⟩
            case round =>
              obtain ⟨j, rfl, hjm, ys, hyl, HY⟩ := hrel
              clear HX HX1
              cases j with
              | zero =>
                have HS := Lib.hid (HY.out.1.ends (.inl rfl))
                go_wp2_with fail
                go_quiet (fail)
                go_wp2_with fail
                go_roundw
                case rel => exact ⟨m + 1, by go_num, by omega, by omega, ys, hyl, HS.out, bel_drewN HY.out.2.1 _, own_drew HY.out.2.2 _⟩
                case measure => simp [intOf]; omega
              | succ j =>
                obtain ⟨y, hy⟩ : ∃ y, ys[j]? = some y := ⟨ys[j], List.getElem?_eq_getElem (by omega)⟩
                obtain ⟨x, hx⟩ : ∃ x, ys[j + 1]? = some x := ⟨ys[j + 1], List.getElem?_eq_getElem (by omega)⟩
                have cy := own_at HY.out.2.2 hy
                have cx := own_at HY.out.2.2 hx
                have g3 : (j : Int) + 1 < (us.length : Int) := by omega
                have g4 : (j : Int) < (us.length : Int) := by omega
                by_cases hlt : x < y
                · have HS := Lib.hid (HY.out.1.swap hy hx hlt)
                  have hfz := own_fz HY.out.2.2
                  have hfj := hfz j
                  have hfk := hfz (j + 1)
                  have HO := Lib.hid (own_put (own_put HY.out.2.2 (j + 1) y) j x)
                  have HG := Lib.hid (HY.out.2.2.lt g rfl)
                  clear hfz hy hx
                  go_wp2_with fail
                  go_quiet (fail)
                  go_wp2_with fail
                  go_roundw
                  case rel => exact ⟨j, by go_num, by omega, _, by simp [hyl], HS.out, ((bel_drewN HY.out.2.1 _).setCell HG.out.1 _).setCell HG.out.1 _, HO.out⟩
                  case measure => simp [intOf]
                · have HS := Lib.hid (HY.out.1.ends (.inr ⟨j, y, x, rfl, hy, hx, by omega⟩))
                  clear hy hx
                  go_wp2_with fail
                  go_quiet (fail)
                  go_wp2_with fail
                  go_roundw
                  case rel => exact ⟨m + 1, by go_num, by omega, by omega, ys, hyl, HS.out, bel_drewN HY.out.2.1 _, own_drew HY.out.2.2 _⟩
                  case measure => simp [intOf]; omega
          · have g2 : ¬ (m : Int) < (us.length : Int) := by omega
            have hsx : xs = ss := HFIN.out xs (by
              rcases hm2 with h | h
              · obtain rfl : m = us.length := by omega
                exact HX.out.1
              · refine ⟨?_, HX.out.1.perm⟩
                rw [List.pairwise_iff_getElem]
                intro i j hi hj hij
                rw [List.length_take] at hj
                omega)
            subst hsx
            go_wp2_with fail
            refine bodyPost_ret (v := .tuple #[.slice A7 us.length c7, .int .i64 0, .int .i64 0]) (by simp [results, Tryd.results12, go_sem]) rfl ⟨_, by rw [HU.out]; rfl, by rw [HU.out]; simp only; rw [hxl]; exact HX.out.2.2, HX.out.2.1⟩

end Go.Proofs.YtajhgbcgbgpcjaaDoor.Uc

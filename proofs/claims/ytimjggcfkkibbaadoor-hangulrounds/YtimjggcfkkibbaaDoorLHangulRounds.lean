/- HangulRounds: for every input the law returns true and it reads as before: Parts of Syllables is Parts of all, and Syllables of Parts of syllables alone is them. Conditions: the program's table of places as the program's text lays it (tied). -/
import Derived.Test.YtimjggcfkkibbaaDoorJM
import Derived.Test.YtimjggcfkkibbaaDoorJT
import Derived.Test.YtimjggcfkkibbaaDoorCards
import Derived.ShutString
import Derived.ChangeOld
namespace Go.Proofs.YtimjggcfkkibbaaDoor
open Go.ChangeShapes Go.WideShapes Go.ChangeAt Go.WideMaps Go.WideElems Go.RowKit
open Go.ChangeMaps (open_string shut_string)
open Ha
set_option maxRecDepth 100000 in
set_option maxHeartbeats 4000000 in
theorem hangulRounds_walk (A : Option Addr) (c : Nat) (l : List Int) (w : World) (hl : Ints .i32 w A l) (hT : Tab w) : Calls Tryd.prog 8 #[.slice A l.length c] w fun e w' => e = .returned (.bool true) ∧ Below w.heap.size w w' := by
  obtain ⟨i0, hi0, hz0, hz1, hz2⟩ := info_parts r_info
  have I0 := Lib.hid hi0
  have I1 := Lib.hid hz0
  have I2 := Lib.hid hz1
  have I3 := Lib.hid hz2
  clear hi0 hz0 hz1 hz2
  have HA := Lib.hid hT.all
  have D0 := Lib.hid (Below.refl w.heap.size w)
  clear hT
  by_cases hz : 200 < l.length
  · have g1 : (200 : Int) < l.length := by omega
    clear hz
    go_enter Tryd.func8, Tryd.ntmps8
    go_wp2_with fail
    refine (awake_any _ (HA.out _ D0.out)).mono ?_
    rintro e w1 ⟨rfl, hb⟩
    have D1 := Lib.hid (D0.out.trans (hb.mono D0.out.size))
    clear hb
    go_wp2_with fail
    go_ret
    exact ⟨rfl, D1.out⟩
  · have g1 : ¬ (200 : Int) < l.length := by omega
    have HL := Lib.hid (show l.length ≤ 200 by omega)
    have IL := Lib.hid hl
    clear hz hl
    go_enter Tryd.func8, Tryd.ntmps8
    go_wp2_with fail
    go_loopw [3, 4] (fun v i wr => ∃ k : Nat, i = .int .i64 k ∧ k ≤ l.length ∧ Hid (RowS w wr v ((l.take k).filter isS))) (fun _ i _ => l.length - (intOf i).toNat)
    case atStart => exact ⟨0, rfl, by omega, Below.refl _ _, World.ownsRow_nil _ _ _ _⟩
    case round =>
      obtain ⟨k, rfl, hk, HR⟩ := hrel
      by_cases hlt : k < l.length
      · obtain ⟨b, off, rfl, hb, hc⟩ := IL.out k hlt
        have hc' := (HR.out.bel.cell (p := ⟨b, off + k, none⟩) hb).trans hc
        have hst : (l.take (k + 1)).filter isS = (l.take k).filter isS ++ [l.getD k 0].filter isS := by rw [take_more l k hlt, List.filter_append]
        have hpl : ((l.take k).filter isS).length ≤ l.length := by
          have h1 := List.length_filter_le isS (l.take k)
          rw [List.length_take] at h1
          omega
        have hlz := HL.out
        generalize l.getD k 0 = x at hc hc' hst
        generalize (l.take k).filter isS = P at HR hst hpl
        have hsz := HR.out.bel.size
        have hgt : (k : Int) < l.length := by omega
        have HI := Lib.hid (is_any x wr)
        clear hc
        cases hs : isS x with
        | false =>
          rw [hs] at HI
          have HST := Lib.hid (show (l.take (k + 1)).filter isS = P by rw [hst]; simp [hs])
          clear hst hs
          go_wp2_with (go_at_call 11; refine HI.out.mono ?_; rintro e w' ⟨rfl, rfl⟩)
          go_roundw
          case rel => exact ⟨k + 1, by go_num, by omega, by rw [HST.out]; exact HR⟩
          case measure => simp [intOf]; omega
        | true =>
          rw [hs] at HI
          have HST := Lib.hid (show (l.take (k + 1)).filter isS = P ++ [x] by rw [hst]; simp [hs])
          have HO := Lib.hid HR.out.own
          clear hst hs
          go_wp2_with (first
            | (go_at_call 11; refine HI.out.mono ?_; rintro e w' ⟨rfl, rfl⟩)
            | (at_builtin; refine wpList_append_own_at _ rfl (.tmp 22) (.tmp 27) _ rfl w.heap.size 21 i0 _ 1 4 Tryd.underlying26 I0.out I1.out I2.out I3.out rfl (by omega) u3 P.length _ rfl (HO.out.alloc _) ⟨wr.heap.size, 0, none⟩ 1 1 [_] rfl rfl (cell_one_new _ _ _) (by simp [Value.oneCell']) (by unfold maxLen; omega) (by omega) (by simp; omega) ?_; intro v2 w3 ho3 hg3 hn3 ha3; have O3 := Lib.hid ho3; have G3 := Lib.hid hg3; clear ho3 hg3 hn3 ha3))
          go_roundw
          case rel => exact ⟨k + 1, by go_num, by omega, by rw [HST.out]; exact HR.out.app O3.out G3.out⟩
          case measure => simp [intOf]; omega
      · obtain rfl : k = l.length := by omega
        have hgt : ¬ (l.length : Int) < l.length := by omega
        rw [List.take_length] at HR
        obtain ⟨S, hS⟩ : ∃ S, S = l.filter isS := ⟨_, rfl⟩
        rw [← hS] at HR
        have hlz := HL.out
        have hSl : S.length ≤ 200 := by rw [hS]; have := List.length_filter_le isS l; omega
        have hsp : sylL (partsL S) = S := syl_parts S (by rw [hS]; intro x hx; exact (List.mem_filter.1 hx).2)
        obtain ⟨As, cs, rfl, his⟩ := own_ints HR.out.own
        have IS := Lib.hid his
        have D0 := Lib.hid HR.out.bel
        have IL' := Lib.hid (IL.out.below HR.out.bel)
        clear IL
        have IL := Lib.hid IL'.out
        have h1 := parts_syl l
        have h2 := parts_parts l
        have h3 := syl_syl l
        have z1 : (partsL l).length ≤ 600 := by have := parts_len l; omega
        have z2 : (sylL l).length ≤ l.length := syl_len l
        have z3 : (partsL S).length ≤ 600 := by have := parts_len S; omega
        have hle : ((sylL l).length : Int) ≤ (l.length : Int) := by omega
        generalize hP : partsL l = P at *
        generalize hY : sylL l = Y at *
        generalize hQ : partsL S = Q at *
        have HP := Lib.hid hP
        have HY := Lib.hid hY
        have HQ := Lib.hid hQ
        have E1 := Lib.hid h1
        have E2 := Lib.hid h2
        have E3 := Lib.hid h3
        have E4 := Lib.hid hsp
        have Z := Lib.hid (And.intro z1 (And.intro z2 (And.intro z3 (And.intro hSl hlz))))
        clear hP hY hQ h1 h2 h3 hsp z1 z2 z3 hSl hlz hS his HR IL' hk hlt
        go_wp2_with fail
        refine (parts_call _ c l _ (HA.out _ D0.out) IL.out (by have := Z.out; omega)).mono ?_
        rw [HP.out]
        rintro e w1 ⟨AP, cAP, rfl, hi, hb⟩
        have D1 := Lib.hid (D0.out.trans (hb.mono D0.out.size))
        have IL' := Lib.hid (IL.out.below hb)
        clear IL
        have IL := Lib.hid IL'.out
        clear IL'
        have IS' := Lib.hid (IS.out.below hb)
        clear IS
        have IS := Lib.hid IS'.out
        clear IS'
        have IP := Lib.hid hi
        clear hb hi
        go_wp2_with fail
        refine (syl_call _ c l _ (HA.out _ D1.out) IL.out (by have := Z.out; omega)).mono ?_
        rw [HY.out]
        rintro e w2 ⟨AY, cAY, rfl, hi, hb⟩
        have D2 := Lib.hid (D1.out.trans (hb.mono D1.out.size))
        have IL' := Lib.hid (IL.out.below hb)
        clear IL
        have IL := Lib.hid IL'.out
        clear IL'
        have IS' := Lib.hid (IS.out.below hb)
        clear IS
        have IS := Lib.hid IS'.out
        clear IS'
        have IP' := Lib.hid (IP.out.below hb)
        clear IP
        have IP := Lib.hid IP'.out
        clear IP'
        have IY := Lib.hid hi
        clear hb hi
        go_wp2_with fail
        refine (parts_call AY cAY Y _ (HA.out _ D2.out) IY.out (by have := Z.out; omega)).mono ?_
        rw [E1.out]
        rintro e w3 ⟨B, cB, rfl, hi, hb⟩
        have D3 := Lib.hid (D2.out.trans (hb.mono D2.out.size))
        have IL' := Lib.hid (IL.out.below hb)
        clear IL
        have IL := Lib.hid IL'.out
        clear IL'
        have IS' := Lib.hid (IS.out.below hb)
        clear IS
        have IS := Lib.hid IS'.out
        clear IS'
        have IP' := Lib.hid (IP.out.below hb)
        clear IP
        have IP := Lib.hid IP'.out
        clear IP'
        have IY' := Lib.hid (IY.out.below hb)
        clear IY
        have IY := Lib.hid IY'.out
        clear IY'
        have IB := Lib.hid hi
        clear hb hi
        go_wp2_with fail
        refine (eq_same B AP cB cAP _ IB.out IP.out (by have := Z.out; omega)).mono ?_
        rintro e w4 ⟨rfl, hb⟩
        have D4 := Lib.hid (D3.out.trans (hb.mono D3.out.size))
        have IL' := Lib.hid (IL.out.below hb)
        clear IL
        have IL := Lib.hid IL'.out
        clear IL'
        have IS' := Lib.hid (IS.out.below hb)
        clear IS
        have IS := Lib.hid IS'.out
        clear IS'
        have IP' := Lib.hid (IP.out.below hb)
        clear IP
        have IP := Lib.hid IP'.out
        clear IP'
        have IY' := Lib.hid (IY.out.below hb)
        clear IY
        have IY := Lib.hid IY'.out
        clear IY'
        have IB' := Lib.hid (IB.out.below hb)
        clear IB
        have IB := Lib.hid IB'.out
        clear IB'
        clear hb
        go_wp2_with fail
        refine (parts_call AP cAP P _ (HA.out _ D4.out) IP.out (by have := Z.out; omega)).mono ?_
        rw [E2.out]
        rintro e w5 ⟨C, cC, rfl, hi, hb⟩
        have D5 := Lib.hid (D4.out.trans (hb.mono D4.out.size))
        have IL' := Lib.hid (IL.out.below hb)
        clear IL
        have IL := Lib.hid IL'.out
        clear IL'
        have IS' := Lib.hid (IS.out.below hb)
        clear IS
        have IS := Lib.hid IS'.out
        clear IS'
        have IP' := Lib.hid (IP.out.below hb)
        clear IP
        have IP := Lib.hid IP'.out
        clear IP'
        have IY' := Lib.hid (IY.out.below hb)
        clear IY
        have IY := Lib.hid IY'.out
        clear IY'
        have IB' := Lib.hid (IB.out.below hb)
        clear IB
        have IB := Lib.hid IB'.out
        clear IB'
        have IC := Lib.hid hi
        clear hb hi
        go_wp2_with fail
        refine (eq_same C AP cC cAP _ IC.out IP.out (by have := Z.out; omega)).mono ?_
        rintro e w6 ⟨rfl, hb⟩
        have D6 := Lib.hid (D5.out.trans (hb.mono D5.out.size))
        have IL' := Lib.hid (IL.out.below hb)
        clear IL
        have IL := Lib.hid IL'.out
        clear IL'
        have IS' := Lib.hid (IS.out.below hb)
        clear IS
        have IS := Lib.hid IS'.out
        clear IS'
        have IP' := Lib.hid (IP.out.below hb)
        clear IP
        have IP := Lib.hid IP'.out
        clear IP'
        have IY' := Lib.hid (IY.out.below hb)
        clear IY
        have IY := Lib.hid IY'.out
        clear IY'
        have IB' := Lib.hid (IB.out.below hb)
        clear IB
        have IB := Lib.hid IB'.out
        clear IB'
        have IC' := Lib.hid (IC.out.below hb)
        clear IC
        have IC := Lib.hid IC'.out
        clear IC'
        clear hb
        go_wp2_with fail
        refine (syl_call AY cAY Y _ (HA.out _ D6.out) IY.out (by have := Z.out; omega)).mono ?_
        rw [E3.out]
        rintro e w7 ⟨G, cG, rfl, hi, hb⟩
        have D7 := Lib.hid (D6.out.trans (hb.mono D6.out.size))
        have IL' := Lib.hid (IL.out.below hb)
        clear IL
        have IL := Lib.hid IL'.out
        clear IL'
        have IS' := Lib.hid (IS.out.below hb)
        clear IS
        have IS := Lib.hid IS'.out
        clear IS'
        have IP' := Lib.hid (IP.out.below hb)
        clear IP
        have IP := Lib.hid IP'.out
        clear IP'
        have IY' := Lib.hid (IY.out.below hb)
        clear IY
        have IY := Lib.hid IY'.out
        clear IY'
        have IB' := Lib.hid (IB.out.below hb)
        clear IB
        have IB := Lib.hid IB'.out
        clear IB'
        have IC' := Lib.hid (IC.out.below hb)
        clear IC
        have IC := Lib.hid IC'.out
        clear IC'
        have IG := Lib.hid hi
        clear hb hi
        go_wp2_with fail
        refine (eq_same G AY cG cAY _ IG.out IY.out (by have := Z.out; omega)).mono ?_
        rintro e w8 ⟨rfl, hb⟩
        have D8 := Lib.hid (D7.out.trans (hb.mono D7.out.size))
        have IL' := Lib.hid (IL.out.below hb)
        clear IL
        have IL := Lib.hid IL'.out
        clear IL'
        have IS' := Lib.hid (IS.out.below hb)
        clear IS
        have IS := Lib.hid IS'.out
        clear IS'
        have IP' := Lib.hid (IP.out.below hb)
        clear IP
        have IP := Lib.hid IP'.out
        clear IP'
        have IY' := Lib.hid (IY.out.below hb)
        clear IY
        have IY := Lib.hid IY'.out
        clear IY'
        have IB' := Lib.hid (IB.out.below hb)
        clear IB
        have IB := Lib.hid IB'.out
        clear IB'
        have IC' := Lib.hid (IC.out.below hb)
        clear IC
        have IC := Lib.hid IC'.out
        clear IC'
        have IG' := Lib.hid (IG.out.below hb)
        clear IG
        have IG := Lib.hid IG'.out
        clear IG'
        clear hb
        go_wp2_with fail
        refine (parts_call As cs S _ (HA.out _ D8.out) IS.out (by have := Z.out; omega)).mono ?_
        rw [HQ.out]
        rintro e w9 ⟨H, cH, rfl, hi, hb⟩
        have D9 := Lib.hid (D8.out.trans (hb.mono D8.out.size))
        have IL' := Lib.hid (IL.out.below hb)
        clear IL
        have IL := Lib.hid IL'.out
        clear IL'
        have IS' := Lib.hid (IS.out.below hb)
        clear IS
        have IS := Lib.hid IS'.out
        clear IS'
        have IP' := Lib.hid (IP.out.below hb)
        clear IP
        have IP := Lib.hid IP'.out
        clear IP'
        have IY' := Lib.hid (IY.out.below hb)
        clear IY
        have IY := Lib.hid IY'.out
        clear IY'
        have IB' := Lib.hid (IB.out.below hb)
        clear IB
        have IB := Lib.hid IB'.out
        clear IB'
        have IC' := Lib.hid (IC.out.below hb)
        clear IC
        have IC := Lib.hid IC'.out
        clear IC'
        have IG' := Lib.hid (IG.out.below hb)
        clear IG
        have IG := Lib.hid IG'.out
        clear IG'
        have IH := Lib.hid hi
        clear hb hi
        go_wp2_with fail
        refine (syl_call H cH Q _ (HA.out _ D9.out) IH.out (by have := Z.out; omega)).mono ?_
        rw [E4.out]
        rintro e w10 ⟨K, cK, rfl, hi, hb⟩
        have D10 := Lib.hid (D9.out.trans (hb.mono D9.out.size))
        have IL' := Lib.hid (IL.out.below hb)
        clear IL
        have IL := Lib.hid IL'.out
        clear IL'
        have IS' := Lib.hid (IS.out.below hb)
        clear IS
        have IS := Lib.hid IS'.out
        clear IS'
        have IP' := Lib.hid (IP.out.below hb)
        clear IP
        have IP := Lib.hid IP'.out
        clear IP'
        have IY' := Lib.hid (IY.out.below hb)
        clear IY
        have IY := Lib.hid IY'.out
        clear IY'
        have IB' := Lib.hid (IB.out.below hb)
        clear IB
        have IB := Lib.hid IB'.out
        clear IB'
        have IC' := Lib.hid (IC.out.below hb)
        clear IC
        have IC := Lib.hid IC'.out
        clear IC'
        have IG' := Lib.hid (IG.out.below hb)
        clear IG
        have IG := Lib.hid IG'.out
        clear IG'
        have IH' := Lib.hid (IH.out.below hb)
        clear IH
        have IH := Lib.hid IH'.out
        clear IH'
        have IK := Lib.hid hi
        clear hb hi
        go_wp2_with fail
        refine (eq_same K As cK cs _ IK.out IS.out (by have := Z.out; omega)).mono ?_
        rintro e w11 ⟨rfl, hb⟩
        have D11 := Lib.hid (D10.out.trans (hb.mono D10.out.size))
        have IL' := Lib.hid (IL.out.below hb)
        clear IL
        have IL := Lib.hid IL'.out
        clear IL'
        have IS' := Lib.hid (IS.out.below hb)
        clear IS
        have IS := Lib.hid IS'.out
        clear IS'
        have IP' := Lib.hid (IP.out.below hb)
        clear IP
        have IP := Lib.hid IP'.out
        clear IP'
        have IY' := Lib.hid (IY.out.below hb)
        clear IY
        have IY := Lib.hid IY'.out
        clear IY'
        have IB' := Lib.hid (IB.out.below hb)
        clear IB
        have IB := Lib.hid IB'.out
        clear IB'
        have IC' := Lib.hid (IC.out.below hb)
        clear IC
        have IC := Lib.hid IC'.out
        clear IC'
        have IG' := Lib.hid (IG.out.below hb)
        clear IG
        have IG := Lib.hid IG'.out
        clear IG'
        have IH' := Lib.hid (IH.out.below hb)
        clear IH
        have IH := Lib.hid IH'.out
        clear IH'
        have IK' := Lib.hid (IK.out.below hb)
        clear IK
        have IK := Lib.hid IK'.out
        clear IK'
        clear hb
        go_wp2_with fail
        refine (awake_any _ (HA.out _ D11.out)).mono ?_
        rintro e w12 ⟨rfl, hb⟩
        have D12 := Lib.hid (D11.out.trans (hb.mono D11.out.size))
        have IL' := Lib.hid (IL.out.below hb)
        clear IL
        have IL := Lib.hid IL'.out
        clear IL'
        have IS' := Lib.hid (IS.out.below hb)
        clear IS
        have IS := Lib.hid IS'.out
        clear IS'
        have IP' := Lib.hid (IP.out.below hb)
        clear IP
        have IP := Lib.hid IP'.out
        clear IP'
        have IY' := Lib.hid (IY.out.below hb)
        clear IY
        have IY := Lib.hid IY'.out
        clear IY'
        have IB' := Lib.hid (IB.out.below hb)
        clear IB
        have IB := Lib.hid IB'.out
        clear IB'
        have IC' := Lib.hid (IC.out.below hb)
        clear IC
        have IC := Lib.hid IC'.out
        clear IC'
        have IG' := Lib.hid (IG.out.below hb)
        clear IG
        have IG := Lib.hid IG'.out
        clear IG'
        have IH' := Lib.hid (IH.out.below hb)
        clear IH
        have IH := Lib.hid IH'.out
        clear IH'
        have IK' := Lib.hid (IK.out.below hb)
        clear IK
        have IK := Lib.hid IK'.out
        clear IK'
        clear hb
        go_wp2_with fail
        go_ret
        exact ⟨rfl, D12.out⟩

set_option maxRecDepth 100000 in
theorem hangulRounds_lifted (os : Os) (started : os.Started) (H : Type) (enc : TypeId × Value → H) :
    ReturnsInHanded {} Tryd.checked os 8 .any (fun w args => (Rows.hangulRoundsSpec.pre enc Tryd.prog Tryd.f8 [] false w args ∧ laidMetH Tryd.prog laid1 w) ∧ sizedMet enc Tryd.prog Tryd.f8 (OpenSpec.ofChange Rows.hangulRoundsSpec) false w args)
      (Rows.hangulRoundsSpec.post enc Tryd.prog Tryd.f8 false true false false) := by
  refine change_shaped (C := Tryd.checked) (X := fun w _ => laidMetH Tryd.prog laid1 w) (fun _ _ _ hh h => h.of_heap hh) own started (by kernel_rfl) Tryd.func8
    (ChangeSpec.witness_shaped (enc := enc) (C := Tryd.checked) (os := os) (X := fun w _ => laidMetH Tryd.prog laid1 w) false (World.laidAll Tryd.prog os laid1) #[.slice none 0 0] 8 (World.laidAll_os _ _ _) (World.shaped_of_ZipB (by kernel_rfl) (by kernel_rfl)) (by kernel_rfl) (by kernel_rfl) (by kernel_rfl) (by rw [MakeChecks.laidMetH_plain _ _ _ (by kernel_rfl)]; exact laidMet_laidAll _ (by kernel_rfl) (by kernel_rfl))) ?_
  intro W base args ds gs before hval0 hW hsz hL hS
  have hval : ∀ (j : Nat) t v, Tryd.f8.params[j]? = some t → args[j]? = some v → Value.okWide Tryd.prog W .any base t v := hval0
  have hW' := hW
  obtain ⟨p, q, hA0, hV, rfl, hfz, hnd⟩ := hW
  have hA : DataW.TrodAll enc Tryd.prog W 0 (fun _ => true) true Tryd.f8.params.toList args.toList ds p := hA0
  rw [Tryd.params8] at hA hval
  obtain ⟨v0, vs0, d0, ds0, p0, q0, hargs, rfl, rfl, h0, r0⟩ := trodAll_cons hA
  obtain ⟨rfl, rfl, rfl⟩ := trodAll_nil r0
  obtain rfl : args = #[v0] := by cases args; simp_all
  obtain ⟨rfl, rfl⟩ := trodVars_none hV
  obtain ⟨A0, len0, cap0, rfl⟩ := okWide_slice Tryd.underlying26 (hval 0 26 v0 rfl rfl)
  have k0 := h0
  have lt0 : ∀ x ∈ p0, x.block < W.heap.size := by obtain ⟨m, hm⟩ := k0; exact DataW.trod_lt m _ _ _ hm
  obtain ⟨l0, e0, g0⟩ := ints_of_trod h0
  subst e0
  clear hA0 hval0
  refine (hangulRounds_walk A0 cap0 l0 W g0 (of_laid hL)).mono fun e W' ⟨he, bel⟩ => ?_
  subst he
  exact ⟨_, rfl, _, _, _, [], _, [], hW', trodAll_mk1 (shut_bool Tryd.underlying4 _), (trodAll_cons_mk (Below.trod laidOut (by kernel_rfl) (of_decide_eq_true (by kernel_rfl)) k0 bel lt0) trodAll_mk0), rfl, bel.frame _, fun h => by cases h⟩

theorem hangulRounds_row : Rows.HangulRoundsSaid :=
  OpenClaim.holds_of_wide 8 Tryd.f8 rfl rfl rfl rfl rfl rfl rfl ⟨rfl, rfl, rfl, rfl, rfl⟩ rfl rfl rfl rfl rfl (by kernel_rfl) Tryd.func8 (by kernel_rfl)
    (of_decide_eq_true (by kernel_rfl)) (by unfold Func.isWrapper; first | (rw [if_pos (by decide +kernel)]; kernel_rfl) | (rw [if_neg (by decide +kernel)]; exact ⟨rfl, rfl⟩))
    (fun os started H enc _ => hangulRounds_lifted os started H enc)

theorem hangulRounds_holds : Rows.HangulRoundsCardSaid :=
  Claim7.holds_tied_plain_at .later [] [.data] true Rows.hangulRoundsCard.stood.harness false
    hangulRounds_row (fun _ h => by cases h) (by kernel_rfl) (fun _ h => by cases h) hangulRounds_row_tie rfl ⟨rfl, rfl⟩ (by kernel_rfl) rfl
    (fun f fn hf hfn => by
      obtain rfl : f = 8 := Option.some.inj ((show Tryd.prog.funcNamed Rows.hangulRoundsRow.func = some 8 by kernel_rfl).symm.trans hf) |>.symm
      obtain rfl : fn = Tryd.f8 := (Option.some.inj (Tryd.func8.symm.trans hfn)).symm
      exact ⟨by kernel_rfl, fun j t ht => by
        rw [Tryd.params8] at ht
        have hm : t ∈ [26] := by simpa using Array.mem_of_getElem? ht
        have hall : ([26].all fun u => !Tryd.prog.wantsStandIn u) = true := by kernel_rfl
        exact (show Tryd.prog.wantsStandIn t = false by simpa using List.all_eq_true.1 hall t hm)⟩)
    (by kernel_rfl)
#print axioms hangulRounds_holds
end Go.Proofs.YtimjggcfkkibbaaDoor

/- WideBytes: for every kind and every list of numbers the law returns true and both read as before: Encode and Mark answer as the document's. Conditions: the table 'layouts' as the program's text lays it (tied). -/
import Derived.Test.YtohjkpdelopknaaDoorR
import Derived.Test.YtohjkpdelopknaaDoorCards
import Derived.ShutString
import Derived.ChangeOld
namespace Go.Proofs.YtohjkpdelopknaaDoor
open Go.ChangeShapes Go.WideShapes Go.ChangeAt Go.WideMaps Go.WideElems Go.RowKit
open Go.ChangeMaps (open_string shut_string)

theorem mark_ch (k : Nat) : chB k 65279 = mkB k := by
  unfold chB mkB
  rw [if_pos (.inr (by decide))]
theorem chL_one (k : Nat) (l : List Int) (i n : Nat) (h : i < l.length) (hn : l.getD i 0 = (n : Int)) : strB (chL k (l.take i)) ++ strB (chB k n) = strB (chL k (l.take (i + 1))) := by
  rw [strB_app, chL_more k l i h, hn, Int.toNat_natCast]

theorem chL_small (k : Nat) (k4 : k ≤ 4) (l : List Int) (i : Nat) (h : l.length ≤ 200) : (strB (chL k (l.take i))).size ≤ 800 := by
  rw [strB_size]
  have h1 := chL_le k k4 (l.take i)
  have h2 : (l.take i).length ≤ l.length := by rw [List.length_take]; omega
  omega

set_option maxRecDepth 100000 in
set_option maxHeartbeats 2000000 in
theorem wideBytes_walk (kd : Int) (A : Option Addr) (c : Nat) (l : List Int) (w : World) (_hk : (Lit.int .i64 kd).wf = true) (hl : Ints .i32 w A l) (hT : Tab w) : Calls Tryd.prog 4 #[.int .i64 kd, .slice A l.length c] w fun e w' => e = .returned (.bool true) ∧ Below w.heap.size w w' := by
  have hpos := hT.pos
  have HFin := Lib.hid (show ∀ w2 : World, Below w.heap.size w w2 → Tab w2 from fun w2 h => hT.below h hpos)
  have B0 := Lib.hid (Below.refl w.heap.size w)
  have HL := Lib.hid hl
  clear hT hl _hk
  by_cases hs : l.length ≤ 200
  · have hs' : ¬ (200 : Int) < l.length := by omega
    by_cases hk : 1 ≤ kd ∧ kd ≤ 4
    · obtain ⟨k, rfl⟩ : ∃ n : Nat, kd = n := ⟨kd.toNat, by omega⟩
      have k1 : 1 ≤ k := by omega
      have k4 : k ≤ 4 := by omega
      obtain ⟨es, ee, hev⟩ : ∃ es ee, encV k l = .tuple #[.string es, .int .i64 ee] := by
        cases h : l.all scal
        · exact ⟨_, _, by rw [encV, if_neg (by rw [h]; decide)]⟩
        · exact ⟨_, _, by rw [encV, if_pos h]⟩
      have HEV := Lib.hid hev
      have HMk := Lib.hid (fun W hW => mark_any k W hW k1 k4)
      have HRm := Lib.hid (fun W => rbytes_any k 65279 W k1 k4 (by omega))
      rw [mark_ch] at HRm
      have HRb := Lib.hid (fun n W hn => rbytes_any k n W k1 k4 hn)
      have HNo := Lib.hid (fun i h hs => encV_no k l i h hs)
      have HYes := Lib.hid (fun h => encV_yes k l h)
      have HEnc := Lib.hid (encode_any k A c l w (HFin.out _ B0.out) k1 k4 HL.out (by omega))
      have HOne := Lib.hid (fun i n h hn => chL_one k l i n h hn)
      have HSz := Lib.hid (fun i => chL_small k k4 l i hs)
      have HSb := Lib.hid (show ∀ n, (strB (chB k n)).size ≤ 4 from fun n => by rw [strB_size]; exact (chB_len k n k4).2)
      have HNil : Hid (strB (chL k []) = ⟨#[]⟩) := rfl
      have HTk := Lib.hid (show chL k (l.take l.length) = chL k l by rw [List.take_length])
      generalize strB (mkB k) = M at *
      rw [HEV.out] at HEnc
      generalize hC : chL k = C at *
      clear hev hC
      have hMM : (M.toList != M.toList) = false := by simp
      go_enter Tryd.func4, Tryd.ntmps4
      go_wp2_with fail
      refine HEnc.out.mono ?_
      rintro e w1 ⟨rfl, hb1⟩
      have B1 := Lib.hid hb1
      clear hb1
      go_wp2_with fail
      refine (may_yes k _ (by omega) (by omega)).mono ?_
      rintro e w' ⟨rfl, rfl⟩
      go_wp2_with fail
      refine (HMk.out _ (HFin.out _ B1.out)).mono ?_
      rintro e w2 ⟨rfl, hb2⟩
      have B2 := Lib.hid (B1.out.trans (hb2.mono B1.out.size))
      clear hb2
      go_wp2_with fail
      refine (HRm.out _).mono ?_
      rintro e w3 ⟨rfl, hb3⟩
      have B3 := Lib.hid (B2.out.trans (hb3.mono B2.out.size))
      clear hb3
      go_wp2_with fail
      go_loopw [7, 8] (fun want iv wr => ∃ i : Nat, want = .string (strB (C (l.take i))) ∧ iv = .int .i64 i ∧ i ≤ l.length ∧ Hid ((l.take i).all scal = true ∧ Below w.heap.size w wr)) (fun _ iv _ => l.length - (intOf iv).toNat)
      case atStart => exact ⟨0, by rw [List.take_zero, HNil.out], rfl, by omega, rfl, B3.out⟩
      case round =>
        obtain ⟨i, rfl, rfl, hi, HQ⟩ := hrel
        have hsz := HQ.out.2.size
        by_cases hlt : i < l.length
        · obtain ⟨b, off, rfl, hb, hc⟩ := HL.out i hlt
          have hc' : wr.cell? ⟨b, off + i, none⟩ = some (.int .i32 (l.getD i 0)) := (HQ.out.2.cell (p := ⟨b, off + i, none⟩) hb).trans hc
          clear hc
          have hlt' : (i : Int) < l.length := by omega
          have hz1 := HSz.out i
          generalize hrk : l.getD i 0 = r at hc'
          have Hrk := Lib.hid hrk
          clear hrk
          cases hsc : scal r
          · have hE := HNo.out i hlt (by rw [Hrk.out]; exact hsc)
            rw [HEV.out] at hE
            simp at hE
            obtain ⟨rfl, rfl⟩ := hE
            have HS := Lib.hid hsc
            generalize strB (C (l.take i)) = wt
            clear hsc
            go_wp2_with fail
            refine (scalar_any _ _).mono ?_
            rw [HS.out]
            rintro e w' ⟨rfl, rfl⟩
            go_wp2_with fail
            refine (awake_any _ (HFin.out _ HQ.out.2)).mono ?_
            rintro e w9 ⟨rfl, hb9⟩
            have B9 := Lib.hid (HQ.out.2.trans (hb9.mono HQ.out.2.size))
            clear hb9
            go_wp2
            go_ret
            exact ⟨rfl, B9.out⟩
          · have HS := Lib.hid hsc
            obtain ⟨g0, g1⟩ := scal_bd hsc
            clear hsc
            obtain ⟨n, rfl⟩ := Int.eq_ofNat_of_zero_le g0
            have HW := Lib.hid (HOne.out i n hlt Hrk.out)
            have hz2 := HSb.out n
            have HRr := Lib.hid (HRb.out n wr (by omega))
            have HAll := Lib.hid (all_more l i hlt HQ.out.1 (by rw [Hrk.out]; exact HS.out))
            generalize hwt : strB (C (l.take i)) = wt at *
            generalize strB (chB k n) = cb at *
            clear hwt
            go_wp2_with fail
            refine (scalar_any _ _).mono ?_
            rw [HS.out]
            rintro e w' ⟨rfl, rfl⟩
            go_wp2_with fail
            refine HRr.out.mono ?_
            rintro e w4 ⟨rfl, hb4⟩
            have B4 := Lib.hid (HQ.out.2.trans (hb4.mono hsz))
            clear hb4
            go_wp2_with fail
            go_roundw
            case rel => exact ⟨i + 1, by rw [← HW.out], by go_num, by omega, HAll.out, B4.out⟩
            case measure => simp [intOf]; omega
        · obtain rfl : i = l.length := by omega
          have hlt' : ¬ ((l.length : Nat) : Int) < l.length := by omega
          have hall := HQ.out.1
          rw [List.take_length] at hall
          have hE := HYes.out hall
          rw [HEV.out] at hE
          simp at hE
          obtain ⟨rfl, rfl⟩ := hE
          rw [HTk.out]
          generalize strB (C l) = wl
          clear hall
          go_wp2_with fail
          refine (awake_any _ (HFin.out _ HQ.out.2)).mono ?_
          rintro e w9 ⟨rfl, hb9⟩
          have B9 := Lib.hid (HQ.out.2.trans (hb9.mono HQ.out.2.size))
          clear hb9
          go_wp2
          go_ret
          exact ⟨rfl, B9.out⟩
    · have HK := Lib.hid (show kd < 1 ∨ 4 < kd by omega)
      clear hk
      go_enter Tryd.func4, Tryd.ntmps4
      go_wp2_with fail
      refine (encode_no kd A l.length c _ HK.out).mono ?_
      rintro e w1 ⟨rfl, hb1⟩
      have B1 := Lib.hid hb1
      clear hb1
      go_wp2_with fail
      refine (may_no kd _ HK.out).mono ?_
      rintro e w' ⟨rfl, rfl⟩
      go_wp2_with fail
      refine (mark_no kd _ HK.out).mono ?_
      rintro e w2 ⟨rfl, hb2⟩
      have B2 := Lib.hid (B1.out.trans (hb2.mono B1.out.size))
      clear hb2
      go_wp2_with fail
      refine (awake_any _ (HFin.out _ B2.out)).mono ?_
      rintro e w9 ⟨rfl, hb9⟩
      have B9 := Lib.hid (B2.out.trans (hb9.mono B2.out.size))
      clear hb9
      go_wp2
      go_ret
      exact ⟨rfl, B9.out⟩
  · have hs' : (200 : Int) < l.length := by omega
    clear hs
    go_enter Tryd.func4, Tryd.ntmps4
    go_wp2_with fail
    refine (awake_any _ (HFin.out _ B0.out)).mono ?_
    rintro e w9 ⟨rfl, hb9⟩
    have B9 := Lib.hid (B0.out.trans (hb9.mono B0.out.size))
    clear hb9
    go_wp2
    go_ret
    exact ⟨rfl, B9.out⟩

set_option maxRecDepth 100000 in
theorem wideBytes_lifted (os : Os) (started : os.Started) (H : Type) (enc : TypeId × Value → H) :
    ReturnsInHanded {} Tryd.checked os 4 .any (fun w args => (Rows.wideBytesSpec.pre enc Tryd.prog Tryd.f4 [] false w args ∧ laidMetH Tryd.prog laid1 w) ∧ sizedMet enc Tryd.prog Tryd.f4 (OpenSpec.ofChange Rows.wideBytesSpec) false w args)
      (Rows.wideBytesSpec.post enc Tryd.prog Tryd.f4 false true false false) := by
  refine returnsInHanded_of_change_and (C := Tryd.checked) (X := fun w _ => laidMetH Tryd.prog laid1 w) (fun _ _ _ hh h => h.of_heap hh) own started (by kernel_rfl) Tryd.func4
    (ChangeSpec.witness_shaped (enc := enc) (C := Tryd.checked) (os := os) (X := fun w _ => laidMetH Tryd.prog laid1 w) false (World.doorLaid Tryd.prog 400 os) #[.int .i64 0, .slice none 0 0] 8 rfl (World.shaped_of_RefB (by kernel_rfl) (by kernel_rfl)) (by kernel_rfl) (by kernel_rfl) (by kernel_rfl) (door_met os _)) ?_
  intro W base args ds gs before hval0 hW _ hsz hL _
  have hval : ∀ (j : Nat) t v, Tryd.f4.params[j]? = some t → args[j]? = some v → Value.okWide Tryd.prog W .any base t v := hval0
  have hW' := hW
  obtain ⟨p, q, hA0, hV, rfl, hfz, hnd⟩ := hW
  have hA : DataW.TrodAll enc Tryd.prog W 0 (fun _ => true) true Tryd.f4.params.toList args.toList ds p := hA0
  rw [Tryd.params4] at hA hval
  obtain ⟨v0, vs0, d0, ds0, p0, q0, hargs, rfl, rfl, h0, r0⟩ := trodAll_cons hA
  obtain ⟨v1, vs1, d1, ds1, p1, q1, rfl, rfl, rfl, h1, r1⟩ := trodAll_cons r0
  obtain ⟨rfl, rfl, rfl⟩ := trodAll_nil r1
  obtain rfl : args = #[v0, v1] := by cases args; simp_all
  obtain ⟨rfl, rfl⟩ := trodVars_none hV
  obtain ⟨a0, rfl, rfl, rfl, m0⟩ := open_int Tryd.underlying3 (hval 0 3 v0 rfl rfl) h0
  obtain ⟨A1, len1, cap1, rfl⟩ := okWide_slice Tryd.underlying28 (hval 1 28 v1 rfl rfl)
  have k1 := h1
  have lt1 : ∀ x ∈ p1, x.block < W.heap.size := by obtain ⟨m, hm⟩ := k1; exact DataW.trod_lt m _ _ _ hm
  obtain ⟨l1, e1, g1⟩ := ints_of_trod h1
  subst e1
  clear hA0 hval0
  refine (wideBytes_walk a0 A1 cap1 l1 W m0 g1 (of_laid hL)).mono fun e W' ⟨he, bel⟩ => ?_
  subst he
  exact ⟨_, rfl, _, _, _, [], _, [], hW', trodAll_mk1 (shut_bool Tryd.underlying4 _), (trodAll_cons_mk (shut_int Tryd.underlying3 m0) (trodAll_cons_mk (Below.trod laidOut (by kernel_rfl) (of_decide_eq_true (by kernel_rfl)) k1 bel lt1) trodAll_mk0)), rfl, bel.frame _, fun h => by cases h⟩

theorem wideBytes_row : Rows.WideBytesSaid :=
  OpenClaim.holds_of_wide 4 Tryd.f4 rfl rfl rfl rfl rfl rfl rfl ⟨rfl, rfl, rfl, rfl, rfl⟩ rfl rfl rfl rfl rfl (by kernel_rfl) Tryd.func4 (by kernel_rfl)
    (of_decide_eq_true (by kernel_rfl)) (by unfold Func.isWrapper; first | (rw [if_pos (by decide +kernel)]; kernel_rfl) | (rw [if_neg (by decide +kernel)]; exact ⟨rfl, rfl⟩))
    (fun os started H enc _ => wideBytes_lifted os started H enc)

theorem wideBytes_holds : Rows.WideBytesCardSaid :=
  Claim7.holds_tied_plain_at .later [] [.data] true Rows.wideBytesCard.stood.harness false
    wideBytes_row (fun _ h => by cases h) (by kernel_rfl) (fun _ h => by cases h) wideBytes_row_tie rfl ⟨rfl, rfl⟩ (by kernel_rfl) rfl
    (fun f fn hf hfn => by
      obtain rfl : f = 4 := Option.some.inj ((show Tryd.prog.funcNamed Rows.wideBytesRow.func = some 4 by kernel_rfl).symm.trans hf) |>.symm
      obtain rfl : fn = Tryd.f4 := (Option.some.inj (Tryd.func4.symm.trans hfn)).symm
      exact ⟨by kernel_rfl, fun j t ht => by
        rw [Tryd.params4] at ht
        have hm : t ∈ [3, 28] := by simpa using Array.mem_of_getElem? ht
        have hall : ([3, 28].all fun u => !Tryd.prog.wantsStandIn u) = true := by kernel_rfl
        exact (show Tryd.prog.wantsStandIn t = false by simpa using List.all_eq_true.1 hall t hm)⟩)
    (by kernel_rfl)
#print axioms wideBytes_holds
end Go.Proofs.YtohjkpdelopknaaDoor

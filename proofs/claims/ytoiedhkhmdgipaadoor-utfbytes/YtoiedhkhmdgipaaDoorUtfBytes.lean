/- UtfBytes: for every list of numbers the law returns true and the list reads as before: Encode and Len answer as the document's. Conditions: the table 'shapes' as the program's text lays it (tied). -/
import Derived.Test.YtoiedhkhmdgipaaDoorR
import Derived.Test.YtoiedhkhmdgipaaDoorCards
import Derived.ShutString
import Derived.ChangeOld
namespace Go.Proofs.YtoiedhkhmdgipaaDoor
open Go.ChangeShapes Go.WideShapes Go.ChangeAt Go.WideMaps Go.WideElems Go.RowKit
open Go.ChangeMaps (open_string shut_string)

theorem str_app (a b : List Int) : strOfNums a ++ strOfNums b = strOfNums (a ++ b) := by
  apply ByteArray.ext
  simp [strOfNums]
theorem lenI_len (r : Int) (h : scal r = true) : lenI r = ((byI r).length : Int) := by
  rw [← lenI_yes h]; unfold byI; (repeat' split) <;> rfl
/-- What the law's loop has wanted so far. -/
def wantL (l : List Int) : ByteArray := strOfNums (byL (l.filter scal))
theorem want_yes (l : List Int) (k : Nat) (h : k < l.length) (hs : scal (l.getD k 0) = true) : wantL (l.take k) ++ strOfNums (byI (l.getD k 0)) = wantL (l.take (k + 1)) := by
  unfold wantL
  rw [str_app, take_more l k h, List.filter_append, show [l.getD k 0].filter scal = [l.getD k 0] by rw [List.filter_cons, hs]; rfl]
  simp [byL]
theorem want_no (l : List Int) (k : Nat) (h : k < l.length) (hs : scal (l.getD k 0) = false) : wantL (l.take k) = wantL (l.take (k + 1)) := by
  unfold wantL
  rw [take_more l k h, List.filter_append, show [l.getD k 0].filter scal = [] by rw [List.filter_cons, hs]; rfl]
  simp
theorem want_all (l : List Int) (h : l.all scal = true) : wantL l = strOfNums (byL l) := by
  unfold wantL
  rw [List.filter_eq_self.2 (fun a ha => List.all_eq_true.1 h a ha)]
theorem want_size (l : List Int) : (wantL l).size ≤ 4 * l.length := by
  unfold wantL
  rw [strOfNums_size]
  have h1 := byL_le (l.filter scal)
  have h2 := List.length_filter_le scal l
  omega
theorem all_yes (l : List Int) (k : Nat) (h : k < l.length) (hs : scal (l.getD k 0) = true) : (l.take (k + 1)).all scal = (l.take k).all scal := by
  rw [take_more l k h, List.all_append, List.all_cons, hs]; simp
theorem all_no (l : List Int) (k : Nat) (h : k < l.length) (hs : scal (l.getD k 0) = false) : (l.take (k + 1)).all scal = false := by
  rw [take_more l k h, List.all_append, List.all_cons, hs]; simp

set_option maxRecDepth 100000 in
set_option maxHeartbeats 2000000 in
theorem utfBytes_walk (A : Option Addr) (c : Nat) (l : List Int) (w : World) (hl : Ints .i32 w A l) (hT : Tab w) : Calls Tryd.prog 4 #[.slice A l.length c] w fun e w' => e = .returned (.bool true) ∧ Below w.heap.size w w' := by
  have HT := Lib.hid hT
  have hpos := hT.pos
  have HL := Lib.hid hl
  clear hT hl
  by_cases hs : l.length ≤ 200
  · have hs' : ¬ (200 : Int) < l.length := by omega
    obtain ⟨es, ee, hev⟩ : ∃ es ee, encV l = .tuple #[.string es, .int .i64 ee] := by
      cases h : l.all scal
      · exact ⟨_, _, by rw [encV, if_neg (by rw [h]; decide)]⟩
      · exact ⟨_, _, by rw [encV, if_pos h]⟩
    have HEV := Lib.hid hev
    clear hev
    go_enter Tryd.func4, Tryd.ntmps4
    go_wp2_with fail
    refine (encode_any A c l _ HT.out HL.out (by omega)).mono ?_
    rw [HEV.out]
    rintro e w1 ⟨rfl, hb1⟩
    have HB1 := Lib.hid hb1
    clear hb1
    go_wp2_with fail
    go_loopw [5, 6, 7] (fun want right i wr => ∃ k : Nat, want = .string (wantL (l.take k)) ∧ right = .bool ((l.take k).all scal) ∧ i = .int .i64 k ∧ k ≤ l.length ∧ Hid (Below w.heap.size w wr)) (fun _ _ i _ => l.length - (intOf i).toNat)
    case atStart => exact ⟨0, rfl, rfl, rfl, by omega, HB1.out⟩
    case round =>
      obtain ⟨k, rfl, rfl, rfl, hk, HQ⟩ := hrel
      have hsz := HQ.out.size
      by_cases hlt : k < l.length
      · obtain ⟨b, off, rfl, hb, hc⟩ := HL.out k hlt
        have hc' : wr.cell? ⟨b, off + k, none⟩ = some (.int .i32 (l.getD k 0)) := (HQ.out.cell (p := ⟨b, off + k, none⟩) hb).trans hc
        have hcx : ∀ w2, Below wr.heap.size wr w2 → w2.cell? ⟨b, off + k, none⟩ = some (.int .i32 (l.getD k 0)) := fun w2 h2 => (h2.cell (p := ⟨b, off + k, none⟩) (Nat.lt_of_lt_of_le hb hsz)).trans hc'
        clear hc
        have hlt' : (k : Int) < l.length := by omega
        have hWs := want_size (l.take k)
        have hWl := List.length_take_le k l
        generalize hrk : l.getD k 0 = r at hc' hcx
        have HCX := Lib.hid hcx
        clear hcx
        cases hsc : scal r
        · have HW := Lib.hid (want_no l k hlt (by rw [hrk]; exact hsc))
          have HAll := Lib.hid (all_no l k hlt (by rw [hrk]; exact hsc))
          have HZ := Lib.hid (lenI_no hsc)
          have HS := Lib.hid hsc
          clear hsc hrk hWs hWl
          generalize hWk : wantL (l.take k) = wk
          have HWk := Lib.hid hWk
          generalize hAk : (l.take k).all scal = ak
          clear hWk hAk
          go_wp2_with fail
          refine (scalar_any _ _).mono ?_
          rw [HS.out]
          rintro e w' ⟨rfl, rfl⟩
          go_wp2_with fail
          refine (len_any _ _ (HT.out.below HQ.out hpos)).mono ?_
          rintro e w' ⟨rfl, rfl⟩
          rw [← HZ.out]
          go_wp2_with fail
          go_roundw
          case rel => exact ⟨k + 1, by rw [← HW.out, HWk.out], by rw [HAll.out], by go_num, by omega, HQ.out⟩
          case measure => simp [intOf]; omega
        · have HW := Lib.hid (want_yes l k hlt (by rw [hrk]; exact hsc))
          rw [hrk] at HW
          have HAll := Lib.hid (all_yes l k hlt (by rw [hrk]; exact hsc))
          have HZ := Lib.hid (lenI_len r hsc)
          have HS := Lib.hid hsc
          have hbl := (byI_le r).2
          have hbz : (strOfNums (byI r)).size = (byI r).length := strOfNums_size _
          clear hsc hrk
          generalize hWk : wantL (l.take k) = wk at hWs
          have HWk := Lib.hid hWk
          generalize hAk : (l.take k).all scal = ak
          have HAk := Lib.hid hAk
          generalize hby : strOfNums (byI r) = by_ at hbz
          have HBy := Lib.hid hby
          clear hWk hAk hby
          have hbz2 : by_.size ≤ 4 := by omega
          have HBZ := Lib.hid hbz
          clear hbz hbl
          go_wp2_with fail
          refine (scalar_any _ _).mono ?_
          rw [HS.out]
          rintro e w' ⟨rfl, rfl⟩
          go_wp2_with fail
          refine (rbytes_any _ _ HS.out).mono ?_
          rw [HBy.out]
          rintro e w2 ⟨rfl, hb2⟩
          have HB2 := Lib.hid hb2
          clear hb2
          have hc2 := HCX.out w2 HB2.out
          go_wp2_with fail
          refine (rbytes_any _ _ HS.out).mono ?_
          rw [HBy.out]
          rintro e w3 ⟨rfl, hb3⟩
          have HB3 := Lib.hid (HB2.out.trans (hb3.mono HB2.out.size))
          clear hb3
          have hc3 := HCX.out w3 HB3.out
          have HBw := Lib.hid (HQ.out.trans (HB3.out.mono hsz))
          have hne : ((by_.size : Int) != (by_.size : Int)) = false := by simp
          go_wp2_with fail
          refine (len_any _ _ (HT.out.below HBw.out hpos)).mono ?_
          rintro e w' ⟨rfl, rfl⟩
          rw [HZ.out, show (((byI r).length : Nat) : Int) = (by_.size : Int) by rw [HBZ.out]]
          go_wp2_with fail
          go_roundw
          case rel => exact ⟨k + 1, by rw [← HW.out, HWk.out, HBy.out], by rw [HAll.out, HAk.out], by go_num, by omega, HBw.out⟩
          case measure => simp [intOf]; omega
      · obtain rfl : k = l.length := by omega
        have hlt' : ¬ ((l.length : Nat) : Int) < l.length := by omega
        rw [List.take_length]
        have HTr := Lib.hid (HT.out.below HQ.out hpos)
        cases ha : l.all scal
        · have hE : encV l = .tuple #[.string ⟨#[]⟩, .int .i64 11] := by rw [encV, if_neg (by rw [ha]; decide)]
          rw [HEV.out] at hE
          simp at hE
          obtain ⟨rfl, rfl⟩ := hE
          generalize wantL l = wl
          clear ha
          go_wp2_with fail
          refine (awake_any _ HTr.out).mono ?_
          rintro e w2 ⟨rfl, hb2⟩
          have HB2 := Lib.hid (HQ.out.trans (hb2.mono hsz))
          clear hb2
          go_wp2
          go_ret
          exact ⟨rfl, HB2.out⟩
        · have hE := encV_yes l ha
          rw [HEV.out] at hE
          simp at hE
          obtain ⟨rfl, rfl⟩ := hE
          rw [want_all l ha]
          generalize strOfNums (byL l) = wl
          clear ha
          go_wp2_with fail
          refine (awake_any _ HTr.out).mono ?_
          rintro e w2 ⟨rfl, hb2⟩
          have HB2 := Lib.hid (HQ.out.trans (hb2.mono hsz))
          clear hb2
          go_wp2
          go_ret
          exact ⟨rfl, HB2.out⟩
  · have hs' : (200 : Int) < l.length := by omega
    clear hs
    go_enter Tryd.func4, Tryd.ntmps4
    go_wp2_with fail
    refine (awake_any _ HT.out).mono ?_
    rintro e w' ⟨rfl, hb⟩
    have HB := Lib.hid hb
    clear hb
    go_wp2
    go_ret
    exact ⟨rfl, HB.out⟩

set_option maxRecDepth 100000 in
theorem utfBytes_lifted (os : Os) (started : os.Started) (H : Type) (enc : TypeId × Value → H) :
    ReturnsInHanded {} Tryd.checked os 4 .any (fun w args => (Rows.utfBytesSpec.pre enc Tryd.prog Tryd.f4 [] false w args ∧ laidMetH Tryd.prog laid1 w) ∧ sizedMet enc Tryd.prog Tryd.f4 (OpenSpec.ofChange Rows.utfBytesSpec) false w args)
      (Rows.utfBytesSpec.post enc Tryd.prog Tryd.f4 false true false false) := by
  refine returnsInHanded_of_change_and (C := Tryd.checked) (X := fun w _ => laidMetH Tryd.prog laid1 w) (fun _ _ _ hh h => h.of_heap hh) own started (by kernel_rfl) Tryd.func4
    (ChangeSpec.witness_shaped (enc := enc) (C := Tryd.checked) (os := os) (X := fun w _ => laidMetH Tryd.prog laid1 w) false (World.doorLaid Tryd.prog 400 os) #[.slice none 0 0] 8 rfl (World.shaped_of_RefB (by kernel_rfl) (by kernel_rfl)) (by kernel_rfl) (by kernel_rfl) (by kernel_rfl) (door_met os _)) ?_
  intro W base args ds gs before hval0 hW _ _ hL _
  have hval : ∀ (j : Nat) t v, Tryd.f4.params[j]? = some t → args[j]? = some v → Value.okWide Tryd.prog W .any base t v := hval0
  have hW' := hW
  obtain ⟨p, q, hA0, hV, rfl, hfz, hnd⟩ := hW
  have hA : DataW.TrodAll enc Tryd.prog W 0 (fun _ => true) true Tryd.f4.params.toList args.toList ds p := hA0
  rw [Tryd.params4] at hA hval
  obtain ⟨v0, vs0, d0, ds0, p0, q0, hargs, rfl, rfl, h0, r0⟩ := trodAll_cons hA
  obtain ⟨rfl, rfl, rfl⟩ := trodAll_nil r0
  obtain rfl : args = #[v0] := by cases args; simp_all
  obtain ⟨rfl, rfl⟩ := trodVars_none hV
  obtain ⟨A0, len0, cap0, rfl⟩ := okWide_slice Tryd.underlying27 (hval 0 27 v0 rfl rfl)
  have k0 := h0
  have lt0 : ∀ x ∈ p0, x.block < W.heap.size := by obtain ⟨m, hm⟩ := k0; exact DataW.trod_lt m _ _ _ hm
  obtain ⟨l0, e0, g0⟩ := ints_of_trod h0
  subst e0
  clear hA0 hval0
  refine (utfBytes_walk A0 cap0 l0 W g0 (of_laid hL)).mono fun e W' ⟨he, bel⟩ => ?_
  subst he
  exact ⟨_, rfl, _, _, _, [], _, [], hW', trodAll_mk1 (shut_bool Tryd.underlying4 _), (trodAll_cons_mk (Below.trod laidOut (by kernel_rfl) (of_decide_eq_true (by kernel_rfl)) k0 bel lt0) trodAll_mk0), rfl, bel.frame _, fun h => by cases h⟩

theorem utfBytes_row : Rows.UtfBytesSaid :=
  OpenClaim.holds_of_wide 4 Tryd.f4 rfl rfl rfl rfl rfl rfl rfl ⟨rfl, rfl, rfl, rfl, rfl⟩ rfl rfl rfl rfl rfl (by kernel_rfl) Tryd.func4 (by kernel_rfl)
    (of_decide_eq_true (by kernel_rfl)) (by unfold Func.isWrapper; first | (rw [if_pos (by decide +kernel)]; kernel_rfl) | (rw [if_neg (by decide +kernel)]; exact ⟨rfl, rfl⟩))
    (fun os started H enc _ => utfBytes_lifted os started H enc)

theorem utfBytes_holds : Rows.UtfBytesCardSaid :=
  Claim7.holds_tied_plain_at .later [] [.data] true Rows.utfBytesCard.stood.harness false
    utfBytes_row (fun _ h => by cases h) (by kernel_rfl) (fun _ h => by cases h) utfBytes_row_tie rfl ⟨rfl, rfl⟩ (by kernel_rfl) rfl
    (fun f fn hf hfn => by
      obtain rfl : f = 4 := Option.some.inj ((show Tryd.prog.funcNamed Rows.utfBytesRow.func = some 4 by kernel_rfl).symm.trans hf) |>.symm
      obtain rfl : fn = Tryd.f4 := (Option.some.inj (Tryd.func4.symm.trans hfn)).symm
      exact ⟨by kernel_rfl, fun j t ht => by
        rw [Tryd.params4] at ht
        have hm : t ∈ [27] := by simpa using Array.mem_of_getElem? ht
        have hall : ([27].all fun u => !Tryd.prog.wantsStandIn u) = true := by kernel_rfl
        exact (show Tryd.prog.wantsStandIn t = false by simpa using List.all_eq_true.1 hall t hm)⟩)
    (by kernel_rfl)
#print axioms utfBytes_holds
end Go.Proofs.YtoiedhkhmdgipaaDoor

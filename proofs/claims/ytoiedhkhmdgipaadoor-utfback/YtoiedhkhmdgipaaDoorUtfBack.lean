/- UtfBack: for every list of numbers and every string the law returns true and both read as before: Decode of Encode is the characters, and Encode of what was decoded the bytes. Conditions: the table 'shapes' as the program's text lays it (tied). -/
import Derived.Test.YtoiedhkhmdgipaaDoorR
import Derived.Test.YtoiedhkhmdgipaaDoorY
import Derived.Test.YtoiedhkhmdgipaaDoorCards
import Derived.ShutString
import Derived.ChangeOld
namespace Go.Proofs.YtoiedhkhmdgipaaDoor
open Go.ChangeShapes Go.WideShapes Go.ChangeAt Go.WideMaps Go.WideElems Go.RowKit
open Go.ChangeMaps (open_string shut_string)

theorem byL_ge (m : List Int) : m.length ≤ (byL m).length := by
  induction m with
  | nil => simp
  | cons a t ih => rw [byL_cons, List.length_append, List.length_cons]; have := (byI_le a).1; omega
theorem back_case (s : ByteArray) (m : List Int) (fs : List (Nat × Nat)) (d : Int) (h : dec 1 0 (bs s) = (m, fs, d)) :
    (d = 0 ∧ fs = [] ∧ strOfNums (byL m) = s) ∨ (d = 17 ∧ ∃ x1 x2, fs = [(x1, x2)] ∧ x1 = (strOfNums (byL m)).size ∧ 1 ≤ x2 ∧ x2 ≤ 3 ∧ x1 + x2 ≤ s.size ∧ strOfNums (byL m) = s.extract 0 (strOfNums (byL m)).size) := by
  have hb := dec_back0 (bs s)
  rw [h] at hb
  by_cases hd : d = 0
  · obtain ⟨h1, h2⟩ := hb.ok hd
    exact .inl ⟨hd, h1, str_of_bs s _ h2.symm⟩
  · obtain ⟨h0, n, h1, h2, h3, h4, h5⟩ := hb.bad hd
    refine .inr ⟨h0, _, n, h1, ?_, h2, h3, ?_, ?_⟩
    · rw [strOfNums_size]; simp
    · rw [bs_len] at h4; simpa using h4
    · rw [strOfNums_size]
      exact str_of_bs _ _ (by rw [bs_take]; exact h5.symm)

set_option maxRecDepth 100000 in
set_option maxHeartbeats 4000000 in
theorem utfBack_walk (A : Option Addr) (c : Nat) (l : List Int) (s : ByteArray) (w : World) (hl : Ints .i32 w A l) (hm : s.size ≤ maxLen) (hT : Tab w) : Calls Tryd.prog 7 #[.slice A l.length c, .string s] w fun e w' => e = .returned (.bool true) ∧ Below w.heap.size w w' := by
  have HT := Lib.hid hT
  have hpos := hT.pos
  have HL := Lib.hid hl
  have HFin := Lib.hid (show ∀ w2 : World, Below w.heap.size w w2 → Tab w2 from fun w2 h => hT.below h hpos)
  clear hT hl hm
  by_cases hs : l.length ≤ 200 ∧ s.size ≤ 400
  · obtain ⟨hs1, hs2⟩ := hs
    have g1 : ¬ (200 : Int) < l.length := by omega
    have g2 : ¬ (400 : Int) < s.size := by omega
    obtain ⟨⟨m, fs, d⟩, hd⟩ : ∃ x, dec 1 0 (bs s) = x := ⟨_, rfl⟩
    have HCase := Lib.hid (back_case s m fs d hd)
    have hsc : m.all scal = true := by have := (dec_back0 (bs s)).sc; rw [hd] at this; exact this
    have hml : m.length ≤ 100000 := by
      have hg := byL_ge m
      rcases HCase.out with ⟨_, _, h⟩ | ⟨_, x1, x2, _, h, _, _, h', _⟩
      · have hz : (strOfNums (byL m)).size = s.size := by rw [h]
        rw [strOfNums_size] at hz
        omega
      · rw [strOfNums_size] at h
        omega
    have HEm := Lib.hid (encV_yes m hsc)
    have HD := Lib.hid hd
    generalize strOfNums (byL m) = u at HEm HCase
    clear hd hsc
    cases ha : l.all scal
    · have HE : Hid (encV l = .tuple #[.string ⟨#[]⟩, .int .i64 11]) := by rw [encV, if_neg (by rw [ha]; decide)]; exact rfl
      clear ha
      go_enter Tryd.func7, Tryd.ntmps7
      go_wp2_with fail
      refine (encode_any A c l _ HT.out HL.out (by omega)).mono ?_
      rw [HE.out]
      rintro e w1 ⟨rfl, hb1⟩
      have BX := Lib.hid hb1
      clear hb1
      have bS := Lib.hid (BX.out.trans ((Below.refl _ _).alloc BX.out.size (.cells #[.string s] 9)))
      go_wp2_with fail
      refine (decode_one 1 (.inl rfl) s _ (HFin.out _ BX.out) (by omega)).mono ?_
      rw [HD.out]
      rintro e w5 ⟨A5, c5, A6, c6, rfl, -, -, hi5, hf5, hb5⟩
      have B5 := Lib.hid (BX.out.trans (hb5.mono BX.out.size))
      have HI5 := Lib.hid hi5
      have HF5 := Lib.hid hf5
      clear hb5 hi5 hf5 bS
      go_wp2_with fail
      refine (encode_any A5 c5 m _ (HFin.out _ B5.out) HI5.out (by omega)).mono ?_
      rw [HEm.out]
      rintro e w6 ⟨rfl, hb6⟩
      have B6 := Lib.hid (B5.out.trans (hb6.mono B5.out.size))
      have HF6 := Lib.hid (HF5.out.below hb6)
      clear hb6
      rcases HCase.out with ⟨q1, q2, q3⟩ | ⟨q1, x1, x2, q2, q3, q4, q5, q6, q7⟩
      · have e1 : (d == 0) = true := by simp [q1]
        have e2 : ((fs.length : Int) == 0) = true := by simp [q2]
        have e3 : (u.toList == s.toList) = true := by rw [q3]; simp
        clear q1 q2 q3
        go_wp2_with fail
        refine (awake_any _ (HFin.out _ B6.out)).mono ?_
        rintro e w7 ⟨rfl, hb7⟩
        have B7 := Lib.hid (B6.out.trans (hb7.mono B6.out.size))
        clear hb7
        go_wp2
        go_ret
        exact ⟨rfl, B7.out⟩
      · subst q1
        subst q2
        obtain ⟨b, off, rfl, hbl, hc1, hc2⟩ := HF6.out 0 (by simp)
        simp only [Nat.zero_mul, Nat.add_zero, List.getElem_cons_zero] at hc1 hc2
        have e1 : ((x1 : Int) == (u.size : Int)) = true := by simp [q3]
        have e3 : (u.toList == (s.extract 0 u.size).toList) = true := by rw [← q7]; simp
        have e4 : (1 : Int) ≤ x2 := by omega
        have e5 : (x2 : Int) ≤ 3 := by omega
        have e6 : (x1 : Int) + x2 ≤ s.size := by omega
        have e7 : u.size ≤ s.size := by omega
        have e8 : IntKind.i64.wrap ((x1 : Int) + x2) = (x1 : Int) + x2 := IntWalk.i64_in _ (by omega)
        have e9 : decide ((x1 : Int) + x2 ≤ (s.size : Int)) = true := by simp; omega
        have Q7 := Lib.hid q7
        clear q7 q3 q4 q5 q6
        rw [show (([(x1, x2)] : List (Nat × Nat)).length) = 1 from rfl]
        go_wp2_with fail
        go_region_held3 (fun w' => w'.cell? ⟨b, off, none⟩ = some (.int .i64 (x1 : Int)) ∧ w'.cell? ⟨b, off + 1, none⟩ = some (.int .i64 (x2 : Int)))
          (first
            | go_keep
            | (refine ⟨?_, ?_⟩
               · (rw [hb7.cell (p := ⟨b, off, none⟩) (by simpa using hbl)]; simpa using hc1)
               · (rw [hb7.cell (p := ⟨b, off + 1, none⟩) (by simpa using hbl)]; simpa using hc2)))
          ((go_at_call 11; refine (awake_any _ (by exact HFin.out _ B6.out.drew)).mono ?_; rintro e w7 ⟨rfl, hb7⟩; have B7 := Lib.hid (B6.out.drew.trans (hb7.mono (by simpa using B6.out.size)))))
        have B8 := Lib.hid B7.out
        clear e8 e9
        go_wp2
        go_ret
        exact ⟨rfl, B8.out⟩
    · have HE := Lib.hid (encV_yes l ha)
      have hdl := dec_enc 0 l ha
      have hB := bs_str _ (byL_B l ha)
      have hcw : cutN (bs (strOfNums (byL l))) = (strOfNums (byL l)).size := by
        rw [cut_whole _ (by rw [hB, hdl]), bs_len]
      have hvl : vld (bs (strOfNums (byL l))) = true := by unfold vld; rw [hB, hdl]; rfl
      rw [← hB] at hdl
      have htz : (strOfNums (byL l)).size ≤ 800 := by rw [strOfNums_size]; have := byL_le l; omega
      generalize strOfNums (byL l) = t at *
      have HCW := Lib.hid hcw
      have HVL := Lib.hid hvl
      have HDL := Lib.hid hdl
      clear hB hcw hvl hdl ha
      have htt : ((t.size : Int) != (t.size : Int)) = false := by simp
      go_enter Tryd.func7, Tryd.ntmps7
      go_wp2_with fail
      refine (encode_any A c l _ HT.out HL.out (by omega)).mono ?_
      rw [HE.out]
      rintro e w1 ⟨rfl, hb1⟩
      have B1 := Lib.hid hb1
      clear hb1
      go_wp2_with fail
      refine (decode_one 1 (.inl rfl) t _ (HFin.out _ B1.out) (by omega)).mono ?_
      rw [HDL.out]
      rintro e w2 ⟨A2, c2, A3, c3, rfl, -, -, hi2, hf2, hb2⟩
      have B2 := Lib.hid (B1.out.trans (hb2.mono B1.out.size))
      have HI2 := Lib.hid hi2
      clear hb2 hi2 hf2
      rw [show (([] : List (Nat × Nat)).length) = 0 from rfl]
      go_wp2_with fail
      refine (runes_any A2 A c2 c l l _ HI2.out (HL.out.below B2.out) (by omega) (by omega)).mono ?_
      rintro e w3 ⟨rfl, hb3⟩
      rw [show decide (l = l) = true from by simp]
      have B3 := Lib.hid (B2.out.trans (hb3.mono B2.out.size))
      clear hb3
      go_wp2_with fail
      refine (valid_any t _ (HFin.out _ B3.out) (by omega)).mono ?_
      rw [HVL.out]
      rintro e w' ⟨rfl, rfl⟩
      go_wp2_with fail
      refine (cut_any t _ (HFin.out _ B3.out) (by omega)).mono ?_
      rw [HCW.out]
      rintro e w' ⟨rfl, rfl⟩
      have BX := Lib.hid B3.out
      have bS := Lib.hid (BX.out.trans ((Below.refl _ _).alloc BX.out.size (.cells #[.string s] 9)))
      go_wp2_with fail
      refine (decode_one 1 (.inl rfl) s _ (HFin.out _ BX.out) (by omega)).mono ?_
      rw [HD.out]
      rintro e w5 ⟨A5, c5, A6, c6, rfl, -, -, hi5, hf5, hb5⟩
      have B5 := Lib.hid (BX.out.trans (hb5.mono BX.out.size))
      have HI5 := Lib.hid hi5
      have HF5 := Lib.hid hf5
      clear hb5 hi5 hf5 bS
      go_wp2_with fail
      refine (encode_any A5 c5 m _ (HFin.out _ B5.out) HI5.out (by omega)).mono ?_
      rw [HEm.out]
      rintro e w6 ⟨rfl, hb6⟩
      have B6 := Lib.hid (B5.out.trans (hb6.mono B5.out.size))
      have HF6 := Lib.hid (HF5.out.below hb6)
      clear hb6
      rcases HCase.out with ⟨q1, q2, q3⟩ | ⟨q1, x1, x2, q2, q3, q4, q5, q6, q7⟩
      · have e1 : (d == 0) = true := by simp [q1]
        have e2 : ((fs.length : Int) == 0) = true := by simp [q2]
        have e3 : (u.toList == s.toList) = true := by rw [q3]; simp
        clear q1 q2 q3
        go_wp2_with fail
        refine (awake_any _ (HFin.out _ B6.out)).mono ?_
        rintro e w7 ⟨rfl, hb7⟩
        have B7 := Lib.hid (B6.out.trans (hb7.mono B6.out.size))
        clear hb7
        go_wp2
        go_ret
        exact ⟨rfl, B7.out⟩
      · subst q1
        subst q2
        obtain ⟨b, off, rfl, hbl, hc1, hc2⟩ := HF6.out 0 (by simp)
        simp only [Nat.zero_mul, Nat.add_zero, List.getElem_cons_zero] at hc1 hc2
        have e1 : ((x1 : Int) == (u.size : Int)) = true := by simp [q3]
        have e3 : (u.toList == (s.extract 0 u.size).toList) = true := by rw [← q7]; simp
        have e4 : (1 : Int) ≤ x2 := by omega
        have e5 : (x2 : Int) ≤ 3 := by omega
        have e6 : (x1 : Int) + x2 ≤ s.size := by omega
        have e7 : u.size ≤ s.size := by omega
        have e8 : IntKind.i64.wrap ((x1 : Int) + x2) = (x1 : Int) + x2 := IntWalk.i64_in _ (by omega)
        have e9 : decide ((x1 : Int) + x2 ≤ (s.size : Int)) = true := by simp; omega
        have Q7 := Lib.hid q7
        clear q7 q3 q4 q5 q6
        rw [show (([(x1, x2)] : List (Nat × Nat)).length) = 1 from rfl]
        go_wp2_with fail
        go_region_held3 (fun w' => w'.cell? ⟨b, off, none⟩ = some (.int .i64 (x1 : Int)) ∧ w'.cell? ⟨b, off + 1, none⟩ = some (.int .i64 (x2 : Int)))
          (first
            | go_keep
            | (refine ⟨?_, ?_⟩
               · (rw [hb7.cell (p := ⟨b, off, none⟩) (by simpa using hbl)]; simpa using hc1)
               · (rw [hb7.cell (p := ⟨b, off + 1, none⟩) (by simpa using hbl)]; simpa using hc2)))
          ((go_at_call 11; refine (awake_any _ (by exact HFin.out _ B6.out.drew)).mono ?_; rintro e w7 ⟨rfl, hb7⟩; have B7 := Lib.hid (B6.out.drew.trans (hb7.mono (by simpa using B6.out.size)))))
        have B8 := Lib.hid B7.out
        clear e8 e9
        go_wp2
        go_ret
        exact ⟨rfl, B8.out⟩
  · have hor : 200 < l.length ∨ (l.length ≤ 200 ∧ 400 < s.size) := by omega
    clear hs
    rcases hor with h | ⟨h, h'⟩
    · have g1 : (200 : Int) < l.length := by omega
      go_enter Tryd.func7, Tryd.ntmps7
      go_wp2_with fail
      refine (awake_any _ HT.out).mono ?_
      rintro e w' ⟨rfl, hb⟩
      have HB := Lib.hid hb
      clear hb
      go_wp2
      go_ret
      exact ⟨rfl, HB.out⟩
    · have g1 : ¬ (200 : Int) < l.length := by omega
      have g2 : (400 : Int) < s.size := by omega
      go_enter Tryd.func7, Tryd.ntmps7
      go_wp2_with fail
      refine (awake_any _ HT.out).mono ?_
      rintro e w' ⟨rfl, hb⟩
      have HB := Lib.hid hb
      clear hb
      go_wp2
      go_ret
      exact ⟨rfl, HB.out⟩

set_option maxRecDepth 100000 in
theorem utfBack_lifted (os : Os) (started : os.Started) (H : Type) (enc : TypeId × Value → H) :
    ReturnsInHanded {} Tryd.checked os 7 .any (fun w args => (Rows.utfBackSpec.pre enc Tryd.prog Tryd.f7 [] false w args ∧ laidMetH Tryd.prog laid1 w) ∧ sizedMet enc Tryd.prog Tryd.f7 (OpenSpec.ofChange Rows.utfBackSpec) false w args)
      (Rows.utfBackSpec.post enc Tryd.prog Tryd.f7 false true false false) := by
  refine returnsInHanded_of_change_and (C := Tryd.checked) (X := fun w _ => laidMetH Tryd.prog laid1 w) (fun _ _ _ hh h => h.of_heap hh) own started (by kernel_rfl) Tryd.func7
    (ChangeSpec.witness_shaped (enc := enc) (C := Tryd.checked) (os := os) (X := fun w _ => laidMetH Tryd.prog laid1 w) false (World.doorLaid Tryd.prog 400 os) #[.slice none 0 0, .string ⟨#[]⟩] 8 rfl (World.shaped_of_RefB (by kernel_rfl) (by kernel_rfl)) (by kernel_rfl) (by kernel_rfl) (by kernel_rfl) (door_met os _)) ?_
  intro W base args ds gs before hval0 hW _ hsz hL _
  have hval : ∀ (j : Nat) t v, Tryd.f7.params[j]? = some t → args[j]? = some v → Value.okWide Tryd.prog W .any base t v := hval0
  have hW' := hW
  obtain ⟨p, q, hA0, hV, rfl, hfz, hnd⟩ := hW
  have hA : DataW.TrodAll enc Tryd.prog W 0 (fun _ => true) true Tryd.f7.params.toList args.toList ds p := hA0
  rw [Tryd.params7] at hA hval
  obtain ⟨v0, vs0, d0, ds0, p0, q0, hargs, rfl, rfl, h0, r0⟩ := trodAll_cons hA
  obtain ⟨v1, vs1, d1, ds1, p1, q1, rfl, rfl, rfl, h1, r1⟩ := trodAll_cons r0
  obtain ⟨rfl, rfl, rfl⟩ := trodAll_nil r1
  obtain rfl : args = #[v0, v1] := by cases args; simp_all
  obtain ⟨rfl, rfl⟩ := trodVars_none hV
  obtain ⟨A0, len0, cap0, rfl⟩ := okWide_slice Tryd.underlying27 (hval 0 27 v0 rfl rfl)
  have k0 := h0
  have lt0 : ∀ x ∈ p0, x.block < W.heap.size := by obtain ⟨m, hm⟩ := k0; exact DataW.trod_lt m _ _ _ hm
  obtain ⟨l0, e0, g0⟩ := ints_of_trod h0
  subst e0
  obtain ⟨s1, rfl, rfl, rfl, m1⟩ := open_string Tryd.underlying9 (hval 1 9 v1 rfl rfl) h1
  clear hA0 hval0
  refine (utfBack_walk A0 cap0 l0 s1 W g0 m1 (of_laid hL)).mono fun e W' ⟨he, bel⟩ => ?_
  subst he
  exact ⟨_, rfl, _, _, _, [], _, [], hW', trodAll_mk1 (shut_bool Tryd.underlying4 _), (trodAll_cons_mk (Below.trod laidOut (by kernel_rfl) (of_decide_eq_true (by kernel_rfl)) k0 bel lt0) (trodAll_cons_mk (shut_string Tryd.underlying9 m1) trodAll_mk0)), rfl, bel.frame _, fun h => by cases h⟩

theorem utfBack_row : Rows.UtfBackSaid :=
  OpenClaim.holds_of_wide 7 Tryd.f7 rfl rfl rfl rfl rfl rfl rfl ⟨rfl, rfl, rfl, rfl, rfl⟩ rfl rfl rfl rfl rfl (by kernel_rfl) Tryd.func7 (by kernel_rfl)
    (of_decide_eq_true (by kernel_rfl)) (by unfold Func.isWrapper; first | (rw [if_pos (by decide +kernel)]; kernel_rfl) | (rw [if_neg (by decide +kernel)]; exact ⟨rfl, rfl⟩))
    (fun os started H enc _ => utfBack_lifted os started H enc)

theorem utfBack_holds : Rows.UtfBackCardSaid :=
  Claim7.holds_tied_plain_at .later [] [.data] true Rows.utfBackCard.stood.harness false
    utfBack_row (fun _ h => by cases h) (by kernel_rfl) (fun _ h => by cases h) utfBack_row_tie rfl ⟨rfl, rfl⟩ (by kernel_rfl) rfl
    (fun f fn hf hfn => by
      obtain rfl : f = 7 := Option.some.inj ((show Tryd.prog.funcNamed Rows.utfBackRow.func = some 7 by kernel_rfl).symm.trans hf) |>.symm
      obtain rfl : fn = Tryd.f7 := (Option.some.inj (Tryd.func7.symm.trans hfn)).symm
      exact ⟨by kernel_rfl, fun j t ht => by
        rw [Tryd.params7] at ht
        have hm : t ∈ [27, 9] := by simpa using Array.mem_of_getElem? ht
        have hall : ([27, 9].all fun u => !Tryd.prog.wantsStandIn u) = true := by kernel_rfl
        exact (show Tryd.prog.wantsStandIn t = false by simpa using List.all_eq_true.1 hall t hm)⟩)
    (by kernel_rfl)
#print axioms utfBack_holds
end Go.Proofs.YtoiedhkhmdgipaaDoor

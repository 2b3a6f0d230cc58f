/- UtfOrder: for every two numbers the law returns true: bytes are in the order of the characters, and no character's bytes begin with another one's. Conditions: the table 'shapes' as the program's text lays it (tied). -/
import Derived.Test.YtoiedhkhmdgipaaDoorR
import Derived.Test.YtoiedhkhmdgipaaDoorCards
import Derived.ShutString
import Derived.ChangeOld
namespace Go.Proofs.YtoiedhkhmdgipaaDoor
open Go.ChangeShapes Go.WideShapes Go.ChangeAt Go.WideMaps Go.WideElems Go.RowKit
open Go.ChangeMaps (open_string shut_string)

def lexI : List Int → List Int → Bool
  | _, [] => false
  | [], _ :: _ => true
  | a :: x, b :: y => decide (a < b) || (a == b && lexI x y)
def isB (l : List Int) : Prop := ∀ v ∈ l, 0 ≤ v ∧ v < 256
theorem u8_lt (a b : Int) (ha : 0 ≤ a ∧ a < 256) (hb : 0 ≤ b ∧ b < 256) : (UInt8.ofNat a.toNat < UInt8.ofNat b.toNat) ↔ a < b := by
  rw [UInt8.lt_iff_toNat_lt]; simp; omega
theorem u8_eq (a b : Int) (ha : 0 ≤ a ∧ a < 256) (hb : 0 ≤ b ∧ b < 256) : (UInt8.ofNat a.toNat = UInt8.ofNat b.toNat) ↔ a = b := by
  rw [← UInt8.toNat_inj]; simp; omega
theorem less_lex : ∀ (x y : List Int), isB x → isB y → Op.bytesLess (x.map fun n => UInt8.ofNat n.toNat) (y.map fun n => UInt8.ofNat n.toNat) = lexI x y
  | _, [], _, _ => by simp [Op.bytesLess, lexI]
  | [], _ :: _, _, _ => by simp [Op.bytesLess, lexI]
  | a :: x, b :: y, hx, hy => by
    have ha := hx a (by simp)
    have hb := hy b (by simp)
    have ih := less_lex x y (fun v hv => hx v (by simp [hv])) (fun v hv => hy v (by simp [hv]))
    simp only [List.map_cons, Op.bytesLess, lexI, ih]
    rw [Bool.eq_iff_iff]
    simp [u8_lt a b ha hb, u8_eq a b ha hb]
theorem byI_B (r : Int) (h : scal r = true) : isB (byI r) := by
  obtain ⟨h0, h1⟩ := scal_bd h
  intro v hv
  unfold byI at hv
  (repeat' split at hv) <;> simp at hv <;> omega
theorem lexI_cons (a b : Int) (x y : List Int) : lexI (a :: x) (b :: y) = (decide (a < b) || (a == b && lexI x y)) := rfl
theorem lexI_nil : lexI [] [] = false := rfl
theorem lex_by (a b : Int) (ha : scal a = true) (hb : scal b = true) : lexI (byI a) (byI b) = decide (a < b) := by
  obtain ⟨a0, a1⟩ := scal_bd ha
  obtain ⟨b0, b1⟩ := scal_bd hb
  rw [Bool.eq_iff_iff]
  unfold byI
  (repeat' split) <;> simp only [lexI, Bool.or_eq_true, Bool.and_eq_true, decide_eq_true_eq, beq_iff_eq, Bool.false_eq_true, and_false, or_false, and_true] <;> omega
theorem str_less (a b : Int) (ha : scal a = true) (hb : scal b = true) : Op.bytesLess (strOfNums (byI a)).toList (strOfNums (byI b)).toList = decide (a < b) := by
  rw [Lib.toList_data, Lib.toList_data, strOfNums_data, strOfNums_data, less_lex _ _ (byI_B a ha) (byI_B b hb), lex_by a b ha hb]
theorem pre_free (a b : Int) (ha : scal a = true) (hb : scal b = true) (h : (byI b).take (byI a).length = byI a) : a = b := by
  obtain ⟨a0, a1⟩ := scal_bd ha
  obtain ⟨b0, b1⟩ := scal_bd hb
  unfold byI at h
  (repeat' split at h) <;> simp at h <;> omega
theorem map_inj : ∀ (x y : List Int), isB x → isB y → (x.map fun n => UInt8.ofNat n.toNat) = (y.map fun n => UInt8.ofNat n.toNat) → x = y
  | [], [], _, _, _ => rfl
  | [], _ :: _, _, _, h => by simp at h
  | _ :: _, [], _, _, h => by simp at h
  | a :: x, b :: y, hx, hy, h => by
    simp only [List.map_cons, List.cons.injEq] at h
    have e := (u8_eq a b (hx a (by simp)) (hy b (by simp))).1 h.1
    rw [e, map_inj x y (fun v hv => hx v (by simp [hv])) (fun v hv => hy v (by simp [hv])) h.2]
theorem str_pre (a b : Int) (ha : scal a = true) (hb : scal b = true) (hne : a ≠ b) : (strOfNums (byI b)).extract 0 (strOfNums (byI a)).size ≠ strOfNums (byI a) := by
  intro h
  have h1 := congrArg (fun s : ByteArray => s.data.toList) h
  simp only [Lib.extract_data, strOfNums_data, List.drop_zero, Nat.sub_zero, strOfNums_size] at h1
  rw [← List.map_take] at h1
  have h2 := map_inj _ _ (fun v hv => byI_B b hb v (List.mem_of_mem_take hv)) (byI_B a ha) h1
  exact hne (pre_free a b ha hb h2)
theorem enc1_yes (a : Int) (h : scal a = true) : encV [a] = .tuple #[.string (strOfNums (byI a)), .int .i64 0] := by
  rw [encV_yes _ (by simp [h])]; simp [byL]
theorem enc1_no (a : Int) (h : scal a = false) : encV [a] = .tuple #[.string ⟨#[]⟩, .int .i64 11] := by
  rw [encV, if_neg (by simp [h])]
theorem lenI_len (r : Int) (h : scal r = true) : lenI r = ((byI r).length : Int) := by
  rw [← lenI_yes h]; unfold byI; (repeat' split) <;> rfl

set_option maxRecDepth 100000 in
set_option maxHeartbeats 2000000 in
theorem utfOrder_walk (a b : Int) (w : World) (_wa : (Lit.int .i32 a).wf = true) (_wb : (Lit.int .i32 b).wf = true) (hT : Tab w) : Calls Tryd.prog 9 #[.int .i32 a, .int .i32 b] w fun e w' => e = .returned (.bool true) ∧ Below w.heap.size w w' := by
  have HT := Lib.hid hT
  have hpos := hT.pos
  have b1 : Below w.heap.size w (w.alloc (.cells #[.int .i32 a] 21)) := (Below.refl _ _).alloc (Nat.le_refl _) _
  have B0 := Lib.hid b1
  clear hT b1 _wa _wb
  cases ha : scal a
  · have HE := Lib.hid (enc1_no a ha)
    have HA := Lib.hid ha
    obtain ⟨ft, fe, hfe⟩ : ∃ ft fe, encV [b] = .tuple #[.string ft, .int .i64 fe] := by
      cases h : scal b
      · exact ⟨_, _, enc1_no b h⟩
      · exact ⟨_, _, enc1_yes b h⟩
    have HF := Lib.hid hfe
    clear hfe ha
    go_enter Tryd.func9, Tryd.ntmps9
    go_wp2_with fail
    refine (encode_any (some ⟨w.heap.size, 0, none⟩) 1 [a] _ (HT.out.below B0.out hpos) (ints_new .i32 [a] 21 w) (by simp)).mono ?_
    rw [HE.out]
    rintro e w1 ⟨rfl, hb1⟩
    have B1 := Lib.hid (B0.out.trans (hb1.mono (by simp)))
    clear hb1
    go_wp2_with fail
    have b2 := Lib.hid (B1.out.trans ((Below.refl _ _).alloc B1.out.size (.cells #[.int .i32 b] 21)))
    refine (encode_any (some ⟨w1.heap.size, 0, none⟩) 1 [b] _ (HT.out.below b2.out hpos) (ints_new .i32 [b] 21 w1) (by simp)).mono ?_
    rw [HF.out]
    rintro e w2 ⟨rfl, hb2⟩
    have B2 := Lib.hid (b2.out.trans (hb2.mono (by have := B1.out.size; simp; omega)))
    clear hb2
    go_wp2_with fail
    refine (scalar_any _ _).mono ?_
    rw [HA.out]
    rintro e w' ⟨rfl, rfl⟩
    go_wp2_with fail
    refine (awake_any _ (HT.out.below B2.out hpos)).mono ?_
    rintro e w3 ⟨rfl, hb3⟩
    have B3 := Lib.hid (B2.out.trans (hb3.mono B2.out.size))
    clear hb3
    go_wp2
    go_ret
    exact ⟨rfl, B3.out⟩
  cases hb : scal b
  · have HE := Lib.hid (enc1_yes a ha)
    have HF := Lib.hid (enc1_no b hb)
    have HA := Lib.hid ha
    have HBb := Lib.hid hb
    clear ha hb
    go_enter Tryd.func9, Tryd.ntmps9
    go_wp2_with fail
    refine (encode_any (some ⟨w.heap.size, 0, none⟩) 1 [a] _ (HT.out.below B0.out hpos) (ints_new .i32 [a] 21 w) (by simp)).mono ?_
    rw [HE.out]
    rintro e w1 ⟨rfl, hb1⟩
    have B1 := Lib.hid (B0.out.trans (hb1.mono (by simp)))
    clear hb1
    go_wp2_with fail
    have b2 := Lib.hid (B1.out.trans ((Below.refl _ _).alloc B1.out.size (.cells #[.int .i32 b] 21)))
    refine (encode_any (some ⟨w1.heap.size, 0, none⟩) 1 [b] _ (HT.out.below b2.out hpos) (ints_new .i32 [b] 21 w1) (by simp)).mono ?_
    rw [HF.out]
    rintro e w2 ⟨rfl, hb2⟩
    have B2 := Lib.hid (b2.out.trans (hb2.mono (by have := B1.out.size; simp; omega)))
    clear hb2
    go_wp2_with fail
    refine (scalar_any _ _).mono ?_
    rw [HA.out]
    rintro e w' ⟨rfl, rfl⟩
    go_wp2_with fail
    refine (scalar_any _ _).mono ?_
    rw [HBb.out]
    rintro e w' ⟨rfl, rfl⟩
    go_wp2_with fail
    refine (awake_any _ (HT.out.below B2.out hpos)).mono ?_
    rintro e w3 ⟨rfl, hb3⟩
    have B3 := Lib.hid (B2.out.trans (hb3.mono B2.out.size))
    clear hb3
    go_wp2
    go_ret
    exact ⟨rfl, B3.out⟩
  have HE := Lib.hid (enc1_yes a ha)
  have HF := Lib.hid (enc1_yes b hb)
  have hless := str_less a b ha hb
  have hpre := fun h => str_pre a b ha hb h
  have hlen := lenI_len a ha
  have hsa := strOfNums_size (byI a)
  have hsb := strOfNums_size (byI b)
  have la := byI_le a
  have lb := byI_le b
  generalize strOfNums (byI a) = s at *
  generalize strOfNums (byI b) = t at *
  have hlen2 : lenI a = (s.size : Int) := by rw [hlen, hsa]
  have zs : s.size ≤ 4 := by omega
  have zt : t.size ≤ 4 := by omega
  have HL := Lib.hid hlen2
  have HP := Lib.hid hpre
  clear hlen hsa hsb la lb hlen2 hpre ha hb
  have hds : (decide (a < b) != decide (a < b)) = false := by simp
  have fin : ∀ w2 : World, Below w.heap.size w w2 → Tab w2 := fun w2 h => HT.out.below h hpos
  have HFin := Lib.hid fin
  clear fin
  have rest : (a == b) = true ∨ ((a == b) = false ∧ t.size < s.size) ∨ ((a == b) = false ∧ s.size ≤ t.size ∧ ((t.extract 0 s.size).toList == s.toList) = false) := by
    by_cases h : a = b
    · exact .inl (by simpa using h)
    · rcases Nat.lt_or_ge t.size s.size with h' | h'
      · exact .inr (.inl ⟨by simpa using h, h'⟩)
      · refine .inr (.inr ⟨by simpa using h, h', beq_eq_false_iff_ne.2 fun hh => HP.out h ?_⟩)
        rw [Lib.toList_data, Lib.toList_data] at hh
        exact ByteArray.ext (Array.toList_inj.1 hh)
  rcases rest with r1 | ⟨r1, r2⟩ | ⟨r1, r2, r3⟩
  all_goals
    go_enter Tryd.func9, Tryd.ntmps9
    go_wp2_with fail
    refine (encode_any (some ⟨w.heap.size, 0, none⟩) 1 [a] _ (HT.out.below B0.out hpos) (ints_new .i32 [a] 21 w) (by simp)).mono ?_
    rw [HE.out]
    rintro e w1 ⟨rfl, hb1⟩
    have B1 := Lib.hid (B0.out.trans (hb1.mono (by simp)))
    clear hb1
    go_wp2_with fail
    have b2 := Lib.hid (B1.out.trans ((Below.refl _ _).alloc B1.out.size (.cells #[.int .i32 b] 21)))
    refine (encode_any (some ⟨w1.heap.size, 0, none⟩) 1 [b] _ (HT.out.below b2.out hpos) (ints_new .i32 [b] 21 w1) (by simp)).mono ?_
    rw [HF.out]
    rintro e w2 ⟨rfl, hb2⟩
    have B2 := Lib.hid (b2.out.trans (hb2.mono (by have := B1.out.size; simp; omega)))
    clear hb2
    go_wp2_with fail
    refine (len_any _ _ (HFin.out _ B2.out)).mono ?_
    rintro e w' ⟨rfl, rfl⟩
    rw [HL.out]
    go_wp2_with fail
    refine (awake_any _ (HFin.out _ B2.out)).mono ?_
    rintro e w3 ⟨rfl, hb3⟩
    have B3 := Lib.hid (B2.out.trans (hb3.mono B2.out.size))
    clear hb3
    go_wp2
    go_ret
    exact ⟨ret_bool (by first | rfl | simp [*]), B3.out⟩

set_option maxRecDepth 100000 in
theorem utfOrder_lifted (os : Os) (started : os.Started) (H : Type) (enc : TypeId × Value → H) :
    ReturnsInHanded {} Tryd.checked os 9 .any (fun w args => (Rows.utfOrderSpec.pre enc Tryd.prog Tryd.f9 [] false w args ∧ laidMetH Tryd.prog laid1 w) ∧ sizedMet enc Tryd.prog Tryd.f9 (OpenSpec.ofChange Rows.utfOrderSpec) false w args)
      (Rows.utfOrderSpec.post enc Tryd.prog Tryd.f9 false true false false) := by
  refine returnsInHanded_of_change_and (C := Tryd.checked) (X := fun w _ => laidMetH Tryd.prog laid1 w) (fun _ _ _ hh h => h.of_heap hh) own started (by kernel_rfl) Tryd.func9
    (ChangeSpec.witness_shaped (enc := enc) (C := Tryd.checked) (os := os) (X := fun w _ => laidMetH Tryd.prog laid1 w) false (World.doorLaid Tryd.prog 400 os) #[.int .i32 0, .int .i32 0] 8 rfl (World.shaped_of_RefB (by kernel_rfl) (by kernel_rfl)) (by kernel_rfl) (by kernel_rfl) (by kernel_rfl) (door_met os _)) ?_
  intro W base args ds gs before hval0 hW _ _ hL _
  have hval : ∀ (j : Nat) t v, Tryd.f9.params[j]? = some t → args[j]? = some v → Value.okWide Tryd.prog W .any base t v := hval0
  have hW' := hW
  obtain ⟨p, q, hA0, hV, rfl, hfz, hnd⟩ := hW
  have hA : DataW.TrodAll enc Tryd.prog W 0 (fun _ => true) true Tryd.f9.params.toList args.toList ds p := hA0
  rw [Tryd.params9] at hA hval
  obtain ⟨v0, vs0, d0, ds0, p0, q0, hargs, rfl, rfl, h0, r0⟩ := trodAll_cons hA
  obtain ⟨v1, vs1, d1, ds1, p1, q1, rfl, rfl, rfl, h1, r1⟩ := trodAll_cons r0
  obtain ⟨rfl, rfl, rfl⟩ := trodAll_nil r1
  obtain rfl : args = #[v0, v1] := by cases args; simp_all
  obtain ⟨rfl, rfl⟩ := trodVars_none hV
  obtain ⟨a0, rfl, rfl, rfl, m0⟩ := open_int Tryd.underlying21 (hval 0 21 v0 rfl rfl) h0
  obtain ⟨a1, rfl, rfl, rfl, m1⟩ := open_int Tryd.underlying21 (hval 1 21 v1 rfl rfl) h1
  clear hA0 hval0
  refine (utfOrder_walk a0 a1 W m0 m1 (of_laid hL)).mono fun e W' ⟨he, bel⟩ => ?_
  subst he
  exact ⟨_, rfl, _, _, _, [], _, [], hW', trodAll_mk1 (shut_bool Tryd.underlying4 _), (trodAll_cons_mk (shut_int Tryd.underlying21 m0) (trodAll_cons_mk (shut_int Tryd.underlying21 m1) trodAll_mk0)), rfl, bel.frame _, fun h => by cases h⟩

theorem utfOrder_row : Rows.UtfOrderSaid :=
  OpenClaim.holds_of_wide 9 Tryd.f9 rfl rfl rfl rfl rfl rfl rfl ⟨rfl, rfl, rfl, rfl, rfl⟩ rfl rfl rfl rfl rfl (by kernel_rfl) Tryd.func9 (by kernel_rfl)
    (of_decide_eq_true (by kernel_rfl)) (by unfold Func.isWrapper; first | (rw [if_pos (by decide +kernel)]; kernel_rfl) | (rw [if_neg (by decide +kernel)]; exact ⟨rfl, rfl⟩))
    (fun os started H enc _ => utfOrder_lifted os started H enc)

theorem utfOrder_holds : Rows.UtfOrderCardSaid :=
  Claim7.holds_tied_plain_at .later [] [.data] true Rows.utfOrderCard.stood.harness false
    utfOrder_row (fun _ h => by cases h) (by kernel_rfl) (fun _ h => by cases h) utfOrder_row_tie rfl ⟨rfl, rfl⟩ (by kernel_rfl) rfl
    (fun f fn hf hfn => by
      obtain rfl : f = 9 := Option.some.inj ((show Tryd.prog.funcNamed Rows.utfOrderRow.func = some 9 by kernel_rfl).symm.trans hf) |>.symm
      obtain rfl : fn = Tryd.f9 := (Option.some.inj (Tryd.func9.symm.trans hfn)).symm
      exact ⟨by kernel_rfl, fun j t ht => by
        rw [Tryd.params9] at ht
        have hm : t ∈ [21, 21] := by simpa using Array.mem_of_getElem? ht
        have hall : ([21, 21].all fun u => !Tryd.prog.wantsStandIn u) = true := by kernel_rfl
        exact (show Tryd.prog.wantsStandIn t = false by simpa using List.all_eq_true.1 hall t hm)⟩)
    (by kernel_rfl)
#print axioms utfOrder_holds
end Go.Proofs.YtoiedhkhmdgipaaDoor

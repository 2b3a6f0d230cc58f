/- FieldsJoins: for every input the law returns true and it reads as before: characters that are told in two texts with a blank between them are those of both, and bytes likewise. Conditions: the library's tables as the program's text lays them (tied). -/
import Derived.Test.YtnnecigpahbhoaaDoorFN
import Derived.Test.YtnnecigpahbhoaaDoorFT
import Derived.Test.YtnnecigpahbhoaaDoorCards
import Derived.ShutString
import Derived.ChangeOld
namespace Go.Proofs.YtnnecigpahbhoaaDoor
open Go.ChangeShapes Go.WideShapes Go.ChangeAt Go.WideMaps Go.WideElems Go.RowKit
open Go.ChangeMaps (open_string shut_string)
open Fi

theorem lst_app (s t : ByteArray) : (s ++ t).data.toList = s.data.toList ++ t.data.toList := by simp
theorem str_app (x y : List UInt8) : (⟨(x ++ y).toArray⟩ : ByteArray) = ⟨x.toArray⟩ ++ ⟨y.toArray⟩ := str_eq (by simp)
set_option maxRecDepth 100000 in
set_option maxHeartbeats 8000000 in
theorem fieldsJoins_walk (s t : ByteArray) (w : World) (hs : s.size ≤ 9223372036854775807) (ht : t.size ≤ 9223372036854775807) (hL : Ml w) : Calls Tryd.prog 8 #[.string s, .string t] w fun e w' => e = .returned (.bool true) ∧ Below w.heap.size w w' := by
  have hpos := hL.pos
  have HFin := Lib.hid (show ∀ w2 : World, Below w.heap.size w w2 → Calls Tryd.prog 9 #[] w2 fun e w' => e = .returned (.bool true) ∧ Below w2.heap.size w2 w' from fun w2 h => awake_any w2 (hL.below h hpos))
  clear hL
  by_cases h1 : s.size ≤ 400
  · by_cases h2 : t.size ≤ 400
    · have g1 : ¬ (400 : Int) < s.size := by omega
      have g2 : ¬ (400 : Int) < t.size := by omega
      have hst : (s ++ ⟨#[32]⟩ ++ t).size ≤ 100000 := by have h32 : (⟨#[32]⟩ : ByteArray).size = 1 := rfl; rw [← lst_len, lst_app, lst_app, List.length_append, List.length_append, lst_len, lst_len, lst_len]; omega
      have hst2 : (s ++ t).size ≤ 100000 := by rw [← lst_len, lst_app, List.length_append, lst_len, lst_len]; omega
      have hA := fun W => runes_sl s W (by omega)
      have hB := fun W => runes_sl t W (by omega)
      have hC := fun W => runes_sl (s ++ ⟨#[32]⟩ ++ t) W hst
      have hX := fun W => bytes_any s ⟨#[]⟩ W (by omega) (by decide)
      have hY := fun W => bytes_any t ⟨#[]⟩ W (by omega) (by decide)
      have hZ := fun W => bytes_any (s ++ t) ⟨#[]⟩ W hst2 (by decide)
      have hj := rns_join s.data.toList t.data.toList
      have hjb := fun x y => byt_join (a := []) (s := s.data.toList) (t := t.data.toList) (x := x) (y := y)
      have hbx := bytE_cases [] s.data.toList
      have hby := bytE_cases [] t.data.toList
      have lx0 := bytE_len [] s.data.toList
      have ly0 := bytE_len [] t.data.toList
      have la0 := rnsE_len s.data.toList
      have lb0 := rnsE_len t.data.toList
      rw [lst_len] at la0 lb0 lx0 ly0
      have hea := rnsW_err (wds [] s.data.toList) []
      have heb := rnsW_err (wds [] t.data.toList) []
      change (rnsE s.data.toList).2 ≠ 0 → (rnsE s.data.toList).1 = [] at hea
      change (rnsE t.data.toList).2 ≠ 0 → (rnsE t.data.toList).1 = [] at heb
      rw [show (s ++ ⟨#[32]⟩ ++ t).data.toList = s.data.toList ++ 32 :: t.data.toList by rw [lst_app, lst_app]; simp] at hC
      rw [show (⟨#[]⟩ : ByteArray).data.toList = [] from rfl] at hX hY hZ
      rw [lst_app] at hZ
      generalize rnsE s.data.toList = pa at *
      generalize rnsE t.data.toList = pb at *
      generalize rnsE (s.data.toList ++ 32 :: t.data.toList) = pc at *
      generalize bytE [] s.data.toList = px at *
      generalize bytE [] t.data.toList = py at *
      generalize bytE [] (s.data.toList ++ t.data.toList) = pz at *
      obtain ⟨a, ea⟩ := pa
      obtain ⟨b, eb⟩ := pb
      obtain ⟨x, ex⟩ := px
      obtain ⟨y, ey⟩ := py
      obtain ⟨z, ez⟩ := pz
      simp only at *
      unfold RnSl at hA hB hC
      unfold bytV at hX hY hZ
      simp only at hA hB hX hY hZ
      have HA := Lib.hid hA
      have HB := Lib.hid hB
      clear hA hB
      obtain ⟨i0, hi0, hz0, hz1, hz2⟩ := info_parts r_info
      have I0 := Lib.hid hi0
      have I1 := Lib.hid hz0
      have I2 := Lib.hid hz1
      have I3 := Lib.hid hz2
      clear hi0 hz0 hz1 hz2
      have hzz : ex = 0 → ey = 0 → (⟨z.toArray⟩ : ByteArray) = ⟨x.toArray⟩ ++ ⟨y.toArray⟩ ∧ ez = 0 := fun h1 h2 => by
        have := hjb x y (by rw [h1]) (by rw [h2])
        have e := (Prod.mk.inj this)
        exact ⟨by rw [e.1, str_app], e.2⟩
      have sx : (⟨x.toArray⟩ : ByteArray).size ≤ 400 := by rw [size_mk]; omega
      have sy : (⟨y.toArray⟩ : ByteArray).size ≤ 400 := by rw [size_mk]; omega
      generalize (⟨x.toArray⟩ : ByteArray) = X at *
      generalize (⟨y.toArray⟩ : ByteArray) = Y at *
      generalize (⟨z.toArray⟩ : ByteArray) = Z at *
      have HZ := Lib.hid hZ
      have HX := Lib.hid hX
      have HY := Lib.hid hY
      have HC := Lib.hid hC
      have HZZ := Lib.hid hzz
      have HJ := Lib.hid hj
      have HEA := Lib.hid hea
      have HEB := Lib.hid heb
      clear hZ hX hY hC hzz hj hjb hea heb hbx hby lx0 ly0
      have hmo : a.length + b.length ≤ maxLen := by unfold maxLen; omega
      go_enter Tryd.func8, Tryd.ntmps8
      go_wp2_with fail
      refine (HA.out _).mono ?_; rintro e w1 ⟨A1, c1, rfl, ho, hi, hb⟩; have O1 := Lib.hid ho; have B1 := Lib.hid hb; clear ho hi hb
      go_wp2_with fail
      refine (HB.out _).mono ?_; rintro e w2 ⟨A2, c2, rfl, ho, hi, hb⟩; have O2 := Lib.hid ho; have B2 := Lib.hid hb; clear ho hi hb
      go_wp2_with fail
      refine (HC.out _).mono ?_; rintro e w3 ⟨A3, c3, rfl, ho, hi, hb⟩; have O3 := Lib.hid ho; have N3 := Lib.hid hi; have B3 := Lib.hid hb; clear ho hi hb
      go_wp2_with fail
      refine (HX.out _).mono ?_; rintro e w4 ⟨rfl, hb⟩; have B4 := Lib.hid hb; clear hb
      go_wp2_with fail
      refine (HY.out _).mono ?_; rintro e w5 ⟨rfl, hb⟩; have B5 := Lib.hid hb; clear hb
      go_wp2_with fail
      refine (HZ.out _).mono ?_; rintro e w6 ⟨rfl, hb⟩; have B6 := Lib.hid hb; clear hb
      have b2 := B1.out.trans (B2.out.mono B1.out.size)
      have b3 := b2.trans (B3.out.mono b2.size)
      have b4 := b3.trans (B4.out.mono b3.size)
      have b5 := b4.trans (B5.out.mono b4.size)
      have D6 := Lib.hid (b5.trans (B6.out.mono b5.size))
      have z1 := B1.out.size
      have z2 := B2.out.size
      have z3 := B3.out.size
      have b46 := B4.out.trans ((B5.out.trans (B6.out.mono B5.out.size)).mono B4.out.size)
      have b36 := B3.out.trans (b46.mono B3.out.size)
      have b26 := B2.out.trans (b36.mono B2.out.size)
      have P1 := Lib.hid (own_below' O1.out b26)
      have P2 := Lib.hid (own_below' O2.out b36)
      have P3 := Lib.hid (own_below' O3.out b46)
      have Q3 := Lib.hid (N3.out.below b46)
      have z6 := D6.out.size
      have HLow := Lib.hid (fun q hq => (O1.out.lt q hq).2)
      clear b2 b3 b4 b5 b46 b36 b26 O1 O2 O3 N3 B1 B2 B3 B4 B5 B6
      go_upto_region 9 with fail
      go_cut [77] (fun s77 wx => s77 = .bool false ∧ wx = w6)
      case first =>
        by_cases hx0 : ex = 0
        · by_cases hy0 : ey = 0
          · obtain ⟨hz1, hz2⟩ := HZZ.out hx0 hy0
            subst hx0 hy0 hz1 hz2
            go_wp2_with fail
            go_meet
            case rel => exact ⟨rfl, rfl⟩
          · subst hx0
            have m1 : (ey == 0) = false := by simpa using hy0
            clear hy0
            go_wp2_with fail
            go_meet
            case rel => exact ⟨rfl, rfl⟩
        · have m1 : (ex == 0) = false := by simpa using hx0
          clear hx0
          go_wp2_with fail
          go_meet
          case rel => exact ⟨rfl, rfl⟩
      case rest =>
        obtain ⟨rfl, rfl⟩ := hcut
        by_cases ha0 : ea = 0
        · subst ha0
          by_cases hb0 : eb = 0
          · subst hb0
            obtain ⟨ab, hab⟩ : ∃ ab, ab = a ++ b := ⟨_, rfl⟩
            have hlab : ab.length ≤ 100000 := by rw [hab, List.length_append]; omega
            obtain rfl : pc = (ab, 0) := by rw [HJ.out, if_pos rfl, if_pos rfl, hab]
            have HAB := Lib.hid hab
            clear hab
            go_wp2_with (at_builtin; refine wpList_append_row rfl (.tmp 104) (.tmp 105) _ rfl w.heap.size 21 i0 _ 1 4 Tryd.underlying39 I0.out I1.out I2.out I3.out rfl (by omega) (.slice A1 a.length c1) a.length _ rfl P1.out _ (.slice A2 b.length c2) b.length (i32s b) rfl P2.out (i32s_one _) hmo (by omega) z6 ?_; intro v7 w7 ho7 hg7 ha7; have hg8 := Lib.hid hg7; (rw [← i32s_app, ← List.length_append, ← HAB.out] at ho7); obtain ⟨A7, c7, rfl, hi7⟩ := own_ints ho7; have N7 := Lib.hid hi7; clear ho7 hg7 ha7 hi7)
            have hq : ∀ b' off, A3 = some ⟨b', off, none⟩ → (Value.slice A1 a.length c1).ownBlock ≠ some b' := by
              intro b' off e1 e2
              subst e1
              have h3 := (P3.out.lt b' rfl).1
              have h4 := HLow.out b' e2
              omega
            have D7 := Lib.hid (D6.out.grown hg8.out z6 (fun q hq => (P1.out.lt q hq).1))
            have HE2 := eqR A7 A3 c7 c3 ab ab w7 N7.out (Q3.out.grown hg8.out hq) hlab hlab
            simp only [decide_true] at HE2
            have HE3 := Lib.hid HE2
            clear HE2 hq
            refine HE3.out.mono ?_
            rintro e w8 ⟨rfl, hb⟩
            have D8 := Lib.hid (D7.out.trans (hb.mono D7.out.size))
            clear hb
            go_wp2_with fail
            refine (HFin.out _ D8.out).mono ?_
            rintro e w9 ⟨rfl, hb9⟩
            have B9 := Lib.hid (D8.out.trans (hb9.mono D8.out.size))
            clear hb9
            go_wp2_with fail
            go_ret
            exact ⟨rfl, B9.out⟩
          · have n1 : (eb != 0) = true := by simpa using hb0
            have n2 : (eb == 0) = false := by simpa using hb0
            obtain rfl : pc = ([], eb) := by rw [HJ.out, if_pos rfl, if_neg hb0, HEB.out hb0]
            clear hb0
            go_wp2_with fail
            refine (HFin.out _ D6.out).mono ?_
            rintro e w9 ⟨rfl, hb9⟩
            have B9 := Lib.hid (D6.out.trans (hb9.mono D6.out.size))
            clear hb9
            go_wp2_with fail
            go_ret
            exact ⟨rfl, B9.out⟩
        · have n1 : (ea != 0) = true := by simpa using ha0
          have n2 : (ea == 0) = false := by simpa using ha0
          obtain rfl : pc = ([], ea) := by rw [HJ.out, if_neg ha0, HEA.out ha0]
          clear ha0
          go_wp2_with fail
          refine (HFin.out _ D6.out).mono ?_
          rintro e w9 ⟨rfl, hb9⟩
          have B9 := Lib.hid (D6.out.trans (hb9.mono D6.out.size))
          clear hb9
          go_wp2_with fail
          go_ret
          exact ⟨rfl, B9.out⟩
    · have g1 : ¬ (400 : Int) < s.size := by omega
      have g2 : (400 : Int) < t.size := by omega
      go_enter Tryd.func8, Tryd.ntmps8
      go_wp2_with (go_at_call 9; refine (HFin.out _ (Below.refl _ _)).mono ?_; rintro e w9 ⟨rfl, hb9⟩; have B9 := Lib.hid hb9; clear hb9)
      go_ret
      exact ⟨rfl, B9.out⟩
  · have g1 : (400 : Int) < s.size := by omega
    go_enter Tryd.func8, Tryd.ntmps8
    go_wp2_with (go_at_call 9; refine (HFin.out _ (Below.refl _ _)).mono ?_; rintro e w9 ⟨rfl, hb9⟩; have B9 := Lib.hid hb9; clear hb9)
    go_ret
    exact ⟨rfl, B9.out⟩

set_option maxRecDepth 100000 in
theorem fieldsJoins_lifted (os : Os) (started : os.Started) (H : Type) (enc : TypeId × Value → H) :
    ReturnsInHanded {} Tryd.checked os 8 .any (fun w args => (Rows.fieldsJoinsSpec.pre enc Tryd.prog Tryd.f8 [] false w args ∧ laidMetH Tryd.prog laid1 w) ∧ sizedMet enc Tryd.prog Tryd.f8 (OpenSpec.ofChange Rows.fieldsJoinsSpec) false w args)
      (Rows.fieldsJoinsSpec.post enc Tryd.prog Tryd.f8 false true false false) := by
  refine change_shaped (C := Tryd.checked) (X := fun w _ => laidMetH Tryd.prog laid1 w) (fun _ _ _ hh h => h.of_heap hh) own started (by kernel_rfl) Tryd.func8
    (ChangeSpec.witness_shaped (enc := enc) (C := Tryd.checked) (os := os) (X := fun w _ => laidMetH Tryd.prog laid1 w) false (World.laidAll Tryd.prog os laid1) #[.string ⟨#[]⟩, .string ⟨#[]⟩] 8 (World.laidAll_os _ _ _) (World.shaped_of_ZipB (by kernel_rfl) (by kernel_rfl)) (by kernel_rfl) (by kernel_rfl) (by kernel_rfl) (by rw [MakeChecks.laidMetH_plain _ _ _ (by kernel_rfl)]; exact laidMet_laidAll _ (by kernel_rfl) (by kernel_rfl))) ?_
  intro W base args ds gs before hval0 hW hsz hL hS
  have hval : ∀ (j : Nat) t v, Tryd.f8.params[j]? = some t → args[j]? = some v → Value.okWide Tryd.prog W .any base t v := hval0
  have hW' := hW
  obtain ⟨p, q, hA0, hV, rfl, hfz, hnd⟩ := hW
  have hA : DataW.TrodAll enc Tryd.prog W 0 (fun _ => true) true Tryd.f8.params.toList args.toList ds p := hA0
  rw [Tryd.params8] at hA hval
  obtain ⟨v0, vs0, d0, ds0, p0, q0, hargs, rfl, rfl, h0, r0⟩ := trodAll_cons hA
  obtain ⟨v1, vs1, d1, ds1, p1, q1, rfl, rfl, rfl, h1, r1⟩ := trodAll_cons r0
  obtain ⟨rfl, rfl, rfl⟩ := trodAll_nil r1
  obtain rfl : args = #[v0, v1] := by cases args; simp_all
  obtain ⟨rfl, rfl⟩ := trodVars_none hV
  obtain ⟨s0, rfl, rfl, rfl, m0⟩ := open_string Tryd.underlying9 (hval 0 9 v0 rfl rfl) h0
  obtain ⟨s1, rfl, rfl, rfl, m1⟩ := open_string Tryd.underlying9 (hval 1 9 v1 rfl rfl) h1
  clear hA0 hval0
  refine (fieldsJoins_walk s0 s1 W m0 m1 (ml_of hS)).mono fun e W' ⟨he, bel⟩ => ?_
  subst he
  exact ⟨_, rfl, _, _, _, [], _, [], hW', trodAll_mk1 (shut_bool Tryd.underlying4 _), (trodAll_cons_mk (shut_string Tryd.underlying9 m0) (trodAll_cons_mk (shut_string Tryd.underlying9 m1) trodAll_mk0)), rfl, bel.frame _, fun h => by cases h⟩

theorem fieldsJoins_row : Rows.FieldsJoinsSaid :=
  OpenClaim.holds_of_wide 8 Tryd.f8 rfl rfl rfl rfl rfl rfl rfl ⟨rfl, rfl, rfl, rfl, rfl⟩ rfl rfl rfl rfl rfl (by kernel_rfl) Tryd.func8 (by kernel_rfl)
    (of_decide_eq_true (by kernel_rfl)) (by unfold Func.isWrapper; first | (rw [if_pos (by decide +kernel)]; kernel_rfl) | (rw [if_neg (by decide +kernel)]; exact ⟨rfl, rfl⟩))
    (fun os started H enc _ => fieldsJoins_lifted os started H enc)

theorem fieldsJoins_holds : Rows.FieldsJoinsCardSaid :=
  Claim7.holds_tied_plain_at .later [] [.data, .pinned] true Rows.fieldsJoinsCard.stood.harness false
    fieldsJoins_row (fun _ h => by cases h) (by kernel_rfl) (fun _ h => by cases h) fieldsJoins_row_tie rfl ⟨rfl, rfl⟩ (by kernel_rfl) rfl
    (fun f fn hf hfn => by
      obtain rfl : f = 8 := Option.some.inj ((show Tryd.prog.funcNamed Rows.fieldsJoinsRow.func = some 8 by kernel_rfl).symm.trans hf) |>.symm
      obtain rfl : fn = Tryd.f8 := (Option.some.inj (Tryd.func8.symm.trans hfn)).symm
      exact ⟨by kernel_rfl, fun j t ht => by
        rw [Tryd.params8] at ht
        have hm : t ∈ [9, 9] := by simpa using Array.mem_of_getElem? ht
        have hall : ([9, 9].all fun u => !Tryd.prog.wantsStandIn u) = true := by kernel_rfl
        exact (show Tryd.prog.wantsStandIn t = false by simpa using List.all_eq_true.1 hall t hm)⟩)
    (by kernel_rfl)
#print axioms fieldsJoins_holds
end Go.Proofs.YtnnecigpahbhoaaDoor

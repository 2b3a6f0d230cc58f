/- FieldsBack: for every input the law returns true and it reads as before: Runes of Text is the characters, and Hex and Range tell one of them likewise. Conditions: the library's tables as the program's text lays them (tied). -/
import Derived.Test.YtnnecigpahbhoaaDoorFTb
import Derived.Test.YtnnecigpahbhoaaDoorFY
import Derived.Test.YtnnecigpahbhoaaDoorFT
import Derived.Test.YtnnecigpahbhoaaDoorCards
import Derived.ShutString
import Derived.ChangeOld
namespace Go.Proofs.YtnnecigpahbhoaaDoor
open Go.ChangeShapes Go.WideShapes Go.ChangeAt Go.WideMaps Go.WideElems Go.RowKit
open Go.ChangeMaps (open_string shut_string)
open Fi

set_option maxRecDepth 100000 in
set_option maxHeartbeats 8000000 in
theorem fieldsBack_walk (A : Option Addr) (cap : Nat) (l : List Int) (w : World) (hl : Fi.Ints .i32 w A l) (hb : ∀ x ∈ l, -2147483648 ≤ x ∧ x ≤ 2147483647) (hL : Ml w) (hT : Tz w) : Calls Tryd.prog 6 #[.slice A l.length cap] w fun e w' => e = .returned (.bool true) ∧ Below w.heap.size w w' := by
  have hpos := hL.pos
  have hpos2 := tz_pos hT
  have HFin := Lib.hid (show ∀ w2 : World, Below w.heap.size w w2 → Calls Tryd.prog 9 #[] w2 fun e w' => e = .returned (.bool true) ∧ Below w2.heap.size w2 w' from fun w2 h => awake_any w2 (hL.below h hpos))
  have HI := Lib.hid hl
  have HB := Lib.hid hb
  have HT := Lib.hid hT
  have HL := Lib.hid hL
  clear hl hb hT hL
  by_cases h3 : l.length ≤ 100
  · have g3 : ¬ (100 : Int) < l.length := by omega
    go_enter Tryd.func6, Tryd.ntmps6
    go_wp2_with fail
    go_loopw [3] (fun i wr => ∃ k : Nat, i = .int .i64 k ∧ k ≤ l.length ∧ Hid ((∀ x ∈ l.take k, scal x = true) ∧ Below w.heap.size w wr)) (fun i _ => l.length - (intOf i).toNat)
    case atStart => exact ⟨0, rfl, by omega, fun x hx => by simp at hx, Below.refl _ _⟩
    case round =>
      obtain ⟨k, rfl, hk, HR⟩ := hrel
      have hsz := HR.out.2.size
      by_cases hlt : k < l.length
      · have g1 : (k : Int) < l.length := by omega
        obtain ⟨b, off, rfl, hb, hc⟩ := HI.out k hlt
        have hc' := (HR.out.2.cell (p := ⟨b, off + k, none⟩) hb).trans hc
        have HS := Lib.hid (take_more l k hlt)
        generalize l.getD k 0 = x at hc' HS
        clear hc
        have hsc := fun W => scalar_any x W
        by_cases hx : scal x = true
        · rw [hx] at hsc
          have hxb := scal_bd hx
          have hn : ((x.toNat : Nat) : Int) = x := by omega
          have hh := hexE_hx4 (n := x.toNat) (by rw [hn]; exact hx)
          have hr1 := rng_one (n := x.toNat) (by rw [hn]; exact hx)
          have hr2 := rng_two (n := x.toNat) (by rw [hn]; exact hx)
          rw [hn] at hh hr1 hr2
          have HNX := Lib.hid (show ∀ y ∈ l.take (k + 1), scal y = true by
            rw [HS.out]
            intro y hy
            rcases List.mem_append.1 hy with h | h
            · exact HR.out.1 y h
            · simp at h; subst h; exact hx)
          obtain ⟨S, hS⟩ : ∃ S : ByteArray, S = ⟨(hx4 x.toNat).toArray⟩ := ⟨_, rfl⟩
          obtain ⟨Z, hZ⟩ : ∃ Z : ByteArray, Z = ⟨(hx4 (0 : Int).toNat).toArray⟩ := ⟨_, rfl⟩
          have hSs : S.size ≤ 8 := by rw [hS, size_mk]; exact hx4_len _
          have hZs : Z.size ≤ 8 := by rw [hZ, size_mk]; exact hx4_len _
          have hH := fun W => hex_any S W (by omega)
          rw [show S.data.toList = hx4 x.toNat by rw [hS], hh] at hH
          have hR1 := fun W (h : Ml W) => range_any S W h (by omega)
          rw [show S.data.toList = hx4 x.toNat by rw [hS], hr1] at hR1
          have h4s : (⟨#[32, 46, 46, 32]⟩ : ByteArray).size = 4 := rfl
          have hR2 := fun W (h : Ml W) => range_any (Z ++ ⟨#[32, 46, 46, 32]⟩ ++ S) W h (by rw [ByteArray.size_append, ByteArray.size_append]; omega)
          rw [show (Z ++ ⟨#[32, 46, 46, 32]⟩ ++ S).data.toList = hx4 0 ++ 32 :: 46 :: 46 :: 32 :: hx4 x.toNat by rw [hS, hZ]; simp, hr2] at hR2
          unfold reV at hH
          unfold r3V at hR1 hR2
          simp only at hH hR1 hR2
          have hTx := fun (g : Nat) (W : World) h1 h2 => text_one x g W h1 h2 (by omega) (by omega)
          rw [← hS] at hTx
          have hT0 := fun (g : Nat) (W : World) h1 h2 => text_one 0 g W h1 h2 (by omega) (by omega)
          rw [← hZ] at hT0
          have HTx := Lib.hid hTx
          have HT0 := Lib.hid hT0
          have HH := Lib.hid hH
          have HR1 := Lib.hid hR1
          have HR2 := Lib.hid hR2
          have HSc := Lib.hid hsc
          have HCl := Lib.hid (show ∀ W, Below w.heap.size w W → W.cell? ⟨b, off + k, none⟩ = some (.int .i32 x) ∧ W.cell? ⟨6, 15, none⟩ = some (.int .u8 4) from fun W h => ⟨by
            have h2 := HI.out k hlt
            obtain ⟨b', off', e, hb', hc2⟩ := h2
            cases e
            have h3 := (h.cell (p := ⟨b, off + k, none⟩) hb).trans hc2
            have h4 := (HR.out.2.cell (p := ⟨b, off + k, none⟩) hb).trans hc2
            rw [hc'] at h4
            rw [h3, ← h4], tz_on HT.out h⟩)
          clear hTx hT0 hH hR1 hR2 hsc hn hh hr1 hr2 hS hZ h4s hx HS
          go_wp2_with fail
          refine (HSc.out _).mono ?_; rintro e w' ⟨rfl, rfl⟩
          go_wp2_with fail
          have D1 := Lib.hid (HR.out.2.alloc hsz (.cells #[.int .i32 x] 21))
          refine (HTx.out wr.heap.size _ (cell_new0 wr _ _) (HCl.out _ D1.out).2).mono ?_; rintro e w1 ⟨rfl, hb1⟩; have D2 := Lib.hid (D1.out.trans (hb1.mono D1.out.size)); clear hb1
          go_wp2_with fail
          refine (HH.out _).mono ?_; rintro e w2 ⟨rfl, hb2⟩; have D3 := Lib.hid (D2.out.trans (hb2.mono D2.out.size)); clear hb2
          have q1 := (HCl.out _ D3.out).1
          have z3 := D3.out.size
          go_wp2_with fail
          have D4 := Lib.hid (D3.out.alloc D3.out.size (.cells #[.int .i32 x] 21))
          refine (HTx.out w2.heap.size _ (cell_new0 w2 _ _) (HCl.out _ D4.out).2).mono ?_; rintro e w3 ⟨rfl, hb3⟩; have D5 := Lib.hid (D4.out.trans (hb3.mono D4.out.size)); clear hb3
          go_wp2_with fail
          refine (HR1.out _ (HL.out.below D5.out hpos)).mono ?_; rintro e w4 ⟨rfl, hb4⟩; have D6 := Lib.hid (D5.out.trans (hb4.mono D5.out.size)); clear hb4 q1 z3
          obtain ⟨q4, q5⟩ := HCl.out _ D6.out
          have z4 := D6.out.size
          have z5 : 6 < w4.heap.size := by omega
          have M0 : Hid True := trivial
          have d1 : ¬ 9223372036854775803 < Z.size := by omega
          have d2 : ¬ 9223372036854775807 < Z.size + 4 := by omega
          have d3 : ¬ 9223372036854775807 < Z.size + 4 + S.size := by omega
          have d4 : ¬ 9223372036854775807 < (Z ++ ⟨#[32, 46, 46, 32]⟩).size + S.size := by rw [ByteArray.size_append]; have : (⟨#[32, 46, 46, 32]⟩ : ByteArray).size = 4 := rfl; omega
          go_wp2_with fail
          go_region_held3 (fun w' => w'.cell? ⟨b, off + k, none⟩ = some (.int .i32 x))
            (first
              | go_keep
              | exact (HCl.out _ E7.out).1
              | exact (HCl.out _ E8.out).1
              | exact (HCl.out _ E9.out).1)
            (first
              | (go_at_call 26; clear M0; refine (HT0.out _ _ (by simp) (HCl.out _ (by repeat (first | exact D6.out | exact E7.out | exact E8.out | refine Below.drew ?_ | refine Below.alloc ?_ (by first | omega | (simp; omega) | (simp; done)) _))).2).mono ?_; rintro e w7 ⟨rfl, hb7⟩; have E7 := Lib.hid (show Below w.heap.size w w7 from Below.trans (by repeat (first | exact D6.out | exact E7.out | exact E8.out | refine Below.drew ?_ | refine Below.alloc ?_ (by first | omega | (simp; omega) | (simp; done)) _)) (hb7.mono (by first | omega | (simp; omega) | (simp; done)))); have z7 := E7.out.size)
              | (go_at_call 26; refine (HTx.out _ _ (by first | (simp; done) | (rw [hb7.cell (p := ⟨w4.heap.size, 0, none⟩) (by first | omega | (simp; omega) | (simp; done))]; simp; done) | (rw [hb7.cell (p := ⟨w4.heap.size + 1, 0, none⟩) (by first | omega | (simp; omega) | (simp; done))]; simp; done)) (HCl.out _ (by repeat (first | exact D6.out | exact E7.out | exact E8.out | refine Below.drew ?_ | refine Below.alloc ?_ (by first | omega | (simp; omega) | (simp; done)) _))).2).mono ?_; rintro e w8 ⟨rfl, hb8⟩; have E8 := Lib.hid (show Below w.heap.size w w8 from Below.trans (by repeat (first | exact D6.out | exact E7.out | exact E8.out | refine Below.drew ?_ | refine Below.alloc ?_ (by first | omega | (simp; omega) | (simp; done)) _)) (hb8.mono (by first | omega | (simp; omega) | (simp; done)))); clear hb8)
              | (go_at_call 19; refine (HR2.out _ (HL.out.below E8.out hpos)).mono ?_; rintro e w9 ⟨rfl, hb9⟩; have E9 := Lib.hid (E8.out.trans (hb9.mono E8.out.size)); clear hb9))
          all_goals
            have q9 := (HCl.out _ E9.out).1
            clear d1 d2 d3 d4 q4 q5 hb7
            go_wp2_with fail
            go_roundw
            case rel => exact ⟨k + 1, by go_num, by omega, HNX.out, E9.out⟩
            case measure => simp [intOf] <;> omega
        · have hxf : scal x = false := by simpa using hx
          rw [hxf] at hsc
          have HSc := Lib.hid hsc
          clear hsc hx hxf
          go_wp2_with fail
          refine (HSc.out _).mono ?_; rintro e w' ⟨rfl, rfl⟩
          go_wp2_with fail
          refine (HFin.out _ HR.out.2).mono ?_
          rintro e w9 ⟨rfl, hb9⟩
          have B9 := Lib.hid (HR.out.2.trans (hb9.mono HR.out.2.size))
          clear hb9
          go_wp2_with fail
          go_ret
          exact ⟨rfl, B9.out⟩
      · have g1 : ¬ (k : Int) < l.length := by omega
        have hall : ∀ x ∈ l, scal x = true := by have := HR.out.1; rw [List.take_of_length_le (by omega)] at this; exact this
        obtain ⟨T, hTT⟩ : ∃ T : ByteArray, T = ⟨(txE l).toArray⟩ := ⟨_, rfl⟩
        have hX := text_any A cap l wr (HI.out.below HR.out.2) HB.out (by omega) (tz_on HT.out HR.out.2)
        rw [← hTT] at hX
        have hRn := fun W => runes_sl T W (by rw [hTT, size_mk]; have := txE_len l; omega)
        rw [show T.data.toList = txE l by rw [hTT], rns_text l hall] at hRn
        unfold RnSl at hRn
        simp only at hRn
        have HX := Lib.hid hX
        have HRn := Lib.hid hRn
        clear hX hRn hTT hall
        go_wp2_with fail
        refine HX.out.mono ?_; rintro e w1 ⟨rfl, hb⟩; have D1 := Lib.hid (HR.out.2.trans (hb.mono HR.out.2.size)); clear hb
        go_wp2_with fail
        refine (HRn.out _).mono ?_; rintro e w2 ⟨A2, c2, rfl, _, hi, hb⟩; have D2 := Lib.hid (D1.out.trans (hb.mono D1.out.size)); have N2 := Lib.hid hi; clear hb hi
        have HE := eqR A2 A c2 cap l l w2 N2.out (HI.out.below D2.out) (by omega) (by omega)
        simp only [decide_true] at HE
        have HE2 := Lib.hid HE
        clear HE
        go_wp2_with fail
        refine HE2.out.mono ?_; rintro e w3 ⟨rfl, hb⟩; have D3 := Lib.hid (D2.out.trans (hb.mono D2.out.size)); clear hb
        go_wp2_with fail
        refine (HFin.out _ D3.out).mono ?_
        rintro e w9 ⟨rfl, hb9⟩
        have B9 := Lib.hid (D3.out.trans (hb9.mono D3.out.size))
        clear hb9
        go_wp2_with fail
        go_ret
        exact ⟨rfl, B9.out⟩
  · have g3 : (100 : Int) < l.length := by omega
    go_enter Tryd.func6, Tryd.ntmps6
    go_wp2_with fail
    refine (HFin.out _ (Below.refl w.heap.size w)).mono ?_
    rintro e w9 ⟨rfl, hb9⟩
    have B9 := Lib.hid ((Below.refl w.heap.size w).trans (hb9.mono (Below.refl w.heap.size w).size))
    clear hb9
    go_wp2_with fail
    go_ret
    exact ⟨rfl, B9.out⟩

set_option maxRecDepth 100000 in
theorem fieldsBack_lifted (os : Os) (started : os.Started) (H : Type) (enc : TypeId × Value → H) :
    ReturnsInHanded {} Tryd.checked os 6 .any (fun w args => (Rows.fieldsBackSpec.pre enc Tryd.prog Tryd.f6 [] false w args ∧ laidMetH Tryd.prog laid2 w) ∧ sizedMet enc Tryd.prog Tryd.f6 (OpenSpec.ofChange Rows.fieldsBackSpec) false w args)
      (Rows.fieldsBackSpec.post enc Tryd.prog Tryd.f6 false true false false) := by
  refine change_shaped (C := Tryd.checked) (X := fun w _ => laidMetH Tryd.prog laid2 w) (fun _ _ _ hh h => h.of_heap hh) own started (by kernel_rfl) Tryd.func6
    (ChangeSpec.witness_shaped (enc := enc) (C := Tryd.checked) (os := os) (X := fun w _ => laidMetH Tryd.prog laid2 w) false (World.laidAll Tryd.prog os laid2) #[.slice none 0 0] 8 (World.laidAll_os _ _ _) (World.shaped_of_ZipB (by kernel_rfl) (by kernel_rfl)) (by kernel_rfl) (by kernel_rfl) (by kernel_rfl) (by rw [MakeChecks.laidMetH_plain _ _ _ (by kernel_rfl)]; exact laidMet_laidAll _ (by kernel_rfl) (by kernel_rfl))) ?_
  intro W base args ds gs before hval0 hW hsz hL hS
  have hval : ∀ (j : Nat) t v, Tryd.f6.params[j]? = some t → args[j]? = some v → Value.okWide Tryd.prog W .any base t v := hval0
  have hW' := hW
  obtain ⟨p, q, hA0, hV, rfl, hfz, hnd⟩ := hW
  have hA : DataW.TrodAll enc Tryd.prog W 0 (fun _ => true) true Tryd.f6.params.toList args.toList ds p := hA0
  rw [Tryd.params6] at hA hval
  obtain ⟨v0, vs0, d0, ds0, p0, q0, hargs, rfl, rfl, h0, r0⟩ := trodAll_cons hA
  obtain ⟨rfl, rfl, rfl⟩ := trodAll_nil r0
  obtain rfl : args = #[v0] := by cases args; simp_all
  obtain ⟨rfl, rfl⟩ := trodVars_none hV
  obtain ⟨A0, len0, cap0, rfl⟩ := okWide_slice Tryd.underlying39 (hval 0 39 v0 rfl rfl)
  have k0 := h0
  have lt0 : ∀ x ∈ p0, x.block < W.heap.size := by obtain ⟨m, hm⟩ := k0; exact DataW.trod_lt m _ _ _ hm
  obtain ⟨l0, e0, g0, b0⟩ := ints_of_trod2 h0
  subst e0
  clear hA0 hval0
  refine (fieldsBack_walk A0 cap0 l0 W g0 b0 (ml_of hS) (tz_of hL)).mono fun e W' ⟨he, bel⟩ => ?_
  subst he
  exact ⟨_, rfl, _, _, _, [], _, [], hW', trodAll_mk1 (shut_bool Tryd.underlying4 _), (trodAll_cons_mk (Below.trod laidOut (by kernel_rfl) (of_decide_eq_true (by kernel_rfl)) k0 bel lt0) trodAll_mk0), rfl, bel.frame _, fun h => by cases h⟩

theorem fieldsBack_row : Rows.FieldsBackSaid :=
  OpenClaim.holds_of_wide 6 Tryd.f6 rfl rfl rfl rfl rfl rfl rfl ⟨rfl, rfl, rfl, rfl, rfl⟩ rfl rfl rfl rfl rfl (by kernel_rfl) Tryd.func6 (by kernel_rfl)
    (of_decide_eq_true (by kernel_rfl)) (by unfold Func.isWrapper; first | (rw [if_pos (by decide +kernel)]; kernel_rfl) | (rw [if_neg (by decide +kernel)]; exact ⟨rfl, rfl⟩))
    (fun os started H enc _ => fieldsBack_lifted os started H enc)

theorem fieldsBack_holds : Rows.FieldsBackCardSaid :=
  Claim7.holds_tied_plain_at .later [] [.data, .data, .data, .data, .pinned, .pinned] true Rows.fieldsBackCard.stood.harness false
    fieldsBack_row (fun _ h => by cases h) (by kernel_rfl) (fun _ h => by cases h) fieldsBack_row_tie rfl ⟨rfl, rfl⟩ (by kernel_rfl) rfl
    (fun f fn hf hfn => by
      obtain rfl : f = 6 := Option.some.inj ((show Tryd.prog.funcNamed Rows.fieldsBackRow.func = some 6 by kernel_rfl).symm.trans hf) |>.symm
      obtain rfl : fn = Tryd.f6 := (Option.some.inj (Tryd.func6.symm.trans hfn)).symm
      exact ⟨by kernel_rfl, fun j t ht => by
        rw [Tryd.params6] at ht
        have hm : t ∈ [39] := by simpa using Array.mem_of_getElem? ht
        have hall : ([39].all fun u => !Tryd.prog.wantsStandIn u) = true := by kernel_rfl
        exact (show Tryd.prog.wantsStandIn t = false by simpa using List.all_eq_true.1 hall t hm)⟩)
    (by kernel_rfl)
#print axioms fieldsBack_holds
end Go.Proofs.YtnnecigpahbhoaaDoor

/- UtfCuts: for every string the law returns true and the string reads as before: Cut answers as the document's. Conditions: the table 'shapes' as the program's text lays it (tied). -/
import Derived.Test.YtoiedhkhmdgipaaDoorR
import Derived.Test.YtoiedhkhmdgipaaDoorCards
import Derived.ShutString
import Derived.ChangeOld
namespace Go.Proofs.YtoiedhkhmdgipaaDoor
open Go.ChangeShapes Go.WideShapes Go.ChangeAt Go.WideMaps Go.WideElems Go.RowKit
open Go.ChangeMaps (open_string shut_string)

/-- What the law's loop knows at place k, having found W. -/
structure CutRel (l : List Nat) (k W : Nat) : Prop where
  old : ∀ j, j < k → ¬ Inc l j ∨ j = W
  now : W = l.length ∨ Inc l W
theorem CutRel.more {l : List Nat} {k W n : Nat} {r : Int} (h : CutRel l k W) (hk : k < l.length) (hx : nx (l.drop k) = (r, (n : Int), 18)) : CutRel l (k + n) k := by
  have hi : Inc l k := ⟨hk, by rw [hx]⟩
  refine ⟨fun j hj => ?_, .inr hi⟩
  by_cases hc : Inc l j
  · exact .inr (inc_one hc hi)
  · exact .inl hc
theorem CutRel.next {l : List Nat} {k W n : Nat} {r e : Int} (h : CutRel l k W) (hx : nx (l.drop k) = (r, (n : Int), e)) (he : e ≠ 18) : CutRel l (k + n) W := by
  refine ⟨fun j hj => ?_, h.now⟩
  rcases Nat.lt_trichotomy j k with h1 | h1 | h1
  · exact h.old j h1
  · subst h1
    exact .inl (fun hi => he (by have := hi.2; rw [hx] at this; exact this))
  · exact .inl (inc_in hx h1 hj)

set_option maxRecDepth 100000 in
set_option maxHeartbeats 2000000 in
theorem utfCuts_walk (s : ByteArray) (w : World) (hm : s.size ≤ maxLen) (hT : Tab w) : Calls Tryd.prog 6 #[.string s] w fun e w' => e = .returned (.bool true) ∧ Below w.heap.size w w' := by
  have HT := Lib.hid hT
  clear hT hm
  by_cases hs : s.size ≤ 400
  · have hs' : ¬ (400 : Int) < s.size := by omega
    have HL := Lib.hid (bs_len s)
    go_enter Tryd.func6, Tryd.ntmps6
    go_wp2_with fail
    go_loop [3, 4] (fun i want => ∃ k W : Nat, i = .int .i64 k ∧ want = .int .i64 W ∧ k ≤ s.size ∧ Hid (CutRel (bs s) k W)) (fun i _ => s.size - (intOf i).toNat)
    case atStart => exact ⟨0, s.size, rfl, rfl, by omega, ⟨fun j hj => by omega, .inl HL.out.symm⟩⟩
    case round =>
      obtain ⟨k, W, rfl, rfl, hk, HQ⟩ := hrel
      by_cases hlt : k < s.size
      · have hne : (bs s).drop k ≠ [] := by
          intro h
          have := congrArg List.length h
          rw [List.length_drop, bs_len] at this
          simp at this
          omega
        obtain ⟨r, e, n, hX, n1, n2, n3, n4, n5⟩ := nx_step _ hne
        rw [List.length_drop, bs_len] at n2
        have HX := Lib.hid hX
        clear hX hne n4 n5
        have hlt' : (k : Int) < s.size := by omega
        by_cases he : e = 18
        · subst he
          have HR := Lib.hid (HQ.out.more (by rw [HL.out]; exact hlt) HX.out)
          go_wp2_with fail
          refine (rnext_from s k _ (by omega) r 18 n HX.out).mono ?_
          rintro v w' ⟨rfl, rfl⟩
          go_wp2_with fail
          go_round
          case rel => exact ⟨k + n, k, by go_num, rfl, by omega, HR.out⟩
          case measure => simp [intOf]; omega
        · have hq : (e == 18) = false := by simpa using he
          have HR := Lib.hid (HQ.out.next HX.out he)
          clear he
          go_wp2_with fail
          refine (rnext_from s k _ (by omega) r e n HX.out).mono ?_
          rintro v w' ⟨rfl, rfl⟩
          go_wp2_with fail
          go_round
          case rel => exact ⟨k + n, W, by go_num, rfl, by omega, HR.out⟩
          case measure => simp [intOf]; omega
      · obtain rfl : k = s.size := by omega
        have hlt' : ¬ ((s.size : Nat) : Int) < s.size := by omega
        have HC : Hid (cutN (bs s) = W) := cutN_eq _ W (fun j hj => HQ.out.old j (by rw [HL.out] at hj; exact hj)) HQ.out.now
        have hwq : ((W : Int) == (W : Int)) = true := by simp
        go_wp2_with fail
        refine (cut_any s _ HT.out (by omega)).mono ?_
        rw [HC.out]
        rintro v w' ⟨rfl, rfl⟩
        go_wp2_with fail
        refine (awake_any _ HT.out).mono ?_
        rintro e w' ⟨rfl, hb⟩
        have HB := Lib.hid hb
        clear hb
        go_wp2
        go_ret
        exact ⟨rfl, HB.out⟩
  · have hs' : (400 : Int) < s.size := by omega
    clear hs
    go_enter Tryd.func6, Tryd.ntmps6
    go_wp2_with fail
    refine (awake_any _ HT.out).mono ?_
    rintro e w' ⟨rfl, hb⟩
    have HB := Lib.hid hb
    clear hb
    go_wp2
    go_ret
    exact ⟨rfl, HB.out⟩

set_option maxRecDepth 100000 in
theorem utfCuts_lifted (os : Os) (started : os.Started) (H : Type) (enc : TypeId × Value → H) :
    ReturnsInHanded {} Tryd.checked os 6 .any (fun w args => (Rows.utfCutsSpec.pre enc Tryd.prog Tryd.f6 [] false w args ∧ laidMetH Tryd.prog laid1 w) ∧ sizedMet enc Tryd.prog Tryd.f6 (OpenSpec.ofChange Rows.utfCutsSpec) false w args)
      (Rows.utfCutsSpec.post enc Tryd.prog Tryd.f6 false true false false) := by
  refine returnsInHanded_of_change_and (C := Tryd.checked) (X := fun w _ => laidMetH Tryd.prog laid1 w) (fun _ _ _ hh h => h.of_heap hh) own started (by kernel_rfl) Tryd.func6
    (ChangeSpec.witness_shaped (enc := enc) (C := Tryd.checked) (os := os) (X := fun w _ => laidMetH Tryd.prog laid1 w) false (World.doorLaid Tryd.prog 400 os) #[.string ⟨#[]⟩] 8 rfl (World.shaped_of_RefB (by kernel_rfl) (by kernel_rfl)) (by kernel_rfl) (by kernel_rfl) (by kernel_rfl) (door_met os _)) ?_
  intro W base args ds gs before hval0 hW _ _ hL _
  have hval : ∀ (j : Nat) t v, Tryd.f6.params[j]? = some t → args[j]? = some v → Value.okWide Tryd.prog W .any base t v := hval0
  have hW' := hW
  obtain ⟨p, q, hA0, hV, rfl, hfz, hnd⟩ := hW
  have hA : DataW.TrodAll enc Tryd.prog W 0 (fun _ => true) true Tryd.f6.params.toList args.toList ds p := hA0
  rw [Tryd.params6] at hA hval
  obtain ⟨v0, vs0, d0, ds0, p0, q0, hargs, rfl, rfl, h0, r0⟩ := trodAll_cons hA
  obtain ⟨rfl, rfl, rfl⟩ := trodAll_nil r0
  obtain rfl : args = #[v0] := by cases args; simp_all
  obtain ⟨rfl, rfl⟩ := trodVars_none hV
  obtain ⟨s0, rfl, rfl, rfl, m0⟩ := open_string Tryd.underlying9 (hval 0 9 v0 rfl rfl) h0
  clear hA0 hval0
  refine (utfCuts_walk s0 W m0 (of_laid hL)).mono fun e W' ⟨he, bel⟩ => ?_
  subst he
  exact ⟨_, rfl, _, _, _, [], _, [], hW', trodAll_mk1 (shut_bool Tryd.underlying4 _), (trodAll_cons_mk (shut_string Tryd.underlying9 m0) trodAll_mk0), rfl, bel.frame _, fun h => by cases h⟩

theorem utfCuts_row : Rows.UtfCutsSaid :=
  OpenClaim.holds_of_wide 6 Tryd.f6 rfl rfl rfl rfl rfl rfl rfl ⟨rfl, rfl, rfl, rfl, rfl⟩ rfl rfl rfl rfl rfl (by kernel_rfl) Tryd.func6 (by kernel_rfl)
    (of_decide_eq_true (by kernel_rfl)) (by unfold Func.isWrapper; first | (rw [if_pos (by decide +kernel)]; kernel_rfl) | (rw [if_neg (by decide +kernel)]; exact ⟨rfl, rfl⟩))
    (fun os started H enc _ => utfCuts_lifted os started H enc)

theorem utfCuts_holds : Rows.UtfCutsCardSaid :=
  Claim7.holds_tied_plain_at .later [] [.data] true Rows.utfCutsCard.stood.harness false
    utfCuts_row (fun _ h => by cases h) (by kernel_rfl) (fun _ h => by cases h) utfCuts_row_tie rfl ⟨rfl, rfl⟩ (by kernel_rfl) rfl
    (fun f fn hf hfn => by
      obtain rfl : f = 6 := Option.some.inj ((show Tryd.prog.funcNamed Rows.utfCutsRow.func = some 6 by kernel_rfl).symm.trans hf) |>.symm
      obtain rfl : fn = Tryd.f6 := (Option.some.inj (Tryd.func6.symm.trans hfn)).symm
      exact ⟨by kernel_rfl, fun j t ht => by
        rw [Tryd.params6] at ht
        have hm : t ∈ [9] := by simpa using Array.mem_of_getElem? ht
        have hall : ([9].all fun u => !Tryd.prog.wantsStandIn u) = true := by kernel_rfl
        exact (show Tryd.prog.wantsStandIn t = false by simpa using List.all_eq_true.1 hall t hm)⟩)
    (by kernel_rfl)
#print axioms utfCuts_holds
end Go.Proofs.YtoiedhkhmdgipaaDoor

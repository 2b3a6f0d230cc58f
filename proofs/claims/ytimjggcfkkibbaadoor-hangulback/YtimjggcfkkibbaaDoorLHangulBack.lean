/- HangulBack: for every input the law returns true and it reads as before: Join of Split is the syllable, and Split of Join the two. Conditions: the program's table of places as the program's text lays it (tied). -/
import Derived.Test.YtimjggcfkkibbaaDoorJM
import Derived.Test.YtimjggcfkkibbaaDoorJT
import Derived.Test.YtimjggcfkkibbaaDoorCards
import Derived.ShutString
import Derived.ChangeOld
namespace Go.Proofs.YtimjggcfkkibbaaDoor
open Go.ChangeShapes Go.WideShapes Go.ChangeAt Go.WideMaps Go.WideElems Go.RowKit
open Go.ChangeMaps (open_string shut_string)
open Ha
set_option maxRecDepth 100000 in
set_option maxHeartbeats 4000000 in
theorem hangulBack00 (r a b : Int) (w : World) (hT : Tab w) (h : isS r = false) (hg : (joinE a b).2 = false) : Calls Tryd.prog 6 #[.int .i32 r, .int .i32 a, .int .i32 b] w fun e w' => e = .returned (.bool true) ∧ Below w.heap.size w w' := by
  have HA := Lib.hid hT.all
  have D0 := Lib.hid (Below.refl w.heap.size w)
  clear hT
  have ea : (a == a) = true := by simp
  have eb : (b == b) = true := by simp
  have hx := split_no h
  have HS := Lib.hid (fun W hW => split_call hx W hW)
  have HI := Lib.hid (fun W => is_call h W)
  clear hx h
  have hs := join_no hg
  have HG := Lib.hid (fun W hW => join_call hs W hW)
  clear hs hg
  go_enter Tryd.func6, Tryd.ntmps6
  go_wp2_with fail
  refine (HS.out _ (HA.out _ D0.out)).mono ?_
  rintro e w1 ⟨rfl, hb⟩
  have D1 := Lib.hid (D0.out.trans (hb.mono D0.out.size))
  clear hb
  go_wp2_with fail
  refine (HI.out _).mono ?_
  rintro e w' ⟨rfl, rfl⟩
  go_wp2_with fail
  refine (HG.out _ (HA.out _ D1.out)).mono ?_
  rintro e w2 ⟨rfl, hb⟩
  have D2 := Lib.hid (D1.out.trans (hb.mono D1.out.size))
  clear hb
  go_wp2_with fail
  refine (awake_any _ (HA.out _ D2.out)).mono ?_
  rintro e w3 ⟨rfl, hb⟩
  have D3 := Lib.hid (D2.out.trans (hb.mono D2.out.size))
  clear hb
  go_wp2_with fail
  go_ret
  exact ⟨rfl, D3.out⟩
set_option maxRecDepth 100000 in
set_option maxHeartbeats 4000000 in
theorem hangulBack01 (r a b : Int) (w : World) (hT : Tab w) (h : isS r = false) (hg : (joinE a b).2 = true) : Calls Tryd.prog 6 #[.int .i32 r, .int .i32 a, .int .i32 b] w fun e w' => e = .returned (.bool true) ∧ Below w.heap.size w w' := by
  have HA := Lib.hid hT.all
  have D0 := Lib.hid (Below.refl w.heap.size w)
  clear hT
  have ea : (a == a) = true := by simp
  have eb : (b == b) = true := by simp
  have hx := split_no h
  have HS := Lib.hid (fun W hW => split_call hx W hW)
  have HI := Lib.hid (fun W => is_call h W)
  clear hx h
  obtain ⟨s, hs⟩ : ∃ s, joinE a b = (s, true) := ⟨(joinE a b).1, by rw [← hg]⟩
  have h1 := split_join hg
  have h2 := join_isS hg
  rw [hs] at h1 h2
  have HG := Lib.hid (fun W hW => join_call hs W hW)
  have HT := Lib.hid (fun W hW => split_call h1 W hW)
  have HK := Lib.hid (fun W => is_call h2 W)
  clear hs h1 h2 hg
  go_enter Tryd.func6, Tryd.ntmps6
  go_wp2_with fail
  refine (HS.out _ (HA.out _ D0.out)).mono ?_
  rintro e w1 ⟨rfl, hb⟩
  have D1 := Lib.hid (D0.out.trans (hb.mono D0.out.size))
  clear hb
  go_wp2_with fail
  refine (HI.out _).mono ?_
  rintro e w' ⟨rfl, rfl⟩
  go_wp2_with fail
  refine (HG.out _ (HA.out _ D1.out)).mono ?_
  rintro e w2 ⟨rfl, hb⟩
  have D2 := Lib.hid (D1.out.trans (hb.mono D1.out.size))
  clear hb
  go_wp2_with fail
  refine (HT.out _ (HA.out _ D2.out)).mono ?_
  rintro e w3 ⟨rfl, hb⟩
  have D3 := Lib.hid (D2.out.trans (hb.mono D2.out.size))
  clear hb
  go_wp2_with fail
  refine (HK.out _).mono ?_
  rintro e w' ⟨rfl, rfl⟩
  go_wp2_with fail
  refine (awake_any _ (HA.out _ D3.out)).mono ?_
  rintro e w4 ⟨rfl, hb⟩
  have D4 := Lib.hid (D3.out.trans (hb.mono D3.out.size))
  clear hb
  go_wp2_with fail
  go_ret
  exact ⟨rfl, D4.out⟩
set_option maxRecDepth 100000 in
set_option maxHeartbeats 4000000 in
theorem hangulBack10 (r a b : Int) (w : World) (hT : Tab w) (h : isS r = true) (hg : (joinE a b).2 = false) : Calls Tryd.prog 6 #[.int .i32 r, .int .i32 a, .int .i32 b] w fun e w' => e = .returned (.bool true) ∧ Below w.heap.size w w' := by
  have HA := Lib.hid hT.all
  have D0 := Lib.hid (Below.refl w.heap.size w)
  clear hT
  have ea : (a == a) = true := by simp
  have eb : (b == b) = true := by simp
  obtain ⟨x, y, hx⟩ : ∃ x y, splE r = (x, y, true) := ⟨(splE r).1, (splE r).2.1, by rw [← h, ← split_is]⟩
  obtain ⟨hj, hy⟩ := join_split h
  rw [hx] at hj hy
  have er : (r != r) = false := by simp
  have HJ := Lib.hid (fun W hW => join_call hj W hW)
  have HY := Lib.hid (fun W => is_call hy W)
  clear hj hy
  have HS := Lib.hid (fun W hW => split_call hx W hW)
  have HI := Lib.hid (fun W => is_call h W)
  clear hx h
  have hs := join_no hg
  have HG := Lib.hid (fun W hW => join_call hs W hW)
  clear hs hg
  go_enter Tryd.func6, Tryd.ntmps6
  go_wp2_with fail
  refine (HS.out _ (HA.out _ D0.out)).mono ?_
  rintro e w1 ⟨rfl, hb⟩
  have D1 := Lib.hid (D0.out.trans (hb.mono D0.out.size))
  clear hb
  go_wp2_with fail
  refine (HJ.out _ (HA.out _ D1.out)).mono ?_
  rintro e w2 ⟨rfl, hb⟩
  have D2 := Lib.hid (D1.out.trans (hb.mono D1.out.size))
  clear hb
  go_wp2_with fail
  refine (HI.out _).mono ?_
  rintro e w' ⟨rfl, rfl⟩
  go_wp2_with fail
  refine (HY.out _).mono ?_
  rintro e w' ⟨rfl, rfl⟩
  go_wp2_with fail
  refine (HG.out _ (HA.out _ D2.out)).mono ?_
  rintro e w3 ⟨rfl, hb⟩
  have D3 := Lib.hid (D2.out.trans (hb.mono D2.out.size))
  clear hb
  go_wp2_with fail
  refine (awake_any _ (HA.out _ D3.out)).mono ?_
  rintro e w4 ⟨rfl, hb⟩
  have D4 := Lib.hid (D3.out.trans (hb.mono D3.out.size))
  clear hb
  go_wp2_with fail
  go_ret
  exact ⟨rfl, D4.out⟩
set_option maxRecDepth 100000 in
set_option maxHeartbeats 4000000 in
theorem hangulBack11 (r a b : Int) (w : World) (hT : Tab w) (h : isS r = true) (hg : (joinE a b).2 = true) : Calls Tryd.prog 6 #[.int .i32 r, .int .i32 a, .int .i32 b] w fun e w' => e = .returned (.bool true) ∧ Below w.heap.size w w' := by
  have HA := Lib.hid hT.all
  have D0 := Lib.hid (Below.refl w.heap.size w)
  clear hT
  have ea : (a == a) = true := by simp
  have eb : (b == b) = true := by simp
  obtain ⟨x, y, hx⟩ : ∃ x y, splE r = (x, y, true) := ⟨(splE r).1, (splE r).2.1, by rw [← h, ← split_is]⟩
  obtain ⟨hj, hy⟩ := join_split h
  rw [hx] at hj hy
  have er : (r != r) = false := by simp
  have HJ := Lib.hid (fun W hW => join_call hj W hW)
  have HY := Lib.hid (fun W => is_call hy W)
  clear hj hy
  have HS := Lib.hid (fun W hW => split_call hx W hW)
  have HI := Lib.hid (fun W => is_call h W)
  clear hx h
  obtain ⟨s, hs⟩ : ∃ s, joinE a b = (s, true) := ⟨(joinE a b).1, by rw [← hg]⟩
  have h1 := split_join hg
  have h2 := join_isS hg
  rw [hs] at h1 h2
  have HG := Lib.hid (fun W hW => join_call hs W hW)
  have HT := Lib.hid (fun W hW => split_call h1 W hW)
  have HK := Lib.hid (fun W => is_call h2 W)
  clear hs h1 h2 hg
  go_enter Tryd.func6, Tryd.ntmps6
  go_wp2_with fail
  refine (HS.out _ (HA.out _ D0.out)).mono ?_
  rintro e w1 ⟨rfl, hb⟩
  have D1 := Lib.hid (D0.out.trans (hb.mono D0.out.size))
  clear hb
  go_wp2_with fail
  refine (HJ.out _ (HA.out _ D1.out)).mono ?_
  rintro e w2 ⟨rfl, hb⟩
  have D2 := Lib.hid (D1.out.trans (hb.mono D1.out.size))
  clear hb
  go_wp2_with fail
  refine (HI.out _).mono ?_
  rintro e w' ⟨rfl, rfl⟩
  go_wp2_with fail
  refine (HY.out _).mono ?_
  rintro e w' ⟨rfl, rfl⟩
  go_wp2_with fail
  refine (HG.out _ (HA.out _ D2.out)).mono ?_
  rintro e w3 ⟨rfl, hb⟩
  have D3 := Lib.hid (D2.out.trans (hb.mono D2.out.size))
  clear hb
  go_wp2_with fail
  refine (HT.out _ (HA.out _ D3.out)).mono ?_
  rintro e w4 ⟨rfl, hb⟩
  have D4 := Lib.hid (D3.out.trans (hb.mono D3.out.size))
  clear hb
  go_wp2_with fail
  refine (HK.out _).mono ?_
  rintro e w' ⟨rfl, rfl⟩
  go_wp2_with fail
  refine (awake_any _ (HA.out _ D4.out)).mono ?_
  rintro e w5 ⟨rfl, hb⟩
  have D5 := Lib.hid (D4.out.trans (hb.mono D4.out.size))
  clear hb
  go_wp2_with fail
  go_ret
  exact ⟨rfl, D5.out⟩
theorem hangulBack_walk (r a b : Int) (w : World) (_ : (Lit.int .i32 r).wf = true) (_ : (Lit.int .i32 a).wf = true) (_ : (Lit.int .i32 b).wf = true) (hT : Tab w) : Calls Tryd.prog 6 #[.int .i32 r, .int .i32 a, .int .i32 b] w fun e w' => e = .returned (.bool true) ∧ Below w.heap.size w w' := by
  cases h : isS r with
  | false =>
    cases hg : (joinE a b).2 with
    | false => exact hangulBack00 r a b w hT h hg
    | true => exact hangulBack01 r a b w hT h hg
  | true =>
    cases hg : (joinE a b).2 with
    | false => exact hangulBack10 r a b w hT h hg
    | true => exact hangulBack11 r a b w hT h hg

set_option maxRecDepth 100000 in
theorem hangulBack_lifted (os : Os) (started : os.Started) (H : Type) (enc : TypeId × Value → H) :
    ReturnsInHanded {} Tryd.checked os 6 .any (fun w args => (Rows.hangulBackSpec.pre enc Tryd.prog Tryd.f6 [] false w args ∧ laidMetH Tryd.prog laid1 w) ∧ sizedMet enc Tryd.prog Tryd.f6 (OpenSpec.ofChange Rows.hangulBackSpec) false w args)
      (Rows.hangulBackSpec.post enc Tryd.prog Tryd.f6 false true false false) := by
  refine change_shaped (C := Tryd.checked) (X := fun w _ => laidMetH Tryd.prog laid1 w) (fun _ _ _ hh h => h.of_heap hh) own started (by kernel_rfl) Tryd.func6
    (ChangeSpec.witness_shaped (enc := enc) (C := Tryd.checked) (os := os) (X := fun w _ => laidMetH Tryd.prog laid1 w) false (World.laidAll Tryd.prog os laid1) #[.int .i32 0, .int .i32 0, .int .i32 0] 8 (World.laidAll_os _ _ _) (World.shaped_of_ZipB (by kernel_rfl) (by kernel_rfl)) (by kernel_rfl) (by kernel_rfl) (by kernel_rfl) (by rw [MakeChecks.laidMetH_plain _ _ _ (by kernel_rfl)]; exact laidMet_laidAll _ (by kernel_rfl) (by kernel_rfl))) ?_
  intro W base args ds gs before hval0 hW hsz hL hS
  have hval : ∀ (j : Nat) t v, Tryd.f6.params[j]? = some t → args[j]? = some v → Value.okWide Tryd.prog W .any base t v := hval0
  have hW' := hW
  obtain ⟨p, q, hA0, hV, rfl, hfz, hnd⟩ := hW
  have hA : DataW.TrodAll enc Tryd.prog W 0 (fun _ => true) true Tryd.f6.params.toList args.toList ds p := hA0
  rw [Tryd.params6] at hA hval
  obtain ⟨v0, vs0, d0, ds0, p0, q0, hargs, rfl, rfl, h0, r0⟩ := trodAll_cons hA
  obtain ⟨v1, vs1, d1, ds1, p1, q1, rfl, rfl, rfl, h1, r1⟩ := trodAll_cons r0
  obtain ⟨v2, vs2, d2, ds2, p2, q2, rfl, rfl, rfl, h2, r2⟩ := trodAll_cons r1
  obtain ⟨rfl, rfl, rfl⟩ := trodAll_nil r2
  obtain rfl : args = #[v0, v1, v2] := by cases args; simp_all
  obtain ⟨rfl, rfl⟩ := trodVars_none hV
  obtain ⟨a0, rfl, rfl, rfl, m0⟩ := open_int Tryd.underlying21 (hval 0 21 v0 rfl rfl) h0
  obtain ⟨a1, rfl, rfl, rfl, m1⟩ := open_int Tryd.underlying21 (hval 1 21 v1 rfl rfl) h1
  obtain ⟨a2, rfl, rfl, rfl, m2⟩ := open_int Tryd.underlying21 (hval 2 21 v2 rfl rfl) h2
  clear hA0 hval0
  refine (hangulBack_walk a0 a1 a2 W m0 m1 m2 (of_laid hL)).mono fun e W' ⟨he, bel⟩ => ?_
  subst he
  exact ⟨_, rfl, _, _, _, [], _, [], hW', trodAll_mk1 (shut_bool Tryd.underlying4 _), (trodAll_cons_mk (shut_int Tryd.underlying21 m0) (trodAll_cons_mk (shut_int Tryd.underlying21 m1) (trodAll_cons_mk (shut_int Tryd.underlying21 m2) trodAll_mk0))), rfl, bel.frame _, fun h => by cases h⟩

theorem hangulBack_row : Rows.HangulBackSaid :=
  OpenClaim.holds_of_wide 6 Tryd.f6 rfl rfl rfl rfl rfl rfl rfl ⟨rfl, rfl, rfl, rfl, rfl⟩ rfl rfl rfl rfl rfl (by kernel_rfl) Tryd.func6 (by kernel_rfl)
    (of_decide_eq_true (by kernel_rfl)) (by unfold Func.isWrapper; first | (rw [if_pos (by decide +kernel)]; kernel_rfl) | (rw [if_neg (by decide +kernel)]; exact ⟨rfl, rfl⟩))
    (fun os started H enc _ => hangulBack_lifted os started H enc)

theorem hangulBack_holds : Rows.HangulBackCardSaid :=
  Claim7.holds_tied_plain_at .later [] [.data] true Rows.hangulBackCard.stood.harness false
    hangulBack_row (fun _ h => by cases h) (by kernel_rfl) (fun _ h => by cases h) hangulBack_row_tie rfl ⟨rfl, rfl⟩ (by kernel_rfl) rfl
    (fun f fn hf hfn => by
      obtain rfl : f = 6 := Option.some.inj ((show Tryd.prog.funcNamed Rows.hangulBackRow.func = some 6 by kernel_rfl).symm.trans hf) |>.symm
      obtain rfl : fn = Tryd.f6 := (Option.some.inj (Tryd.func6.symm.trans hfn)).symm
      exact ⟨by kernel_rfl, fun j t ht => by
        rw [Tryd.params6] at ht
        have hm : t ∈ [21, 21, 21] := by simpa using Array.mem_of_getElem? ht
        have hall : ([21, 21, 21].all fun u => !Tryd.prog.wantsStandIn u) = true := by kernel_rfl
        exact (show Tryd.prog.wantsStandIn t = false by simpa using List.all_eq_true.1 hall t hm)⟩)
    (by kernel_rfl)
#print axioms hangulBack_holds
end Go.Proofs.YtimjggcfkkibbaaDoor

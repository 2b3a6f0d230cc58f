/- UcdRows: for every input the law returns true and it reads as before: which rows lines tell, or which line is wrong, and how, is as the document says. Conditions: the library's tables as the program's text lays them (tied). -/
import Derived.Test.YtajhgbcgbgpcjaaDoorGU
import Derived.Test.YtajhgbcgbgpcjaaDoorGV
import Derived.Test.YtajhgbcgbgpcjaaDoorFT
import Derived.Test.YtajhgbcgbgpcjaaDoorCards
import Derived.ShutString
import Derived.ChangeOld
namespace Go.Proofs.YtajhgbcgbgpcjaaDoor
open Go.ChangeShapes Go.WideShapes Go.ChangeAt Go.WideMaps Go.WideElems Go.RowKit
open Go.ChangeMaps (open_string shut_string)
open Fi Uc

theorem rwsP_sl {w w' : World} {T : TypeId} {x : List Rw × Nat × Int} {e : Ending} (h : RwsP w T x e w') : ∃ A c, e = .returned (.tuple #[.slice A x.1.length c, .int .i64 x.2.1, .int .i64 x.2.2]) ∧ Rws w' A x.1 ∧ Below w.heap.size w w' := by
  obtain ⟨v, l, he, hl, hin, hb⟩ := h
  obtain ⟨A, c, rfl, hr⟩ := hin.rws
  rw [hl] at hr he
  exact ⟨A, c, he, hr, hb⟩
theorem rws_len (s : ByteArray) (_hs : s.size ≤ 100000) : (rwsE s.data.toList).1.length ≤ 4096 := by
  unfold rwsE
  have h1 := (lin_bd s.data.toList).1
  have key : ∀ (l : List (Nat × List UInt8)) (rs : List Rw) (op : Nat), (Uc.run rs op l).1.length ≤ rs.length + l.length := by
    intro l
    induction l with
    | nil => intro rs op; simp [Uc.run]
    | cons x l ih =>
      intro rs op
      have h2 := (stp_len (rs := rs) (op := op) (no := x.1) (t := x.2)).1
      by_cases h3 : (stp rs op x.1 x.2).2.2 = 0
      · rw [run_cons h3]
        have := ih (stp rs op x.1 x.2).1 (stp rs op x.1 x.2).2.1
        simp
        omega
      · rw [run_wrong h3]
        simp
        omega
  have h4 := key (linE s.data.toList).1 [] 0
  simp at h4
  split
  · simp
  · split
    · simp
    · split
      · simp
      · simp; omega
set_option maxRecDepth 100000 in
set_option maxHeartbeats 8000000 in
theorem ucdRows_walk (s : ByteArray) (w : World) (hs : s.size ≤ 9223372036854775807) (hL : Ml w) : Calls Tryd.prog 3 #[.string s] w fun e w' => e = .returned (.bool true) ∧ Below w.heap.size w w' := by
  have hpos := hL.pos
  have HFin := Lib.hid (show ∀ w2 : World, Below w.heap.size w w2 → Calls Tryd.prog 7 #[] w2 fun e w' => e = .returned (.bool true) ∧ Below w2.heap.size w2 w' from fun w2 h => Uc.awake_any w2 (hL.below h hpos))
  by_cases h1 : s.size ≤ 8000
  · have g1 : ¬ (8000 : Int) < s.size := by omega
    have hA := (rows_any s w hL (by omega)).mono fun e w' h => rwsP_sl h
    have hA2 := fun W => (rrows_any s W (by omega)).mono fun e w' h => rwsP_sl h
    have hlen := rws_len s (by omega)
    have hfin := (rws_sure s.data.toList).1
    generalize rwsE s.data.toList = x at *
    obtain ⟨rs, no, er⟩ := x
    simp only at hA hA2 hlen hfin
    have HA := Lib.hid hA
    have HA2 := Lib.hid hA2
    have HFi := Lib.hid hfin
    clear hA hA2 hL hfin
    go_enter Tryd.func3, Tryd.ntmps3
    go_wp2_with fail
    refine HA.out.mono ?_; rintro e w1 ⟨A1, c1, rfl, hi, hb⟩; have N1 := Lib.hid hi; have B1 := Lib.hid hb; clear hi hb
    go_wp2_with fail
    refine (HA2.out _).mono ?_; rintro e w2 ⟨A2, c2, rfl, hi, hb⟩; have N2 := Lib.hid hi; have B2 := Lib.hid hb; have M1 := Lib.hid (N1.out.below hb); clear hi hb
    have D2 := Lib.hid (B1.out.trans (B2.out.mono B1.out.size))
    clear B1 B2 N1
    have e1 : ((no : Int) != no) = false := by simp
    have e2 : (er != er) = false := by simp
    have e3 : ((rs.length : Int) != rs.length) = false := by simp
    go_wp2_with fail
    go_loopw [9] (fun i wr => ∃ k : Nat, i = .int .i64 k ∧ k ≤ rs.length ∧ Hid (Below w2.heap.size w2 wr)) (fun i _ => rs.length - (intOf i).toNat)
    case atStart => exact ⟨0, rfl, by omega, Below.refl _ _⟩
    case round =>
      obtain ⟨k, rfl, hk, HQ⟩ := hrel
      by_cases hlt : k < rs.length
      · obtain ⟨b, off, v, rfl, hb, hv, p0, p1, p2, p3, p4, p5, p6⟩ := (M1.out.below HQ.out) k hlt
        obtain ⟨b2, off2, v2, rfl, hb2, hv2, r0, r1, r2, r3, r4, r5, r6⟩ := (N2.out.below HQ.out) k hlt
        have hin := (HFi.out rs[k] (List.getElem_mem hlt)).into
        generalize rs[k] = y at *
        obtain ⟨f, tt, nm, ct, cl, kd, into⟩ := y
        obtain ⟨A3, c3, rfl, hi3⟩ := hv
        obtain ⟨A4, c4, rfl, hi4⟩ := hv2
        simp only at p0 p1 p2 p3 p4 p5 p6 r0 r1 r2 r3 r4 r5 r6 hi3 hi4 hin
        have g2 : (k : Int) < rs.length := by omega
        have hS := same_any f tt cl ⟨nm.toArray⟩ ⟨ct.toArray⟩ ⟨kd.toArray⟩ A3 A4 c3 c4 into wr.drew (hi3.below (Below.refl _ _).drew) (hi4.below (Below.refl _ _).drew) (by omega)
        have HS := Lib.hid hS
        clear hS hi3 hi4 hin
        go_upto_region 10 with fail
        go_still_tail 8, (by kernel_rfl)
        change wpList _ _ _ _ _ wr.drew
        go_wp2_with (go_at_call 10; refine HS.out.mono ?_; rintro e w4 ⟨rfl, hb4⟩; have B4 := Lib.hid hb4; clear hb4)
        go_roundw
        case rel => exact ⟨k + 1, by go_num, by omega, (HQ.out.drew).trans (B4.out.mono (HQ.out.drew).size)⟩
        case measure => simp [intOf] <;> omega
      · have g2 : ¬ (k : Int) < rs.length := by omega
        have D3 := Lib.hid (D2.out.trans (HQ.out.mono D2.out.size))
        clear HQ
        go_wp2_with fail
        refine (HFin.out _ D3.out).mono ?_
        rintro e w9 ⟨rfl, hb9⟩
        have B9 := Lib.hid (D3.out.trans (hb9.mono D3.out.size))
        clear hb9
        go_wp2_with fail
        go_ret
        exact ⟨rfl, B9.out⟩
  · have g1 : (8000 : Int) < s.size := by omega
    go_enter Tryd.func3, Tryd.ntmps3
    go_wp2_with fail
    refine (HFin.out _ (Below.refl w.heap.size w)).mono ?_
    rintro e w9 ⟨rfl, hb9⟩
    have B9 := Lib.hid ((Below.refl w.heap.size w).trans (hb9.mono (Below.refl w.heap.size w).size))
    clear hb9
    go_wp2_with fail
    go_ret
    exact ⟨rfl, B9.out⟩

set_option maxRecDepth 100000 in
theorem ucdRows_lifted (os : Os) (started : os.Started) (H : Type) (enc : TypeId × Value → H) :
    ReturnsInHanded {} Tryd.checked os 3 .any (fun w args => (Rows.ucdRowsSpec.pre enc Tryd.prog Tryd.f3 [] false w args ∧ laidMetH Tryd.prog laid1 w) ∧ sizedMet enc Tryd.prog Tryd.f3 (OpenSpec.ofChange Rows.ucdRowsSpec) false w args)
      (Rows.ucdRowsSpec.post enc Tryd.prog Tryd.f3 false true false false) := by
  refine change_shaped (C := Tryd.checked) (X := fun w _ => laidMetH Tryd.prog laid1 w) (fun _ _ _ hh h => h.of_heap hh) own started (by kernel_rfl) Tryd.func3
    (ChangeSpec.witness_shaped (enc := enc) (C := Tryd.checked) (os := os) (X := fun w _ => laidMetH Tryd.prog laid1 w) false (World.laidAll Tryd.prog os laid1) #[.string ⟨#[]⟩] 8 (World.laidAll_os _ _ _) (World.shaped_of_ZipB (by kernel_rfl) (by kernel_rfl)) (by kernel_rfl) (by kernel_rfl) (by kernel_rfl) (by rw [MakeChecks.laidMetH_plain _ _ _ (by kernel_rfl)]; exact laidMet_laidAll _ (by kernel_rfl) (by kernel_rfl))) ?_
  intro W base args ds gs before hval0 hW hsz hL hS
  have hval : ∀ (j : Nat) t v, Tryd.f3.params[j]? = some t → args[j]? = some v → Value.okWide Tryd.prog W .any base t v := hval0
  have hW' := hW
  obtain ⟨p, q, hA0, hV, rfl, hfz, hnd⟩ := hW
  have hA : DataW.TrodAll enc Tryd.prog W 0 (fun _ => true) true Tryd.f3.params.toList args.toList ds p := hA0
  rw [Tryd.params3] at hA hval
  obtain ⟨v0, vs0, d0, ds0, p0, q0, hargs, rfl, rfl, h0, r0⟩ := trodAll_cons hA
  obtain ⟨rfl, rfl, rfl⟩ := trodAll_nil r0
  obtain rfl : args = #[v0] := by cases args; simp_all
  obtain ⟨rfl, rfl⟩ := trodVars_none hV
  obtain ⟨s0, rfl, rfl, rfl, m0⟩ := open_string Tryd.underlying9 (hval 0 9 v0 rfl rfl) h0
  clear hA0 hval0
  refine (ucdRows_walk s0 W m0 (ml_of hS)).mono fun e W' ⟨he, bel⟩ => ?_
  subst he
  exact ⟨_, rfl, _, _, _, [], _, [], hW', trodAll_mk1 (shut_bool Tryd.underlying4 _), (trodAll_cons_mk (shut_string Tryd.underlying9 m0) trodAll_mk0), rfl, bel.frame _, fun h => by cases h⟩

theorem ucdRows_row : Rows.UcdRowsSaid :=
  OpenClaim.holds_of_wide 3 Tryd.f3 rfl rfl rfl rfl rfl rfl rfl ⟨rfl, rfl, rfl, rfl, rfl⟩ rfl rfl rfl rfl rfl (by kernel_rfl) Tryd.func3 (by kernel_rfl)
    (of_decide_eq_true (by kernel_rfl)) (by unfold Func.isWrapper; first | (rw [if_pos (by decide +kernel)]; kernel_rfl) | (rw [if_neg (by decide +kernel)]; exact ⟨rfl, rfl⟩))
    (fun os started H enc _ => ucdRows_lifted os started H enc)

theorem ucdRows_holds : Rows.UcdRowsCardSaid :=
  Claim7.holds_tied_plain_at .later [] [.data, .pinned] true Rows.ucdRowsCard.stood.harness false
    ucdRows_row (fun _ h => by cases h) (by kernel_rfl) (fun _ h => by cases h) ucdRows_row_tie rfl ⟨rfl, rfl⟩ (by kernel_rfl) rfl
    (fun f fn hf hfn => by
      obtain rfl : f = 3 := Option.some.inj ((show Tryd.prog.funcNamed Rows.ucdRowsRow.func = some 3 by kernel_rfl).symm.trans hf) |>.symm
      obtain rfl : fn = Tryd.f3 := (Option.some.inj (Tryd.func3.symm.trans hfn)).symm
      exact ⟨by kernel_rfl, fun j t ht => by
        rw [Tryd.params3] at ht
        have hm : t ∈ [9] := by simpa using Array.mem_of_getElem? ht
        have hall : ([9].all fun u => !Tryd.prog.wantsStandIn u) = true := by kernel_rfl
        exact (show Tryd.prog.wantsStandIn t = false by simpa using List.all_eq_true.1 hall t hm)⟩)
    (by kernel_rfl)
#print axioms ucdRows_holds
end Go.Proofs.YtajhgbcgbgpcjaaDoor

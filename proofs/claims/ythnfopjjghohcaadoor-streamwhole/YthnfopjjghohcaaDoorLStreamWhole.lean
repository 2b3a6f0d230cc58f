/- StreamWhole: for every kind, policy, guess and string the law returns true and all read as before: which characters bytes are that are all there, which kind they tell, and where they are none. Conditions: the tables 'shapes' and 'layouts' as the program's text lays them (tied). -/
import Derived.Test.YthnfopjjghohcaaDoorTR
import Derived.Test.YthnfopjjghohcaaDoorTO
import Derived.Test.YthnfopjjghohcaaDoorSRd
import Derived.Test.YthnfopjjghohcaaDoorCards
import Derived.ShutString
import Derived.ChangeOld
namespace Go.Proofs.YthnfopjjghohcaaDoor
open Go.ChangeShapes Go.WideShapes Go.ChangeAt Go.WideMaps Go.WideElems Go.RowKit
open Go.ChangeMaps (open_string shut_string)
open St (Tabs)

theorem may_iff (k q : Int) : St.mayB k q = true ↔ (1 ≤ k ∧ k ≤ 5 ∧ (q = 1 ∨ q = 2 ∨ q = 3)) := by
  unfold St.mayB
  rw [decide_eq_true_eq]
  omega
set_option maxRecDepth 100000 in
set_option maxHeartbeats 2000000 in
theorem streamWhole_long (k q : Int) (g : Bool) (s : ByteArray) (w : World) (h : 400 < s.size) (hT : Tabs w) : Calls Tryd.prog 3 #[.agg #[.int .i64 k, .int .i64 q, .bool g], .string s] w fun e w' => e = .returned (.bool true) ∧ Below w.heap.size w w' := by
  have hpos := hT.pos
  have HFin := Lib.hid (show ∀ w2 : World, Below w.heap.size w w2 → Tabs w2 from fun w2 h => hT.below h hpos)
  have B0 := Lib.hid (Below.refl w.heap.size w)
  have g1 : (400 : Int) < s.size := by omega
  have HA := Lib.hid (fun W hW => St.awake_any W hW)
  have BX := Lib.hid (B0.out.alloc (Nat.le_refl _) (.cells #[.int .i64 k, .int .i64 q, .bool g] 23))
  clear hT
  go_enter Tryd.func3, Tryd.ntmps3
  go_wp2_with (go_at_call 9; refine (HA.out _ (HFin.out _ BX.out)).mono ?_; rintro e w9 ⟨rfl, hb9⟩; have B9 := Lib.hid (BX.out.trans (hb9.mono BX.out.size)); clear hb9)
  go_ret
  exact ⟨rfl, B9.out⟩
set_option maxRecDepth 100000 in
set_option maxHeartbeats 2000000 in
theorem streamWhole_no (k q : Int) (g : Bool) (s : ByteArray) (w : World) (h : s.size ≤ 400) (hm : ¬ (1 ≤ k ∧ k ≤ 5 ∧ (q = 1 ∨ q = 2 ∨ q = 3))) (hT : Tabs w) : Calls Tryd.prog 3 #[.agg #[.int .i64 k, .int .i64 q, .bool g], .string s] w fun e w' => e = .returned (.bool true) ∧ Below w.heap.size w w' := by
  have hpos := hT.pos
  have HFin := Lib.hid (show ∀ w2 : World, Below w.heap.size w w2 → Tabs w2 from fun w2 h => hT.below h hpos)
  have B0 := Lib.hid (Below.refl w.heap.size w)
  have g1 : ¬ (400 : Int) < s.size := by omega
  have HA := Lib.hid (fun W hW => St.awake_any W hW)
  have BX := Lib.hid (B0.out.alloc (Nat.le_refl _) (.cells #[.int .i64 k, .int .i64 q, .bool g] 23))
  have HW := Lib.hid (fun W hW => St.whole_no k q g s W hW hm)
  have HM := Lib.hid (fun W => St.may_r k q W)
  rw [show St.mayB k q = false from by rw [← Bool.not_eq_true, may_iff]; exact hm] at HM
  clear hT hm
  go_enter Tryd.func3, Tryd.ntmps3
  go_wp2_with (first
    | (go_at_call 10; refine (HW.out _ (HFin.out _ BX.out)).mono ?_; rintro e w1 ⟨rfl, hb1⟩; have B1 := Lib.hid (BX.out.trans (hb1.mono BX.out.size)); have c0 := hb1.cell (p := ⟨w.heap.size, 0, none⟩) (by simp); have c1 := hb1.cell (p := ⟨w.heap.size, 1, none⟩) (by simp); simp at c0 c1; clear hb1)
    | (go_at_call 11; refine (HM.out _).mono ?_; rintro e w' ⟨rfl, rfl⟩)
    | (go_at_call 9; refine (HA.out _ (HFin.out _ B1.out)).mono ?_; rintro e w9 ⟨rfl, hb9⟩; have B9 := Lib.hid (B1.out.trans (hb9.mono B1.out.size)); clear hb9))
  go_ret
  exact ⟨rfl, B9.out⟩
set_option maxRecDepth 100000 in
set_option maxHeartbeats 4000000 in
theorem streamWhole_in (k : Nat) (q : Int) (g : Bool) (s : ByteArray) (w : World) (h : s.size ≤ 400) (h1 : 1 ≤ k) (h5 : k ≤ 5) (hq : q = 1 ∨ q = 2 ∨ q = 3) (hT : Tabs w) : Calls Tryd.prog 3 #[.agg #[.int .i64 (k : Int), .int .i64 q, .bool g], .string s] w fun e w' => e = .returned (.bool true) ∧ Below w.heap.size w w' := by
  have hpos := hT.pos
  have HFin := Lib.hid (show ∀ w2 : World, Below w.heap.size w w2 → Tabs w2 from fun w2 h => hT.below h hpos)
  have B0 := Lib.hid (Below.refl w.heap.size w)
  have g1 : ¬ (400 : Int) < s.size := by omega
  have HA := Lib.hid (fun W hW => St.awake_any W hW)
  have BX := Lib.hid (B0.out.alloc (Nat.le_refl _) (.cells #[.int .i64 (k : Int), .int .i64 q, .bool g] 23))
  have HW := Lib.hid (fun W hW => St.whole_any k q g s W hW h1 h5 hq (by omega))
  have HR := Lib.hid (fun W => St.rwhole_any k q g s W h1 h5 hq (by omega))
  have HM := Lib.hid (fun W => St.may_r (k : Int) q W)
  rw [show St.mayB (k : Int) q = true from by rw [may_iff]; exact ⟨by omega, by omega, hq⟩] at HM
  have hwl := Dg.whole_lens k q g (bs s)
  rw [bs_len] at hwl
  generalize Dg.whole k q g (bs s) = dd at *
  generalize Dg.knd k g (bs s) = kd at *
  have hl1 : dd.1.length ≤ 100000 := by omega
  have hl2 : dd.2.1.length ≤ 100000 := by omega
  clear hT hwl hq
  go_enter Tryd.func3, Tryd.ntmps3
  go_wp2_with (first
    | (go_at_call 10; refine (HW.out _ (HFin.out _ BX.out)).mono ?_; rintro e w1 ⟨A1, c1', A2, c2', rfl, ho1, ho2, hi1, hf1, hb1⟩; have B1 := Lib.hid (BX.out.trans (hb1.mono BX.out.size)); have I1 := Lib.hid hi1; have F1 := Lib.hid hf1; have c0 := hb1.cell (p := ⟨w.heap.size, 0, none⟩) (by simp); have c1 := hb1.cell (p := ⟨w.heap.size, 1, none⟩) (by simp); have c2 := hb1.cell (p := ⟨w.heap.size, 2, none⟩) (by simp); simp at c0 c1 c2; clear hb1 ho1 ho2 hi1 hf1)
    | (go_at_call 11; refine (HM.out _).mono ?_; rintro e w' ⟨rfl, rfl⟩)
    | (go_at_call 12; refine (HR.out _).mono ?_; rintro e w2 ⟨A3, c3', A4, c4', rfl, hi2, hf2, hb2⟩; have B2 := Lib.hid (B1.out.trans (hb2.mono B1.out.size)); have I1' := Lib.hid (I1.out.below hb2); have F1' := Lib.hid (F1.out.below hb2); have I2 := Lib.hid hi2; have F2 := Lib.hid hf2; clear hb2 hi2 hf2)
    | (go_at_call 13; refine (runes_any A1 A3 c1' c3' dd.1 dd.1 _ I1'.out I2.out hl1 hl1).mono ?_; rintro e w3 ⟨rfl, hb3⟩; rw [show decide (dd.1 = dd.1) = true from by simp]; have B3 := Lib.hid (B2.out.trans (hb3.mono B2.out.size)); have F3 := Lib.hid (F1'.out.below hb3); have F4 := Lib.hid (F2.out.below hb3); clear hb3)
    | (go_at_call 14; refine (faults_any A2 A4 c2' c4' dd.2.1 dd.2.1 _ F3.out F4.out hl2 hl2).mono ?_; rintro e w4 ⟨rfl, hb4⟩; rw [show decide (dd.2.1 = dd.2.1) = true from by simp]; have B4 := Lib.hid (B3.out.trans (hb4.mono B3.out.size)); clear hb4)
    | (go_at_call 9; refine (HA.out _ (HFin.out _ B4.out)).mono ?_; rintro e w9 ⟨rfl, hb9⟩; have B9 := Lib.hid (B4.out.trans (hb9.mono B4.out.size)); clear hb9))
  go_ret
  exact ⟨rfl, B9.out⟩
theorem streamWhole_walk (k q : Int) (g : Bool) (s : ByteArray) (w : World) (hs : s.size ≤ 9223372036854775807) (hT : Tabs w) : Calls Tryd.prog 3 #[.agg #[.int .i64 k, .int .i64 q, .bool g], .string s] w fun e w' => e = .returned (.bool true) ∧ Below w.heap.size w w' := by
  by_cases h : s.size ≤ 400
  · by_cases hm : 1 ≤ k ∧ k ≤ 5 ∧ (q = 1 ∨ q = 2 ∨ q = 3)
    · obtain ⟨n, rfl⟩ : ∃ n : Nat, k = n := ⟨k.toNat, by omega⟩
      exact streamWhole_in n q g s w h (by omega) (by omega) hm.2.2 hT
    · exact streamWhole_no k q g s w h hm hT
  · exact streamWhole_long k q g s w (by omega) hT

set_option maxRecDepth 100000 in
theorem streamWhole_lifted (os : Os) (started : os.Started) (H : Type) (enc : TypeId × Value → H) :
    ReturnsInHanded {} Tryd.checked os 3 .any (fun w args => (Rows.streamWholeSpec.pre enc Tryd.prog Tryd.f3 [] false w args ∧ laidMetH Tryd.prog laid1 w) ∧ sizedMet enc Tryd.prog Tryd.f3 (OpenSpec.ofChange Rows.streamWholeSpec) false w args)
      (Rows.streamWholeSpec.post enc Tryd.prog Tryd.f3 false true false false) := by
  refine returnsInHanded_of_change_and (C := Tryd.checked) (X := fun w _ => laidMetH Tryd.prog laid1 w) (fun _ _ _ hh h => h.of_heap hh) own started (by kernel_rfl) Tryd.func3
    (ChangeSpec.witness_shaped (enc := enc) (C := Tryd.checked) (os := os) (X := fun w _ => laidMetH Tryd.prog laid1 w) false (World.doorLaid Tryd.prog 400 os) #[.agg #[.int .i64 0, .int .i64 0, .bool false], .string ⟨#[]⟩] 8 rfl (World.shaped_of_RefB (by kernel_rfl) (by kernel_rfl)) (by kernel_rfl) (by kernel_rfl) (by kernel_rfl) (door_met os _)) ?_
  intro W base args ds gs before hval0 hW _ hsz hL _
  have hval : ∀ (j : Nat) t v, Tryd.f3.params[j]? = some t → args[j]? = some v → Value.okWide Tryd.prog W .any base t v := hval0
  have hW' := hW
  obtain ⟨p, q, hA0, hV, rfl, hfz, hnd⟩ := hW
  have hA : DataW.TrodAll enc Tryd.prog W 0 (fun _ => true) true Tryd.f3.params.toList args.toList ds p := hA0
  rw [Tryd.params3] at hA hval
  obtain ⟨v0, vs0, d0, ds0, p0, q0, hargs, rfl, rfl, h0, r0⟩ := trodAll_cons hA
  obtain ⟨v1, vs1, d1, ds1, p1, q1, rfl, rfl, rfl, h1, r1⟩ := trodAll_cons r0
  obtain ⟨rfl, rfl, rfl⟩ := trodAll_nil r1
  obtain rfl : args = #[v0, v1] := by cases args; simp_all
  obtain ⟨rfl, rfl⟩ := trodVars_none hV
  obtain ⟨cs0, rfl, _⟩ := okWide_struct Tryd.underlying23 (hval 0 23 v0 rfl rfl)
  have k0 := h0
  have lt0 : ∀ x ∈ p0, x.block < W.heap.size := by obtain ⟨m, hm⟩ := k0; exact DataW.trod_lt m _ _ _ hm
  obtain ⟨a0, b0, c0, rfl⟩ := how_of_trod h0
  obtain ⟨s1, rfl, rfl, rfl, m1⟩ := open_string Tryd.underlying9 (hval 1 9 v1 rfl rfl) h1
  clear hA0 hval0
  refine (streamWhole_walk a0 b0 c0 s1 W m1 (of_laid hL)).mono fun e W' ⟨he, bel⟩ => ?_
  subst he
  exact ⟨_, rfl, _, _, _, [], _, [], hW', trodAll_mk1 (shut_bool Tryd.underlying4 _), (trodAll_cons_mk (Below.trod laidOut (by kernel_rfl) (of_decide_eq_true (by kernel_rfl)) k0 bel lt0) (trodAll_cons_mk (shut_string Tryd.underlying9 m1) trodAll_mk0)), rfl, bel.frame _, fun h => by cases h⟩

theorem streamWhole_row : Rows.StreamWholeSaid :=
  OpenClaim.holds_of_wide 3 Tryd.f3 rfl rfl rfl rfl rfl rfl rfl ⟨rfl, rfl, rfl, rfl, rfl⟩ rfl rfl rfl rfl rfl (by kernel_rfl) Tryd.func3 (by kernel_rfl)
    (of_decide_eq_true (by kernel_rfl)) (by unfold Func.isWrapper; first | (rw [if_pos (by decide +kernel)]; kernel_rfl) | (rw [if_neg (by decide +kernel)]; exact ⟨rfl, rfl⟩))
    (fun os started H enc _ => streamWhole_lifted os started H enc)

theorem streamWhole_holds : Rows.StreamWholeCardSaid :=
  Claim7.holds_tied_plain_at .later [] [.data, .data] true Rows.streamWholeCard.stood.harness false
    streamWhole_row (fun _ h => by cases h) (by kernel_rfl) (fun _ h => by cases h) streamWhole_row_tie rfl ⟨rfl, rfl⟩ (by kernel_rfl) rfl
    (fun f fn hf hfn => by
      obtain rfl : f = 3 := Option.some.inj ((show Tryd.prog.funcNamed Rows.streamWholeRow.func = some 3 by kernel_rfl).symm.trans hf) |>.symm
      obtain rfl : fn = Tryd.f3 := (Option.some.inj (Tryd.func3.symm.trans hfn)).symm
      exact ⟨by kernel_rfl, fun j t ht => by
        rw [Tryd.params3] at ht
        have hm : t ∈ [23, 9] := by simpa using Array.mem_of_getElem? ht
        have hall : ([23, 9].all fun u => !Tryd.prog.wantsStandIn u) = true := by kernel_rfl
        exact (show Tryd.prog.wantsStandIn t = false by simpa using List.all_eq_true.1 hall t hm)⟩)
    (by kernel_rfl)
#print axioms streamWhole_holds
end Go.Proofs.YthnfopjjghohcaaDoor

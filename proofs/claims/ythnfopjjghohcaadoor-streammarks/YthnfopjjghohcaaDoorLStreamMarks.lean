/- StreamMarks: for every two kinds, every policy and string the law returns true and all read as before: behind a kind's mark bytes are read by that kind, whichever one was told, and without a guess a mark is a character. Conditions: the tables 'shapes' and 'layouts' as the program's text lays them (tied). -/
import Derived.Test.YthnfopjjghohcaaDoorLMa
import Derived.Test.YthnfopjjghohcaaDoorLMb
namespace Go.Proofs.YthnfopjjghohcaaDoor
open Go.ChangeShapes Go.WideShapes Go.ChangeAt Go.WideMaps Go.WideElems Go.RowKit
open Go.ChangeMaps (open_string shut_string)
open St (Tabs)

theorem streamMarks_walk (k0 k : Int) (q : Int) (s : ByteArray) (w : World) (_hm : (Lit.int IntKind.i64 q).wf = true) (hs : s.size ≤ 9223372036854775807) (hT : Tabs w) : Calls Tryd.prog 6 #[.agg #[.int .i64 k0, .int .i64 k], .int .i64 q, .string s] w fun e w' => e = .returned (.bool true) ∧ Below w.heap.size w w' := by
  by_cases c0 : k0 < 1
  · exact sm0 k0 k q s w hs c0 hT
  by_cases c1 : 5 < k0
  · exact sm1 k0 k q s w hs (by omega) c1 hT
  by_cases c2 : k < 1
  · exact sm2 k0 k q s w hs (by omega) (by omega) c2 hT
  by_cases c3 : 5 < k
  · exact sm3 k0 k q s w hs (by omega) (by omega) (by omega) c3 hT
  by_cases c4 : q < 1
  · exact sm4 k0 k q s w hs (by omega) (by omega) (by omega) (by omega) c4 hT
  by_cases c5 : 3 < q
  · exact sm5 k0 k q s w hs (by omega) (by omega) (by omega) (by omega) (by omega) c5 hT
  by_cases c6 : 300 < s.size
  · exact sm6 k0 k q s w hs (by omega) (by omega) (by omega) (by omega) (by omega) (by omega) c6 hT
  by_cases c7 : ∃ hp : 0 < s.size, s[0].toNat = 0
  · obtain ⟨hp, h⟩ := c7
    exact sm7 k0 k q s w hs (by omega) (by omega) (by omega) (by omega) (by omega) (by omega) (by omega) hp h hT
  obtain ⟨n0, rfl⟩ : ∃ n : Nat, k0 = n := ⟨k0.toNat, by omega⟩
  obtain ⟨n, rfl⟩ : ∃ n : Nat, k = n := ⟨k.toNat, by omega⟩
  by_cases hp : 0 < s.size
  · exact sm_inA n0 n q s w hs (by omega) (by omega) (by omega) (by omega) (by omega) (by omega) (fun hp h => c7 ⟨hp, h⟩) hp hT
  · exact sm_inB n0 n q s w hs (by omega) (by omega) (by omega) (by omega) (by omega) (by omega) (fun hp h => c7 ⟨hp, h⟩) hp hT

set_option maxRecDepth 100000 in
theorem streamMarks_lifted (os : Os) (started : os.Started) (H : Type) (enc : TypeId × Value → H) :
    ReturnsInHanded {} Tryd.checked os 6 .any (fun w args => (Rows.streamMarksSpec.pre enc Tryd.prog Tryd.f6 [] false w args ∧ laidMetH Tryd.prog laid1 w) ∧ sizedMet enc Tryd.prog Tryd.f6 (OpenSpec.ofChange Rows.streamMarksSpec) false w args)
      (Rows.streamMarksSpec.post enc Tryd.prog Tryd.f6 false true false false) := by
  refine returnsInHanded_of_change_and (C := Tryd.checked) (X := fun w _ => laidMetH Tryd.prog laid1 w) (fun _ _ _ hh h => h.of_heap hh) own started (by kernel_rfl) Tryd.func6
    (ChangeSpec.witness_shaped (enc := enc) (C := Tryd.checked) (os := os) (X := fun w _ => laidMetH Tryd.prog laid1 w) false (World.doorLaid Tryd.prog 400 os) #[.agg #[.int .i64 0, .int .i64 0], .int .i64 0, .string ⟨#[]⟩] 8 rfl (World.shaped_of_RefB (by kernel_rfl) (by kernel_rfl)) (by kernel_rfl) (by kernel_rfl) (by kernel_rfl) (door_met os _)) ?_
  intro W base args ds gs before hval0 hW _ hsz hL _
  have hval : ∀ (j : Nat) t v, Tryd.f6.params[j]? = some t → args[j]? = some v → Value.okWide Tryd.prog W .any base t v := hval0
  have hW' := hW
  obtain ⟨p, q, hA0, hV, rfl, hfz, hnd⟩ := hW
  have hA : DataW.TrodAll enc Tryd.prog W 0 (fun _ => true) true Tryd.f6.params.toList args.toList ds p := hA0
  rw [Tryd.params6] at hA hval
  obtain ⟨v0, vs0, d0, ds0, p0, q0, hargs, rfl, rfl, h0, r0⟩ := trodAll_cons hA
  obtain ⟨v1, vs1, d1, ds1, p1, q1, rfl, rfl, rfl, h1, r1⟩ := trodAll_cons r0
  obtain ⟨v2, vs2, d2, ds2, p2, q2, rfl, rfl, rfl, h2, r2⟩ := trodAll_cons r1
  obtain ⟨rfl, rfl, rfl⟩ := trodAll_nil r2
  obtain rfl : args = #[v0, v1, v2] := by cases args; simp_all
  obtain ⟨rfl, rfl⟩ := trodVars_none hV
  obtain ⟨cs0, rfl⟩ : ∃ cs, v0 = .agg cs := by
    have hh := hval 0 48 v0 rfl rfl
    simp only [Value.okWide, Tryd.underlying48] at hh
    obtain ⟨cs, h1, _⟩ := hh
    exact ⟨cs, h1⟩
  have k0 := h0
  have lt0 : ∀ x ∈ p0, x.block < W.heap.size := by obtain ⟨m, hm⟩ := k0; exact DataW.trod_lt m _ _ _ hm
  obtain ⟨a0, b0, rfl⟩ := two_of_trod h0
  obtain ⟨a1, rfl, rfl, rfl, m1⟩ := open_int Tryd.underlying3 (hval 1 3 v1 rfl rfl) h1
  obtain ⟨s2, rfl, rfl, rfl, m2⟩ := open_string Tryd.underlying9 (hval 2 9 v2 rfl rfl) h2
  clear hA0 hval0
  refine (streamMarks_walk a0 b0 a1 s2 W m1 m2 (of_laid hL)).mono fun e W' ⟨he, bel⟩ => ?_
  subst he
  exact ⟨_, rfl, _, _, _, [], _, [], hW', trodAll_mk1 (shut_bool Tryd.underlying4 _), (trodAll_cons_mk (Below.trod laidOut (by kernel_rfl) (of_decide_eq_true (by kernel_rfl)) k0 bel lt0) (trodAll_cons_mk (shut_int Tryd.underlying3 m1) (trodAll_cons_mk (shut_string Tryd.underlying9 m2) trodAll_mk0))), rfl, bel.frame _, fun h => by cases h⟩

theorem streamMarks_row : Rows.StreamMarksSaid :=
  OpenClaim.holds_of_wide 6 Tryd.f6 rfl rfl rfl rfl rfl rfl rfl ⟨rfl, rfl, rfl, rfl, rfl⟩ rfl rfl rfl rfl rfl (by kernel_rfl) Tryd.func6 (by kernel_rfl)
    (of_decide_eq_true (by kernel_rfl)) (by unfold Func.isWrapper; first | (rw [if_pos (by decide +kernel)]; kernel_rfl) | (rw [if_neg (by decide +kernel)]; exact ⟨rfl, rfl⟩))
    (fun os started H enc _ => streamMarks_lifted os started H enc)

theorem streamMarks_holds : Rows.StreamMarksCardSaid :=
  Claim7.holds_tied_plain_at .later [] [.data, .data] true Rows.streamMarksCard.stood.harness false
    streamMarks_row (fun _ h => by cases h) (by kernel_rfl) (fun _ h => by cases h) streamMarks_row_tie rfl ⟨rfl, rfl⟩ (by kernel_rfl) rfl
    (fun f fn hf hfn => by
      obtain rfl : f = 6 := Option.some.inj ((show Tryd.prog.funcNamed Rows.streamMarksRow.func = some 6 by kernel_rfl).symm.trans hf) |>.symm
      obtain rfl : fn = Tryd.f6 := (Option.some.inj (Tryd.func6.symm.trans hfn)).symm
      exact ⟨by kernel_rfl, fun j t ht => by
        rw [Tryd.params6] at ht
        have hm : t ∈ [48, 3, 9] := by simpa using Array.mem_of_getElem? ht
        have hall : ([48, 3, 9].all fun u => !Tryd.prog.wantsStandIn u) = true := by kernel_rfl
        exact (show Tryd.prog.wantsStandIn t = false by simpa using List.all_eq_true.1 hall t hm)⟩)
    (by kernel_rfl)
#print axioms streamMarks_holds
end Go.Proofs.YthnfopjjghohcaaDoor

/- WideBack: for every kind, every list of numbers and every string the law returns true and all read as before: Decode of Encode is the characters, and Encode of what was decoded the bytes. Conditions: the table 'layouts' as the program's text lays it (tied). -/
import Derived.Test.YtohjkpdelopknaaDoorR
import Derived.Test.YtohjkpdelopknaaDoorY
import Derived.IntWalk
import Derived.Test.YtohjkpdelopknaaDoorCards
import Derived.ShutString
import Derived.ChangeOld
namespace Go.Proofs.YtohjkpdelopknaaDoor
open Go.ChangeShapes Go.WideShapes Go.ChangeAt Go.WideMaps Go.WideElems Go.RowKit
open Go.ChangeMaps (open_string shut_string)

theorem back_case (k : Nat) (s : ByteArray) (m : List Int) (fs : List (Nat × Nat)) (d : Int) (h : dec k 1 0 (bs s) = (m, fs, d)) :
    (d = 0 ∧ fs = [] ∧ strB (chL k m) = s) ∨ (d = 17 ∧ ∃ x1 x2, fs = [(x1, x2)] ∧ x1 = (strB (chL k m)).size ∧ 1 ≤ x2 ∧ x2 ≤ 4 ∧ x1 + x2 ≤ s.size ∧ strB (chL k m) = s.extract 0 (strB (chL k m)).size) := by
  have hb := dec_back0 k (bs s) (bs_B s)
  rw [h] at hb
  by_cases hd : d = 0
  · obtain ⟨h1, h2⟩ := hb.ok hd
    exact .inl ⟨hd, h1, str_of_bs s _ h2.symm⟩
  · obtain ⟨h0, n, h1, h2, h3, h4, h5⟩ := hb.bad hd
    refine .inr ⟨h0, _, n, h1, ?_, h2, h3, ?_, ?_⟩
    · rw [strB_size]; simp
    · rw [bs_len] at h4; simpa using h4
    · rw [strB_size]
      exact str_of_bs _ _ (by rw [bs_ext, List.drop_zero, Nat.sub_zero]; exact h5.symm)

set_option maxRecDepth 100000 in
set_option maxHeartbeats 4000000 in
theorem wideBack_in (k : Nat) (k1 : 1 ≤ k) (k4 : k ≤ 4) (A : Option Addr) (c : Nat) (l : List Int) (s : ByteArray) (w : World) (hs1 : l.length ≤ 200) (hs2 : s.size ≤ 400) (hl : Ints .i32 w A l) (hT : Tab w) : Calls Tryd.prog 7 #[.int .i64 (k : Int), .slice A l.length c, .string s] w fun e w' => e = .returned (.bool true) ∧ Below w.heap.size w w' := by
  have hpos := hT.pos
  have HFin := Lib.hid (show ∀ w2 : World, Below w.heap.size w w2 → Tab w2 from fun w2 h => hT.below h hpos)
  have B0 := Lib.hid (Below.refl w.heap.size w)
  have HL := Lib.hid hl
  clear hT hl
  have g1 : ¬ (200 : Int) < l.length := by omega
  have g2 : ¬ (400 : Int) < s.size := by omega
  have g3 : ¬ (k : Int) < 1 := by omega
  have g4 : ¬ (4 : Int) < k := by omega
  obtain ⟨⟨m, fs, d⟩, hd⟩ : ∃ x, dec k 1 0 (bs s) = x := ⟨_, rfl⟩
  have HCase := Lib.hid (back_case k s m fs d hd)
  have hsc : m.all scal = true := by have := (dec_back0 k (bs s) (bs_B s)).sc; rw [hd] at this; exact this
  have hml : m.length ≤ 100000 := by
    have := dec_lens k 1 (bs s).length 0 (bs s) (Nat.le_refl _)
    rw [hd, bs_len] at this
    simp only at this
    omega
  have HEm := Lib.hid (encV_yes k m hsc)
  have HD := Lib.hid hd
  generalize strB (chL k m) = u at HEm HCase
  clear hd hsc
  cases ha : l.all scal
  · have HE : Hid (encV k l = .tuple #[.string ⟨#[]⟩, .int .i64 11]) := by rw [encV, if_neg (by rw [ha]; decide)]; exact rfl
    clear ha
    go_enter Tryd.func7, Tryd.ntmps7
    go_wp2_with fail
    refine (encode_any k A c l _ (HFin.out _ B0.out) k1 k4 HL.out (by omega)).mono ?_
    rw [HE.out]
    rintro e w1 ⟨rfl, hb1⟩
    have BX := Lib.hid hb1
    clear hb1
    go_wp2_with fail
    refine (decode_one k k1 k4 1 (.inl rfl) s _ (HFin.out _ BX.out) (by omega)).mono ?_
    rw [HD.out]
    rintro e w5 ⟨A5, c5, A6, c6, rfl, -, -, hi5, hf5, hb5⟩
    have B5 := Lib.hid (BX.out.trans (hb5.mono BX.out.size))
    have HI5 := Lib.hid hi5
    have HF5 := Lib.hid hf5
    clear hb5 hi5 hf5
    go_wp2_with fail
    refine (encode_any k A5 c5 m _ (HFin.out _ B5.out) k1 k4 HI5.out (by omega)).mono ?_
    rw [HEm.out]
    rintro e w6 ⟨rfl, hb6⟩
    have B6 := Lib.hid (B5.out.trans (hb6.mono B5.out.size))
    have HF6 := Lib.hid (HF5.out.below hb6)
    clear hb6
    rcases HCase.out with ⟨q1, q2, q3⟩ | ⟨q1, x1, x2, q2, q3, q4, q5, q6, q7⟩
    · have e1 : (d == 0) = true := by simp [q1]
      have e2 : ((fs.length : Int) == 0) = true := by simp [q2]
      have e3 : (u.toList == s.toList) = true := by rw [q3]; simp
      clear q1 q2 q3
      go_wp2_with fail
      refine (awake_any _ (HFin.out _ B6.out)).mono ?_
      rintro e w7 ⟨rfl, hb7⟩
      have B7 := Lib.hid (B6.out.trans (hb7.mono B6.out.size))
      clear hb7
      go_wp2
      go_ret
      exact ⟨rfl, B7.out⟩
    · subst q1
      subst q2
      obtain ⟨b, off, rfl, hbl, hc1, hc2⟩ := HF6.out 0 (by simp)
      simp only [Nat.zero_mul, Nat.add_zero, List.getElem_cons_zero] at hc1 hc2
      have e1 : ((x1 : Int) == (u.size : Int)) = true := by simp [q3]
      have e3 : (u.toList == (s.extract 0 u.size).toList) = true := by rw [← q7]; simp
      have e4 : (1 : Int) ≤ x2 := by omega
      have e6 : (x1 : Int) + x2 ≤ s.size := by omega
      have e7 : u.size ≤ s.size := by omega
      have e8 : IntKind.i64.wrap ((x1 : Int) + x2) = (x1 : Int) + x2 := IntWalk.i64_in _ (by omega)
      have e9 : decide ((x1 : Int) + x2 ≤ (s.size : Int)) = true := by simp; omega
      have Q7 := Lib.hid q7
      clear q7 q3 q4 q5 q6
      rw [show (([(x1, x2)] : List (Nat × Nat)).length) = 1 from rfl]
      go_wp2_with fail
      go_region_held3 (fun w' => w'.cell? ⟨b, off, none⟩ = some (.int .i64 (x1 : Int)) ∧ w'.cell? ⟨b, off + 1, none⟩ = some (.int .i64 (x2 : Int)))
        (first
          | go_keep
          | (refine ⟨?_, ?_⟩
             · (rw [hb7.cell (p := ⟨b, off, none⟩) (by simpa using hbl)]; simpa using hc1)
             · (rw [hb7.cell (p := ⟨b, off + 1, none⟩) (by simpa using hbl)]; simpa using hc2)))
        ((go_at_call 11; refine (awake_any _ (by exact HFin.out _ B6.out.drew)).mono ?_; rintro e w7 ⟨rfl, hb7⟩; have B7 := Lib.hid (B6.out.drew.trans (hb7.mono (by simpa using B6.out.size)))))
      have B8 := Lib.hid B7.out
      clear e8 e9
      go_wp2
      go_ret
      exact ⟨rfl, B8.out⟩
  · have HE := Lib.hid (encV_yes k l ha)
    have hdl := dec_enc k k4 1 l 0 ha
    have hB := bs_strB _ (chL_B k l)
    have hcw : cutK k (bs (strB (chL k l))) = (strB (chL k l)).size := by
      rw [cut_whole k _ 0 _ (Nat.le_refl _) (by rw [hB, hdl]), bs_len]
    rw [← hB] at hdl
    have htz : (strB (chL k l)).size ≤ 800 := by rw [strB_size]; have := chL_le k k4 l; omega
    generalize strB (chL k l) = t at *
    have HCW := Lib.hid hcw
    have HDL := Lib.hid hdl
    clear hB hcw hdl ha
    have htt : ((t.size : Int) != (t.size : Int)) = false := by simp
    go_enter Tryd.func7, Tryd.ntmps7
    go_wp2_with fail
    refine (encode_any k A c l _ (HFin.out _ B0.out) k1 k4 HL.out (by omega)).mono ?_
    rw [HE.out]
    rintro e w1 ⟨rfl, hb1⟩
    have B1 := Lib.hid hb1
    clear hb1
    go_wp2_with fail
    refine (decode_one k k1 k4 1 (.inl rfl) t _ (HFin.out _ B1.out) (by omega)).mono ?_
    rw [HDL.out]
    rintro e w2 ⟨A2, c2, A3, c3, rfl, -, -, hi2, hf2, hb2⟩
    have B2 := Lib.hid (B1.out.trans (hb2.mono B1.out.size))
    have HI2 := Lib.hid hi2
    clear hb2 hi2 hf2
    rw [show (([] : List (Nat × Nat)).length) = 0 from rfl]
    go_wp2_with fail
    refine (cut_any k t _ (HFin.out _ B2.out) k1 k4 (by omega)).mono ?_
    rw [HCW.out]
    rintro e w3 ⟨rfl, hb3⟩
    have B3 := Lib.hid (B2.out.trans (hb3.mono B2.out.size))
    have HI3 := Lib.hid (HI2.out.below hb3)
    clear hb3
    go_wp2_with fail
    refine (runes_any A2 A c2 c l l _ HI3.out (HL.out.below B3.out) (by omega) (by omega)).mono ?_
    rintro e w4 ⟨rfl, hb4⟩
    rw [show decide (l = l) = true from by simp]
    have BX := Lib.hid (B3.out.trans (hb4.mono B3.out.size))
    clear hb4
    go_wp2_with fail
    refine (decode_one k k1 k4 1 (.inl rfl) s _ (HFin.out _ BX.out) (by omega)).mono ?_
    rw [HD.out]
    rintro e w5 ⟨A5, c5, A6, c6, rfl, -, -, hi5, hf5, hb5⟩
    have B5 := Lib.hid (BX.out.trans (hb5.mono BX.out.size))
    have HI5 := Lib.hid hi5
    have HF5 := Lib.hid hf5
    clear hb5 hi5 hf5
    go_wp2_with fail
    refine (encode_any k A5 c5 m _ (HFin.out _ B5.out) k1 k4 HI5.out (by omega)).mono ?_
    rw [HEm.out]
    rintro e w6 ⟨rfl, hb6⟩
    have B6 := Lib.hid (B5.out.trans (hb6.mono B5.out.size))
    have HF6 := Lib.hid (HF5.out.below hb6)
    clear hb6
    rcases HCase.out with ⟨q1, q2, q3⟩ | ⟨q1, x1, x2, q2, q3, q4, q5, q6, q7⟩
    · have e1 : (d == 0) = true := by simp [q1]
      have e2 : ((fs.length : Int) == 0) = true := by simp [q2]
      have e3 : (u.toList == s.toList) = true := by rw [q3]; simp
      clear q1 q2 q3
      go_wp2_with fail
      refine (awake_any _ (HFin.out _ B6.out)).mono ?_
      rintro e w7 ⟨rfl, hb7⟩
      have B7 := Lib.hid (B6.out.trans (hb7.mono B6.out.size))
      clear hb7
      go_wp2
      go_ret
      exact ⟨rfl, B7.out⟩
    · subst q1
      subst q2
      obtain ⟨b, off, rfl, hbl, hc1, hc2⟩ := HF6.out 0 (by simp)
      simp only [Nat.zero_mul, Nat.add_zero, List.getElem_cons_zero] at hc1 hc2
      have e1 : ((x1 : Int) == (u.size : Int)) = true := by simp [q3]
      have e3 : (u.toList == (s.extract 0 u.size).toList) = true := by rw [← q7]; simp
      have e4 : (1 : Int) ≤ x2 := by omega
      have e6 : (x1 : Int) + x2 ≤ s.size := by omega
      have e7 : u.size ≤ s.size := by omega
      have e8 : IntKind.i64.wrap ((x1 : Int) + x2) = (x1 : Int) + x2 := IntWalk.i64_in _ (by omega)
      have e9 : decide ((x1 : Int) + x2 ≤ (s.size : Int)) = true := by simp; omega
      have Q7 := Lib.hid q7
      clear q7 q3 q4 q5 q6
      rw [show (([(x1, x2)] : List (Nat × Nat)).length) = 1 from rfl]
      go_wp2_with fail
      go_region_held3 (fun w' => w'.cell? ⟨b, off, none⟩ = some (.int .i64 (x1 : Int)) ∧ w'.cell? ⟨b, off + 1, none⟩ = some (.int .i64 (x2 : Int)))
        (first
          | go_keep
          | (refine ⟨?_, ?_⟩
             · (rw [hb7.cell (p := ⟨b, off, none⟩) (by simpa using hbl)]; simpa using hc1)
             · (rw [hb7.cell (p := ⟨b, off + 1, none⟩) (by simpa using hbl)]; simpa using hc2)))
        ((go_at_call 11; refine (awake_any _ (by exact HFin.out _ B6.out.drew)).mono ?_; rintro e w7 ⟨rfl, hb7⟩; have B7 := Lib.hid (B6.out.drew.trans (hb7.mono (by simpa using B6.out.size)))))
      have B8 := Lib.hid B7.out
      clear e8 e9
      go_wp2
      go_ret
      exact ⟨rfl, B8.out⟩

set_option maxRecDepth 100000 in
set_option maxHeartbeats 1000000 in
theorem wideBack_walk (kd : Int) (A : Option Addr) (c : Nat) (l : List Int) (s : ByteArray) (w : World) (_hk : (Lit.int .i64 kd).wf = true) (hl : Ints .i32 w A l) (_hm : s.size ≤ maxLen) (hT : Tab w) : Calls Tryd.prog 7 #[.int .i64 kd, .slice A l.length c, .string s] w fun e w' => e = .returned (.bool true) ∧ Below w.heap.size w w' := by
  by_cases c1 : kd < 1
  · have HT := Lib.hid hT
    have hpos := hT.pos
    have HFin := Lib.hid (show ∀ w2 : World, Below w.heap.size w w2 → Tab w2 from fun w2 h => hT.below h hpos)
    have B0 := Lib.hid (Below.refl w.heap.size w)
    clear hT hl _hk _hm
    go_enter Tryd.func7, Tryd.ntmps7
    go_wp2_with fail
    refine (awake_any _ (HFin.out _ B0.out)).mono ?_
    rintro e w9 ⟨rfl, hb9⟩
    have B9 := Lib.hid (B0.out.trans (hb9.mono B0.out.size))
    clear hb9
    go_wp2
    go_ret
    exact ⟨rfl, B9.out⟩
  by_cases c2 : 4 < kd
  · have hpos := hT.pos
    have HFin := Lib.hid (show ∀ w2 : World, Below w.heap.size w w2 → Tab w2 from fun w2 h => hT.below h hpos)
    have B0 := Lib.hid (Below.refl w.heap.size w)
    clear hT hl _hk _hm
    go_enter Tryd.func7, Tryd.ntmps7
    go_wp2_with fail
    refine (awake_any _ (HFin.out _ B0.out)).mono ?_
    rintro e w9 ⟨rfl, hb9⟩
    have B9 := Lib.hid (B0.out.trans (hb9.mono B0.out.size))
    clear hb9
    go_wp2
    go_ret
    exact ⟨rfl, B9.out⟩
  by_cases c3 : 200 < l.length
  · have hpos := hT.pos
    have HFin := Lib.hid (show ∀ w2 : World, Below w.heap.size w w2 → Tab w2 from fun w2 h => hT.below h hpos)
    have B0 := Lib.hid (Below.refl w.heap.size w)
    have c3' : (200 : Int) < l.length := by omega
    clear hT hl _hk _hm
    go_enter Tryd.func7, Tryd.ntmps7
    go_wp2_with fail
    refine (awake_any _ (HFin.out _ B0.out)).mono ?_
    rintro e w9 ⟨rfl, hb9⟩
    have B9 := Lib.hid (B0.out.trans (hb9.mono B0.out.size))
    clear hb9
    go_wp2
    go_ret
    exact ⟨rfl, B9.out⟩
  by_cases c4 : 400 < s.size
  · have hpos := hT.pos
    have HFin := Lib.hid (show ∀ w2 : World, Below w.heap.size w w2 → Tab w2 from fun w2 h => hT.below h hpos)
    have B0 := Lib.hid (Below.refl w.heap.size w)
    have c3' : ¬ (200 : Int) < l.length := by omega
    have c4' : (400 : Int) < s.size := by omega
    clear hT hl _hk _hm
    go_enter Tryd.func7, Tryd.ntmps7
    go_wp2_with fail
    refine (awake_any _ (HFin.out _ B0.out)).mono ?_
    rintro e w9 ⟨rfl, hb9⟩
    have B9 := Lib.hid (B0.out.trans (hb9.mono B0.out.size))
    clear hb9
    go_wp2
    go_ret
    exact ⟨rfl, B9.out⟩
  obtain ⟨k, rfl⟩ : ∃ n : Nat, kd = n := ⟨kd.toNat, by omega⟩
  exact wideBack_in k (by omega) (by omega) A c l s w (by omega) (by omega) hl hT

set_option maxRecDepth 100000 in
theorem wideBack_lifted (os : Os) (started : os.Started) (H : Type) (enc : TypeId × Value → H) :
    ReturnsInHanded {} Tryd.checked os 7 .any (fun w args => (Rows.wideBackSpec.pre enc Tryd.prog Tryd.f7 [] false w args ∧ laidMetH Tryd.prog laid1 w) ∧ sizedMet enc Tryd.prog Tryd.f7 (OpenSpec.ofChange Rows.wideBackSpec) false w args)
      (Rows.wideBackSpec.post enc Tryd.prog Tryd.f7 false true false false) := by
  refine returnsInHanded_of_change_and (C := Tryd.checked) (X := fun w _ => laidMetH Tryd.prog laid1 w) (fun _ _ _ hh h => h.of_heap hh) own started (by kernel_rfl) Tryd.func7
    (ChangeSpec.witness_shaped (enc := enc) (C := Tryd.checked) (os := os) (X := fun w _ => laidMetH Tryd.prog laid1 w) false (World.doorLaid Tryd.prog 400 os) #[.int .i64 0, .slice none 0 0, .string ⟨#[]⟩] 8 rfl (World.shaped_of_RefB (by kernel_rfl) (by kernel_rfl)) (by kernel_rfl) (by kernel_rfl) (by kernel_rfl) (door_met os _)) ?_
  intro W base args ds gs before hval0 hW _ hsz hL _
  have hval : ∀ (j : Nat) t v, Tryd.f7.params[j]? = some t → args[j]? = some v → Value.okWide Tryd.prog W .any base t v := hval0
  have hW' := hW
  obtain ⟨p, q, hA0, hV, rfl, hfz, hnd⟩ := hW
  have hA : DataW.TrodAll enc Tryd.prog W 0 (fun _ => true) true Tryd.f7.params.toList args.toList ds p := hA0
  rw [Tryd.params7] at hA hval
  obtain ⟨v0, vs0, d0, ds0, p0, q0, hargs, rfl, rfl, h0, r0⟩ := trodAll_cons hA
  obtain ⟨v1, vs1, d1, ds1, p1, q1, rfl, rfl, rfl, h1, r1⟩ := trodAll_cons r0
  obtain ⟨v2, vs2, d2, ds2, p2, q2, rfl, rfl, rfl, h2, r2⟩ := trodAll_cons r1
  obtain ⟨rfl, rfl, rfl⟩ := trodAll_nil r2
  obtain rfl : args = #[v0, v1, v2] := by cases args; simp_all
  obtain ⟨rfl, rfl⟩ := trodVars_none hV
  obtain ⟨a0, rfl, rfl, rfl, m0⟩ := open_int Tryd.underlying3 (hval 0 3 v0 rfl rfl) h0
  obtain ⟨A1, len1, cap1, rfl⟩ := okWide_slice Tryd.underlying28 (hval 1 28 v1 rfl rfl)
  have k1 := h1
  have lt1 : ∀ x ∈ p1, x.block < W.heap.size := by obtain ⟨m, hm⟩ := k1; exact DataW.trod_lt m _ _ _ hm
  obtain ⟨l1, e1, g1⟩ := ints_of_trod h1
  subst e1
  obtain ⟨s2, rfl, rfl, rfl, m2⟩ := open_string Tryd.underlying9 (hval 2 9 v2 rfl rfl) h2
  clear hA0 hval0
  refine (wideBack_walk a0 A1 cap1 l1 s2 W m0 g1 m2 (of_laid hL)).mono fun e W' ⟨he, bel⟩ => ?_
  subst he
  exact ⟨_, rfl, _, _, _, [], _, [], hW', trodAll_mk1 (shut_bool Tryd.underlying4 _), (trodAll_cons_mk (shut_int Tryd.underlying3 m0) (trodAll_cons_mk (Below.trod laidOut (by kernel_rfl) (of_decide_eq_true (by kernel_rfl)) k1 bel lt1) (trodAll_cons_mk (shut_string Tryd.underlying9 m2) trodAll_mk0))), rfl, bel.frame _, fun h => by cases h⟩

theorem wideBack_row : Rows.WideBackSaid :=
  OpenClaim.holds_of_wide 7 Tryd.f7 rfl rfl rfl rfl rfl rfl rfl ⟨rfl, rfl, rfl, rfl, rfl⟩ rfl rfl rfl rfl rfl (by kernel_rfl) Tryd.func7 (by kernel_rfl)
    (of_decide_eq_true (by kernel_rfl)) (by unfold Func.isWrapper; first | (rw [if_pos (by decide +kernel)]; kernel_rfl) | (rw [if_neg (by decide +kernel)]; exact ⟨rfl, rfl⟩))
    (fun os started H enc _ => wideBack_lifted os started H enc)

theorem wideBack_holds : Rows.WideBackCardSaid :=
  Claim7.holds_tied_plain_at .later [] [.data] true Rows.wideBackCard.stood.harness false
    wideBack_row (fun _ h => by cases h) (by kernel_rfl) (fun _ h => by cases h) wideBack_row_tie rfl ⟨rfl, rfl⟩ (by kernel_rfl) rfl
    (fun f fn hf hfn => by
      obtain rfl : f = 7 := Option.some.inj ((show Tryd.prog.funcNamed Rows.wideBackRow.func = some 7 by kernel_rfl).symm.trans hf) |>.symm
      obtain rfl : fn = Tryd.f7 := (Option.some.inj (Tryd.func7.symm.trans hfn)).symm
      exact ⟨by kernel_rfl, fun j t ht => by
        rw [Tryd.params7] at ht
        have hm : t ∈ [3, 28, 9] := by simpa using Array.mem_of_getElem? ht
        have hall : ([3, 28, 9].all fun u => !Tryd.prog.wantsStandIn u) = true := by kernel_rfl
        exact (show Tryd.prog.wantsStandIn t = false by simpa using List.all_eq_true.1 hall t hm)⟩)
    (by kernel_rfl)
#print axioms wideBack_holds
end Go.Proofs.YtohjkpdelopknaaDoor

/- FieldsLines: for every input the law returns true and it reads as before: which lines of a text tell something, and what, and what stands between bytes is as the document says. Conditions: the library's tables as the program's text lays them (tied). -/
import Derived.Test.YtnnecigpahbhoaaDoorFSd
import Derived.Test.YtnnecigpahbhoaaDoorFT
import Derived.Test.YtnnecigpahbhoaaDoorCards
import Derived.ShutString
import Derived.ChangeOld
namespace Go.Proofs.YtnnecigpahbhoaaDoor
open Go.ChangeShapes Go.WideShapes Go.ChangeAt Go.WideMaps Go.WideElems Go.RowKit
open Go.ChangeMaps (open_string shut_string)
open Fi

theorem u8_of {c : Int} (h : (Lit.int .u8 c).wf = true) : ∃ b : UInt8, c = (b.toNat : Int) := by
  have h2 : 0 ≤ c ∧ c < 256 := by
    have e1 : IntKind.u8.min = 0 := rfl
    have e2 : IntKind.u8.max = 255 := rfl
    simp [Lit.wf] at h
    omega
  exact ⟨UInt8.ofNat c.toNat, by simp; omega⟩
def LnSl (w : World) (x : List (Nat × List UInt8) × Int) (e : Ending) (w' : World) : Prop := ∃ A c, e = .returned (.tuple #[.slice A x.1.length c, .int .i64 x.2]) ∧ Lns w' A x.1 ∧ Below w.heap.size w w'
def TxSl (w : World) (l : List (List UInt8)) (e : Ending) (w' : World) : Prop := ∃ A c, e = .returned (.slice A l.length c) ∧ Txs w' A l ∧ Below w.heap.size w w'
theorem lines_sl (s : ByteArray) (w : World) (hL : Ml w) (hs : s.size ≤ 100000) : Calls Tryd.prog 10 #[.string s] w (LnSl w (linE s.data.toList)) := by
  refine (lines_any s w hL hs).mono ?_
  rintro e w' ⟨v, he, ho, hb⟩
  obtain ⟨A, c, rfl, hi⟩ := own_lns ho
  exact ⟨A, c, he, hi, hb⟩
theorem rlines_sl (s : ByteArray) (w : World) (hs : s.size ≤ 100000) : Calls Tryd.prog 11 #[.string s] w (LnSl w (linE s.data.toList)) := by
  refine (rlines_any s w hs).mono ?_
  rintro e w' ⟨v, he, ho, hb⟩
  obtain ⟨A, c, rfl, hi⟩ := own_lns ho
  exact ⟨A, c, he, hi, hb⟩
theorem cutP_sl {w w' : World} {l : List (List UInt8)} {e : Ending} (h : CutP w l e w') : TxSl w l e w' := by
  obtain ⟨v, he, ho, hb⟩ := h
  obtain ⟨A, c, rfl, hi⟩ := own_txs ho
  exact ⟨A, c, he, hi, hb⟩
theorem lnsW_len : ∀ (x : List (List UInt8)) (no : Nat) (acc : List (Nat × List UInt8)), (lnsW no acc x).1.length ≤ acc.length + x.length
  | [], no, acc => by simp [lnsW]
  | y :: x, no, acc => by
    by_cases h : 512 < y.length
    · rw [lnsW_long h]; simp
    · by_cases h2 : toldL y = []
      · rw [lnsW_mute h h2]
        have := lnsW_len x (no + 1) acc
        simp; omega
      · rw [lnsW_told h h2]
        have := lnsW_len x (no + 1) (acc ++ [(no, toldL y)])
        simp at this
        simp; omega
theorem linE_len (l : List UInt8) : (linE l).1.length ≤ l.length + 1 := by
  unfold linE
  split
  · simp
  · have h1 := lnsW_len (spl 10 [] l) 1 []
    have h2 := spl_len 10 l []
    have h3 := List.count_le_length (a := (10 : UInt8)) (l := l)
    simp at h1
    omega
set_option maxRecDepth 100000 in
set_option maxHeartbeats 8000000 in
theorem fieldsLines_walk (s : ByteArray) (c0 : Int) (w : World) (hs : s.size ≤ 9223372036854775807) (hc0 : (Lit.int .u8 c0).wf = true) (hL : Ml w) : Calls Tryd.prog 3 #[.string s, .int .u8 c0] w fun e w' => e = .returned (.bool true) ∧ Below w.heap.size w w' := by
  obtain ⟨c, rfl⟩ : ∃ c : UInt8, c0 = (c.toNat : Int) := u8_of hc0
  clear hc0
  have hpos := hL.pos
  have HFin := Lib.hid (show ∀ w2 : World, Below w.heap.size w w2 → Calls Tryd.prog 9 #[] w2 fun e w' => e = .returned (.bool true) ∧ Below w2.heap.size w2 w' from fun w2 h => awake_any w2 (hL.below h hpos))
  by_cases h1 : s.size ≤ 8000
  · have g1 : ¬ (8000 : Int) < s.size := by omega
    have hA := lines_sl s w hL (by omega)
    have hA2 := fun W => rlines_sl s W (by omega)
    have hB := fun W (h : Below w.heap.size w W) => (fsplit_any s c W (hL.below h hpos) (by omega)).mono fun e w' h => cutP_sl h
    have hB2 := fun W => (rsplit_any s c W (by omega)).mono fun e w' h => cutP_sl h
    have hlen := linE_len s.data.toList
    have hlen2 := spl_len c s.data.toList []
    have hcn : s.data.toList.count c ≤ s.size := by have := List.count_le_length (a := c) (l := s.data.toList); rw [lst_len] at this; exact this
    rw [lst_len] at hlen
    have hlm : ((spl c [] s.data.toList).map bareL).length ≤ 100001 := by rw [List.length_map]; omega
    generalize linE s.data.toList = pa at *
    generalize (spl c [] s.data.toList).map bareL = m at *
    obtain ⟨l, ea⟩ := pa
    unfold LnSl at hA hA2
    unfold TxSl at hB hB2
    simp only at hA hA2 hlen
    have HA := Lib.hid hA
    have HA2 := Lib.hid hA2
    have HB := Lib.hid hB
    have HB2 := Lib.hid hB2
    clear hA hA2 hB hB2 hL hlen2 hcn
    go_enter Tryd.func3, Tryd.ntmps3
    go_wp2_with fail
    refine HA.out.mono ?_; rintro e w1 ⟨A1, c1, rfl, hi, hb⟩; have N1 := Lib.hid hi; have B1 := Lib.hid hb; clear hi hb
    go_wp2_with fail
    refine (HA2.out _).mono ?_; rintro e w2 ⟨A2, c2, rfl, hi, hb⟩; have N2 := Lib.hid hi; have B2 := Lib.hid hb; have M1 := Lib.hid (N1.out.below hb); clear hi hb
    have D2 := Lib.hid (B1.out.trans (B2.out.mono B1.out.size))
    clear B1 B2 N1
    go_wp2_with fail
    go_loopw [9] (fun i wr => ∃ k : Nat, i = .int .i64 k ∧ k ≤ l.length ∧ Hid (Below w2.heap.size w2 wr)) (fun i _ => l.length - (intOf i).toNat)
    case atStart => exact ⟨0, rfl, by omega, Below.refl _ _⟩
    case round =>
      obtain ⟨k, rfl, hk, HQ⟩ := hrel
      by_cases hlt : k < l.length
      · obtain ⟨b, off, rfl, hb, hc, hd⟩ := M1.out k hlt
        obtain ⟨b2, off2, rfl, hb2, hc2, hd2⟩ := N2.out k hlt
        have hc' := (HQ.out.cell (p := ⟨b, off + k * 2, none⟩) hb).trans hc
        have hd' := (HQ.out.cell (p := ⟨b, off + k * 2 + 1, none⟩) hb).trans hd
        have hc2' := (HQ.out.cell (p := ⟨b2, off2 + k * 2, none⟩) hb2).trans hc2
        have hd2' := (HQ.out.cell (p := ⟨b2, off2 + k * 2 + 1, none⟩) hb2).trans hd2
        clear hc hc2 hd hd2
        generalize (⟨((l[k]).2).toArray⟩ : ByteArray) = x at hd' hd2'
        generalize ((l[k]).1 : Int) = n at hc' hc2'
        have g2 : (k : Int) < l.length := by omega
        have e1 : (n != n) = false := by simp
        go_wp2_with fail
        go_quiet (fail)
        go_wp2_with fail
        go_roundw
        case rel => exact ⟨k + 1, by go_num, by omega, bel_drewN HQ.out _⟩
        case measure => simp [intOf] <;> omega
      · have g2 : ¬ (k : Int) < l.length := by omega
        have D3 := Lib.hid (D2.out.trans (HQ.out.mono D2.out.size))
        clear HQ
        go_wp2_with fail
        refine (HB.out _ D3.out).mono ?_; rintro e w4 ⟨A4, c4, rfl, hi, hb⟩; have N4 := Lib.hid hi; have B4 := Lib.hid hb; clear hi hb
        go_wp2_with fail
        refine (HB2.out _).mono ?_; rintro e w5 ⟨A5, c5, rfl, hi, hb⟩; have N5 := Lib.hid hi; have B5 := Lib.hid hb; have M4 := Lib.hid (N4.out.below hb); clear hi hb
        have b4 := D3.out.trans (B4.out.mono D3.out.size)
        have D5 := Lib.hid (b4.trans (B5.out.mono b4.size))
        have HE := Lib.hid (eqT A4 A5 c4 c5 m w5 M4.out N5.out hlm)
        clear b4 B4 B5 N4
        go_wp2_with fail
        refine HE.out.mono ?_
        rintro e w6 ⟨rfl, hb⟩
        have D6 := Lib.hid (D5.out.trans (hb.mono D5.out.size))
        clear hb
        go_wp2_with fail
        refine (HFin.out _ D6.out).mono ?_
        rintro e w9 ⟨rfl, hb9⟩
        have B9 := Lib.hid (D6.out.trans (hb9.mono D6.out.size))
        clear hb9
        go_wp2_with fail
        go_ret
        exact ⟨rfl, B9.out⟩
  · have g1 : (8000 : Int) < s.size := by omega
    go_enter Tryd.func3, Tryd.ntmps3
    go_wp2_with fail
    refine (HFin.out _ (Below.refl w.heap.size w)).mono ?_
    rintro e w9 ⟨rfl, hb9⟩
    have B9 := Lib.hid ((Below.refl w.heap.size w).trans (hb9.mono (Below.refl w.heap.size w).size))
    clear hb9
    go_wp2_with fail
    go_ret
    exact ⟨rfl, B9.out⟩

set_option maxRecDepth 100000 in
theorem fieldsLines_lifted (os : Os) (started : os.Started) (H : Type) (enc : TypeId × Value → H) :
    ReturnsInHanded {} Tryd.checked os 3 .any (fun w args => (Rows.fieldsLinesSpec.pre enc Tryd.prog Tryd.f3 [] false w args ∧ laidMetH Tryd.prog laid1 w) ∧ sizedMet enc Tryd.prog Tryd.f3 (OpenSpec.ofChange Rows.fieldsLinesSpec) false w args)
      (Rows.fieldsLinesSpec.post enc Tryd.prog Tryd.f3 false true false false) := by
  refine change_shaped (C := Tryd.checked) (X := fun w _ => laidMetH Tryd.prog laid1 w) (fun _ _ _ hh h => h.of_heap hh) own started (by kernel_rfl) Tryd.func3
    (ChangeSpec.witness_shaped (enc := enc) (C := Tryd.checked) (os := os) (X := fun w _ => laidMetH Tryd.prog laid1 w) false (World.laidAll Tryd.prog os laid1) #[.string ⟨#[]⟩, .int .u8 0] 8 (World.laidAll_os _ _ _) (World.shaped_of_ZipB (by kernel_rfl) (by kernel_rfl)) (by kernel_rfl) (by kernel_rfl) (by kernel_rfl) (by rw [MakeChecks.laidMetH_plain _ _ _ (by kernel_rfl)]; exact laidMet_laidAll _ (by kernel_rfl) (by kernel_rfl))) ?_
  intro W base args ds gs before hval0 hW hsz hL hS
  have hval : ∀ (j : Nat) t v, Tryd.f3.params[j]? = some t → args[j]? = some v → Value.okWide Tryd.prog W .any base t v := hval0
  have hW' := hW
  obtain ⟨p, q, hA0, hV, rfl, hfz, hnd⟩ := hW
  have hA : DataW.TrodAll enc Tryd.prog W 0 (fun _ => true) true Tryd.f3.params.toList args.toList ds p := hA0
  rw [Tryd.params3] at hA hval
  obtain ⟨v0, vs0, d0, ds0, p0, q0, hargs, rfl, rfl, h0, r0⟩ := trodAll_cons hA
  obtain ⟨v1, vs1, d1, ds1, p1, q1, rfl, rfl, rfl, h1, r1⟩ := trodAll_cons r0
  obtain ⟨rfl, rfl, rfl⟩ := trodAll_nil r1
  obtain rfl : args = #[v0, v1] := by cases args; simp_all
  obtain ⟨rfl, rfl⟩ := trodVars_none hV
  obtain ⟨s0, rfl, rfl, rfl, m0⟩ := open_string Tryd.underlying9 (hval 0 9 v0 rfl rfl) h0
  obtain ⟨a1, rfl, rfl, rfl, m1⟩ := open_int Tryd.underlying5 (hval 1 5 v1 rfl rfl) h1
  clear hA0 hval0
  refine (fieldsLines_walk s0 a1 W m0 m1 (ml_of hS)).mono fun e W' ⟨he, bel⟩ => ?_
  subst he
  exact ⟨_, rfl, _, _, _, [], _, [], hW', trodAll_mk1 (shut_bool Tryd.underlying4 _), (trodAll_cons_mk (shut_string Tryd.underlying9 m0) (trodAll_cons_mk (shut_int Tryd.underlying5 m1) trodAll_mk0)), rfl, bel.frame _, fun h => by cases h⟩

theorem fieldsLines_row : Rows.FieldsLinesSaid :=
  OpenClaim.holds_of_wide 3 Tryd.f3 rfl rfl rfl rfl rfl rfl rfl ⟨rfl, rfl, rfl, rfl, rfl⟩ rfl rfl rfl rfl rfl (by kernel_rfl) Tryd.func3 (by kernel_rfl)
    (of_decide_eq_true (by kernel_rfl)) (by unfold Func.isWrapper; first | (rw [if_pos (by decide +kernel)]; kernel_rfl) | (rw [if_neg (by decide +kernel)]; exact ⟨rfl, rfl⟩))
    (fun os started H enc _ => fieldsLines_lifted os started H enc)

theorem fieldsLines_holds : Rows.FieldsLinesCardSaid :=
  Claim7.holds_tied_plain_at .later [] [.data, .pinned] true Rows.fieldsLinesCard.stood.harness false
    fieldsLines_row (fun _ h => by cases h) (by kernel_rfl) (fun _ h => by cases h) fieldsLines_row_tie rfl ⟨rfl, rfl⟩ (by kernel_rfl) rfl
    (fun f fn hf hfn => by
      obtain rfl : f = 3 := Option.some.inj ((show Tryd.prog.funcNamed Rows.fieldsLinesRow.func = some 3 by kernel_rfl).symm.trans hf) |>.symm
      obtain rfl : fn = Tryd.f3 := (Option.some.inj (Tryd.func3.symm.trans hfn)).symm
      exact ⟨by kernel_rfl, fun j t ht => by
        rw [Tryd.params3] at ht
        have hm : t ∈ [9, 5] := by simpa using Array.mem_of_getElem? ht
        have hall : ([9, 5].all fun u => !Tryd.prog.wantsStandIn u) = true := by kernel_rfl
        exact (show Tryd.prog.wantsStandIn t = false by simpa using List.all_eq_true.1 hall t hm)⟩)
    (by kernel_rfl)
#print axioms fieldsLines_holds
end Go.Proofs.YtnnecigpahbhoaaDoor

/- UcdBack: for every input the law returns true and it reads as before: Rows of Print is the rows. Conditions: the library's tables as the program's text lays them (tied). -/
import Derived.Test.YtajhgbcgbgpcjaaGreatDoorGW
import Derived.Test.YtajhgbcgbgpcjaaGreatDoorGZ
import Derived.Test.YtajhgbcgbgpcjaaGreatDoorFTb
import Derived.Test.YtajhgbcgbgpcjaaGreatDoorCards
import Derived.ShutString
import Derived.ChangeOld
namespace Go.Proofs.YtajhgbcgbgpcjaaGreatDoor
open Go.ChangeShapes Go.WideShapes Go.ChangeAt Go.WideMaps Go.WideElems Go.RowKit
open Go.ChangeMaps (open_string shut_string)
open Fi Uc

theorem lineS_len2 {x : Rw} (h : ChkOk x) (hk : x.kd.length ≤ 50) : (lineS x).length ≤ 1000 := by
  have a1 := plB_len h.nm
  have a2 := plB_len h.ct
  have a3 := h.len
  unfold lineS
  split
  · have := lnE_len (c := x.fr) (n := x.nm) (g := x.ct) (k := x.kd) (l := x.into) h.cl0 h.cl1
    omega
  · have b1 := lnE_len (c := x.fr) (n := 60 :: (x.nm ++ firstE)) (g := x.ct) (k := x.kd) (l := x.into) h.cl0 h.cl1
    have b2 := lnE_len (c := x.tt) (n := 60 :: (x.nm ++ lastE)) (g := x.ct) (k := x.kd) (l := x.into) h.cl0 h.cl1
    have e1 : firstE.length = 8 := rfl
    have e2 : lastE.length = 7 := rfl
    simp [e1, e2] at b1 b2 ⊢
    omega
theorem flat_len2 : ∀ {l : List Rw}, (∀ x ∈ l, (lineS x).length ≤ 1000) → (l.flatMap lineS).length ≤ 1000 * l.length
  | [], _ => by simp
  | x :: l, h => by
    have h1 := h x (by simp)
    have h2 := flat_len2 (l := l) (fun y hy => h y (by simp [hy]))
    rw [List.flatMap_cons, List.length_append, List.length_cons]
    omega
theorem rwsP_sl5 {w w' : World} {T : TypeId} {x : List Rw × Nat × Int} {e : Ending} (h : RwsP w T x e w') : ∃ A c, e = .returned (.tuple #[.slice A x.1.length c, .int .i64 x.2.1, .int .i64 x.2.2]) ∧ Rws w' A x.1 ∧ Below w.heap.size w w' := by
  obtain ⟨v, l, he, hl, hin, hb⟩ := h
  obtain ⟨A, c, rfl, hr⟩ := hin.rws
  rw [hl] at hr he
  exact ⟨A, c, he, hr, hb⟩
set_option maxRecDepth 100000 in
set_option maxHeartbeats 16000000 in
theorem ucdBack_walk (A : Option Addr) (cap : Nat) (l : List Rw) (w : World) (hR : Rws w A l) (hB : ∀ x ∈ l, RowBd x) (hL : Ml w) (hT : Tz w) (hP : Pw w) : Calls Tryz.prog 4 #[.slice A l.length cap] w fun e w' => e = .returned (.bool true) ∧ Below w.heap.size w w' := by
  have hpos := hL.pos
  have HFin := Lib.hid (show ∀ w2 : World, Below w.heap.size w w2 → Calls Tryz.prog 5 #[] w2 fun e w' => e = .returned (.bool true) ∧ Below w2.heap.size w2 w' from fun w2 h => Uc.awake_any w2 (hL.below h hpos))
  have HR := Lib.hid hR
  have HB := Lib.hid hB
  have HT := Lib.hid hT
  have HP := Lib.hid hP
  have HML := Lib.hid hL
  clear hR hB hT hP hL
  by_cases h1 : l.length ≤ 40
  · have g1 : ¬ (40 : Int) < l.length := by omega
    go_enter Tryz.func4, Tryz.ntmps4
    go_wp2_with fail
    go_loopw [3] (fun i wr => ∃ k : Nat, i = .int .i64 k ∧ k ≤ l.length ∧ Hid (Below w.heap.size w wr ∧ ∀ x ∈ l.take k, x.kd.length ≤ 50)) (fun i _ => l.length - (intOf i).toNat)
    case atStart => exact ⟨0, rfl, by omega, Below.refl _ _, fun x hx => by simp at hx⟩
    case round =>
      obtain ⟨k, rfl, hk, HQ⟩ := hrel
      by_cases hlt : k < l.length
      · obtain ⟨b, off, v, rfl, hb, hv, p0, p1, p2, p3, p4, p5, p6⟩ := (HR.out.below HQ.out.1) k hlt
        have htk : l.take (k + 1) = l.take k ++ [l[k]] := List.take_succ_eq_append_getElem hlt
        have hnx : l[k].kd.length ≤ 50 → ∀ x ∈ l.take (k + 1), x.kd.length ≤ 50 := fun h9 x hx => by
          rw [htk] at hx
          rcases List.mem_append.1 hx with hx | hx
          · exact HQ.out.2 x hx
          · simp at hx; subst hx; exact h9
        have HNX := Lib.hid hnx
        clear htk hnx p0 p1 p2 p3 p4 p6
        generalize l[k] = y at *
        obtain ⟨kb, hkb⟩ : ∃ kb : ByteArray, kb = ⟨y.kd.toArray⟩ := ⟨_, rfl⟩
        rw [← hkb] at p5
        have hkz : kb.size = y.kd.length := by rw [hkb, size_mk]
        have HKZ := Lib.hid hkz
        have g2 : (k : Int) < l.length := by omega
        by_cases h50 : kb.size ≤ 50
        · have g3 : ¬ (50 : Int) < kb.size := by omega
          clear hkz hkb
          go_wp2_with fail
          go_roundw
          case rel => exact ⟨k + 1, by go_num, by omega, HQ.out.1, HNX.out (by have := HKZ.out; omega)⟩
          case measure => simp [intOf]; omega
        · have g3 : (50 : Int) < kb.size := by omega
          have D1 := Lib.hid HQ.out.1
          clear hkz hkb
          go_wp2_with fail
          refine (HFin.out _ D1.out).mono ?_
          rintro e w9 ⟨rfl, hb9⟩
          have B9 := Lib.hid (D1.out.trans (hb9.mono D1.out.size))
          clear hb9
          go_wp2_with fail
          go_ret
          exact ⟨rfl, B9.out⟩
      · have g2 : ¬ (k : Int) < l.length := by omega
        have HKD := Lib.hid (show ∀ x ∈ l, x.kd.length ≤ 50 by have h9 := HQ.out.2; rw [List.take_of_length_le (by omega)] at h9; exact h9)
        have D1 := Lib.hid HQ.out.1
        clear HQ
        have HPr := Lib.hid (print_any A cap l wr (HR.out.below D1.out) (by omega) (fun x hx => ⟨(HB.out x hx).nm, (HB.out x hx).ct, by have := HKD.out x hx; omega⟩) (tz_on HT.out D1.out) (pw_on HP.out D1.out))
        unfold PrP at HPr
        go_wp2_with fail
        refine HPr.out.mono ?_
        rintro e w2 ⟨hres, hb2⟩
        have D2 := Lib.hid (D1.out.trans (hb2.mono D1.out.size))
        clear hb2 HPr
        rcases hres with ⟨hc, rfl⟩ | ⟨hc, hnr, rfl⟩ | ⟨hc, hri, rfl⟩
        · have e1 : (chks l != 0) = true := by simpa using hc
          generalize chks l = er at *
          go_wp2_with fail
          refine (HFin.out _ D2.out).mono ?_
          rintro e w9 ⟨rfl, hb9⟩
          have B9 := Lib.hid (D2.out.trans (hb9.mono D2.out.size))
          clear hb9
          go_wp2_with fail
          go_ret
          exact ⟨rfl, B9.out⟩
        · clear hc hnr
          go_wp2_with fail
          refine (HFin.out _ D2.out).mono ?_
          rintro e w9 ⟨rfl, hb9⟩
          have B9 := Lib.hid (D2.out.trans (hb9.mono D2.out.size))
          clear hb9
          go_wp2_with fail
          go_ret
          exact ⟨rfl, B9.out⟩
        · have hok := fun x hx => chk_ok (chks_all hc x hx)
          have hbk := rws_back hok HKD.out h1 hri
          have hfl := flat_len2 (l := l) (fun x hx => lineS_len2 (hok x hx) (HKD.out x hx))
          obtain ⟨sb, hsb⟩ : ∃ sb : ByteArray, sb = ⟨(l.flatMap lineS).toArray⟩ := ⟨_, rfl⟩
          have hsz : sb.size ≤ 40000 := by rw [hsb, size_mk]; omega
          have hsl : sb.data.toList = l.flatMap lineS := by rw [hsb]
          rw [← hsb]
          have HOK := Lib.hid hok
          have hRo := (rows_any sb w2 (HML.out.below D2.out hpos) (by omega)).mono fun e w' h => rwsP_sl5 h
          rw [hsl, hbk] at hRo
          simp only at hRo
          have HRo := Lib.hid hRo
          have e9 : ((l.length : Int) != l.length) = false := by simp
          clear hRo hsl hbk hsb hfl hc hri hok
          go_wp2_with fail
          refine HRo.out.mono ?_
          rintro e w3 ⟨A5, c5, rfl, hr5, hb3⟩
          have D3 := Lib.hid (D2.out.trans (hb3.mono D2.out.size))
          have R5 := Lib.hid hr5
          have R0 := Lib.hid (HR.out.below D3.out)
          clear hb3 hr5 HRo
          go_wp2_with fail
          obtain ⟨w4, hw4⟩ : ∃ x, x = w3 := ⟨_, rfl⟩
          subst hw4
          go_loopw [9] (fun i wx => ∃ k : Nat, i = .int .i64 k ∧ k ≤ l.length ∧ Hid (Below w4.heap.size w4 wx)) (fun i _ => l.length - (intOf i).toNat)
          case atStart => exact ⟨0, rfl, by omega, Below.refl _ _⟩
          case round =>
            obtain ⟨k, rfl, hk, HQ⟩ := hrel
            by_cases hlt : k < l.length
            · obtain ⟨b, off, v, rfl, hb, hv, p0, p1, p2, p3, p4, p5, p6⟩ := (R5.out.below HQ.out) k hlt
              obtain ⟨b2, off2, v2, rfl, hb2, hv2, r0, r1, r2, r3, r4, r5, r6⟩ := (R0.out.below HQ.out) k hlt
              have hin := (HOK.out l[k] (List.getElem_mem hlt)).len
              generalize l[k] = y at *
              obtain ⟨f, tt, nm, ct, cl, kd, into⟩ := y
              obtain ⟨A3, c3, rfl, hi3⟩ := hv
              obtain ⟨A4, c4, rfl, hi4⟩ := hv2
              simp only at p0 p1 p2 p3 p4 p5 p6 r0 r1 r2 r3 r4 r5 r6 hi3 hi4 hin
              have g2 : (k : Int) < l.length := by omega
              have HCl := Lib.hid (show ∀ W, Below wr.heap.size wr W → (W.cell? ⟨b, off + k * 7, none⟩ = some (.int .i32 f) ∧ W.cell? ⟨b, off + k * 7 + 1, none⟩ = some (.int .i32 tt) ∧ W.cell? ⟨b, off + k * 7 + 2, none⟩ = some (.string ⟨nm.toArray⟩) ∧ W.cell? ⟨b, off + k * 7 + 3, none⟩ = some (.string ⟨ct.toArray⟩) ∧ W.cell? ⟨b, off + k * 7 + 4, none⟩ = some (.int .i64 cl) ∧ W.cell? ⟨b, off + k * 7 + 5, none⟩ = some (.string ⟨kd.toArray⟩) ∧ W.cell? ⟨b, off + k * 7 + 6, none⟩ = some (.slice A3 into.length c3) ∧ W.cell? ⟨b2, off2 + k * 7, none⟩ = some (.int .i32 f) ∧ W.cell? ⟨b2, off2 + k * 7 + 1, none⟩ = some (.int .i32 tt) ∧ W.cell? ⟨b2, off2 + k * 7 + 2, none⟩ = some (.string ⟨nm.toArray⟩) ∧ W.cell? ⟨b2, off2 + k * 7 + 3, none⟩ = some (.string ⟨ct.toArray⟩) ∧ W.cell? ⟨b2, off2 + k * 7 + 4, none⟩ = some (.int .i64 cl) ∧ W.cell? ⟨b2, off2 + k * 7 + 5, none⟩ = some (.string ⟨kd.toArray⟩) ∧ W.cell? ⟨b2, off2 + k * 7 + 6, none⟩ = some (.slice A4 into.length c4)) from fun W h9 => ⟨(h9.cell (p := ⟨b, off + k * 7, none⟩) hb).trans p0, (h9.cell (p := ⟨b, off + k * 7 + 1, none⟩) hb).trans p1, (h9.cell (p := ⟨b, off + k * 7 + 2, none⟩) hb).trans p2, (h9.cell (p := ⟨b, off + k * 7 + 3, none⟩) hb).trans p3, (h9.cell (p := ⟨b, off + k * 7 + 4, none⟩) hb).trans p4, (h9.cell (p := ⟨b, off + k * 7 + 5, none⟩) hb).trans p5, (h9.cell (p := ⟨b, off + k * 7 + 6, none⟩) hb).trans p6, (h9.cell (p := ⟨b2, off2 + k * 7, none⟩) hb2).trans r0, (h9.cell (p := ⟨b2, off2 + k * 7 + 1, none⟩) hb2).trans r1, (h9.cell (p := ⟨b2, off2 + k * 7 + 2, none⟩) hb2).trans r2, (h9.cell (p := ⟨b2, off2 + k * 7 + 3, none⟩) hb2).trans r3, (h9.cell (p := ⟨b2, off2 + k * 7 + 4, none⟩) hb2).trans r4, (h9.cell (p := ⟨b2, off2 + k * 7 + 5, none⟩) hb2).trans r5, (h9.cell (p := ⟨b2, off2 + k * 7 + 6, none⟩) hb2).trans r6⟩)
              have hS := fun W (h9 : Below wr.heap.size wr W) => same_any f tt cl ⟨nm.toArray⟩ ⟨ct.toArray⟩ ⟨kd.toArray⟩ A3 A4 c3 c4 into W (hi3.below h9) (hi4.below h9) (by omega)
              have hPl := fun W => Uc.plain_any f tt cl ⟨nm.toArray⟩ ⟨ct.toArray⟩ ⟨kd.toArray⟩ A4 into.length c4 W
              have HS := Lib.hid hS
              have HPl := Lib.hid hPl
              clear hS hPl hi3 hi4 hin
              go_upto_region 17 with fail
              go_region_held3 (fun W => (W.cell? ⟨b, off + k * 7, none⟩ = some (.int .i32 f) ∧ W.cell? ⟨b, off + k * 7 + 1, none⟩ = some (.int .i32 tt) ∧ W.cell? ⟨b, off + k * 7 + 2, none⟩ = some (.string ⟨nm.toArray⟩) ∧ W.cell? ⟨b, off + k * 7 + 3, none⟩ = some (.string ⟨ct.toArray⟩) ∧ W.cell? ⟨b, off + k * 7 + 4, none⟩ = some (.int .i64 cl) ∧ W.cell? ⟨b, off + k * 7 + 5, none⟩ = some (.string ⟨kd.toArray⟩) ∧ W.cell? ⟨b, off + k * 7 + 6, none⟩ = some (.slice A3 into.length c3) ∧ W.cell? ⟨b2, off2 + k * 7, none⟩ = some (.int .i32 f) ∧ W.cell? ⟨b2, off2 + k * 7 + 1, none⟩ = some (.int .i32 tt) ∧ W.cell? ⟨b2, off2 + k * 7 + 2, none⟩ = some (.string ⟨nm.toArray⟩) ∧ W.cell? ⟨b2, off2 + k * 7 + 3, none⟩ = some (.string ⟨ct.toArray⟩) ∧ W.cell? ⟨b2, off2 + k * 7 + 4, none⟩ = some (.int .i64 cl) ∧ W.cell? ⟨b2, off2 + k * 7 + 5, none⟩ = some (.string ⟨kd.toArray⟩) ∧ W.cell? ⟨b2, off2 + k * 7 + 6, none⟩ = some (.slice A4 into.length c4)))
                (first
                  | go_keep
                  | exact HCl.out _ E7.out
                  | exact HCl.out _ E8.out)
                (first
                  | (go_at_call 6; refine (HPl.out _).mono ?_; rintro e w7 ⟨rfl, hb7⟩; have E7 := Lib.hid (show Below wr.heap.size wr w7 from Below.trans (by repeat (first | exact Below.refl _ _ | refine Below.drew ?_)) (hb7.mono (by simp))); clear hb7)
                  | (go_at_call 12; refine (HS.out _ (by repeat (first | exact E7.out | refine Below.drew ?_))).mono ?_; rintro e w8 ⟨rfl, hb8⟩; have E8 := Lib.hid (show Below wr.heap.size wr w8 from E7.out.trans (hb8.mono E7.out.size)); clear hb8))
              all_goals
                go_wp2_with fail
                go_roundw
                case rel => exact ⟨k + 1, by go_num, by omega, HQ.out.trans (E8.out.mono HQ.out.size)⟩
                case measure => simp [intOf] <;> omega
            · have g2 : ¬ (k : Int) < l.length := by omega
              have D7 := Lib.hid (D3.out.trans (HQ.out.mono D3.out.size))
              clear HQ
              go_wp2_with fail
              refine (HFin.out _ D7.out).mono ?_
              rintro e w9 ⟨rfl, hb9⟩
              have B9 := Lib.hid (D7.out.trans (hb9.mono D7.out.size))
              clear hb9
              go_wp2_with fail
              go_ret
              exact ⟨rfl, B9.out⟩
  · have g1 : (40 : Int) < l.length := by omega
    go_enter Tryz.func4, Tryz.ntmps4
    go_wp2_with fail
    refine (HFin.out _ (Below.refl w.heap.size w)).mono ?_
    rintro e w9 ⟨rfl, hb9⟩
    have B9 := Lib.hid ((Below.refl w.heap.size w).trans (hb9.mono (Below.refl w.heap.size w).size))
    clear hb9
    go_wp2_with fail
    go_ret
    exact ⟨rfl, B9.out⟩

set_option maxRecDepth 100000 in
theorem ucdBack_lifted (os : Os) (started : os.Started) (H : Type) (enc : TypeId × Value → H) :
    ReturnsInHanded {} Tryz.checked os 4 .any (fun w args => (Rows.ucdBackSpec.pre enc Tryz.prog Tryz.f4 [] false w args ∧ laidMetH Tryz.prog laid2 w) ∧ sizedMet enc Tryz.prog Tryz.f4 (OpenSpec.ofChange Rows.ucdBackSpec) false w args)
      (Rows.ucdBackSpec.post enc Tryz.prog Tryz.f4 false true false false) := by
  refine change_shaped (C := Tryz.checked) (X := fun w _ => laidMetH Tryz.prog laid2 w) (fun _ _ _ hh h => h.of_heap hh) own started (by kernel_rfl) Tryz.func4
    (ChangeSpec.witness_shaped (enc := enc) (C := Tryz.checked) (os := os) (X := fun w _ => laidMetH Tryz.prog laid2 w) false (World.laidAll Tryz.prog os laid2) #[.slice none 0 0] 8 (World.laidAll_os _ _ _) (World.shaped_of_ZipB (by kernel_rfl) (by kernel_rfl)) (by kernel_rfl) (by kernel_rfl) (by kernel_rfl) (by rw [MakeChecks.laidMetH_plain _ _ _ (by kernel_rfl)]; exact laidMet_laidAll _ (by kernel_rfl) (by kernel_rfl))) ?_
  intro W base args ds gs before hval0 hW hsz hL hS
  have hval : ∀ (j : Nat) t v, Tryz.f4.params[j]? = some t → args[j]? = some v → Value.okWide Tryz.prog W .any base t v := hval0
  have hW' := hW
  obtain ⟨p, q, hA0, hV, rfl, hfz, hnd⟩ := hW
  have hA : DataW.TrodAll enc Tryz.prog W 0 (fun _ => true) true Tryz.f4.params.toList args.toList ds p := hA0
  rw [Tryz.params4] at hA hval
  obtain ⟨v0, vs0, d0, ds0, p0, q0, hargs, rfl, rfl, h0, r0⟩ := trodAll_cons hA
  obtain ⟨rfl, rfl, rfl⟩ := trodAll_nil r0
  obtain rfl : args = #[v0] := by cases args; simp_all
  obtain ⟨rfl, rfl⟩ := trodVars_none hV
  obtain ⟨A0, len0, cap0, rfl⟩ := okWide_slice Tryz.underlying22 (hval 0 22 v0 rfl rfl)
  have k0 := h0
  have lt0 : ∀ x ∈ p0, x.block < W.heap.size := by obtain ⟨m, hm⟩ := k0; exact DataW.trod_lt m _ _ _ hm
  obtain ⟨l0, e0, g0, b0⟩ := rows_of_trod h0
  subst e0
  clear hA0 hval0
  refine (ucdBack_walk A0 cap0 l0 W g0 b0 (ml_of hS) (tz_of hL) (pw_of hL)).mono fun e W' ⟨he, bel⟩ => ?_
  subst he
  exact ⟨_, rfl, _, _, _, [], _, [], hW', trodAll_mk1 (shut_bool Tryz.underlying4 _), (trodAll_cons_mk (Below.trod laidOut (by kernel_rfl) (of_decide_eq_true (by kernel_rfl)) k0 bel lt0) trodAll_mk0), rfl, bel.frame _, fun h => by cases h⟩

theorem ucdBack_row : Rows.UcdBackSaid :=
  OpenClaim.holds_of_wide 4 Tryz.f4 rfl rfl rfl rfl rfl rfl rfl ⟨rfl, rfl, rfl, rfl, rfl⟩ rfl rfl rfl rfl rfl (by kernel_rfl) Tryz.func4 (by kernel_rfl)
    (of_decide_eq_true (by kernel_rfl)) (by unfold Func.isWrapper; first | (rw [if_pos (by decide +kernel)]; kernel_rfl) | (rw [if_neg (by decide +kernel)]; exact ⟨rfl, rfl⟩))
    (fun os started H enc _ => ucdBack_lifted os started H enc)

theorem ucdBack_holds : Rows.UcdBackCardSaid :=
  Claim7.holds_tied_plain_at .later [] [.data, .data, .data, .data, .pinned, .pinned] true Rows.ucdBackCard.stood.harness false
    ucdBack_row (fun _ h => by cases h) (by kernel_rfl) (fun _ h => by cases h) ucdBack_row_tie rfl ⟨rfl, rfl⟩ (by kernel_rfl) rfl
    (fun f fn hf hfn => by
      obtain rfl : f = 4 := Option.some.inj ((show Tryz.prog.funcNamed Rows.ucdBackRow.func = some 4 by kernel_rfl).symm.trans hf) |>.symm
      obtain rfl : fn = Tryz.f4 := (Option.some.inj (Tryz.func4.symm.trans hfn)).symm
      exact ⟨by kernel_rfl, fun j t ht => by
        rw [Tryz.params4] at ht
        have hm : t ∈ [22] := by simpa using Array.mem_of_getElem? ht
        have hall : ([22].all fun u => !Tryz.prog.wantsStandIn u) = true := by kernel_rfl
        exact (show Tryz.prog.wantsStandIn t = false by simpa using List.all_eq_true.1 hall t hm)⟩)
    (by kernel_rfl)
#print axioms ucdBack_holds
end Go.Proofs.YtajhgbcgbgpcjaaGreatDoor

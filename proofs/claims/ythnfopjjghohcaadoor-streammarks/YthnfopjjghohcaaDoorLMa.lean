import Derived.Test.YthnfopjjghohcaaDoorLM0
namespace Go.Proofs.YthnfopjjghohcaaDoor
open Go.ChangeShapes Go.WideShapes Go.ChangeAt Go.WideMaps Go.WideElems Go.RowKit
open Go.ChangeMaps (open_string shut_string)
open St (Tabs)

set_option maxRecDepth 100000 in
set_option maxHeartbeats 20000000 in
theorem sm_inA (k0 k : Nat) (q : Int) (s : ByteArray) (w : World) (hs : s.size ≤ 9223372036854775807) (g0 : 1 ≤ k0) (g1 : k0 ≤ 5) (g2 : 1 ≤ k) (g3 : k ≤ 5) (hq : q = 1 ∨ q = 2 ∨ q = 3) (g6 : s.size ≤ 300) (h0 : ∀ hp : 0 < s.size, s[0].toNat ≠ 0) (hp : 0 < s.size) (hT : Tabs w) : Calls Tryd.prog 6 #[.agg #[.int .i64 (k0 : Int), .int .i64 (k : Int)], .int .i64 q, .string s] w fun e w' => e = .returned (.bool true) ∧ Below w.heap.size w w' := by
  have hpos := hT.pos
  have HFin := Lib.hid (show ∀ w2 : World, Below w.heap.size w w2 → Tabs w2 from fun w2 h => hT.below h hpos)
  have B0 := Lib.hid (Below.refl w.heap.size w)
  have HA := Lib.hid (fun W hW => St.awake_any W hW)
  have BX := Lib.hid (B0.out.alloc (Nat.le_refl _) (.cells #[.int .i64 (k0 : Int), .int .i64 (k : Int)] 48))
  have a0 : ¬ (k0 : Int) < 1 := by omega
  have a1 : ¬ 5 < (k0 : Int) := by omega
  have a2 : ¬ (k : Int) < 1 := by omega
  have a3 : ¬ 5 < (k : Int) := by omega
  have a4 : ¬ q < 1 := by omega
  have a5 : ¬ 3 < q := by omega
  have a6 : ¬ (300 : Int) < s.size := by omega
  have hmb : bs (strB (Dg.mkL k)) = Dg.mkL k := bs_strB _ (mkL_B k g2 g3)
  have hmz : (strB (Dg.mkL k)).size = (Dg.mkL k).length := strB_size _
  have hml := Dg.mkL_len k g2 g3
  obtain ⟨e1, e2⟩ := Dg.marks1 k0 k q g2 g3 (bs s) (head_or s h0)
  have e3 := Dg.marks2 k q g2 g3 (bs s)
  rw [← hmb, ← bs_app] at e1 e2 e3
  rw [hmb, ← hmz] at e1 e3
  have hwl := Dg.whole_lens k q false (bs s)
  rw [bs_len] at hwl
  have HMK := Lib.hid (mk_at k g2 g3)
  have hapz : (strB (Dg.mkL k) ++ s).size = (strB (Dg.mkL k)).size + s.size := by
    have := bs_len (strB (Dg.mkL k) ++ s)
    rw [bs_app, List.length_append, bs_len, bs_len] at this
    omega
  generalize strB (Dg.mkL k) = m at *
  have hmz4 : m.size ≤ 4 := by omega
  have hsum : m.size + s.size ≤ 9223372036854775807 := by omega
  obtain ⟨ms, hms⟩ : ∃ ms, m ++ s = ms := ⟨_, rfl⟩
  rw [hms] at e1 e2 e3 hapz
  have HW1 := Lib.hid (fun W hW => St.whole_any k0 q true ms W hW g0 g1 hq (by omega))
  rw [e1, e2] at HW1
  have HW2 := Lib.hid (fun W hW => St.whole_any k q false s W hW g2 g3 hq (by omega))
  rw [Dg.knd_no] at HW2
  have HW3 := Lib.hid (fun W hW => St.whole_any k q false ms W hW g2 g3 hq (by omega))
  rw [Dg.knd_no, e3] at HW3
  clear e1 e2 e3 hmb hmz hapz
  obtain ⟨⟨rs, fs, er⟩, hd⟩ : ∃ d, Dg.whole k q false (bs s) = d := ⟨_, rfl⟩
  rw [hd] at HW1 HW2 HW3 hwl
  have HFR := Lib.hid (show ∀ x ∈ fs, x.1 ≤ 300 from fun x hx => by
    have h1 := Dg.dec_from (Dg.nxOk k) q (bs s) 0 x (by rw [← Dg.whole_no, hd]; exact hx)
    rw [bs_len] at h1
    omega)
  have hsh : (Dg.shf m.size (rs, fs, er)).2.1 = St.shL m.size fs := rfl
  have hsh1 : (Dg.shf m.size (rs, fs, er)).1 = rs := rfl
  have hsh2 : (Dg.shf m.size (rs, fs, er)).2.2 = er := rfl
  simp only at hwl
  unfold St.WholeP at HW1 HW2 HW3
  simp only [hsh, hsh1, hsh2] at HW1 HW2 HW3
  have hlf : (St.shL m.size fs).length = fs.length := by simp [St.shL]
  rw [hlf] at HW1 HW3
  have HLF := Lib.hid hlf
  have HFA := Lib.hid (fun (A B : Option Addr) (c d : Nat) W h1 h2 => (show Calls Tryd.prog 14 #[.slice A fs.length c, .slice B fs.length d] W (fun e w' => e = .returned (.bool true) ∧ Below W.heap.size W w') from by
    have h3 := faults_any A B c d (St.shL m.size fs) (St.shL m.size fs) W h1 h2 (by omega) (by omega)
    rw [hlf, show decide (St.shL m.size fs = St.shL m.size fs) = true from by simp] at h3
    exact h3))
  clear hlf
  have BW := Lib.hid (BX.out.alloc (by simp) (.cells (([⟨#[]⟩, ⟨#[255, 254]⟩, ⟨#[254, 255]⟩, ⟨#[255, 254, 0, 0]⟩, ⟨#[0, 0, 254, 255]⟩, ⟨#[239, 187, 191]⟩] : List ByteArray).map Value.string).toArray 9))
  have kcell : ((w.alloc (.cells #[.int .i64 (k0 : Int), .int .i64 (k : Int)] 48)).alloc (.cells (([⟨#[]⟩, ⟨#[255, 254]⟩, ⟨#[254, 255]⟩, ⟨#[255, 254, 0, 0]⟩, ⟨#[0, 0, 254, 255]⟩, ⟨#[239, 187, 191]⟩] : List ByteArray).map Value.string).toArray 9)).cell? ⟨w.heap.size + 1, k, none⟩ = some (.string m) := by
    rcases strs_new [⟨#[]⟩, ⟨#[255, 254]⟩, ⟨#[254, 255]⟩, ⟨#[255, 254, 0, 0]⟩, ⟨#[0, 0, 254, 255]⟩, ⟨#[239, 187, 191]⟩] 9 (w.alloc (.cells #[.int .i64 (k0 : Int), .int .i64 (k : Int)] 48)) 6 (by simp) with h | ⟨bk, o, e, _, _, h3⟩
    · simp at h
    · injection e with e
      injection e with e1 e2
      have := h3 k m HMK.out
      rw [← e1, ← e2] at this
      simpa using this
  simp only [List.map_cons, List.map_nil] at BW kcell
  have k6 : (k : Int) < 6 := by omega
  have hk0 : (0 : Int) ≤ k := by omega
  clear hT hd hsh hsh1 hsh2
  have a7 : (0 : Int) < s.size := by omega
  have a8 : ((s[0].toNat : Int) == 0) = false := by have := h0 hp; simp; exact this
  go_enter Tryd.func6, Tryd.ntmps6
  go_wp2_with fail
  refine (HW1.out _ (HFin.out _ BW.out)).mono ?_
  rintro e w3 ⟨A1, c1, A2, c2, rfl, _, _, hi1, hf1, hb3⟩
  have B3 := Lib.hid (BW.out.trans (hb3.mono BW.out.size))
  have I1 := Lib.hid hi1
  have F1 := Lib.hid hf1
  have p0 := hb3.cell (p := ⟨w.heap.size, 0, none⟩) (by simp; omega)
  have p1 := hb3.cell (p := ⟨w.heap.size, 1, none⟩) (by simp; omega)
  simp at p0 p1
  clear hi1 hf1 hb3 kcell
  go_wp2_with fail
  refine (HW2.out _ (HFin.out _ B3.out)).mono ?_
  rintro e w4 ⟨A3, c3, A4, c4, rfl, _, _, hi2, hf2, hb4⟩
  have B4 := Lib.hid (B3.out.trans (hb4.mono B3.out.size))
  have I1b := Lib.hid (I1.out.below hb4)
  have F1b := Lib.hid (F1.out.below hb4)
  have I2 := Lib.hid hi2
  have F2 := Lib.hid hf2
  have r1 := (hb4.cell (p := ⟨w.heap.size, 1, none⟩) (World.block_lt_of_cell? _ _ p1)).trans p1
  clear hi2 hf2 hb4 p0 p1
  go_wp2_with fail
  refine (HW3.out _ (HFin.out _ B4.out)).mono ?_
  rintro e w5 ⟨A5, c5, A6, c6, rfl, ho5, _, hi3, hf3, hb5⟩
  have B5 := Lib.hid (B4.out.trans (hb5.mono B4.out.size))
  have I1c := Lib.hid (I1b.out.below hb5)
  have F1c := Lib.hid (F1b.out.below hb5)
  have I2c := Lib.hid (I2.out.below hb5)
  have F2c := Lib.hid (F2.out.below hb5)
  have I3 := Lib.hid hi3
  have F3 := Lib.hid hf3
  have hcap := own_cap ho5
  have t1 := (hb5.cell (p := ⟨w.heap.size, 1, none⟩) (World.block_lt_of_cell? _ _ r1)).trans r1
  clear hi3 hf3 hb5 ho5 r1
  go_wp2_with fail
  refine (runes_any A1 A3 c1 c3 rs rs _ I1c.out I2c.out (by omega) (by omega)).mono ?_
  rintro e w6 ⟨rfl, hb6⟩
  rw [show decide (rs = rs) = true from by simp]
  have B6 := Lib.hid (B5.out.trans (hb6.mono B5.out.size))
  have I2d := Lib.hid (I2c.out.below hb6)
  have F1d := Lib.hid (F1c.out.below hb6)
  have F2d := Lib.hid (F2c.out.below hb6)
  have I3d := Lib.hid (I3.out.below hb6)
  have F3d := Lib.hid (F3.out.below hb6)
  have v1 := (hb6.cell (p := ⟨w.heap.size, 1, none⟩) (World.block_lt_of_cell? _ _ t1)).trans t1
  obtain ⟨b5, o5, hA5, hl5, hc5⟩ := I3d.out 0 (by simp)
  subst hA5
  have hc5' : w6.cell? ⟨b5, o5, none⟩ = some (.int .i32 65279) := hc5
  rw [List.length_cons] at hcap
  have hcap1 : (1 : Int) ≤ c5 := by omega
  have hcap2 : ((rs.length : Int) + 1) ≤ c5 := by omega
  clear hb6 hc5 t1
  have HJ1 : Hid (Ints .i32 w6 (some ⟨b5, o5 + 1, none⟩) rs) := fun i hi => by
    obtain ⟨bb, oo, e, hl, hc⟩ := I3d.out (i + 1) (by simp; omega)
    injection e with e
    injection e with e1 e2
    subst e1
    subst e2
    refine ⟨b5, o5 + 1, rfl, hl, ?_⟩
    rw [show o5 + 1 + i = o5 + (i + 1) by omega, hc]
    rfl
  by_cases hc1 : c5 = 1
  · subst hc1
    have hr0 : decide (([] : List Int) = rs) = true := by
      have : rs.length = 0 := by omega
      simp [List.eq_nil_of_length_eq_zero this]
    have HR0 := Lib.hid hr0
    have J2 : Hid (Ints .i32 w6 (some ⟨b5, o5, none⟩) []) := fun i hi => absurd hi (by simp)
    clear HJ1 hr0
    go_wp2_with fail
    refine (runes_any (some ⟨b5, o5, none⟩) A3 0 c3 [] rs _ J2.out I2d.out (by simp) (by omega)).mono ?_
    rw [HR0.out]
    rintro e w7 ⟨rfl, hb7⟩
    have B7 := Lib.hid (B6.out.trans (hb7.mono B6.out.size))
    have F1e := Lib.hid (F1d.out.below hb7)
    have F2e := Lib.hid (F2d.out.below hb7)
    have F3e := Lib.hid (F3d.out.below hb7)
    clear hb7
    go_wp2_with fail
    refine (HFA.out A2 A6 c2 c6 _ F1e.out F3e.out).mono ?_
    rintro e w8 ⟨rfl, hb8⟩
    have B8 := Lib.hid (B7.out.trans (hb8.mono B7.out.size))
    have F1f := Lib.hid (F1e.out.below hb8)
    have F2f := Lib.hid (F2e.out.below hb8)
    clear hb8
    go_wp2_with fail
    go_loopw [21] (fun i wr => ∃ n : Nat, i = .int .i64 n ∧ n ≤ fs.length ∧ Hid (Below w8.heap.size w8 wr)) (fun i _ => fs.length - (intOf i).toNat)
    case atStart => exact ⟨0, rfl, by omega, Below.refl _ _⟩
    case round =>
      obtain ⟨n, rfl, hnn, HR⟩ := hrel
      by_cases hlt : n < fs.length
      · have hlt' : (n : Int) < fs.length := by omega
        have hlt2 : n < (St.shL m.size fs).length := by rw [HLF.out]; exact hlt
        obtain ⟨ba, oa, hAa, hla, ka0, ka1⟩ := (F1f.out.below HR.out) n hlt2
        obtain ⟨bc, oc, hAc, hlc, kc0, kc1⟩ := (F2f.out.below HR.out) n hlt
        subst hAa
        subst hAc
        rw [shf_at m.size fs n hlt hlt2] at ka0 ka1
        have hxb := HFR.out _ (List.getElem_mem hlt)
        generalize fs[n] = x at *
        obtain ⟨x1, x2⟩ := x
        simp only at ka0 ka1 kc0 kc1 hxb
        obtain ⟨y1, hy1⟩ : ∃ y : Nat, y = m.size + x1 := ⟨_, rfl⟩
        rw [← hy1] at ka0
        have hwr : IntKind.i64.wrap ((x1 : Int) + (m.size : Int)) = (y1 : Int) := by rw [IntKind.wrap_i64]; omega
        have hg0 : ((y1 : Int) != (y1 : Int)) = false := by simp
        have hg1 : ((x2 : Int) != (x2 : Int)) = false := by simp
        clear hy1 hlt2
        clear HFin HA HMK HW1 HW2 HW3 HFR HLF HFA I1 F1 I1b F1b I2 F2 I1c F1c I2c F2c I3 F3 I2d F1d F2d I3d F3d F1e F2e F3e F1f F2f v1 hc5' B0 BX BW B3 B4 B5 B6 B7 B8
        go_wp2_with fail
        go_quiet (fail)
        go_wp2_with fail
        go_roundw
        case rel => exact ⟨n + 1, by go_num, by omega, bel_drewN HR.out _⟩
        case measure => simp [intOf]; omega
      · have hlt' : ¬ (n : Int) < fs.length := by omega
        have BB := Lib.hid (B8.out.trans (HR.out.mono B8.out.size))
        go_wp2_with (go_at_call 9; refine (HA.out _ (HFin.out _ BB.out)).mono ?_; rintro e w9 ⟨rfl, hb9⟩; have B9 := Lib.hid (BB.out.trans (hb9.mono BB.out.size)); clear hb9)
        go_ret
        exact ⟨rfl, B9.out⟩
  · go_wp2_with fail
    refine (runes_any (some ⟨b5, o5 + 1, none⟩) A3 (c5 - 1) c3 rs rs _ HJ1.out I2d.out (by omega) (by omega)).mono ?_
    rw [show decide (rs = rs) = true from by simp]
    rintro e w7 ⟨rfl, hb7⟩
    have B7 := Lib.hid (B6.out.trans (hb7.mono B6.out.size))
    have F1e := Lib.hid (F1d.out.below hb7)
    have F2e := Lib.hid (F2d.out.below hb7)
    have F3e := Lib.hid (F3d.out.below hb7)
    clear hb7
    go_wp2_with fail
    refine (HFA.out A2 A6 c2 c6 _ F1e.out F3e.out).mono ?_
    rintro e w8 ⟨rfl, hb8⟩
    have B8 := Lib.hid (B7.out.trans (hb8.mono B7.out.size))
    have F1f := Lib.hid (F1e.out.below hb8)
    have F2f := Lib.hid (F2e.out.below hb8)
    clear hb8
    go_wp2_with fail
    go_loopw [21] (fun i wr => ∃ n : Nat, i = .int .i64 n ∧ n ≤ fs.length ∧ Hid (Below w8.heap.size w8 wr)) (fun i _ => fs.length - (intOf i).toNat)
    case atStart => exact ⟨0, rfl, by omega, Below.refl _ _⟩
    case round =>
      obtain ⟨n, rfl, hnn, HR⟩ := hrel
      by_cases hlt : n < fs.length
      · have hlt' : (n : Int) < fs.length := by omega
        have hlt2 : n < (St.shL m.size fs).length := by rw [HLF.out]; exact hlt
        obtain ⟨ba, oa, hAa, hla, ka0, ka1⟩ := (F1f.out.below HR.out) n hlt2
        obtain ⟨bc, oc, hAc, hlc, kc0, kc1⟩ := (F2f.out.below HR.out) n hlt
        subst hAa
        subst hAc
        rw [shf_at m.size fs n hlt hlt2] at ka0 ka1
        have hxb := HFR.out _ (List.getElem_mem hlt)
        generalize fs[n] = x at *
        obtain ⟨x1, x2⟩ := x
        simp only at ka0 ka1 kc0 kc1 hxb
        obtain ⟨y1, hy1⟩ : ∃ y : Nat, y = m.size + x1 := ⟨_, rfl⟩
        rw [← hy1] at ka0
        have hwr : IntKind.i64.wrap ((x1 : Int) + (m.size : Int)) = (y1 : Int) := by rw [IntKind.wrap_i64]; omega
        have hg0 : ((y1 : Int) != (y1 : Int)) = false := by simp
        have hg1 : ((x2 : Int) != (x2 : Int)) = false := by simp
        clear hy1 hlt2
        clear HFin HA HMK HW1 HW2 HW3 HFR HLF HFA I1 F1 I1b F1b I2 F2 I1c F1c I2c F2c I3 F3 I2d F1d F2d I3d F3d F1e F2e F3e F1f F2f v1 hc5' B0 BX BW B3 B4 B5 B6 B7 B8
        go_wp2_with fail
        go_quiet (fail)
        go_wp2_with fail
        go_roundw
        case rel => exact ⟨n + 1, by go_num, by omega, bel_drewN HR.out _⟩
        case measure => simp [intOf]; omega
      · have hlt' : ¬ (n : Int) < fs.length := by omega
        have BB := Lib.hid (B8.out.trans (HR.out.mono B8.out.size))
        go_wp2_with (go_at_call 9; refine (HA.out _ (HFin.out _ BB.out)).mono ?_; rintro e w9 ⟨rfl, hb9⟩; have B9 := Lib.hid (BB.out.trans (hb9.mono BB.out.size)); clear hb9)
        go_ret
        exact ⟨rfl, B9.out⟩
end Go.Proofs.YthnfopjjghohcaaDoor

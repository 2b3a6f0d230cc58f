/- UcdOrder: for every input the law returns true and it reads as before: rows rise, and may be, but for their names, and characters that Sets tells rise. Conditions: the library's tables as the program's text lays them (tied). -/
import Derived.Test.YtajhgbcgbgpcjaaDoorHF
import Derived.Test.YtajhgbcgbgpcjaaDoorGK
import Derived.Test.YtajhgbcgbgpcjaaDoorGQ
import Derived.Test.YtajhgbcgbgpcjaaDoorGV
import Derived.Test.YtajhgbcgbgpcjaaDoorCq
import Derived.Test.YtajhgbcgbgpcjaaDoorFT
import Derived.Test.YtajhgbcgbgpcjaaDoorCards
import Derived.Deep.QuietTactic
import Derived.BigQuiet
import Derived.Deep.RegionHeld3
import Derived.ShutString
import Derived.ChangeOld
namespace Go.Proofs.YtajhgbcgbgpcjaaDoor
open Go.ChangeShapes Go.WideShapes Go.ChangeAt Go.WideMaps Go.WideElems Go.RowKit
open Go.ChangeMaps (open_string shut_string)
open Fi Uc

theorem rowE_kd {t : List UInt8} (ht : t.length ≤ 512) : (rowE t).1.kd.length ≤ 512 := by
  unfold rowE
  split
  · simp [z0]
  · unfold rowF
    split
    · simp [z0]
    · split
      · simp [z0]
      · split
        · simp [z0]
        · split
          · simp [z0]
          · exact Nat.le_trans (intE_kd _) (Nat.le_trans (fld_mem t 5) ht)
def KdB (rs : List Rw) : Prop := ∀ x ∈ rs, x.kd.length ≤ 512
theorem stp_kd {rs : List Rw} {op no : Nat} {t : List UInt8} (h : KdB rs) (ht : t.length ≤ 512) : KdB (stp rs op no t).1 := by
  have hr := rowE_kd ht
  have hl : (lastR rs).kd.length ≤ 512 := by
    by_cases e : rs = []
    · subst e; decide
    · obtain ⟨m, y, rfl⟩ := snoc_of e
      rw [lastR_snoc]
      exact h y (by simp)
  have hap : ∀ y : Rw, y.kd.length ≤ 512 → KdB (rs ++ [y]) := fun y hy x hx => by
    rcases List.mem_append.1 hx with hx | hx
    · exact h x hx
    · simp at hx; subst hx; exact hy
  by_cases h1 : (rowE t).2 = 0
  · by_cases h2 : (rgN (rowE t).1.nm lastE).isSome = true ∨ op ≠ 0
    · by_cases h3 : op = 0 ∨ endB (rowE t).1 (lastR rs) = false
      · rw [stp_bad h1 h2 h3]; exact h
      · rw [stp_last h1 h2 h3]
        intro x hx
        rcases List.mem_append.1 hx with hx | hx
        · exact h x ((List.dropLast_sublist rs).subset hx)
        · simp at hx; subst hx; exact hl
    · by_cases h3 : rs ≠ [] ∧ (rowE t).1.fr ≤ (lastR rs).tt
      · rw [stp_there h1 h2 h3]; exact h
      · cases h4 : rgN (rowE t).1.nm firstE with
        | some n => rw [stp_first h1 h2 h3 h4]; exact hap _ hr
        | none => rw [stp_one h1 h2 h3 h4]; exact hap _ hr
  · rw [stp_err h1]; exact h
theorem run_kd : ∀ (l : List (Nat × List UInt8)) (rs : List Rw) (op : Nat), (∀ x ∈ l, x.2.length ≤ 512) → KdB rs → KdB (Uc.run rs op l).1
  | [], rs, op, _, h => h
  | x :: l, rs, op, hl, h => by
    by_cases h1 : (stp rs op x.1 x.2).2.2 = 0
    · rw [run_cons h1]; exact run_kd l _ _ (fun y hy => hl y (by simp [hy])) (stp_kd h (hl x (by simp)))
    · rw [run_wrong h1]; exact stp_kd h (hl x (by simp))
theorem rws_kd (s : List UInt8) : KdB (rwsE s).1 := by
  have hn : KdB [] := fun x hx => by cases hx
  have h := run_kd (linE s).1 [] 0 (fun x hx => ((lin_bd s).2 x hx).2.2) hn
  unfold rwsE
  split
  · exact hn
  · split
    · exact hn
    · split
      · exact hn
      · exact h
theorem chk_fin {x : Rw} (h : Fin x) : chkE { x with nm := [], ct := [] } = 0 := by
  have h1 : rngB x.fr x.tt x.cl x.into = true := by
    unfold rngB
    simp only [Bool.and_eq_true, decide_eq_true_eq]
    exact ⟨h.fr, h.tt, h.le, h.cl0, h.cl1, h.into, List.all_eq_true.2 h.sc⟩
  have h2 : frmB x.fr x.tt [] [] x.kd x.into.length = true := by
    unfold frmB
    have a : (!(decide (x.kd ≠ []) && decide (x.into.length = 0))) = true := by
      by_cases hk : x.kd = []
      · simp [hk]
      · have : x.into ≠ [] := fun e => hk (h.none e)
        simp [this]
    have c : plB [] = true := by decide
    by_cases hf : x.fr ≠ x.tt
    · rw [if_pos hf, h.kd, a, c, h.rg hf]; rfl
    · rw [if_neg hf, h.kd, a, c]; decide
  unfold chkE
  simp only [h1, h2]
  rfl
theorem setP_sl2 {w w' : World} {x : List Int × Nat × Int} {e : Ending} (h : SetP w x e w') : ∃ A c, e = .returned (.tuple #[.slice A x.1.length c, .int .i64 x.2.1, .int .i64 x.2.2]) ∧ Ints .i32 w' A x.1 ∧ Below w.heap.size w w' := by
  obtain ⟨v, he, ho, hb⟩ := h
  obtain ⟨A, c, rfl, hr⟩ := own_ints ho
  exact ⟨A, c, he, hr, hb⟩
theorem rwsP_sl9 {w w' : World} {T : TypeId} {x : List Rw × Nat × Int} {e : Ending} (h : RwsP w T x e w') : ∃ A c, e = .returned (.tuple #[.slice A x.1.length c, .int .i64 x.2.1, .int .i64 x.2.2]) ∧ Rws w' A x.1 ∧ Below w.heap.size w w' := by
  obtain ⟨v, l, he, hl, hin, hb⟩ := h
  obtain ⟨A, c, rfl, hr⟩ := hin.rws
  rw [hl] at hr he
  exact ⟨A, c, he, hr, hb⟩
theorem run_rows9 (rs : List Rw) (op : Nat) (l : List (Nat × List UInt8)) : (Uc.run rs op l).1.length ≤ rs.length + l.length := by
  induction l generalizing rs op with
  | nil => simp [Uc.run]
  | cons x l ih =>
    have h2 := (stp_len (rs := rs) (op := op) (no := x.1) (t := x.2)).1
    by_cases h3 : (stp rs op x.1 x.2).2.2 = 0
    · rw [run_cons h3]
      have := ih (stp rs op x.1 x.2).1 (stp rs op x.1 x.2).2.1
      simp
      omega
    · rw [run_wrong h3]
      simp
      omega
theorem rws_len9 (l : List UInt8) : (rwsE l).1.length ≤ 4096 := by
  unfold rwsE
  have h1 := (lin_bd l).1
  have h4 := run_rows9 [] 0 (linE l).1
  simp at h4
  split
  · simp
  · split
    · simp
    · split
      · simp
      · simp; omega
set_option maxRecDepth 100000 in
set_option maxHeartbeats 16000000 in
theorem ucdOrder_walk (s : ByteArray) (w : World) (hs : s.size ≤ 9223372036854775807) (hL : Ml w) : Calls Tryd.prog 5 #[.string s] w fun e w' => e = .returned (.bool true) ∧ Below w.heap.size w w' := by
  have hpos := hL.pos
  have HFin := Lib.hid (show ∀ w2 : World, Below w.heap.size w w2 → Calls Tryd.prog 7 #[] w2 fun e w' => e = .returned (.bool true) ∧ Below w2.heap.size w2 w' from fun w2 h => Uc.awake_any w2 (hL.below h hpos))
  by_cases h1 : s.size ≤ 4000
  · have g1 : ¬ (4000 : Int) < s.size := by omega
    have hA := (rows_any s w hL (by omega)).mono fun e w' h => rwsP_sl9 h
    have hB := fun W (h : Below w.heap.size w W) => (sets_any s W (hL.below h hpos) (by omega)).mono fun e w' h => setP_sl2 h
    have hlen := rws_len9 s.data.toList
    have hsure := rws_sure s.data.toList
    have hkd := rws_kd s.data.toList
    have hsi := setsE_inv s.data.toList
    have hsl := hsi.1.len
    generalize rwsE s.data.toList = x at *
    generalize setsE s.data.toList = z at *
    obtain ⟨rs, no, er⟩ := x
    obtain ⟨ss, n5, f5⟩ := z
    simp only at hA hB hlen hsure hsi hsl hkd
    have HA := Lib.hid hA
    have HB := Lib.hid hB
    have HRS := Lib.hid hsure
    have HSI := Lib.hid hsi
    have HKD := Lib.hid hkd
    clear hA hB hL hsi hkd
    obtain ⟨_, _, s3, s4, s5⟩ := hsure
    by_cases h2 : er = 0
    · subst h2
      obtain rfl : no = 0 := s4 rfl
      clear s3 s4 s5
      go_enter Tryd.func5, Tryd.ntmps5
      go_wp2_with fail
      refine HA.out.mono ?_; rintro e w1 ⟨A1, c1, rfl, hi, hb⟩; have N1 := Lib.hid hi; have D1 := Lib.hid hb; clear hi hb HA
      go_wp2_with fail
      go_loopw [6, 7] (fun i _ wx => ∃ k : Nat, i = .int .i64 k ∧ k ≤ rs.length ∧ Hid (Below w1.heap.size w1 wx)) (fun i _ _ => rs.length - (intOf i).toNat)
      case atStart => exact ⟨0, rfl, by omega, Below.refl _ _⟩
      case round =>
        obtain ⟨k, rfl, hk, HQ⟩ := hrel
        by_cases hlt : k < rs.length
        · obtain ⟨b, off, v, rfl, hb, hv, p0, p1, p2, p3, p4, p5, p6⟩ := (N1.out.below HQ.out) k hlt
          have hfin := HRS.out.1 (rs[k]'hlt) (List.getElem_mem hlt)
          have hch := chk_fin hfin
          have hkz := hfin.into
          have hkk := HKD.out (rs[k]'hlt) (List.getElem_mem hlt)
          have hpre : ∀ j, k = j + 1 → ∃ z, (wr.cell? ⟨b, off + j * 7 + 1, none⟩ = some (.int .i32 z)) ∧ z < (rs[k]'hlt).fr := fun j hj => by
            obtain ⟨b', off', v', e', _, _, _, q1, _⟩ := (N1.out.below HQ.out) j (by omega)
            simp only [Option.some.injEq, Addr.mk.injEq] at e'
            obtain ⟨rfl, rfl, _⟩ := e'
            subst hj
            exact ⟨_, q1, HRS.out.2.1 j hlt⟩
          have g2 : (k : Int) < rs.length := by omega
          generalize rs[k] = y at *
          obtain ⟨f, tt, nm, ct, cl, kd, into⟩ := y
          obtain ⟨A3, c3, rfl, hi3⟩ := hv
          simp only at p0 p1 p2 p3 p4 p5 p6 hi3 hch hkz hkk hpre
          obtain ⟨kb, hkb⟩ : ∃ kb : ByteArray, kb = ⟨kd.toArray⟩ := ⟨_, rfl⟩
          have hkl : kb.data.toList = kd := by rw [hkb]
          rw [← hkb] at p5
          have hks : kb.size ≤ 9223372036854775807 := by rw [hkb, size_mk]; omega
          have hch' : chkE ⟨f, tt, [], [], cl, kd, into⟩ = 0 := hch
          have hC := fun W (h : Below wr.heap.size wr W) => check_any f tt cl ⟨#[]⟩ ⟨#[]⟩ kb A3 c3 into W (hi3.below h) (by decide) (by decide) hks
          rw [hkl] at hC
          change ∀ W, Below wr.heap.size wr W → Calls Tryd.prog _ _ W fun e w' => e = .returned (.int .i64 (chkE ⟨f, tt, [], [], cl, kd, into⟩)) ∧ Below W.heap.size W w' at hC
          simp only [hch'] at hC
          have HC := Lib.hid hC
          have HPRE := Lib.hid hpre
          have P0 := Lib.hid p0
          clear hC hi3 hkz hkl hkb hks hch hch' hfin hpre hkk
          go_upto_region 12 with fail
          obtain ⟨wx, hwx⟩ : ∃ x, x = (wr.alloc (.cells #[.int .i32 f, .int .i32 tt, .string ⟨#[]⟩, .string ⟨#[]⟩, .int .i64 cl, .string kb, .slice A3 into.length c3] 33)) := ⟨_, rfl⟩
          have hDX : Below wr.heap.size wr wx := by rw [hwx]; exact (Below.refl _ wr).alloc (Nat.le_refl _) _
          have hBX : Bk wx wr.heap.size [.int .i32 f, .int .i32 tt, .string ⟨#[]⟩, .string ⟨#[]⟩, .int .i64 cl, .string kb, .slice A3 into.length c3] 33 := by rw [hwx]; exact ⟨heap_alloc_new wr _⟩
          rw [← hwx]
          clear hwx
          have DX := Lib.hid hDX
          have BX := Lib.hid hBX
          clear hDX hBX p0 p1 p2 p3 p4 p5 p6
          cases k with
          | zero =>
            have y0 := Bel.cell (w0 := wx) (p := ⟨wr.heap.size, 0, none⟩) (BX.out.c (i := 0) rfl) (BX.out.lt)
            have y1 := Bel.cell (w0 := wx) (p := ⟨wr.heap.size, 1, none⟩) (BX.out.c (i := 1) rfl) (BX.out.lt)
            have y2 := Bel.cell (w0 := wx) (p := ⟨wr.heap.size, 2, none⟩) (BX.out.c (i := 2) rfl) (BX.out.lt)
            have y3 := Bel.cell (w0 := wx) (p := ⟨wr.heap.size, 3, none⟩) (BX.out.c (i := 3) rfl) (BX.out.lt)
            have y4 := Bel.cell (w0 := wx) (p := ⟨wr.heap.size, 4, none⟩) (BX.out.c (i := 4) rfl) (BX.out.lt)
            have y5 := Bel.cell (w0 := wx) (p := ⟨wr.heap.size, 5, none⟩) (BX.out.c (i := 5) rfl) (BX.out.lt)
            have y6 := Bel.cell (w0 := wx) (p := ⟨wr.heap.size, 6, none⟩) (BX.out.c (i := 6) rfl) (BX.out.lt)
            refine wp_region_bel (by kernel_rfl) (by kernel_rfl) ?_
            repeat (go_big_quiet_step (first | (go_at_call 14; exact bel_call (HC.out _ (Bel.on DX.out _)))))
            refine wpQuiet_nil ?_
            intro x7
            have E7 := Lib.hid x7.b
            go_wp2_with fail
            go_roundw
            case rel => exact ⟨1, by go_num, by omega, HQ.out.trans ((DX.out.trans (E7.out.mono DX.out.size)).mono HQ.out.size)⟩
            case measure => simp [intOf]; omega
          | succ j =>
            obtain ⟨z, q1, hz⟩ := HPRE.out j rfl
            have P1 := Lib.hid q1
            have g3 : ¬ f ≤ z := by omega
            have g4 : (j : Int) < rs.length := by omega
            have g5 : (0 : Int) < (j : Int) + 1 := by omega
            have g6 : (j : Int) + 1 < rs.length := by omega
            have g7 : (0 : Int) ≤ (j : Int) + 1 := by omega
            have g8 : (0 : Int) ≤ (j : Int) := by omega
            have g9 : IntKind.i64.wrap ((j : Int) + 1 - 1) = (j : Int) := by rw [IntKind.wrap_i64]; omega
            have hbx : b < wx.heap.size := Nat.lt_of_lt_of_le hb DX.out.size
            clear q1 hz
            have y0 := Bel.cell (w0 := wx) (p := ⟨wr.heap.size, 0, none⟩) (BX.out.c (i := 0) rfl) (BX.out.lt)
            have y1 := Bel.cell (w0 := wx) (p := ⟨wr.heap.size, 1, none⟩) (BX.out.c (i := 1) rfl) (BX.out.lt)
            have y2 := Bel.cell (w0 := wx) (p := ⟨wr.heap.size, 2, none⟩) (BX.out.c (i := 2) rfl) (BX.out.lt)
            have y3 := Bel.cell (w0 := wx) (p := ⟨wr.heap.size, 3, none⟩) (BX.out.c (i := 3) rfl) (BX.out.lt)
            have y4 := Bel.cell (w0 := wx) (p := ⟨wr.heap.size, 4, none⟩) (BX.out.c (i := 4) rfl) (BX.out.lt)
            have y5 := Bel.cell (w0 := wx) (p := ⟨wr.heap.size, 5, none⟩) (BX.out.c (i := 5) rfl) (BX.out.lt)
            have y6 := Bel.cell (w0 := wx) (p := ⟨wr.heap.size, 6, none⟩) (BX.out.c (i := 6) rfl) (BX.out.lt)
            have y7 := Bel.cell (w0 := wx) (p := ⟨b, off + (j + 1) * 7, none⟩) ((DX.out.cell (p := ⟨b, off + (j + 1) * 7, none⟩) hb).trans P0.out) (hbx)
            have y8 := Bel.cell (w0 := wx) (p := ⟨b, off + j * 7 + 1, none⟩) ((DX.out.cell (p := ⟨b, off + j * 7 + 1, none⟩) hb).trans P1.out) (hbx)
            refine wp_region_bel (by kernel_rfl) (by kernel_rfl) ?_
            repeat (go_big_quiet_step (first | (go_at_call 14; exact bel_call (HC.out _ (Bel.on DX.out _)))))
            refine wpQuiet_nil ?_
            intro x7
            have E7 := Lib.hid x7.b
            go_wp2_with fail
            go_roundw
            case rel => exact ⟨j + 2, by go_num, by omega, HQ.out.trans ((DX.out.trans (E7.out.mono DX.out.size)).mono HQ.out.size)⟩
            case measure => simp [intOf]; omega
        · have g2 : ¬ (k : Int) < rs.length := by omega
          have D4 := Lib.hid (D1.out.trans (HQ.out.mono D1.out.size))
          clear HQ
          go_wp2_with fail
          refine (HB.out _ D4.out).mono ?_
          rintro e w5 ⟨A2, c2, rfl, hi5, hb5⟩
          have N5 := Lib.hid hi5
          have D5 := Lib.hid (D4.out.trans (hb5.mono D4.out.size))
          clear hb5 hi5 HB D4
          go_wp2_with fail
          go_loopw [11] (fun i wx => ∃ k : Nat, i = .int .i64 k ∧ k ≤ ss.length ∧ Hid (Below w5.heap.size w5 wx)) (fun i _ => ss.length - (intOf i).toNat)
          case atStart => exact ⟨0, rfl, by omega, Below.refl _ _⟩
          case round =>
            obtain ⟨k, rfl, hk, HQ⟩ := hrel
            by_cases hlt : k < ss.length
            · obtain ⟨b, off, rfl, hb, p0⟩ := (N5.out.below HQ.out) k hlt
              have hsc := HSI.out.1.scs (ss[k]'hlt) (List.getElem_mem hlt)
              have ek : ss.getD k 0 = ss[k]'hlt := by simp [List.getD, List.getElem?_eq_getElem hlt]
              try rw [ek] at p0
              have g2 : (k : Int) < ss.length := by omega
              cases k with
              | zero =>
                simp only [Nat.add_zero] at p0
                generalize ss[0] = y at *
                have g6 : (0 : Int) < ss.length := by omega
                have g7 : decide ((0 : Int) < 0) = false := rfl
                have HS := Lib.hid (fun W => by have := scalar_any y W; rw [hsc] at this; exact this)
                clear hsc ek
                go_wp2_with fail
                go_quiet (first | (go_at_call 15; exact Calls.quiet_of_same ((HS.out _).mono fun _ _ h => ⟨h.1, h.2.symm⟩)))
                go_wp2_with fail
                go_roundw
                case rel => exact ⟨1, by go_num, by omega, bel_drewN HQ.out _⟩
                case measure => simp [intOf]; omega
              | succ j =>
                obtain ⟨b', off', e', _, q0⟩ := (N5.out.below HQ.out) j (by omega)
                simp only [Option.some.injEq, Addr.mk.injEq] at e'
                obtain ⟨rfl, rfl, _⟩ := e'
                have ej : ss.getD j 0 = ss[j]'(by omega) := by simp [List.getD, List.getElem?_eq_getElem (show j < ss.length by omega)]
                try rw [ej] at q0
                have hrs := List.pairwise_iff_getElem.1 HSI.out.1.rise j (j + 1) (by omega) hlt (by omega)
                generalize ss[j + 1] = y at *
                generalize ss[j] = z at *
                have HS := Lib.hid (fun W => by have := scalar_any y W; rw [hsc] at this; exact this)
                have g3 : ¬ y ≤ z := by omega
                have g4 : (j : Int) < ss.length := by omega
                have g5 : (0 : Int) < (j : Int) + 1 := by omega
                have g6 : (j : Int) + 1 < ss.length := by omega
                clear hsc ek ej hrs
                go_wp2_with fail
                go_quiet (first | (go_at_call 15; exact Calls.quiet_of_same ((HS.out _).mono fun _ _ h => ⟨h.1, h.2.symm⟩)))
                go_wp2_with fail
                go_roundw
                case rel => exact ⟨j + 2, by go_num, by omega, bel_drewN HQ.out _⟩
                case measure => simp [intOf]; omega
            · have g2 : ¬ (k : Int) < ss.length := by omega
              have D6 := Lib.hid (D5.out.trans (HQ.out.mono D5.out.size))
              have g3 : (ss.length : Int) ≤ 4096 := by have := HSI.out.1.len; omega
              have g4 : ¬ (4096 : Int) < (ss.length : Int) := by omega
              clear HQ
              by_cases h5 : f5 = 0
              · subst h5
                go_wp2_with fail
                refine (HFin.out _ D6.out).mono ?_
                rintro e w9 ⟨rfl, hb9⟩
                have B9 := Lib.hid (D6.out.trans (hb9.mono D6.out.size))
                clear hb9
                go_wp2_with fail
                go_ret
                exact ⟨rfl, B9.out⟩
              · have hz5 : ss = [] := HSI.out.2 h5
                have e5 : (f5 == 0) = false := by simpa using h5
                have e6 : ((ss.length : Int) == 0) = true := by rw [hz5]; rfl
                clear hz5
                go_wp2_with fail
                refine (HFin.out _ D6.out).mono ?_
                rintro e w9 ⟨rfl, hb9⟩
                have B9 := Lib.hid (D6.out.trans (hb9.mono D6.out.size))
                clear hb9
                go_wp2_with fail
                go_ret
                exact ⟨rfl, B9.out⟩
    · have hz : rs = [] := s3 h2
      have e1 : (er == 0) = false := by simpa using h2
      have e2 : (er != 0) = true := by simpa using h2
      have e3 : ((rs.length : Int) != 0) = false := by rw [hz]; rfl
      clear hz s3 s4
      have s5 := s5 h2
      by_cases h3 : no = 0
      · subst h3
        have h4 : er = 14 ∨ er = 10 := by omega
        clear s5
        rcases h4 with rfl | rfl
        all_goals
          clear h2 e1 e2
          go_enter Tryd.func5, Tryd.ntmps5
          go_wp2_with fail
          refine HA.out.mono ?_; rintro e w1 ⟨A1, c1, rfl, hi, hb⟩; have N1 := Lib.hid hi; have D1 := Lib.hid hb; clear hi hb HA
          go_wp2_with fail
          go_loopw [6, 7] (fun i _ wx => ∃ k : Nat, i = .int .i64 k ∧ k ≤ rs.length ∧ Hid (Below w1.heap.size w1 wx)) (fun i _ _ => rs.length - (intOf i).toNat)
          case atStart => exact ⟨0, rfl, by omega, Below.refl _ _⟩
          case round =>
            obtain ⟨k, rfl, hk, HQ⟩ := hrel
            by_cases hlt : k < rs.length
            · obtain ⟨b, off, v, rfl, hb, hv, p0, p1, p2, p3, p4, p5, p6⟩ := (N1.out.below HQ.out) k hlt
              have hfin := HRS.out.1 (rs[k]'hlt) (List.getElem_mem hlt)
              have hch := chk_fin hfin
              have hkz := hfin.into
              have hkk := HKD.out (rs[k]'hlt) (List.getElem_mem hlt)
              have hpre : ∀ j, k = j + 1 → ∃ z, (wr.cell? ⟨b, off + j * 7 + 1, none⟩ = some (.int .i32 z)) ∧ z < (rs[k]'hlt).fr := fun j hj => by
                obtain ⟨b', off', v', e', _, _, _, q1, _⟩ := (N1.out.below HQ.out) j (by omega)
                simp only [Option.some.injEq, Addr.mk.injEq] at e'
                obtain ⟨rfl, rfl, _⟩ := e'
                subst hj
                exact ⟨_, q1, HRS.out.2.1 j hlt⟩
              have g2 : (k : Int) < rs.length := by omega
              generalize rs[k] = y at *
              obtain ⟨f, tt, nm, ct, cl, kd, into⟩ := y
              obtain ⟨A3, c3, rfl, hi3⟩ := hv
              simp only at p0 p1 p2 p3 p4 p5 p6 hi3 hch hkz hkk hpre
              obtain ⟨kb, hkb⟩ : ∃ kb : ByteArray, kb = ⟨kd.toArray⟩ := ⟨_, rfl⟩
              have hkl : kb.data.toList = kd := by rw [hkb]
              rw [← hkb] at p5
              have hks : kb.size ≤ 9223372036854775807 := by rw [hkb, size_mk]; omega
              have hch' : chkE ⟨f, tt, [], [], cl, kd, into⟩ = 0 := hch
              have hC := fun W (h : Below wr.heap.size wr W) => check_any f tt cl ⟨#[]⟩ ⟨#[]⟩ kb A3 c3 into W (hi3.below h) (by decide) (by decide) hks
              rw [hkl] at hC
              change ∀ W, Below wr.heap.size wr W → Calls Tryd.prog _ _ W fun e w' => e = .returned (.int .i64 (chkE ⟨f, tt, [], [], cl, kd, into⟩)) ∧ Below W.heap.size W w' at hC
              simp only [hch'] at hC
              have HC := Lib.hid hC
              have HPRE := Lib.hid hpre
              have P0 := Lib.hid p0
              clear hC hi3 hkz hkl hkb hks hch hch' hfin hpre hkk
              go_upto_region 12 with fail
              obtain ⟨wx, hwx⟩ : ∃ x, x = (wr.alloc (.cells #[.int .i32 f, .int .i32 tt, .string ⟨#[]⟩, .string ⟨#[]⟩, .int .i64 cl, .string kb, .slice A3 into.length c3] 33)) := ⟨_, rfl⟩
              have hDX : Below wr.heap.size wr wx := by rw [hwx]; exact (Below.refl _ wr).alloc (Nat.le_refl _) _
              have hBX : Bk wx wr.heap.size [.int .i32 f, .int .i32 tt, .string ⟨#[]⟩, .string ⟨#[]⟩, .int .i64 cl, .string kb, .slice A3 into.length c3] 33 := by rw [hwx]; exact ⟨heap_alloc_new wr _⟩
              rw [← hwx]
              clear hwx
              have DX := Lib.hid hDX
              have BX := Lib.hid hBX
              clear hDX hBX p0 p1 p2 p3 p4 p5 p6
              cases k with
              | zero =>
                have y0 := Bel.cell (w0 := wx) (p := ⟨wr.heap.size, 0, none⟩) (BX.out.c (i := 0) rfl) (BX.out.lt)
                have y1 := Bel.cell (w0 := wx) (p := ⟨wr.heap.size, 1, none⟩) (BX.out.c (i := 1) rfl) (BX.out.lt)
                have y2 := Bel.cell (w0 := wx) (p := ⟨wr.heap.size, 2, none⟩) (BX.out.c (i := 2) rfl) (BX.out.lt)
                have y3 := Bel.cell (w0 := wx) (p := ⟨wr.heap.size, 3, none⟩) (BX.out.c (i := 3) rfl) (BX.out.lt)
                have y4 := Bel.cell (w0 := wx) (p := ⟨wr.heap.size, 4, none⟩) (BX.out.c (i := 4) rfl) (BX.out.lt)
                have y5 := Bel.cell (w0 := wx) (p := ⟨wr.heap.size, 5, none⟩) (BX.out.c (i := 5) rfl) (BX.out.lt)
                have y6 := Bel.cell (w0 := wx) (p := ⟨wr.heap.size, 6, none⟩) (BX.out.c (i := 6) rfl) (BX.out.lt)
                refine wp_region_bel (by kernel_rfl) (by kernel_rfl) ?_
                repeat (go_big_quiet_step (first | (go_at_call 14; exact bel_call (HC.out _ (Bel.on DX.out _)))))
                refine wpQuiet_nil ?_
                intro x7
                have E7 := Lib.hid x7.b
                go_wp2_with fail
                go_roundw
                case rel => exact ⟨1, by go_num, by omega, HQ.out.trans ((DX.out.trans (E7.out.mono DX.out.size)).mono HQ.out.size)⟩
                case measure => simp [intOf]; omega
              | succ j =>
                obtain ⟨z, q1, hz⟩ := HPRE.out j rfl
                have P1 := Lib.hid q1
                have g3 : ¬ f ≤ z := by omega
                have g4 : (j : Int) < rs.length := by omega
                have g5 : (0 : Int) < (j : Int) + 1 := by omega
                have g6 : (j : Int) + 1 < rs.length := by omega
                have g7 : (0 : Int) ≤ (j : Int) + 1 := by omega
                have g8 : (0 : Int) ≤ (j : Int) := by omega
                have g9 : IntKind.i64.wrap ((j : Int) + 1 - 1) = (j : Int) := by rw [IntKind.wrap_i64]; omega
                have hbx : b < wx.heap.size := Nat.lt_of_lt_of_le hb DX.out.size
                clear q1 hz
                have y0 := Bel.cell (w0 := wx) (p := ⟨wr.heap.size, 0, none⟩) (BX.out.c (i := 0) rfl) (BX.out.lt)
                have y1 := Bel.cell (w0 := wx) (p := ⟨wr.heap.size, 1, none⟩) (BX.out.c (i := 1) rfl) (BX.out.lt)
                have y2 := Bel.cell (w0 := wx) (p := ⟨wr.heap.size, 2, none⟩) (BX.out.c (i := 2) rfl) (BX.out.lt)
                have y3 := Bel.cell (w0 := wx) (p := ⟨wr.heap.size, 3, none⟩) (BX.out.c (i := 3) rfl) (BX.out.lt)
                have y4 := Bel.cell (w0 := wx) (p := ⟨wr.heap.size, 4, none⟩) (BX.out.c (i := 4) rfl) (BX.out.lt)
                have y5 := Bel.cell (w0 := wx) (p := ⟨wr.heap.size, 5, none⟩) (BX.out.c (i := 5) rfl) (BX.out.lt)
                have y6 := Bel.cell (w0 := wx) (p := ⟨wr.heap.size, 6, none⟩) (BX.out.c (i := 6) rfl) (BX.out.lt)
                have y7 := Bel.cell (w0 := wx) (p := ⟨b, off + (j + 1) * 7, none⟩) ((DX.out.cell (p := ⟨b, off + (j + 1) * 7, none⟩) hb).trans P0.out) (hbx)
                have y8 := Bel.cell (w0 := wx) (p := ⟨b, off + j * 7 + 1, none⟩) ((DX.out.cell (p := ⟨b, off + j * 7 + 1, none⟩) hb).trans P1.out) (hbx)
                refine wp_region_bel (by kernel_rfl) (by kernel_rfl) ?_
                repeat (go_big_quiet_step (first | (go_at_call 14; exact bel_call (HC.out _ (Bel.on DX.out _)))))
                refine wpQuiet_nil ?_
                intro x7
                have E7 := Lib.hid x7.b
                go_wp2_with fail
                go_roundw
                case rel => exact ⟨j + 2, by go_num, by omega, HQ.out.trans ((DX.out.trans (E7.out.mono DX.out.size)).mono HQ.out.size)⟩
                case measure => simp [intOf]; omega
            · have g2 : ¬ (k : Int) < rs.length := by omega
              have D4 := Lib.hid (D1.out.trans (HQ.out.mono D1.out.size))
              clear HQ
              go_wp2_with fail
              refine (HB.out _ D4.out).mono ?_
              rintro e w5 ⟨A2, c2, rfl, hi5, hb5⟩
              have N5 := Lib.hid hi5
              have D5 := Lib.hid (D4.out.trans (hb5.mono D4.out.size))
              clear hb5 hi5 HB D4
              go_wp2_with fail
              go_loopw [11] (fun i wx => ∃ k : Nat, i = .int .i64 k ∧ k ≤ ss.length ∧ Hid (Below w5.heap.size w5 wx)) (fun i _ => ss.length - (intOf i).toNat)
              case atStart => exact ⟨0, rfl, by omega, Below.refl _ _⟩
              case round =>
                obtain ⟨k, rfl, hk, HQ⟩ := hrel
                by_cases hlt : k < ss.length
                · obtain ⟨b, off, rfl, hb, p0⟩ := (N5.out.below HQ.out) k hlt
                  have hsc := HSI.out.1.scs (ss[k]'hlt) (List.getElem_mem hlt)
                  have ek : ss.getD k 0 = ss[k]'hlt := by simp [List.getD, List.getElem?_eq_getElem hlt]
                  try rw [ek] at p0
                  have g2 : (k : Int) < ss.length := by omega
                  cases k with
                  | zero =>
                    simp only [Nat.add_zero] at p0
                    generalize ss[0] = y at *
                    have g6 : (0 : Int) < ss.length := by omega
                    have g7 : decide ((0 : Int) < 0) = false := rfl
                    have HS := Lib.hid (fun W => by have := scalar_any y W; rw [hsc] at this; exact this)
                    clear hsc ek
                    go_wp2_with fail
                    go_quiet (first | (go_at_call 15; exact Calls.quiet_of_same ((HS.out _).mono fun _ _ h => ⟨h.1, h.2.symm⟩)))
                    go_wp2_with fail
                    go_roundw
                    case rel => exact ⟨1, by go_num, by omega, bel_drewN HQ.out _⟩
                    case measure => simp [intOf]; omega
                  | succ j =>
                    obtain ⟨b', off', e', _, q0⟩ := (N5.out.below HQ.out) j (by omega)
                    simp only [Option.some.injEq, Addr.mk.injEq] at e'
                    obtain ⟨rfl, rfl, _⟩ := e'
                    have ej : ss.getD j 0 = ss[j]'(by omega) := by simp [List.getD, List.getElem?_eq_getElem (show j < ss.length by omega)]
                    try rw [ej] at q0
                    have hrs := List.pairwise_iff_getElem.1 HSI.out.1.rise j (j + 1) (by omega) hlt (by omega)
                    generalize ss[j + 1] = y at *
                    generalize ss[j] = z at *
                    have HS := Lib.hid (fun W => by have := scalar_any y W; rw [hsc] at this; exact this)
                    have g3 : ¬ y ≤ z := by omega
                    have g4 : (j : Int) < ss.length := by omega
                    have g5 : (0 : Int) < (j : Int) + 1 := by omega
                    have g6 : (j : Int) + 1 < ss.length := by omega
                    clear hsc ek ej hrs
                    go_wp2_with fail
                    go_quiet (first | (go_at_call 15; exact Calls.quiet_of_same ((HS.out _).mono fun _ _ h => ⟨h.1, h.2.symm⟩)))
                    go_wp2_with fail
                    go_roundw
                    case rel => exact ⟨j + 2, by go_num, by omega, bel_drewN HQ.out _⟩
                    case measure => simp [intOf]; omega
                · have g2 : ¬ (k : Int) < ss.length := by omega
                  have D6 := Lib.hid (D5.out.trans (HQ.out.mono D5.out.size))
                  have g3 : (ss.length : Int) ≤ 4096 := by have := HSI.out.1.len; omega
                  have g4 : ¬ (4096 : Int) < (ss.length : Int) := by omega
                  clear HQ
                  by_cases h5 : f5 = 0
                  · subst h5
                    go_wp2_with fail
                    refine (HFin.out _ D6.out).mono ?_
                    rintro e w9 ⟨rfl, hb9⟩
                    have B9 := Lib.hid (D6.out.trans (hb9.mono D6.out.size))
                    clear hb9
                    go_wp2_with fail
                    go_ret
                    exact ⟨rfl, B9.out⟩
                  · have hz5 : ss = [] := HSI.out.2 h5
                    have e5 : (f5 == 0) = false := by simpa using h5
                    have e6 : ((ss.length : Int) == 0) = true := by rw [hz5]; rfl
                    clear hz5
                    go_wp2_with fail
                    refine (HFin.out _ D6.out).mono ?_
                    rintro e w9 ⟨rfl, hb9⟩
                    have B9 := Lib.hid (D6.out.trans (hb9.mono D6.out.size))
                    clear hb9
                    go_wp2_with fail
                    go_ret
                    exact ⟨rfl, B9.out⟩
      · have e4 : ((no : Int) == 0) = false := by simpa using h3
        clear s5 h3
        go_enter Tryd.func5, Tryd.ntmps5
        go_wp2_with fail
        refine HA.out.mono ?_; rintro e w1 ⟨A1, c1, rfl, hi, hb⟩; have N1 := Lib.hid hi; have D1 := Lib.hid hb; clear hi hb HA
        go_wp2_with fail
        go_loopw [6, 7] (fun i _ wx => ∃ k : Nat, i = .int .i64 k ∧ k ≤ rs.length ∧ Hid (Below w1.heap.size w1 wx)) (fun i _ _ => rs.length - (intOf i).toNat)
        case atStart => exact ⟨0, rfl, by omega, Below.refl _ _⟩
        case round =>
          obtain ⟨k, rfl, hk, HQ⟩ := hrel
          by_cases hlt : k < rs.length
          · obtain ⟨b, off, v, rfl, hb, hv, p0, p1, p2, p3, p4, p5, p6⟩ := (N1.out.below HQ.out) k hlt
            have hfin := HRS.out.1 (rs[k]'hlt) (List.getElem_mem hlt)
            have hch := chk_fin hfin
            have hkz := hfin.into
            have hkk := HKD.out (rs[k]'hlt) (List.getElem_mem hlt)
            have hpre : ∀ j, k = j + 1 → ∃ z, (wr.cell? ⟨b, off + j * 7 + 1, none⟩ = some (.int .i32 z)) ∧ z < (rs[k]'hlt).fr := fun j hj => by
              obtain ⟨b', off', v', e', _, _, _, q1, _⟩ := (N1.out.below HQ.out) j (by omega)
              simp only [Option.some.injEq, Addr.mk.injEq] at e'
              obtain ⟨rfl, rfl, _⟩ := e'
              subst hj
              exact ⟨_, q1, HRS.out.2.1 j hlt⟩
            have g2 : (k : Int) < rs.length := by omega
            generalize rs[k] = y at *
            obtain ⟨f, tt, nm, ct, cl, kd, into⟩ := y
            obtain ⟨A3, c3, rfl, hi3⟩ := hv
            simp only at p0 p1 p2 p3 p4 p5 p6 hi3 hch hkz hkk hpre
            obtain ⟨kb, hkb⟩ : ∃ kb : ByteArray, kb = ⟨kd.toArray⟩ := ⟨_, rfl⟩
            have hkl : kb.data.toList = kd := by rw [hkb]
            rw [← hkb] at p5
            have hks : kb.size ≤ 9223372036854775807 := by rw [hkb, size_mk]; omega
            have hch' : chkE ⟨f, tt, [], [], cl, kd, into⟩ = 0 := hch
            have hC := fun W (h : Below wr.heap.size wr W) => check_any f tt cl ⟨#[]⟩ ⟨#[]⟩ kb A3 c3 into W (hi3.below h) (by decide) (by decide) hks
            rw [hkl] at hC
            change ∀ W, Below wr.heap.size wr W → Calls Tryd.prog _ _ W fun e w' => e = .returned (.int .i64 (chkE ⟨f, tt, [], [], cl, kd, into⟩)) ∧ Below W.heap.size W w' at hC
            simp only [hch'] at hC
            have HC := Lib.hid hC
            have HPRE := Lib.hid hpre
            have P0 := Lib.hid p0
            clear hC hi3 hkz hkl hkb hks hch hch' hfin hpre hkk
            go_upto_region 12 with fail
            obtain ⟨wx, hwx⟩ : ∃ x, x = (wr.alloc (.cells #[.int .i32 f, .int .i32 tt, .string ⟨#[]⟩, .string ⟨#[]⟩, .int .i64 cl, .string kb, .slice A3 into.length c3] 33)) := ⟨_, rfl⟩
            have hDX : Below wr.heap.size wr wx := by rw [hwx]; exact (Below.refl _ wr).alloc (Nat.le_refl _) _
            have hBX : Bk wx wr.heap.size [.int .i32 f, .int .i32 tt, .string ⟨#[]⟩, .string ⟨#[]⟩, .int .i64 cl, .string kb, .slice A3 into.length c3] 33 := by rw [hwx]; exact ⟨heap_alloc_new wr _⟩
            rw [← hwx]
            clear hwx
            have DX := Lib.hid hDX
            have BX := Lib.hid hBX
            clear hDX hBX p0 p1 p2 p3 p4 p5 p6
            cases k with
            | zero =>
              have y0 := Bel.cell (w0 := wx) (p := ⟨wr.heap.size, 0, none⟩) (BX.out.c (i := 0) rfl) (BX.out.lt)
              have y1 := Bel.cell (w0 := wx) (p := ⟨wr.heap.size, 1, none⟩) (BX.out.c (i := 1) rfl) (BX.out.lt)
              have y2 := Bel.cell (w0 := wx) (p := ⟨wr.heap.size, 2, none⟩) (BX.out.c (i := 2) rfl) (BX.out.lt)
              have y3 := Bel.cell (w0 := wx) (p := ⟨wr.heap.size, 3, none⟩) (BX.out.c (i := 3) rfl) (BX.out.lt)
              have y4 := Bel.cell (w0 := wx) (p := ⟨wr.heap.size, 4, none⟩) (BX.out.c (i := 4) rfl) (BX.out.lt)
              have y5 := Bel.cell (w0 := wx) (p := ⟨wr.heap.size, 5, none⟩) (BX.out.c (i := 5) rfl) (BX.out.lt)
              have y6 := Bel.cell (w0 := wx) (p := ⟨wr.heap.size, 6, none⟩) (BX.out.c (i := 6) rfl) (BX.out.lt)
              refine wp_region_bel (by kernel_rfl) (by kernel_rfl) ?_
              repeat (go_big_quiet_step (first | (go_at_call 14; exact bel_call (HC.out _ (Bel.on DX.out _)))))
              refine wpQuiet_nil ?_
              intro x7
              have E7 := Lib.hid x7.b
              go_wp2_with fail
              go_roundw
              case rel => exact ⟨1, by go_num, by omega, HQ.out.trans ((DX.out.trans (E7.out.mono DX.out.size)).mono HQ.out.size)⟩
              case measure => simp [intOf]; omega
            | succ j =>
              obtain ⟨z, q1, hz⟩ := HPRE.out j rfl
              have P1 := Lib.hid q1
              have g3 : ¬ f ≤ z := by omega
              have g4 : (j : Int) < rs.length := by omega
              have g5 : (0 : Int) < (j : Int) + 1 := by omega
              have g6 : (j : Int) + 1 < rs.length := by omega
              have g7 : (0 : Int) ≤ (j : Int) + 1 := by omega
              have g8 : (0 : Int) ≤ (j : Int) := by omega
              have g9 : IntKind.i64.wrap ((j : Int) + 1 - 1) = (j : Int) := by rw [IntKind.wrap_i64]; omega
              have hbx : b < wx.heap.size := Nat.lt_of_lt_of_le hb DX.out.size
              clear q1 hz
              have y0 := Bel.cell (w0 := wx) (p := ⟨wr.heap.size, 0, none⟩) (BX.out.c (i := 0) rfl) (BX.out.lt)
              have y1 := Bel.cell (w0 := wx) (p := ⟨wr.heap.size, 1, none⟩) (BX.out.c (i := 1) rfl) (BX.out.lt)
              have y2 := Bel.cell (w0 := wx) (p := ⟨wr.heap.size, 2, none⟩) (BX.out.c (i := 2) rfl) (BX.out.lt)
              have y3 := Bel.cell (w0 := wx) (p := ⟨wr.heap.size, 3, none⟩) (BX.out.c (i := 3) rfl) (BX.out.lt)
              have y4 := Bel.cell (w0 := wx) (p := ⟨wr.heap.size, 4, none⟩) (BX.out.c (i := 4) rfl) (BX.out.lt)
              have y5 := Bel.cell (w0 := wx) (p := ⟨wr.heap.size, 5, none⟩) (BX.out.c (i := 5) rfl) (BX.out.lt)
              have y6 := Bel.cell (w0 := wx) (p := ⟨wr.heap.size, 6, none⟩) (BX.out.c (i := 6) rfl) (BX.out.lt)
              have y7 := Bel.cell (w0 := wx) (p := ⟨b, off + (j + 1) * 7, none⟩) ((DX.out.cell (p := ⟨b, off + (j + 1) * 7, none⟩) hb).trans P0.out) (hbx)
              have y8 := Bel.cell (w0 := wx) (p := ⟨b, off + j * 7 + 1, none⟩) ((DX.out.cell (p := ⟨b, off + j * 7 + 1, none⟩) hb).trans P1.out) (hbx)
              refine wp_region_bel (by kernel_rfl) (by kernel_rfl) ?_
              repeat (go_big_quiet_step (first | (go_at_call 14; exact bel_call (HC.out _ (Bel.on DX.out _)))))
              refine wpQuiet_nil ?_
              intro x7
              have E7 := Lib.hid x7.b
              go_wp2_with fail
              go_roundw
              case rel => exact ⟨j + 2, by go_num, by omega, HQ.out.trans ((DX.out.trans (E7.out.mono DX.out.size)).mono HQ.out.size)⟩
              case measure => simp [intOf]; omega
          · have g2 : ¬ (k : Int) < rs.length := by omega
            have D4 := Lib.hid (D1.out.trans (HQ.out.mono D1.out.size))
            clear HQ
            go_wp2_with fail
            refine (HB.out _ D4.out).mono ?_
            rintro e w5 ⟨A2, c2, rfl, hi5, hb5⟩
            have N5 := Lib.hid hi5
            have D5 := Lib.hid (D4.out.trans (hb5.mono D4.out.size))
            clear hb5 hi5 HB D4
            go_wp2_with fail
            go_loopw [11] (fun i wx => ∃ k : Nat, i = .int .i64 k ∧ k ≤ ss.length ∧ Hid (Below w5.heap.size w5 wx)) (fun i _ => ss.length - (intOf i).toNat)
            case atStart => exact ⟨0, rfl, by omega, Below.refl _ _⟩
            case round =>
              obtain ⟨k, rfl, hk, HQ⟩ := hrel
              by_cases hlt : k < ss.length
              · obtain ⟨b, off, rfl, hb, p0⟩ := (N5.out.below HQ.out) k hlt
                have hsc := HSI.out.1.scs (ss[k]'hlt) (List.getElem_mem hlt)
                have ek : ss.getD k 0 = ss[k]'hlt := by simp [List.getD, List.getElem?_eq_getElem hlt]
                try rw [ek] at p0
                have g2 : (k : Int) < ss.length := by omega
                cases k with
                | zero =>
                  simp only [Nat.add_zero] at p0
                  generalize ss[0] = y at *
                  have g6 : (0 : Int) < ss.length := by omega
                  have g7 : decide ((0 : Int) < 0) = false := rfl
                  have HS := Lib.hid (fun W => by have := scalar_any y W; rw [hsc] at this; exact this)
                  clear hsc ek
                  go_wp2_with fail
                  go_quiet (first | (go_at_call 15; exact Calls.quiet_of_same ((HS.out _).mono fun _ _ h => ⟨h.1, h.2.symm⟩)))
                  go_wp2_with fail
                  go_roundw
                  case rel => exact ⟨1, by go_num, by omega, bel_drewN HQ.out _⟩
                  case measure => simp [intOf]; omega
                | succ j =>
                  obtain ⟨b', off', e', _, q0⟩ := (N5.out.below HQ.out) j (by omega)
                  simp only [Option.some.injEq, Addr.mk.injEq] at e'
                  obtain ⟨rfl, rfl, _⟩ := e'
                  have ej : ss.getD j 0 = ss[j]'(by omega) := by simp [List.getD, List.getElem?_eq_getElem (show j < ss.length by omega)]
                  try rw [ej] at q0
                  have hrs := List.pairwise_iff_getElem.1 HSI.out.1.rise j (j + 1) (by omega) hlt (by omega)
                  generalize ss[j + 1] = y at *
                  generalize ss[j] = z at *
                  have HS := Lib.hid (fun W => by have := scalar_any y W; rw [hsc] at this; exact this)
                  have g3 : ¬ y ≤ z := by omega
                  have g4 : (j : Int) < ss.length := by omega
                  have g5 : (0 : Int) < (j : Int) + 1 := by omega
                  have g6 : (j : Int) + 1 < ss.length := by omega
                  clear hsc ek ej hrs
                  go_wp2_with fail
                  go_quiet (first | (go_at_call 15; exact Calls.quiet_of_same ((HS.out _).mono fun _ _ h => ⟨h.1, h.2.symm⟩)))
                  go_wp2_with fail
                  go_roundw
                  case rel => exact ⟨j + 2, by go_num, by omega, bel_drewN HQ.out _⟩
                  case measure => simp [intOf]; omega
              · have g2 : ¬ (k : Int) < ss.length := by omega
                have D6 := Lib.hid (D5.out.trans (HQ.out.mono D5.out.size))
                have g3 : (ss.length : Int) ≤ 4096 := by have := HSI.out.1.len; omega
                have g4 : ¬ (4096 : Int) < (ss.length : Int) := by omega
                clear HQ
                by_cases h5 : f5 = 0
                · subst h5
                  go_wp2_with fail
                  refine (HFin.out _ D6.out).mono ?_
                  rintro e w9 ⟨rfl, hb9⟩
                  have B9 := Lib.hid (D6.out.trans (hb9.mono D6.out.size))
                  clear hb9
                  go_wp2_with fail
                  go_ret
                  exact ⟨rfl, B9.out⟩
                · have hz5 : ss = [] := HSI.out.2 h5
                  have e5 : (f5 == 0) = false := by simpa using h5
                  have e6 : ((ss.length : Int) == 0) = true := by rw [hz5]; rfl
                  clear hz5
                  go_wp2_with fail
                  refine (HFin.out _ D6.out).mono ?_
                  rintro e w9 ⟨rfl, hb9⟩
                  have B9 := Lib.hid (D6.out.trans (hb9.mono D6.out.size))
                  clear hb9
                  go_wp2_with fail
                  go_ret
                  exact ⟨rfl, B9.out⟩
  · have g1 : (4000 : Int) < s.size := by omega
    go_enter Tryd.func5, Tryd.ntmps5
    go_wp2_with fail
    refine (HFin.out _ (Below.refl w.heap.size w)).mono ?_
    rintro e w9 ⟨rfl, hb9⟩
    have B9 := Lib.hid ((Below.refl w.heap.size w).trans (hb9.mono (Below.refl w.heap.size w).size))
    clear hb9
    go_wp2_with fail
    go_ret
    exact ⟨rfl, B9.out⟩

set_option maxRecDepth 100000 in
theorem ucdOrder_lifted (os : Os) (started : os.Started) (H : Type) (enc : TypeId × Value → H) :
    ReturnsInHanded {} Tryd.checked os 5 .any (fun w args => (Rows.ucdOrderSpec.pre enc Tryd.prog Tryd.f5 [] false w args ∧ laidMetH Tryd.prog laid1 w) ∧ sizedMet enc Tryd.prog Tryd.f5 (OpenSpec.ofChange Rows.ucdOrderSpec) false w args)
      (Rows.ucdOrderSpec.post enc Tryd.prog Tryd.f5 false true false false) := by
  refine change_shaped (C := Tryd.checked) (X := fun w _ => laidMetH Tryd.prog laid1 w) (fun _ _ _ hh h => h.of_heap hh) own started (by kernel_rfl) Tryd.func5
    (ChangeSpec.witness_shaped (enc := enc) (C := Tryd.checked) (os := os) (X := fun w _ => laidMetH Tryd.prog laid1 w) false (World.laidAll Tryd.prog os laid1) #[.string ⟨#[]⟩] 8 (World.laidAll_os _ _ _) (World.shaped_of_ZipB (by kernel_rfl) (by kernel_rfl)) (by kernel_rfl) (by kernel_rfl) (by kernel_rfl) (by rw [MakeChecks.laidMetH_plain _ _ _ (by kernel_rfl)]; exact laidMet_laidAll _ (by kernel_rfl) (by kernel_rfl))) ?_
  intro W base args ds gs before hval0 hW hsz hL hS
  have hval : ∀ (j : Nat) t v, Tryd.f5.params[j]? = some t → args[j]? = some v → Value.okWide Tryd.prog W .any base t v := hval0
  have hW' := hW
  obtain ⟨p, q, hA0, hV, rfl, hfz, hnd⟩ := hW
  have hA : DataW.TrodAll enc Tryd.prog W 0 (fun _ => true) true Tryd.f5.params.toList args.toList ds p := hA0
  rw [Tryd.params5] at hA hval
  obtain ⟨v0, vs0, d0, ds0, p0, q0, hargs, rfl, rfl, h0, r0⟩ := trodAll_cons hA
  obtain ⟨rfl, rfl, rfl⟩ := trodAll_nil r0
  obtain rfl : args = #[v0] := by cases args; simp_all
  obtain ⟨rfl, rfl⟩ := trodVars_none hV
  obtain ⟨s0, rfl, rfl, rfl, m0⟩ := open_string Tryd.underlying9 (hval 0 9 v0 rfl rfl) h0
  clear hA0 hval0
  refine (ucdOrder_walk s0 W m0 (ml_of hS)).mono fun e W' ⟨he, bel⟩ => ?_
  subst he
  exact ⟨_, rfl, _, _, _, [], _, [], hW', trodAll_mk1 (shut_bool Tryd.underlying4 _), (trodAll_cons_mk (shut_string Tryd.underlying9 m0) trodAll_mk0), rfl, bel.frame _, fun h => by cases h⟩

theorem ucdOrder_row : Rows.UcdOrderSaid :=
  OpenClaim.holds_of_wide 5 Tryd.f5 rfl rfl rfl rfl rfl rfl rfl ⟨rfl, rfl, rfl, rfl, rfl⟩ rfl rfl rfl rfl rfl (by kernel_rfl) Tryd.func5 (by kernel_rfl)
    (of_decide_eq_true (by kernel_rfl)) (by unfold Func.isWrapper; first | (rw [if_pos (by decide +kernel)]; kernel_rfl) | (rw [if_neg (by decide +kernel)]; exact ⟨rfl, rfl⟩))
    (fun os started H enc _ => ucdOrder_lifted os started H enc)

theorem ucdOrder_holds : Rows.UcdOrderCardSaid :=
  Claim7.holds_tied_plain_at .later [] [.data, .pinned] true Rows.ucdOrderCard.stood.harness false
    ucdOrder_row (fun _ h => by cases h) (by kernel_rfl) (fun _ h => by cases h) ucdOrder_row_tie rfl ⟨rfl, rfl⟩ (by kernel_rfl) rfl
    (fun f fn hf hfn => by
      obtain rfl : f = 5 := Option.some.inj ((show Tryd.prog.funcNamed Rows.ucdOrderRow.func = some 5 by kernel_rfl).symm.trans hf) |>.symm
      obtain rfl : fn = Tryd.f5 := (Option.some.inj (Tryd.func5.symm.trans hfn)).symm
      exact ⟨by kernel_rfl, fun j t ht => by
        rw [Tryd.params5] at ht
        have hm : t ∈ [9] := by simpa using Array.mem_of_getElem? ht
        have hall : ([9].all fun u => !Tryd.prog.wantsStandIn u) = true := by kernel_rfl
        exact (show Tryd.prog.wantsStandIn t = false by simpa using List.all_eq_true.1 hall t hm)⟩)
    (by kernel_rfl)
#print axioms ucdOrder_holds
end Go.Proofs.YtajhgbcgbgpcjaaDoor

import Derived.Test.YtagbeioooohbgaaGreatDoorM28
import Derived.Test.YtagbeioooohbgaaGreatDoorM06
import Derived.Test.YtagbeioooohbgaaGreatDoorGH
import Derived.Test.YtagbeioooohbgaaGreatDoorHF
import Derived.Test.YtagbeioooohbgaaGreatDoorM09
import Derived.Test.YtagbeioooohbgaaGreatDoorJS
section
namespace Go.Proofs.YtagbeioooohbgaaGreatDoor.Ba
open Go.RowKit Go.Maps Go.Shelf Uc Ha
open Fi (scal scal_bd Ml)
open Tr (law21 own_keep own_one wf32 isKey_int int_ne encZ)

/-! New -/
theorem TeR.bs {w wr : World} {X T P M S : Nat} {L : List Rw} (h : TeR w wr X T P M S (clsB L) (prR L)) (hn : L.length ≤ 4096) : Bs wr w.heap.size X T P M S L [] :=
  ⟨h.lX, h.lM, h.lS, h.blk, h.tab, (by
    obtain ⟨n, D, h1, h2, h3⟩ := h.par
    exact ⟨n, D, Nat.le_trans h1 (Nat.le_trans (List.length_filter_le _ _) hn), h2, h3⟩), h.mad, h.sec, h.nM, h.nS, h.pm, h.ps, h.ms⟩
/-- Whoever is parted: known, or a syllable. -/
def uni (L : List Rw) : List Int := knwB L ++ (List.range 11172).map fun k : Nat => (44032 : Int) + k
theorem uni_len (L : List Rw) : (uni L).length = (knwB L).length + 11172 := by simp [uni]
theorem uni_mem {L : List Rw} (h : Frm L) (k : Int) (hk : (decB L k).2 ≠ []) : k ∈ uni L := by
  unfold uni
  rw [List.mem_append]
  cases hs : isS k with
  | true =>
    rw [isS_iff] at hs
    exact .inr (List.mem_map.2 ⟨(k - 44032).toNat, by rw [List.mem_range]; omega, by omega⟩)
  | false =>
    left
    rw [dec_par h hs] at hk
    rw [knw_mem]
    cases hp : parA L k with
    | none => rw [hp] at hk; exact absurd rfl hk
    | some x => rfl
theorem knw_len (L : List Rw) : (knwB L).length ≤ L.length := by
  rw [knw_eq, List.length_map]
  exact List.length_filter_le _ _
theorem setP_in {w w' : World} {x : List Int × Nat × Int} {e : Ending} (h : SetP w x e w') : ∃ A c, e = .returned (.tuple #[.slice A x.1.length c, .int .i64 x.2.1, .int .i64 x.2.2]) ∧ Ints .i32 w' A x.1 ∧ Below w.heap.size w w' := by
  obtain ⟨v, rfl, h1, h2⟩ := h
  obtain ⟨A, c, rfl, h3⟩ := own_ints h1
  exact ⟨A, c, rfl, h3, h2⟩
theorem rwsP_in {w w' : World} {T : TypeId} {x : List Rw × Nat × Int} {e : Ending} (h : RwsP w T x e w') : ∃ A c, e = .returned (.tuple #[.slice A x.1.length c, .int .i64 x.2.1, .int .i64 x.2.2]) ∧ Rws w' A x.1 ∧ Below w.heap.size w w' := by
  obtain ⟨v, l, rfl, h1, h2, h3⟩ := h
  obtain ⟨A, c, rfl, h4⟩ := h2.rws
  rw [h1] at h4
  exact ⟨A, c, by rw [h1], h4, h3⟩
/-- What New asks of its texts. -/
def NwOk (d x : List UInt8) : Prop := (rwsE d).2.2 = 0 ∧ (setsE x).2.2 = 0 ∧ Good (rwsE d).1 (setsE x).1
/-- What New answers. -/
def NwP (w : World) (d x : List UInt8) (e : Ending) (w' : World) : Prop :=
  ∃ v er, e = .returned (.tuple #[v, .int .i64 er]) ∧ Below w.heap.size w w' ∧ (er = 0 ↔ NwOk d x) ∧ (er ≠ 0 → v = .pointer none) ∧
    (er = 0 → ∃ base X T P M S, w.heap.size ≤ base ∧ v = .pointer (some ⟨X, 0, none⟩) ∧ Bs w' base X T P M S (rwsE d).1 (prsB (rwsE d).1 (setsE x).1))
theorem nw_bad {w w' : World} {d x : List UInt8} {er : Int} (hb : Below w.heap.size w w') (h0 : er ≠ 0) (h : ¬ NwOk d x) : NwP w d x (.returned (.tuple #[.pointer none, .int .i64 er])) w' :=
  ⟨_, er, rfl, hb, ⟨fun e => absurd e h0, fun e => absurd e h⟩, fun _ => rfl, fun e => absurd e h0⟩
set_option maxRecDepth 100000 in
set_option maxHeartbeats 8000000 in
theorem new_any (d x : ByteArray) (w : World) (hM : Ml w) (hT : Ha.Tab w) (hd : d.size ≤ 30000) (hx : x.size ≤ 100000) :
    Calls Tryz.prog 9 #[.string d, .string x] w (NwP w d.data.toList x.data.toList) := by
  have HR := Lib.hid (rows_any d w hM (by omega))
  have HS := Lib.hid (fun w1 (h : Below w.heap.size w w1) => sets_any x w1 (hM.on h) hx)
  have HMl := Lib.hid hM
  have HT := Lib.hid hT
  have HLen : Hid ((rwsE d.data.toList).2.2 = 0 → (rwsE d.data.toList).1.length ≤ 4096) := Lib.hid (fun h => by
    have h1 := rws_few h
    have h2 : d.data.toList.length = d.size := Array.length_toList
    omega)
  have HF := Lib.hid (frm_rws d.data.toList)
  have HSI := Lib.hid (setsE_inv x.data.toList).1
  obtain ⟨L, hL⟩ : ∃ L, L = (rwsE d.data.toList).1 := ⟨_, rfl⟩
  obtain ⟨e1, he1⟩ : ∃ e, e = (rwsE d.data.toList).2.2 := ⟨_, rfl⟩
  obtain ⟨Xx, hXx⟩ : ∃ L, L = (setsE x.data.toList).1 := ⟨_, rfl⟩
  obtain ⟨e2, he2⟩ : ∃ e, e = (setsE x.data.toList).2.2 := ⟨_, rfl⟩
  have HOK : Hid (NwOk d.data.toList x.data.toList ↔ e1 = 0 ∧ e2 = 0 ∧ Good L Xx) := Lib.hid (by unfold NwOk; rw [← hL, ← he1, ← hXx, ← he2])
  rw [← hL] at HF HLen
  rw [← he1] at HLen
  rw [← hXx] at HSI
  have HEL := Lib.hid hL
  have HEX := Lib.hid hXx
  have HE1 := Lib.hid he1
  have HE2 := Lib.hid he2
  clear hM hT hL hXx he1 he2
  go_enter Tryz.func9, Tryz.ntmps9
  go_wp2_with fail
  refine HR.out.mono ?_
  intro e w1 h1
  obtain ⟨A, c, rfl, hrw, hb1⟩ := rwsP_in h1
  clear h1
  have HRW := Lib.hid hrw
  have D1 := Lib.hid hb1
  clear hrw hb1 HR
  generalize (rwsE d.data.toList).2.1 = n1 at *
  rw [← HEL.out, ← HE1.out]
  rw [← HEL.out] at HRW
  by_cases h1 : e1 = 0
  · subst h1
    have HL := Lib.hid (HLen.out rfl)
    clear HLen
    go_wp2_with fail
    refine (HS.out _ D1.out).mono ?_
    intro e w2 h2
    obtain ⟨A2, c2, rfl, hi2, hb2⟩ := setP_in h2
    clear h2
    rw [← HEX.out] at hi2
    have HI2 := Lib.hid hi2
    have D2 := Lib.hid (D1.out.trans (hb2.mono D1.out.size))
    have R2 := Lib.hid (HRW.out.below hb2)
    clear hi2 hb2 HS HRW D1
    generalize (setsE x.data.toList).2.1 = n2 at *
    rw [← HEX.out, ← HE2.out]
    by_cases h2 : e2 = 0
    · subst h2
      have HC := Lib.hid (check_any A c L w2 R2.out HF.out HL.out)
      go_wp2_with fail
      refine HC.out.mono ?_
      rintro e w3 ⟨rfl, hb3⟩
      have D3 := Lib.hid (D2.out.trans (hb3.mono D2.out.size))
      have R3 := Lib.hid (R2.out.below hb3)
      have HI3 := Lib.hid (HI2.out.below hb3)
      clear hb3 HC R2 HI2 D2
      have HCK := Lib.hid (ck_zero L)
      obtain ⟨e3, he3⟩ : ∃ e, e = ckE L := ⟨_, rfl⟩
      rw [← he3] at HCK
      rw [← he3]
      clear he3
      by_cases h3 : e3 = 0
      · subst h3
        have H12 := Lib.hid (HCK.out.1 rfl)
        have HTe := Lib.hid (tell_any A c L w3 R3.out HF.out HL.out)
        go_wp2_with fail
        refine HTe.out.mono ?_
        rintro e w4 ⟨X, T, P, M, S, rfl, hte⟩
        have B4 := Lib.hid (hte.bs HL.out)
        have D4 := Lib.hid (D3.out.trans (hte.bel.mono D3.out.size))
        have T4 := Lib.hid ((HT.out.on D3.out).on hte.bel)
        have I4 := Lib.hid (HI3.out.below hte.bel)
        have P3 := Lib.hid (HT.out.on D3.out).pos
        have Z3 := Lib.hid hte.bel.size
        have ZB := Lib.hid D3.out.size
        clear hte HTe R3 HI3 D3
        have hk : (knwB L).length ≤ 4096 := Nat.le_trans (knw_len L) HL.out
        have HKL := Lib.hid hk
        have HPa := Lib.hid (parted_any ⟨X, 0, none⟩ L [] (uni L) w4 HF.out hk (.inr ⟨_, X, T, P, M, S, rfl, B4.out⟩) T4.out (uni_mem HF.out) (by rw [uni_len]; omega))
        clear hk
        go_wp2_with fail
        refine HPa.out.mono ?_
        rintro e w5 ⟨e5, rfl, hs3, hb5⟩
        have HS3 := Lib.hid hs3
        have B5 := Lib.hid (B4.out.below hb5)
        have D5 := Lib.hid (D4.out.trans (hb5.mono D4.out.size))
        have T5 := Lib.hid (T4.out.on hb5)
        have I5 := Lib.hid (I4.out.below hb5)
        have Z5 := Lib.hid (Nat.le_trans Z3.out hb5.size)
        clear hs3 hb5 B4 D4 T4 I4 Z3
        by_cases h5 : e5 = 0
        · subst h5
          have HJo := Lib.hid (join_walk w3.heap.size X T P M S L Xx A2 c2 w5 HF.out HKL.out B5.out T5.out (fun i hi => I5.out i hi) HSI.out Z5.out P3.out)
          go_wp2_with fail
          refine HJo.out.mono ?_
          rintro e w6 ⟨e6, rfl, hs4, hb6, hbs⟩
          have HS4 := Lib.hid hs4
          have D6 := Lib.hid (D5.out.trans (hb6.mono ZB.out))
          have HBS := Lib.hid hbs
          clear hs4 hb6 hbs HJo
          by_cases h6 : e6 = 0
          · subst h6
            have HG := Lib.hid (good_of HF.out H12.out.1 H12.out.2 (HS3.out.1 (by trivial)) (HS4.out.1 (by trivial)))
            have HOK2 := Lib.hid (HOK.out.2 ⟨by trivial, by trivial, HG.out⟩)
            go_wp2_with fail
            go_ret2
            exact ⟨_, 0, rfl, D6.out, ⟨fun _ => HOK2.out, fun _ => rfl⟩, fun h => absurd rfl h, fun _ => ⟨w3.heap.size, X, T, P, M, S, ZB.out, rfl, by rw [← HEL.out, ← HEX.out]; exact HBS.out (by trivial)⟩⟩
          · have hq : (e6 != 0) = true := by simpa using h6
            have HN := Lib.hid (show ¬ NwOk d.data.toList x.data.toList from fun h => h6 (HS4.out.2 (HOK.out.1 h).2.2.s4))
            have H1 := Lib.hid h6
            clear h6
            go_wp2_with fail
            go_ret2
            exact nw_bad D6.out H1.out HN.out
        · have hq : (e5 != 0) = true := by simpa using h5
          have HN := Lib.hid (show ¬ NwOk d.data.toList x.data.toList from fun h => h5 (HS3.out.2 (HOK.out.1 h).2.2.s3))
          have H1 := Lib.hid h5
          clear h5
          go_wp2_with fail
          go_ret2
          exact nw_bad D5.out H1.out HN.out
      · have hq : (e3 != 0) = true := by simpa using h3
        have HN := Lib.hid (show ¬ NwOk d.data.toList x.data.toList from fun h => h3 (HCK.out.2 ⟨(HOK.out.1 h).2.2.s1, (HOK.out.1 h).2.2.s2⟩))
        have H1 := Lib.hid h3
        clear h3
        go_wp2_with fail
        go_ret2
        exact nw_bad D3.out H1.out HN.out
    · have hq : (e2 != 0) = true := by simpa using h2
      have HN := Lib.hid (show ¬ NwOk d.data.toList x.data.toList from fun h => h2 (HOK.out.1 h).2.1)
      have H1 := Lib.hid h2
      clear h2
      go_wp2_with fail
      go_ret2
      exact nw_bad D2.out H1.out HN.out
  · have hq : (e1 != 0) = true := by simpa using h1
    have HN := Lib.hid (show ¬ NwOk d.data.toList x.data.toList from fun h => h1 (HOK.out.1 h).1)
    have H1 := Lib.hid h1
    clear h1
    go_wp2_with fail
    go_ret2
    exact nw_bad D1.out H1.out HN.out

end Go.Proofs.YtagbeioooohbgaaGreatDoor.Ba
end
section
namespace Go.Proofs.YtagbeioooohbgaaGreatDoor.Ba
open Go.RowKit Go.Maps Go.Shelf Uc Ha
open Fi (scal scal_bd Ml)

/-! The example of the chapter -/
def awT : ByteArray := ⟨#[48, 48, 67, 57, 59, 69, 59, 76, 117, 59, 48, 59, 59, 48, 48, 52, 53, 32, 48, 51, 48, 49, 10, 48, 51, 48, 49, 59, 88, 59, 77, 110, 59, 50, 51, 48, 59, 59]⟩
def awL : List Rw := [⟨201, 201, [69], [76, 117], 0, [], [69, 769]⟩, ⟨769, 769, [88], [77, 110], 230, [], []⟩]
theorem awR : rwsE awT.data.toList = (awL, 0, 0) := by kernel_rfl
theorem awS0 : setsE (⟨#[]⟩ : ByteArray).data.toList = ([], 0, 0) := by kernel_rfl
theorem awS1 : setsE (⟨#[48, 48, 67, 57]⟩ : ByteArray).data.toList = ([201], 0, 0) := by kernel_rfl
theorem awF : Frm awL := by
  have := frm_rws awT.data.toList
  rwa [awR] at this
theorem awS3 : S3 awL := fun r hr => by
  have e : knwB awL = [201] := by kernel_rfl
  rw [e, List.mem_singleton] at hr
  subst hr
  have e1 : decB awL 201 = ([], [69, 769]) := by kernel_rfl
  refine ⟨2, by decide, Cnt.one_node (by rw [e1]; simp) ?_⟩
  rw [e1]
  exact .leaf (by kernel_rfl) (.leaf (by kernel_rfl) .nil)
theorem awS4 : S4 awL [] := fun x hx => by
  have e : prsB awL [] = [⟨201, 201, [69], [76, 117], 0, [], [69, 769]⟩] := by kernel_rfl
  rw [e, List.mem_singleton] at hx
  subst hx
  exact ⟨by kernel_rfl, by kernel_rfl⟩
theorem awS4o : S4 awL [201] := fun x hx => by
  have e : prsB awL [201] = [] := by kernel_rfl
  rw [e] at hx
  cases hx
theorem awS1' : S1 awL := by unfold S1 awL; decide
theorem awS2' : S2 awL := by unfold S2 awL; decide
theorem aw_ok0 : NwOk awT.data.toList (⟨#[]⟩ : ByteArray).data.toList := by
  unfold NwOk
  rw [awR, awS0]
  exact ⟨rfl, rfl, good_of awF awS1' awS2' awS3 awS4⟩
theorem aw_ok1 : NwOk awT.data.toList (⟨#[48, 48, 67, 57]⟩ : ByteArray).data.toList := by
  unfold NwOk
  rw [awR, awS1]
  exact ⟨rfl, rfl, good_of awF awS1' awS2' awS3 awS4o⟩
theorem nw_good {w w' : World} {d x : List UInt8} {e : Ending} (h : NwP w d x e w') (hk : NwOk d x) : ∃ base X T P M S, w.heap.size ≤ base ∧ e = .returned (.tuple #[.pointer (some ⟨X, 0, none⟩), .int .i64 0]) ∧ Below w.heap.size w w' ∧ Bs w' base X T P M S (rwsE d).1 (prsB (rwsE d).1 (setsE x).1) := by
  obtain ⟨v, er, rfl, hb, h1, _, h2⟩ := h
  have h0 := h1.2 hk
  subst h0
  obtain ⟨base, X, T, P, M, S, h3, rfl, h4⟩ := h2 rfl
  exact ⟨base, X, T, P, M, S, h3, rfl, hb, h4⟩
theorem nw_aw0 {w w' : World} {e : Ending} (h : NwP w awT.data.toList (⟨#[]⟩ : ByteArray).data.toList e w') : ∃ base X T P M S, w.heap.size ≤ base ∧ e = .returned (.tuple #[.pointer (some ⟨X, 0, none⟩), .int .i64 0]) ∧ Below w.heap.size w w' ∧ Bs w' base X T P M S awL (prsB awL []) := by
  have := nw_good h aw_ok0
  rwa [awR, awS0] at this
theorem nw_aw1 {w w' : World} {e : Ending} (h : NwP w awT.data.toList (⟨#[48, 48, 67, 57]⟩ : ByteArray).data.toList e w') : ∃ base X T P M S, w.heap.size ≤ base ∧ e = .returned (.tuple #[.pointer (some ⟨X, 0, none⟩), .int .i64 0]) ∧ Below w.heap.size w w' ∧ Bs w' base X T P M S awL (prsB awL [201]) := by
  have := nw_good h aw_ok1
  rwa [awR, awS1] at this
theorem eqR_call {l m : List Int} {f : Bool} (h : decide (l = m) = f) (A B : Option Addr) (c d : Nat) (w : World) (hl : Ints .i32 w A l) (hm : Ints .i32 w B m) (zl : l.length ≤ 100000) (zm : m.length ≤ 100000) :
    Calls Tryz.prog 12 #[.slice A l.length c, .slice B m.length d] w fun e w' => e = .returned (.bool f) ∧ Below w.heap.size w w' := by
  have := eqR A B c d l m w hl hm zl zm
  rw [h] at this
  exact this
set_option maxRecDepth 100000 in
set_option maxHeartbeats 8000000 in
theorem awake_any (w : World) (hM : Ml w) (hT : Ha.Tab w) : Calls Tryz.prog 8 #[] w fun e w' => e = .returned (.bool true) ∧ Below w.heap.size w w' := by
  have HN0 := Lib.hid (new_any awT ⟨#[]⟩ w hM hT (by decide) (by decide))
  have HN1 := Lib.hid (fun w1 (h : Below w.heap.size w w1) => new_any awT ⟨#[48, 48, 67, 57]⟩ w1 (hM.on h) (hT.on h) (by decide) (by decide))
  have HT := Lib.hid hT.all
  clear hM hT
  unfold awT at HN0 HN1
  go_enter Tryz.func8, Tryz.ntmps8
  go_wp2_with fail
  refine HN0.out.mono ?_
  intro e w1 h1
  obtain ⟨b1, X1, T1, P1, M1, S1, hb1, rfl, D1, B1⟩ := nw_aw0 h1
  have HB1 := Lib.hid B1
  have HD1 := Lib.hid D1
  clear h1 hb1 D1 B1 HN0
  go_wp2_with fail
  refine (HN1.out w1 HD1.out).mono ?_
  intro e w2 h2
  obtain ⟨b2, X2, T2, P2, M2, S2, hb2, rfl, D2, B2⟩ := nw_aw1 h2
  have V1 := Lib.hid (show BV w2 (.pointer (some ⟨X1, 0, none⟩)) awL (prsB awL []) from .inr ⟨_, _, _, _, _, _, rfl, HB1.out.below D2⟩)
  have V2 := Lib.hid (show BV w2 (.pointer (some ⟨X2, 0, none⟩)) awL (prsB awL [201]) from .inr ⟨_, _, _, _, _, _, rfl, B2⟩)
  have HD2 := Lib.hid (HD1.out.trans (D2.mono HD1.out.size))
  clear h2 hb2 D2 B2 HN1 HB1 HD1
  have H3 := Lib.hid (decomp_any (.pointer (some ⟨X1, 0, none⟩)) 201 w2 awF V1.out (HT.out w2 HD2.out) (wfR_of (by decide) (by decide)))
  go_wp2_with fail
  refine H3.out.mono ?_
  rintro e w3 ⟨A, c, rfl, hi, hb3⟩
  rw [show decB awL 201 = ([], [69, 769]) from by kernel_rfl] at hi
  rw [show decB awL 201 = ([], [69, 769]) from by kernel_rfl]
  have HI := Lib.hid hi
  have V13 := Lib.hid (V1.out.below hb3)
  have V23 := Lib.hid (V2.out.below hb3)
  have HD3 := Lib.hid (HD2.out.trans (hb3.mono HD2.out.size))
  clear hi hb3 H3 V1 V2 HD2
  have H4 := Lib.hid (pairM_any (.pointer (some ⟨X1, 0, none⟩)) 69 769 w3 V13.out (HT.out w3 HD3.out) (wfR_of (by decide) (by decide)) (wfR_of (by decide) (by decide)))
  go_wp2_with fail
  refine H4.out.mono ?_
  rintro e w4 ⟨rfl, hb4⟩
  rw [show pairP (prsB awL []) 69 769 = (201, true) from by kernel_rfl]
  unfold lkV
  have HI4 := Lib.hid (HI.out.below hb4)
  have V14 := Lib.hid (V13.out.below hb4)
  have V24 := Lib.hid (V23.out.below hb4)
  have HD4 := Lib.hid (HD3.out.trans (hb4.mono HD3.out.size))
  clear hb4 H4 V13 V23 HD3 HI
  have H5 := Lib.hid (pairM_any (.pointer (some ⟨X2, 0, none⟩)) 69 769 w4 V24.out (HT.out w4 HD4.out) (wfR_of (by decide) (by decide)) (wfR_of (by decide) (by decide)))
  go_wp2_with fail
  refine H5.out.mono ?_
  rintro e w5 ⟨rfl, hb5⟩
  rw [show pairP (prsB awL [201]) 69 769 = (0, false) from by kernel_rfl]
  unfold lkV
  have HI5 := Lib.hid (HI4.out.below hb5)
  have V15 := Lib.hid (V14.out.below hb5)
  have HD5 := Lib.hid (HD4.out.trans (hb5.mono HD4.out.size))
  clear hb5 H5 V14 V24 HD4 HI4
  have H6 := Lib.hid (class_any (.pointer (some ⟨X1, 0, none⟩)) 769 w5 awF V15.out)
  go_wp2_with fail
  refine H6.out.mono ?_
  rintro e w6 ⟨rfl, rfl⟩
  rw [show clsB awL 769 = 230 from by kernel_rfl]
  have hb7 : Below w5.heap.size w5 (w5.alloc (.cells #[.int .i32 69, .int .i32 769] 21)) := (Below.refl _ w5).alloc (Nat.le_refl _) _
  have HE := Lib.hid (show Calls Tryz.prog 12 #[.slice A 2 c, .slice (some ⟨w5.heap.size, 0, none⟩) 2 2] (w5.alloc (.cells #[.int .i32 69, .int .i32 769] 21)) _ from
    eqR_call (l := [69, 769]) (m := [69, 769]) (f := true) (by decide) A (some ⟨w5.heap.size, 0, none⟩) c 2 _ (HI5.out.below hb7) (ints_two 69 769 21 w5) (by decide) (by decide))
  have HD7 := Lib.hid (HD5.out.trans (hb7.mono HD5.out.size))
  clear hb7 H6 HI5 V15 HD5
  go_wp2_with fail
  refine HE.out.mono ?_
  rintro e w8 ⟨rfl, hb8⟩
  have HD8 := Lib.hid (HD7.out.trans (hb8.mono HD7.out.size))
  clear hb8 HE HD7
  go_wp2_with fail
  go_ret
  exact ⟨rfl, HD8.out⟩

end Go.Proofs.YtagbeioooohbgaaGreatDoor.Ba
end
section
namespace Go.Proofs.YtagbeioooohbgaaGreatDoor.Ba
open Go.RowKit Go.Maps Go.Shelf Uc Ha
open Fi (scal scal_bd Ml)

/-! The document's answer, where there are no rows -/
theorem rspl_c {r a b : Int} {f : Bool} (h : splE r = (a, b, f)) (w : World) : Calls Tryz.prog 38 #[.int .i32 r] w fun e w' => e = .returned (.tuple #[.int .i32 a, .int .i32 b, .bool f]) ∧ w = w' := by
  have := rsplit_any r w
  rw [h] at this
  exact this
theorem rjoin_c {a b s : Int} {f : Bool} (h : joinE a b = (s, f)) (w : World) : Calls Tryz.prog 41 #[.int .i32 a, .int .i32 b] w fun e w' => e = .returned (.tuple #[.int .i32 s, .bool f]) ∧ w = w' := by
  have := rjoin_any a b w
  rw [h] at this
  exact this
theorem dec_no0 {r a b : Int} (h : splE r = (a, b, false)) : decB [] r = ([], []) := by
  have hs : isS r = false := by rw [← split_is, h]
  unfold decB
  rw [if_neg (by rw [hs]; simp)]
  rfl
theorem pair_no0 (a b : Int) : pairP [] a b = joinE a b := by
  unfold pairP
  cases h : (joinE a b).2 with
  | true => rw [if_pos rfl]
  | false => rw [if_neg (by simp), join_no h]; rfl
theorem sec_no0 (r : Int) : secP [] r = (decide (4449 ≤ r ∧ r ≤ 4469) || decide (4520 ≤ r ∧ r ≤ 4546)) := rfl
set_option maxRecDepth 100000 in
set_option maxHeartbeats 4000000 in
theorem rrow0 (E : Nat) (r : Int) (w : World) (hE : Tr.Bk w E [.slice none 0 0, .slice none 0 0] 49) : Calls Tryz.prog 39 #[.pointer (some ⟨E, 0, none⟩), .int .i32 r] w fun e w' => e = .returned (.pointer none) ∧ w = w' := by
  have c0 := hE.c (i := 0) rfl
  clear hE
  go_enter Tryz.func39, Tryz.ntmps39
  go_wp2_with fail
  go_loopw [5] (fun i wr => i = .int .i64 0 ∧ wr = w) (fun _ _ => 0)
  case atStart => exact ⟨rfl, rfl⟩
  case round =>
    obtain ⟨rfl, rfl⟩ := hrel
    go_wp2_with fail
    go_ret
    exact ⟨rfl, rfl⟩
set_option maxRecDepth 100000 in
set_option maxHeartbeats 4000000 in
theorem rdec0 (E : Nat) (r : Int) (w : World) (hE : Tr.Bk w E [.slice none 0 0, .slice none 0 0] 49) : Calls Tryz.prog 17 #[.pointer (some ⟨E, 0, none⟩), .int .i32 r] w (PrtP w (decB [] r)) := by
  obtain ⟨a, b, f, hs⟩ : ∃ a b f, splE r = (a, b, f) := ⟨_, _, _, rfl⟩
  have HS := Lib.hid (rspl_c hs w)
  have HR := Lib.hid (rrow0 E r w hE)
  cases f with
  | true =>
    rw [dec_syl hs]
    clear hE hs
    go_enter Tryz.func17, Tryz.ntmps17
    go_wp2_with (go_at_call 38; refine HS.out.mono ?_; rintro e w' ⟨rfl, rfl⟩)
    go_ret2
    exact ⟨_, _, rfl, ints_two a b _ w, (Below.refl _ w).alloc (Nat.le_refl _) _⟩
  | false =>
    rw [dec_no0 hs]
    clear hE hs
    go_enter Tryz.func17, Tryz.ntmps17
    go_wp2_with (first | (go_at_call 38; refine HS.out.mono ?_; rintro e w' ⟨rfl, rfl⟩) | (go_at_call 39; refine HR.out.mono ?_; rintro e w' ⟨rfl, rfl⟩))
    go_ret2
    exact ⟨none, 0, rfl, (fun i hi => by cases hi), Below.refl _ w⟩
set_option maxRecDepth 100000 in
set_option maxHeartbeats 4000000 in
theorem rpair0 (E : Nat) (a b : Int) (w : World) (hE : Tr.Bk w E [.slice none 0 0, .slice none 0 0] 49) : Calls Tryz.prog 18 #[.pointer (some ⟨E, 0, none⟩), .int .i32 a, .int .i32 b] w fun e w' => e = .returned (lkV (pairP [] a b)) ∧ w = w' := by
  have c0 := hE.c (i := 0) rfl
  rw [pair_no0]
  obtain ⟨s, f, hj⟩ : ∃ s f, joinE a b = (s, f) := ⟨_, _, rfl⟩
  have HJ := Lib.hid (rjoin_c hj w)
  rw [hj]
  unfold lkV
  clear hE hj
  go_enter Tryz.func18, Tryz.ntmps18
  go_wp2_with fail
  go_loopw [8] (fun i wr => i = .int .i64 0 ∧ wr = w) (fun _ _ => 0)
  case atStart => exact ⟨rfl, rfl⟩
  case round =>
    obtain ⟨rfl, rfl⟩ := hrel
    go_wp2_with (go_at_call 41; refine HJ.out.mono ?_; rintro e w' ⟨rfl, rfl⟩)
    go_ret2
    exact ⟨rfl, rfl⟩
set_option maxRecDepth 100000 in
set_option maxHeartbeats 4000000 in
theorem rsec0 (E : Nat) (r : Int) (w : World) (hE : Tr.Bk w E [.slice none 0 0, .slice none 0 0] 49) : Calls Tryz.prog 19 #[.pointer (some ⟨E, 0, none⟩), .int .i32 r] w fun e w' => e = .returned (.bool (secP [] r)) ∧ w = w' := by
  have c0 := hE.c (i := 0) rfl
  have HSec := Lib.hid (sec_no0 r)
  clear hE
  go_enter Tryz.func19, Tryz.ntmps19
  go_wp2_with fail
  go_loopw [5] (fun i wr => i = .int .i64 0 ∧ wr = w) (fun _ _ => 0)
  case atStart => exact ⟨rfl, rfl⟩
  case round =>
    obtain ⟨rfl, rfl⟩ := hrel
    go_wp2_with fail
    all_goals (go_ret; refine ⟨?_, rfl⟩; rw [HSec.out]; refine congrArg (fun b => Ending.returned (.bool b)) ?_; rw [Bool.eq_iff_iff]; simp only [Bool.or_eq_true, decide_eq_true_eq, Bool.false_eq_true, true_iff, false_iff]; omega)

end Go.Proofs.YtagbeioooohbgaaGreatDoor.Ba
end
section
namespace Go.Proofs.YtagbeioooohbgaaGreatDoor.Ba
open Go.RowKit Go.Maps Go.Shelf Uc Ha
open Fi (scal scal_bd Ml)

attribute [local go_sem] Oper.semAt_some

/-! BaseNil -/
theorem dec_kd0 (r : Int) : (decB [] r).1 = [] := by
  cases hs : isS r with
  | true => rw [syl_dec hs]
  | false => unfold decB; rw [if_neg (by rw [hs]; simp)]; rfl
theorem bv_nil (w : World) : BV w (.pointer none) [] [] := .inl ⟨rfl, rfl, rfl⟩
theorem s4_nil : S4 [] [] := fun x hx => by cases hx
theorem eqfn39 (f : FuncId) (cs : Array Value) (W : World) : (binOp .eql 39 (.func (.func f) #[] cs) .nilFunc).run Tryz.prog W = .ok (.bool false) W := by kernel_rfl
theorem eqfn44 (f : FuncId) (cs : Array Value) (W : World) : (binOp .eql 44 (.func (.func f) #[] cs) .nilFunc).run Tryz.prog W = .ok (.bool false) W := by kernel_rfl
theorem nil_start (w : World) : Below w.heap.size w (((w.alloc (.cells #[.pointer none] 26)).alloc (.cells #[.pointer none] 26)).alloc (.cells #[.int .i64 0] 3)) ∧
    Tr.Bk (((w.alloc (.cells #[.pointer none] 26)).alloc (.cells #[.pointer none] 26)).alloc (.cells #[.int .i64 0] 3)) w.heap.size [.pointer none] 26 ∧
    Tr.Bk (((w.alloc (.cells #[.pointer none] 26)).alloc (.cells #[.pointer none] 26)).alloc (.cells #[.int .i64 0] 3)) (w.heap.size + 1) [.pointer none] 26 ∧
    Tr.Bk (((w.alloc (.cells #[.pointer none] 26)).alloc (.cells #[.pointer none] 26)).alloc (.cells #[.int .i64 0] 3)) (w.heap.size + 1 + 1) [.int .i64 0] 3 := by
  obtain ⟨w1, h1⟩ : ∃ x, x = w.alloc (.cells #[.pointer none] 26) := ⟨_, rfl⟩
  rw [← h1]
  obtain ⟨w2, h2⟩ : ∃ x, x = w1.alloc (.cells #[.pointer none] 26) := ⟨_, rfl⟩
  rw [← h2]
  obtain ⟨w3, h3⟩ : ∃ x, x = w2.alloc (.cells #[.int .i64 0] 3) := ⟨_, rfl⟩
  rw [← h3]
  have z1 : w1.heap.size = w.heap.size + 1 := by rw [h1]; simp
  have z2 : w2.heap.size = w.heap.size + 1 + 1 := by rw [h2]; simp [z1]
  have b1 : Below w.heap.size w w1 := by rw [h1]; exact (Below.refl _ _).alloc (Nat.le_refl _) _
  have b2 : Below w1.heap.size w1 w2 := by rw [h2]; exact (Below.refl _ _).alloc (Nat.le_refl _) _
  have b3 : Below w2.heap.size w2 w3 := by rw [h3]; exact (Below.refl _ _).alloc (Nat.le_refl _) _
  have b23 : Below w1.heap.size w1 w3 := b2.trans (b3.mono b2.size)
  have k1 : Tr.Bk w1 w.heap.size [.pointer none] 26 := by rw [h1]; exact ⟨heap_alloc_new w _⟩
  have k2 : Tr.Bk w2 (w.heap.size + 1) [.pointer none] 26 := by rw [h2, ← z1]; exact ⟨heap_alloc_new w1 _⟩
  have k3 : Tr.Bk w3 (w.heap.size + 1 + 1) [.int .i64 0] 3 := by rw [h3, ← z2]; exact ⟨heap_alloc_new w2 _⟩
  exact ⟨b1.trans (b23.mono b1.size), k1.below b23, k2.below b3, k3⟩
set_option maxRecDepth 100000 in
set_option maxHeartbeats 16000000 in
theorem nil_walk (x y : Int) (w : World) (hM : Ml w) (hT : Ha.Tab w) (hx : wfR x) (hy : wfR y) : Calls Tryz.prog 5 #[.int .i32 x, .int .i32 y] w fun e w' => e = .returned (.bool true) ∧ Below w.heap.size w w' := by
  have HT := Lib.hid hT.all
  have HM := Lib.hid (fun w1 (h : Below w.heap.size w w1) => hM.on h)
  have HX := Lib.hid hx
  have HY := Lib.hid hy
  clear hM hT hx hy
  obtain ⟨w1, hw1⟩ : ∃ w1, w1 = w.alloc (.cells #[.slice none 0 0, .slice none 0 0] 49) := ⟨_, rfl⟩
  have D1 : Hid (Below w.heap.size w w1) := Lib.hid (by rw [hw1]; exact (Below.refl _ w).alloc (Nat.le_refl _) _)
  have E1 : Hid (Tr.Bk w1 w.heap.size [.slice none 0 0, .slice none 0 0] 49) := Lib.hid (by rw [hw1]; exact ⟨heap_alloc_new w _⟩)
  refine calls_marks Tryz.func5 rfl ?_
  simp only [Tryz.ntmps5, List.size_toArray, List.length_cons, List.length_nil, Nat.reduceAdd, Nat.reduceSub, Array.replicate_succ, Array.replicate_zero, List.push_toArray, List.append_toArray, List.nil_append, List.cons_append]
  go_wp2_with fail
  rw [← hw1]
  clear hw1
  have H2 := Lib.hid (decomp_any (.pointer none) x w1 frm_nil (bv_nil w1) (HT.out w1 D1.out) HX.out)
  obtain ⟨d, hd⟩ : ∃ d, d = decB [] x := ⟨_, rfl⟩
  have HK := Lib.hid (dec_kd0 x)
  have HLn := Lib.hid (dec_len frm_nil x)
  have HR := Lib.hid (fun w' (h : Below w1.heap.size w1 w') => rdec0 w.heap.size x w' (E1.out.below h))
  rw [← hd] at H2 HK HR HLn
  obtain ⟨kd, into⟩ := d
  have hkd : kd = [] := HK.out
  subst hkd
  clear hd HK
  refine H2.out.mono ?_
  rintro e w2 ⟨A, c, rfl, hi, hb2⟩
  have HI := Lib.hid hi
  have D2 := Lib.hid hb2
  clear hi hb2 H2
  go_wp2_with fail
  refine (HR.out w2 D2.out).mono ?_
  rintro e w3 ⟨A2, c2, rfl, hi2, hb3⟩
  have HI2 := Lib.hid hi2
  have HI1 := Lib.hid (HI.out.below hb3)
  have D3 := Lib.hid (D2.out.trans (hb3.mono D2.out.size))
  clear hi2 hb3 HR HI D2
  have H4 := Lib.hid (pairM_any (L := []) (mk := []) (.pointer none) x y w3 (bv_nil w3) (HT.out w3 (D1.out.trans (D3.out.mono D1.out.size))) HX.out HY.out)
  obtain ⟨s, f, hsf⟩ : ∃ s f, pairP [] x y = (s, f) := ⟨_, _, rfl⟩
  have HR := Lib.hid (fun w' (h : Below w1.heap.size w1 w') => rpair0 w.heap.size x y w' (E1.out.below h))
  rw [hsf] at H4 HR
  unfold lkV at H4 HR
  clear hsf
  go_wp2_with fail
  refine H4.out.mono ?_
  rintro e w4 ⟨rfl, hb4⟩
  have HJ2 := Lib.hid (HI2.out.below hb4)
  have HJ1 := Lib.hid (HI1.out.below hb4)
  have D4 := Lib.hid (D3.out.trans (hb4.mono D3.out.size))
  clear hb4 HI1 HI2 H4 D3
  go_wp2_with fail
  refine (HR.out w4 D4.out).mono ?_
  rintro e w5 ⟨rfl, rfl⟩
  clear HR
  go_wp2_with fail
  refine (pairs_call _ (.pointer none) rfl).mono ?_
  rintro e w5 ⟨rfl, rfl⟩
  go_wp2_with fail
  refine (known_call _ (.pointer none) rfl).mono ?_
  rintro e w5 ⟨rfl, rfl⟩
  have hq1 := eqfn39 32
  have hq2 := eqfn44 35
  go_wp2_with fail
  obtain ⟨s1, s2, s3, s4⟩ := nil_start w4
  obtain ⟨W0, hW0⟩ : ∃ x, x = (((w4.alloc (.cells #[.pointer none] 26)).alloc (.cells #[.pointer none] 26)).alloc (.cells #[.int .i64 0] 3)) := ⟨_, rfl⟩
  rw [← hW0] at s1 s2 s3 s4
  rw [← hW0]
  obtain ⟨B1, hB1⟩ : ∃ x, x = w4.heap.size := ⟨_, rfl⟩
  obtain ⟨B2, hB2⟩ : ∃ x, x = B1 + 1 := ⟨_, rfl⟩
  obtain ⟨Bn, hBn⟩ : ∃ x, x = B2 + 1 := ⟨_, rfl⟩
  rw [← hB1] at s2
  rw [← hB1, ← hB2] at s3
  rw [← hB1, ← hB2, ← hBn] at s4
  rw [← hB1, ← hB2, ← hBn]
  have S2 := Lib.hid s2
  have S3 := Lib.hid s3
  have S4 := Lib.hid s4
  have HJ1W := Lib.hid (HJ1.out.below s1)
  have HJ2W := Lib.hid (HJ2.out.below s1)
  have D0 := Lib.hid (D4.out.trans (s1.mono D4.out.size))
  clear hW0 hB1 hB2 hBn s1 s2 s3 s4 HJ1 HJ2 D4 hq1 hq2
  refine wp_range_L (α := Pr [] []) (G := 32) (lb := #[.pointer (some ⟨B1, 0, none⟩)]) rfl (enters_of Tryz.func32 (by kernel_rfl) rfl)
    (pairs_iter (fun _ _ => False) B1 (.pointer none) [] [] W0 W0 frm_nil s4_nil (by decide) (bv_nil W0) (Below.refl _ _) S2.out (OwnO.none _) (fun h => h))
    (fun h k => ⟨h.1.trans k.1, h.2.trans k.2⟩) (fun V l o o' hl h ho => ⟨kpF_put V l o o' h ho, below_put (Below.refl _ _) hl⟩) (Below.refl _ _) (fun _ => rfl)
    (fun _ V => Below W0.heap.size W0 V) (fun _ _ _ => False) (ownFrom_below (Nat.le_refl _) (Nat.le_refl _)) (fun _ _ _ _ _ h _ _ => h) (Below.refl _ _)
    (fun _ _ _ _ => True) (fun _ _ _ _ _ _ _ h _ _ => h) ?assign ?body ?done ?stop
  case assign =>
    intro l pre x V K hI hK
    unfold encP
    gi_wp2
    exact hK _ _ (KeepsFrom.refl _ _) ⟨kpF_below (Below.refl _ _), Below.refl _ _⟩ hI trivial
  case body => exact fun l pre x t V _ _ hlen => absurd hlen (Nat.not_lt_zero _)
  case stop => exact fun D c pre V _ _ h => h.elim
  case done =>
    rintro D ys V hD _ hI hK
    have HI := Lib.hid hI
    have HK := Lib.hid hK
    clear hI hK
    go_wp2_with fail
    refine rangeG (α := Kn []) (G := 35) (lb := #[.pointer (some ⟨B2, 0, none⟩)]) rfl (enters_of Tryz.func35 (by kernel_rfl) rfl) (known_iter (fun _ _ => False) 4 B2 (.pointer none) [] [] V frm_nil (by decide) (bv_nil V) (S3.out.below HI.out) (OwnO.none _))
      (fun h k => h.trans k) (fun V l o o' _ h ho _ => kpF_put V l o o' h ho) (Below.refl _ _) (fun _ => rfl)
      (fun _ V2 => Below V.heap.size V V2) (fun _ _ _ => False) (ownFrom_below (Nat.le_refl _) (Nat.le_refl _)) (fun _ _ _ _ _ h _ _ => h) (Below.refl _ _)
      (fun tm x => tm.setIfInBounds 62 (.int .i32 x.1)) ?assign ?body ?done ?stop
    case assign =>
      intro l x V K hK
      unfold encK
      gi_wp2
      exact hK
    case body => exact fun l pre x V _ hlen => absurd hlen (Nat.not_lt_zero _)
    case stop => exact fun D c pre V _ _ h => h.elim
    case done =>
      rintro D2 ys2 V2 hD2 _ hI2 hK2
      have E2 := Lib.hid (HI.out.trans (hI2.mono HI.out.size))
      have K2 := Lib.hid ((hI2.block D (Array.getElem?_eq_some_iff.1 HK.out).1).trans HK.out)
      have HK2 := Lib.hid hK2
      clear hI2 hK2
      have HI1 := Lib.hid (HJ1W.out.below E2.out)
      have HI2 := Lib.hid (HJ2W.out.below E2.out)
      have HD2 := Lib.hid (D0.out.trans (E2.out.mono D0.out.size))
      have HE := Lib.hid (eqR_call (l := into) (m := into) (f := true) (by simp) A A2 c c2 V2 HI1.out HI2.out (Nat.le_trans HLn.out (by decide)) (Nat.le_trans HLn.out (by decide)))
      go_wp2_with fail
      refine HE.out.mono ?_
      rintro e V3 ⟨rfl, hb3⟩
      have E3 := Lib.hid (E2.out.trans (hb3.mono E2.out.size))
      have K3 := Lib.hid ((hb3.block D (Array.getElem?_eq_some_iff.1 K2.out).1).trans K2.out)
      have K3' := Lib.hid ((hb3.block D2 (Array.getElem?_eq_some_iff.1 HK2.out).1).trans HK2.out)
      have D3 := Lib.hid (HD2.out.trans (hb3.mono HD2.out.size))
      clear hb3 HE HI1 HI2 K2 HK2 HD2 E2
      have HC := Lib.hid (class_any (.pointer none) x V3 frm_nil (bv_nil V3))
      go_wp2_with fail
      refine HC.out.mono ?_
      rintro e V3 ⟨rfl, rfl⟩
      rw [show clsB [] x = 0 from rfl]
      have D3w := Lib.hid (D1.out.trans (D3.out.mono D1.out.size))
      have HS := Lib.hid (second_any (L := []) (mk := []) (.pointer none) x V3 (bv_nil V3) (HT.out V3 D3w.out) HX.out)
      obtain ⟨g, hg⟩ : ∃ g, secP [] x = g := ⟨_, rfl⟩
      have HS2 := Lib.hid (fun W (h : Below w1.heap.size w1 W) => rsec0 w.heap.size x W (E1.out.below h))
      rw [hg] at HS HS2
      clear hg HC
      go_wp2_with fail
      refine HS.out.mono ?_
      rintro e V4 ⟨rfl, hb4⟩
      have E4 := Lib.hid (E3.out.trans (hb4.mono E3.out.size))
      have K4 := Lib.hid ((hb4.block D (Array.getElem?_eq_some_iff.1 K3.out).1).trans K3.out)
      have K4' := Lib.hid ((hb4.block D2 (Array.getElem?_eq_some_iff.1 K3'.out).1).trans K3'.out)
      have D4 := Lib.hid (D3.out.trans (hb4.mono D3.out.size))
      clear hb4 HS K3 K3' D3 E3 D3w
      go_wp2_with fail
      refine (HS2.out V4 D4.out).mono ?_
      rintro e V4 ⟨rfl, rfl⟩
      have n4 := (S4.out.below E4.out).c (i := 0) rfl
      have D4w := Lib.hid (D1.out.trans (D4.out.mono D1.out.size))
      have HA := Lib.hid (awake_any V4 (HM.out V4 D4w.out) (HT.out V4 D4w.out))
      clear HS2
      go_wp2_with fail
      refine HA.out.mono ?_
      rintro e V5 ⟨rfl, hb5⟩
      have E5 := Lib.hid (D4w.out.trans (hb5.mono D4w.out.size))
      have K5 := Lib.hid ((hb5.block D (Array.getElem?_eq_some_iff.1 K4.out).1).trans K4.out)
      have K5' := Lib.hid ((hb5.block D2 (Array.getElem?_eq_some_iff.1 K4'.out).1).trans K4'.out)
      clear hb5 HA K4 K4' n4
      go_wp2_with fail
      have hlD := (Array.getElem?_eq_some_iff.1 HK.out).1
      have hsD := D1.out.size
      have hs0 := D0.out.size
      refine leave_mark K5'.out (leave_mark ((World.putObj_heap_other (by omega)).trans K5.out) (leave_nil (v := .bool true) (by simp [results, Tryz.results5, go_sem]) ⟨rfl, below_put (below_put E5.out (by omega)) (by omega)⟩))

end Go.Proofs.YtagbeioooohbgaaGreatDoor.Ba
end

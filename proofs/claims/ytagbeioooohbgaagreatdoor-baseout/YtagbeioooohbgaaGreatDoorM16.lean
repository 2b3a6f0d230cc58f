import Derived.Test.YtagbeioooohbgaaGreatDoorBG
import Derived.Test.YtagbeioooohbgaaGreatDoorM04
import Derived.Test.YtagbeioooohbgaaGreatDoorGH
import Derived.StillTailTactics
import Derived.Test.YtagbeioooohbgaaGreatDoorM09
section
namespace Go.Proofs.YtagbeioooohbgaaGreatDoor.Ba
open Go.RowKit Go.Maps Uc Ha
open Fi (scal scal_bd)

/-! parting.pair -/
def prV (x : Int × Int × Bool) : Value := .tuple #[.agg #[.int .i32 x.1, .int .i32 x.2.1], .bool x.2.2]
def prE (kd : List UInt8) (into : List Int) : Int × Int × Bool := if kd = [] ∧ into.length = 2 then (into.getD 0 0, into.getD 1 0, true) else (0, 0, false)
theorem arrAt (A : Option Addr) (c : Nat) (W : World) : (Instr.arrayAt 67 (.slice A 2 c)).run Tryz.prog W = .ok (.pointer A) W := by
  simp [Instr.arrayAt, run_underlying Tryz.underlying67]
set_option maxRecDepth 100000 in
set_option maxHeartbeats 4000000 in
theorem pair_yes (A : Option Addr) (c : Nat) (a b : Int) (w : World) (hi : Ints .i32 w A [a, b]) :
    Calls Tryz.prog 33 #[parV [] A 2 c] w fun e w' => e = .returned (prV (a, b, true)) ∧ Below w.heap.size w w' := by
  obtain ⟨g, o, rfl, hg, h0⟩ := hi 0 (by simp)
  obtain ⟨g', o', e, _, h1⟩ := hi 1 (by simp)
  cases e
  simp only [List.getD_cons_zero, List.getD_cons_succ, Nat.add_zero] at h0 h1
  have harr := arrAt (some ⟨g, o, none⟩) c
  unfold parV
  go_enter Tryz.func33, Tryz.ntmps33
  go_wp2_with fail
  exact bodyPost_ret (v := prV (a, b, true)) (by simp [results, Tryz.results33, go_sem, prV]) rfl ⟨rfl, (((Below.refl _ w).alloc (Nat.le_refl _) _).alloc (by simp) _)⟩
set_option maxRecDepth 100000 in
set_option maxHeartbeats 4000000 in
theorem pair_kd (A : Option Addr) (n c : Nat) (kd : List UInt8) (w : World) (hk : kd ≠ []) :
    Calls Tryz.prog 33 #[parV kd A n c] w fun e w' => e = .returned (prV (0, 0, false)) ∧ Below w.heap.size w w' := by
  unfold parV
  go_enter Tryz.func33, Tryz.ntmps33
  go_wp2_with fail
  exact bodyPost_ret (v := prV (0, 0, false)) (by simp [results, Tryz.results33, go_sem, prV]) rfl ⟨rfl, (((Below.refl _ w).alloc (Nat.le_refl _) _).alloc (by simp) _)⟩
set_option maxRecDepth 100000 in
set_option maxHeartbeats 4000000 in
theorem pair_len (A : Option Addr) (n c : Nat) (w : World) (hn : n ≠ 2) :
    Calls Tryz.prog 33 #[parV [] A n c] w fun e w' => e = .returned (prV (0, 0, false)) ∧ Below w.heap.size w w' := by
  have h1 : ((n : Int) != 2) = true := by simp; omega
  unfold parV
  go_enter Tryz.func33, Tryz.ntmps33
  go_wp2_with fail
  exact bodyPost_ret (v := prV (0, 0, false)) (by simp [results, Tryz.results33, go_sem, prV]) rfl ⟨rfl, (((Below.refl _ w).alloc (Nat.le_refl _) _).alloc (by simp) _)⟩
theorem prV_eq {x : Int × Int × Bool} {a b : Int} {f : Bool} (h : x = (a, b, f)) : Ending.returned (prV (a, b, f)) = .returned (prV x) := by rw [h]
/-- What a parting is parted into, if that is two, canonically. -/
theorem pair_any (A : Option Addr) (c : Nat) (kd : List UInt8) (into : List Int) (w : World) (hi : Ints .i32 w A into) :
    Calls Tryz.prog 33 #[parV kd A into.length c] w fun e w' => e = .returned (prV (prE kd into)) ∧ Below w.heap.size w w' := by
  by_cases hk : kd = []
  · subst hk
    by_cases hn : into.length = 2
    · have e : prE [] into = (into.getD 0 0, into.getD 1 0, true) := by unfold prE; rw [if_pos ⟨rfl, hn⟩]
      rw [e, hn]
      rw [two_of hn] at hi
      exact pair_yes A c _ _ w hi
    · have e : prE [] into = (0, 0, false) := by unfold prE; rw [if_neg fun h => hn h.2]
      rw [e]
      exact pair_len A _ c w hn
  · have e : prE kd into = (0, 0, false) := by unfold prE; rw [if_neg fun h => hk h.1]
    rw [e]
    exact pair_kd A _ c kd w hk

/-! hasSyllable -/
def hsB (x : Rw) : Bool := decide (x.fr ≤ 55203 ∧ 44032 ≤ x.tt)
theorem isC {r : Int} {f : Bool} (h : isS r = f) (W : World) : Calls Tryz.prog 59 #[.int .i32 r] W fun e w' => e = .returned (.bool f) ∧ W = w' := by
  have := is_any r W
  rw [h] at this
  exact this
def rowV (fr tt : Int) (nm ct : ByteArray) (cl : Int) (kd : ByteArray) (A : Option Addr) (n c : Nat) : Value := .agg #[.int .i32 fr, .int .i32 tt, .string nm, .string ct, .int .i64 cl, .string kd, .slice A n c]
set_option maxRecDepth 100000 in
set_option maxHeartbeats 4000000 in
theorem has_by (fr tt : Int) (nm ct kd : ByteArray) (cl : Int) (A : Option Addr) (n c : Nat) (w : World) (f g : Bool) (h1 : isS fr = f) (h2 : isS tt = g) :
    Calls Tryz.prog 53 #[rowV fr tt nm ct cl kd A n c] w fun e w' => e = .returned (.bool (f || (g || (decide (fr < 44032) && decide (44032 < tt))))) ∧ Below w.heap.size w w' := by
  have H1 := Lib.hid (fun W => isC h1 W)
  have H2 := Lib.hid (fun W => isC h2 W)
  have hb : Hid (Below w.heap.size w (w.alloc (.cells #[.int .i32 fr, .int .i32 tt, .string nm, .string ct, .int .i64 cl, .string kd, .slice A n c] 91))) := Lib.hid ((Below.refl _ w).alloc (Nat.le_refl _) _)
  clear h1 h2
  unfold rowV
  go_enter Tryz.func53, Tryz.ntmps53
  go_wp2_with fail
  refine (H1.out _).mono ?_
  rintro e w' ⟨rfl, rfl⟩
  cases f with
  | true =>
    go_wp2_with fail
    go_ret
    exact ⟨rfl, hb.out⟩
  | false =>
    go_wp2_with fail
    refine (H2.out _).mono ?_
    rintro e w' ⟨rfl, rfl⟩
    cases g with
    | true =>
      go_wp2_with fail
      go_ret
      exact ⟨rfl, hb.out⟩
    | false =>
      by_cases h3 : fr < 44032
      · have h3' : decide (fr < 44032) = true := by simpa using h3
        go_wp2_with fail
        go_ret
        exact ⟨by rw [h3']; rfl, hb.out⟩
      · have h3' : decide (fr < 44032) = false := by simpa using h3
        go_wp2_with fail
        go_ret
        exact ⟨by rw [h3']; rfl, hb.out⟩
theorem hs_eq {fr tt : Int} (h : fr ≤ tt) : (isS fr || (isS tt || (decide (fr < 44032) && decide (44032 < tt)))) = decide (fr ≤ 55203 ∧ 44032 ≤ tt) := by
  rw [Bool.eq_iff_iff]
  simp only [Bool.or_eq_true, Bool.and_eq_true, decide_eq_true_eq, isS_iff]
  omega
theorem has_any (fr tt : Int) (nm ct kd : ByteArray) (cl : Int) (A : Option Addr) (n c : Nat) (w : World) (h : fr ≤ tt) :
    Calls Tryz.prog 53 #[rowV fr tt nm ct cl kd A n c] w fun e w' => e = .returned (.bool (decide (fr ≤ 55203 ∧ 44032 ≤ tt))) ∧ Below w.heap.size w w' := by
  rw [← hs_eq h]
  exact has_by fr tt nm ct kd cl A n c w _ _ rfl rfl

end Go.Proofs.YtagbeioooohbgaaGreatDoor.Ba
end
section
namespace Go.Proofs.YtagbeioooohbgaaGreatDoor.Ba
open Go.RowKit Go.Maps Uc Ha
open Fi (scal scal_bd)

/-! checkRows -/
def ok1 (x : Rw) : Bool := !((decide (0 < x.cl) || decide (0 < x.into.length)) && decide (x.fr ≤ 55203 ∧ 44032 ≤ x.tt))
def ok2 (x : Rw) : Bool := !(decide (x.kd = []) && decide (2 < x.into.length))
def ckE (L : List Rw) : Int := if L.all ok1 = true then (if L.all ok2 = true then 0 else 10) else 12
theorem s1_iff (L : List Rw) : L.all ok1 = true ↔ S1 L := by
  rw [List.all_eq_true]
  refine forall_congr' fun x => forall_congr' fun hx => ?_
  unfold ok1
  have : 0 < x.into.length ↔ x.into ≠ [] := List.length_pos_iff
  simp only [Bool.not_eq_true', Bool.and_eq_false_iff, Bool.or_eq_false_iff, decide_eq_false_iff_not, this]
  constructor
  · intro h1 h2 h3
    rcases h1 with h1 | h1
    · rcases h2 with h2 | h2
      · exact h1.1 h2
      · exact h1.2 h2
    · exact h1 h3
  · intro h1
    by_cases h2 : 0 < x.cl ∨ x.into ≠ []
    · exact .inr (h1 h2)
    · exact .inl ⟨fun h => h2 (.inl h), fun h => h2 (.inr h)⟩
theorem s2_iff (L : List Rw) : L.all ok2 = true ↔ S2 L := by
  rw [List.all_eq_true]
  refine forall_congr' fun x => forall_congr' fun hx => ?_
  unfold ok2
  simp only [Bool.not_eq_true', Bool.and_eq_false_iff, decide_eq_false_iff_not]
  constructor
  · intro h1 h2
    rcases h1 with h1 | h1
    · exact absurd h2 h1
    · omega
  · intro h1
    by_cases h2 : x.kd = []
    · have := h1 h2; exact .inr (by omega)
    · exact .inl h2
theorem ck_zero (L : List Rw) : ckE L = 0 ↔ S1 L ∧ S2 L := by
  rw [← s1_iff, ← s2_iff]
  unfold ckE
  by_cases h1 : L.all ok1 = true
  · by_cases h2 : L.all ok2 = true
    · simp [h1, h2]
    · simp [h1, h2]
  · simp [h1]
theorem all_more {p : Rw → Bool} {L : List Rw} {k : Nat} (hk : k < L.length) (h : (L.take k).all p = true) (hp : p L[k] = true) : (L.take (k + 1)).all p = true := by
  rw [List.take_succ_eq_append_getElem hk, List.all_append, h]
  simpa using hp
theorem all_not {p : Rw → Bool} {L : List Rw} {k : Nat} (hk : k < L.length) (hp : p L[k] = false) : L.all p = false := by
  rw [List.all_eq_false]
  exact ⟨L[k], List.getElem_mem hk, by simp [hp]⟩
theorem all_end {p : Rw → Bool} {L : List Rw} {k : Nat} (hk : L.length ≤ k) (h : (L.take k).all p = true) : L.all p = true := by rwa [List.take_of_length_le hk] at h
/-- A row of memory, field by field. -/
structure RwAt (w : World) (b o : Nat) (fr tt : Int) (nm ct : ByteArray) (cl : Int) (kd : ByteArray) (A : Option Addr) (n c : Nat) : Prop where
  c0 : w.cell? ⟨b, o, none⟩ = some (.int .i32 fr)
  c1 : w.cell? ⟨b, o + 1, none⟩ = some (.int .i32 tt)
  c2 : w.cell? ⟨b, o + 2, none⟩ = some (.string nm)
  c3 : w.cell? ⟨b, o + 3, none⟩ = some (.string ct)
  c4 : w.cell? ⟨b, o + 4, none⟩ = some (.int .i64 cl)
  c5 : w.cell? ⟨b, o + 5, none⟩ = some (.string kd)
  c6 : w.cell? ⟨b, o + 6, none⟩ = some (.slice A n c)
theorem rws_at {w wr : World} {A : Option Addr} {L : List Rw} (h : Rws w A L) (hb : Below w.heap.size w wr) {k : Nat} (hk : k < L.length) :
    ∃ b off B c, A = some ⟨b, off, none⟩ ∧ RwAt wr b (off + k * 7) L[k].fr L[k].tt ⟨L[k].nm.toArray⟩ ⟨L[k].ct.toArray⟩ L[k].cl ⟨L[k].kd.toArray⟩ B L[k].into.length c ∧ Ints .i32 wr B L[k].into := by
  obtain ⟨b, off, v, e, hl, ⟨B, c, rfl, hi⟩, h0, h1, h2, h3, h4, h5, h6⟩ := h k hk
  have q := fun j => hb.cell (p := ⟨b, off + k * 7 + j, none⟩) hl
  exact ⟨b, off, B, c, e, ⟨(q 0).trans h0, (q 1).trans h1, (q 2).trans h2, (q 3).trans h3, (q 4).trans h4, (q 5).trans h5, (q 6).trans h6⟩, hi.below hb⟩
theorem hasC {fr tt : Int} {s : Bool} (hs : decide (fr ≤ 55203 ∧ 44032 ≤ tt) = s) (h : fr ≤ tt) (nm ct kd : ByteArray) (cl : Int) (A : Option Addr) (n c : Nat) (w0 w : World) (hb : Below w0.heap.size w0 w) :
    Calls Tryz.prog 53 #[.agg #[.int .i32 fr, .int .i32 tt, .string nm, .string ct, .int .i64 cl, .string kd, .slice A n c]] w fun e w' => e = .returned (.bool s) ∧ Below w0.heap.size w0 w' := by
  have := has_any fr tt nm ct kd cl A n c w h
  rw [hs] at this
  exact this.mono fun e w' ⟨he, hb'⟩ => ⟨he, hb.trans (hb'.mono hb.size)⟩
set_option maxRecDepth 100000 in
set_option maxHeartbeats 8000000 in
theorem check_any (A : Option Addr) (c : Nat) (L : List Rw) (w : World) (hR : Rws w A L) (hF : Frm L) (hn : L.length ≤ 4096) :
    Calls Tryz.prog 24 #[.slice A L.length c] w fun e w' => e = .returned (.int .i64 (ckE L)) ∧ Below w.heap.size w w' := by
  have HR := Lib.hid hR
  have HF := Lib.hid hF
  clear hR hF
  go_enter Tryz.func24, Tryz.ntmps24
  go_wp2_with fail
  go_loopw [9] (fun i wr => ∃ k : Nat, i = .int .i64 k ∧ k ≤ L.length ∧ Hid (Below w.heap.size w wr ∧ (L.take k).all ok1 = true)) (fun i _ => L.length - (intOf i).toNat)
  case atStart => exact ⟨0, rfl, Nat.zero_le _, Below.refl _ _, by simp⟩
  case round =>
    obtain ⟨k, rfl, hk, HQ⟩ := hrel
    by_cases hlt : k < L.length
    · have hltI : (k : Int) < L.length := by omega
      obtain ⟨b, off, B, d, rfl, hat, hints⟩ := rws_at HR.out HQ.out.1 hlt
      clear hints
      have hle := (HF.out.bd (List.getElem_mem hlt)).2.1
      have HM := Lib.hid (fun (h : ok1 L[k] = true) => all_more hlt HQ.out.2 h)
      have HN := Lib.hid (fun (h : ok1 L[k] = false) => all_not hlt h)
      have hok : ok1 L[k] = !((decide (0 < L[k].cl) || decide (0 < L[k].into.length)) && decide (L[k].fr ≤ 55203 ∧ 44032 ≤ L[k].tt)) := rfl
      generalize hx : L[k] = x at hat hle HM HN hok
      clear hx
      obtain ⟨fr, tt, nm, ct, cl, kd, into⟩ := x
      simp only at hat hle hok
      obtain ⟨c0, c1, c2, c3, c4, c5, c6⟩ := hat
      generalize into.length = n at *
      generalize (⟨nm.toArray⟩ : ByteArray) = nm' at *
      generalize (⟨ct.toArray⟩ : ByteArray) = ct' at *
      generalize (⟨kd.toArray⟩ : ByteArray) = kd' at *
      obtain ⟨s, hs⟩ : ∃ s, decide (fr ≤ 55203 ∧ 44032 ≤ tt) = s := ⟨_, rfl⟩
      rw [hs] at hok
      have HC := Lib.hid (fun (W : World) (hb : Below w.heap.size w W) => hasC hs hle nm' ct' kd' cl B n d w W hb)
      have HOK := Lib.hid hok
      have D1 := Lib.hid (HQ.out.1.alloc HQ.out.1.size (.cells #[.int .i32 fr, .int .i32 tt, .string nm', .string ct', .int .i64 cl, .string kd', .slice B n d] 91))
      clear hok hs
      by_cases h1 : 0 < cl ∨ 0 < n
      · have HO2 := Lib.hid (show (decide (0 < cl) || decide (0 < n)) = true by simpa using h1)
        have hd1 : decide (0 < cl) = true ∨ (decide (0 < cl) = false ∧ decide (0 < n) = true) := by
          by_cases h2 : 0 < cl
          · exact .inl (by simpa using h2)
          · refine .inr ⟨by simpa using h2, ?_⟩
            simpa using h1.resolve_left h2
        clear h1
        rcases hd1 with hd1 | ⟨hd1, hd2⟩
        all_goals
          go_wp2_with fail
          refine (HC.out _ D1.out).mono ?_
          rintro e w2 ⟨rfl, hb2⟩
          have D2 := Lib.hid hb2
          clear hb2
          cases s with
          | true =>
            have HE := Lib.hid (HN.out (by rw [HOK.out, HO2.out]; rfl))
            go_wp2_with fail
            go_ret
            exact ⟨ret_int (by unfold ckE; rw [HE.out]; rfl), D2.out⟩
          | false =>
            have HE := Lib.hid (HM.out (by rw [HOK.out, HO2.out]; rfl))
            go_wp2_with fail
            go_roundw
            case measure => simp [intOf]; omega
            case rel => exact ⟨k + 1, by go_num, by omega, Lib.hid ⟨D2.out, HE.out⟩⟩
      · have hd1 : decide (0 < cl) = false := by simpa using fun h => h1 (.inl h)
        have hd2 : decide ((0 : Int) < (n : Int)) = false := by
          have : ¬ 0 < n := fun h => h1 (.inr h)
          simp; omega
        have hd3 : decide (0 < n) = false := by simpa using fun h => h1 (.inr h)
        have HE := Lib.hid (HM.out (by rw [HOK.out, hd1, hd3]; rfl))
        have hn0 : n = 0 := by simpa using fun h => h1 (.inr h)
        subst hn0
        clear h1 hd2 hd3
        go_wp2_with fail
        go_roundw
        case measure => simp [intOf]; omega
        case rel => exact ⟨k + 1, by go_num, by omega, Lib.hid ⟨D1.out, HE.out⟩⟩
    · have hltI : ¬ (k : Int) < L.length := by omega
      have HA := Lib.hid (all_end (by omega) HQ.out.2)
      have D1 := Lib.hid HQ.out.1
      clear HQ hltI
      go_wp2_with fail
      obtain ⟨w1, hw1⟩ : ∃ x, x = wr := ⟨_, rfl⟩
      subst hw1
      go_loopw [29] (fun i wr => ∃ k : Nat, i = .int .i64 k ∧ k ≤ L.length ∧ Hid (Below w.heap.size w wr ∧ (L.take k).all ok2 = true)) (fun i _ => L.length - (intOf i).toNat)
      case atStart => exact ⟨0, rfl, Nat.zero_le _, D1.out, by simp⟩
      case round =>
        obtain ⟨k, rfl, hk, HQ⟩ := hrel
        by_cases hlt : k < L.length
        · have hltI : (k : Int) < L.length := by omega
          obtain ⟨b, off, B, d, rfl, hat, hints⟩ := rws_at HR.out HQ.out.1 hlt
          clear hints
          have HM := Lib.hid (fun (h : ok2 L[k] = true) => all_more hlt HQ.out.2 h)
          have HN := Lib.hid (fun (h : ok2 L[k] = false) => all_not hlt h)
          have hok : ok2 L[k] = !(decide (L[k].kd = []) && decide (2 < L[k].into.length)) := rfl
          generalize hx : L[k] = x at hat HM HN hok
          clear hx
          obtain ⟨fr, tt, nm, ct, cl, kd, into⟩ := x
          simp only at hat hok
          obtain ⟨c0, c1, c2, c3, c4, c5, c6⟩ := hat
          generalize into.length = n at *
          generalize (⟨nm.toArray⟩ : ByteArray) = nm' at *
          generalize (⟨ct.toArray⟩ : ByteArray) = ct' at *
          have HOK := Lib.hid hok
          clear hok
          have D2 := Lib.hid (HQ.out.1.alloc HQ.out.1.size (.cells #[.int .i32 fr, .int .i32 tt, .string nm', .string ct', .int .i64 cl, .string ⟨kd.toArray⟩, .slice B n d] 91))
          by_cases h1 : kd = []
          · subst h1
            by_cases h2 : 2 < n
            · have hd2 : decide ((2 : Int) < (n : Int)) = true := by simp; omega
              have HE := Lib.hid (HN.out (by
                have : decide (2 < n) = true := by simpa using h2
                rw [HOK.out, this]; rfl))
              clear h2
              go_wp2_with fail
              go_ret
              exact ⟨ret_int (by unfold ckE; rw [HA.out, HE.out]; rfl), D2.out⟩
            · have hd2 : decide ((2 : Int) < (n : Int)) = false := by simp; omega
              have HE := Lib.hid (HM.out (by
                have : decide (2 < n) = false := by simpa using h2
                rw [HOK.out, this]; rfl))
              clear h2
              go_wp2_with fail
              go_roundw
              case measure => simp [intOf]; omega
              case rel => exact ⟨k + 1, by go_num, by omega, Lib.hid ⟨D2.out, HE.out⟩⟩
          · have HE := Lib.hid (HM.out (by
              have : decide (kd = []) = false := by simpa using h1
              rw [HOK.out, this]; rfl))
            go_wp2_with fail
            go_roundw
            case measure => simp [intOf]; omega
            case rel => exact ⟨k + 1, by go_num, by omega, Lib.hid ⟨D2.out, HE.out⟩⟩
        · have hltI : ¬ (k : Int) < L.length := by omega
          have HB := Lib.hid (all_end (by omega) HQ.out.2)
          go_wp2_with fail
          go_ret
          exact ⟨ret_int (by unfold ckE; rw [HA.out, HB.out]; rfl), HQ.out.1⟩

end Go.Proofs.YtagbeioooohbgaaGreatDoor.Ba
end
section
namespace Go.Proofs.YtagbeioooohbgaaGreatDoor.Ba
open Go.RowKit Go.Maps Uc Ha
open Fi (scal scal_bd)
open Tr (law21 own_keep own_one wf32 isKey_int int_ne)

/-! tell -/
structure TeR (w wr : World) (X T P M S : Nat) (K1 : Int → Int) (K2 : List Rw) : Prop where
  bel : Below w.heap.size w wr
  lX : w.heap.size ≤ X
  lP : w.heap.size ≤ P
  lM : w.heap.size ≤ M
  lS : w.heap.size ≤ S
  blk : Tr.Bk wr X [.pointer (some ⟨T, 0, none⟩), .map (some P), .map (some M), .map (some S)] 66
  tab : Tr.Tab wr w.heap.size T 0 K1
  par : Mp wr 21 parE P K2.length fun D => ParIs wr D K2
  mad : Mp wr 67 (plainElem Tryz.prog 21) M 0 fun D => MadIs D []
  sec : Mp wr 21 unitElem S 0 fun D => SecIs D []
  nX : ¬ Tr.fpT wr T X
  nP : ¬ Tr.fpT wr T P
  nM : ¬ Tr.fpT wr T M
  nS : ¬ Tr.fpT wr T S
  pm : P ≠ M
  ps : P ≠ S
  ms : M ≠ S
theorem TeR.below {w wr w2 : World} {X T P M S : Nat} {K1 : Int → Int} {K2 : List Rw} (h : TeR w wr X T P M S K1 K2) (hb : Below wr.heap.size wr w2) : TeR w w2 X T P M S K1 K2 := by
  have hf := fun k => h.tab.fpon (fun j hj _ => hb.block j hj) k
  exact ⟨h.bel.trans (hb.mono h.bel.size), h.lX, h.lP, h.lM, h.lS, h.blk.below hb, h.tab.below hb, h.par.on (hb.block P h.par.lt) (fun _ k => k.below hb), h.mad.on (hb.block M h.mad.lt) (fun _ k => k), h.sec.on (hb.block S h.sec.lt) (fun _ k => k),
    (fun k => h.nX ((hf X).1 k)), (fun k => h.nP ((hf P).1 k)), (fun k => h.nM ((hf M).1 k)), (fun k => h.nS ((hf S).1 k)), h.pm, h.ps, h.ms⟩
theorem ints_mv {w w' : World} {F F' : Nat → Prop} (hm : Tr.Mv F F' w w') {A : Option Addr} {l : List Int} (h : Ints .i32 w A l) (hF : ∀ b o, A = some ⟨b, o, none⟩ → ¬ F b) : Ints .i32 w' A l := fun i hi => by
  obtain ⟨b, off, e, hl, hc⟩ := h i hi
  refine ⟨b, off, e, Nat.lt_of_lt_of_le hl hm.size, ?_⟩
  have hk := hm.keep b hl (hF b off e)
  rw [← hc]
  unfold World.cell?
  simp only [hk]
theorem TeR.setd {w wr w3 : World} {X T P M S : Nat} {K1 K1' : Int → Int} {K2 : List Rw} (h : TeR w wr X T P M S K1 K2) (ht : Tr.Tab w3 w.heap.size T 0 K1') (hm : Tr.Mv (Tr.fpT wr T) (Tr.fpT w3 T) wr w3)
    (hK : ∀ y ∈ K2, ∀ b o, Ints .i32 wr (some ⟨b, o, none⟩) y.into → ¬ Tr.fpT wr T b) : TeR w w3 X T P M S K1' K2 := by
  have hB : Below w.heap.size wr w3 := hm.below (fun k hk => (h.tab.fpb hk).1) h.bel.size
  have hn : ∀ k, k < wr.heap.size → ¬ Tr.fpT wr T k → ¬ Tr.fpT w3 T k := fun k hk hn h3 => by
    rcases hm.fp k h3 with h4 | h4
    · exact hn h4
    · omega
  refine ⟨h.bel.trans hB, h.lX, h.lP, h.lM, h.lS, h.blk.on (hm.keep X h.blk.lt h.nX), ht, h.par.on (hm.keep P h.par.lt h.nP) (fun D k => ⟨k.has, fun x hx => ?_, k.no⟩), h.mad.on (hm.keep M h.mad.lt h.nM) (fun _ k => k), h.sec.on (hm.keep S h.sec.lt h.nS) (fun _ k => k),
    hn X h.blk.lt h.nX, hn P h.par.lt h.nP, hn M h.mad.lt h.nM, hn S h.sec.lt h.nS, h.pm, h.ps, h.ms⟩
  obtain ⟨b, o, c, h1, h2⟩ := k.at_ x hx
  exact ⟨b, o, c, h1, ints_mv hm h2 fun b' o' e => by cases e; exact hK x hx b o h2⟩
theorem TeR.put {w w3 w4 : World} {X T P M S n : Nat} {K1 : Int → Int} {K2 : List Rw} {D : DataW Unit} {x : Rw} {b o c : Nat} (h : TeR w w3 X T P M S K1 K2) (hn : n ≤ K2.length) (ho : w3.ownsMap Tryz.prog 21 parE P n D) (hp : ParIs w3 D K2)
    (ho4 : w4.ownsMap Tryz.prog 21 parE P (n + 1) (D.put (.int .i32 x.fr) (parD x.kd (.agg [.lit (.int .i64 (b : Nat)), .lit (.int .i64 (o : Nat))]) x.into.length c))) (hg : w3.grownBy w4 (some P))
    (hx : ∀ y ∈ K2, y.fr ≠ x.fr) (hi : Ints .i32 w3 (some ⟨b, o, none⟩) x.into) (_ : x.into ≠ []) : TeR w w4 X T P M S K1 (K2 ++ [x]) := by
  have hk : ∀ k, k < w3.heap.size → k ≠ P → w4.heap[k]? = w3.heap[k]? := fun k hk hne => hg.block k hk (by simpa using hne)
  have hfk : ∀ k, k < w3.heap.size → Tr.fpT w3 T k → w4.heap[k]? = w3.heap[k]? := fun k hk1 hk2 => hk k hk1 (fun e => h.nP (by rw [← e]; exact hk2))
  have hf := fun k => h.tab.fpon hfk k
  have hic : ∀ y : Rw, ∀ A, Ints .i32 w3 A y.into → Ints .i32 w4 A y.into := fun y A hi i hl => by
    obtain ⟨b', o', e, hb, hc⟩ := hi i hl
    have hbP : b' ≠ P := fun e2 => by
      subst e2
      obtain ⟨es, clock, hb2, _⟩ := ho
      unfold World.cell? at hc
      simp only [hb2] at hc
      cases hc
    refine ⟨b', o', e, Nat.lt_of_lt_of_le hb hg.size, ?_⟩
    rw [← hc]
    unfold World.cell?
    simp only [hk b' hb hbP]
  have hB : Below w.heap.size w3 w4 := ⟨hg.os, hg.tape, hg.output, hg.size, fun k hk2 => hk k (Nat.lt_of_lt_of_le hk2 h.bel.size) (by have := h.lP; omega)⟩
  refine ⟨h.bel.trans hB, h.lX, h.lP, h.lM, h.lS, h.blk.on (hk X h.blk.lt (fun e => h.par.not_cells h.blk e)), h.tab.on hfk, ⟨n + 1, _, by rw [List.length_append]; simp; omega, ho4, hp.put ho.isMap hx (fun y _ => hic y) (hic x _ hi)⟩,
    h.mad.on (hk M h.mad.lt h.pm.symm) (fun _ k => k), h.sec.on (hk S h.sec.lt h.ps.symm) (fun _ k => k), (fun k => h.nX ((hf X).1 k)), (fun k => h.nP ((hf P).1 k)), (fun k => h.nM ((hf M).1 k)), (fun k => h.nS ((hf S).1 k)), h.pm, h.ps, h.ms⟩
theorem cell_of_blk {w : World} {b o : Nat} {cs : List Value} {t : TypeId} {fr : Nat × Nat} {v : Value} (hb : w.heap[b]? = some (.cells cs.toArray t fr)) (hc : w.cell? ⟨b, o, none⟩ = some v) : cs[o]? = some v := by
  unfold World.cell? at hc
  simp only [hb] at hc
  simpa using hc
theorem fp_i32 {w : World} {base T : Nat} {nn : Int} {g : Int → Int} (h : Tr.Tab w base T nn g) {b o : Nat} {x : Int} (hc : w.cell? ⟨b, o, none⟩ = some (.int .i32 x)) : ¬ Tr.fpT w T b := fun hf => by
  obtain ⟨M, D, bm, h1, hz, h2⟩ := h
  rcases (Tr.fpT_iff h1 h2 b).1 hf with rfl | rfl | ⟨i, hi, e⟩
  · have hq := cell_of_blk h1.blk.blk hc
    match o, hq with
    | 0, hq => simp at hq
    | 1, hq => simp at hq
    | n + 2, hq => simp at hq
  · obtain ⟨es, clock, hb2, _⟩ := h2
    unfold World.cell? at hc
    simp only [hb2] at hc
    cases hc
  · have hq := cell_of_blk (h1.at_ i b hi e).2.blk hc
    clear hc
    by_cases ho : o < 512
    · obtain ⟨j, t, ht, rfl⟩ : ∃ j t, t < 2 ∧ o = j * 2 + t := ⟨o / 2, o % 2, by omega, by omega⟩
      have h9 := (Tr.blkC_at (Tr.celF g nn i) j t (by omega) ht).symm.trans hq
      generalize Tr.celF g nn i j = p at h9
      match t, ht, h9 with
      | 0, _, h9 => cases h9
      | 1, _, h9 => cases h9
    · rw [List.getElem?_eq_none (by rw [Tr.blkC_len]; omega)] at hq
      cases hq
theorem ints_fp {w : World} {base T : Nat} {nn : Int} {g : Int → Int} (h : Tr.Tab w base T nn g) {b o : Nat} {l : List Int} (hne : l ≠ []) (hi : Ints .i32 w (some ⟨b, o, none⟩) l) : ¬ Tr.fpT w T b := by
  obtain ⟨b', o', e, _, hc⟩ := hi 0 (List.length_pos_iff.2 hne)
  cases e
  exact fp_i32 h hc
theorem prR_more {L : List Rw} {k : Nat} (hk : k < L.length) : prR (L.take (k + 1)) = if L[k].into ≠ [] then prR (L.take k) ++ [L[k]] else prR (L.take k) := by
  rw [List.take_succ_eq_append_getElem hk]
  unfold prR
  rw [List.filter_append]
  by_cases h : L[k].into = []
  · simp [h]
  · simp [h]
theorem prR_new {L : List Rw} (hF : Frm L) {k : Nat} (hk : k < L.length) : ∀ y ∈ prR (L.take k), y.fr ≠ L[k].fr := fun y hy e => by
  obtain ⟨j, hj, rfl⟩ := List.mem_iff_getElem.1 (mem_prR.1 hy).1
  rw [List.length_take] at hj
  rw [List.getElem_take] at e
  have h1 := List.pairwise_iff_getElem.1 hF.pw j k (by omega) hk (by omega)
  have h2 := hF.ends L[j] (List.getElem_mem _)
  omega
theorem cls_nil : clsB [] = fun _ => 0 := by funext r; rfl
theorem te_start {w w1 : World} {T : Nat} (ht : Tr.Tab w1 w.heap.size T 0 (fun _ => 0)) (hb : Below w.heap.size w w1) :
    TeR w ((((w1.alloc (.map #[] 0)).alloc (.map #[] 0)).alloc (.map #[] 0)).alloc (.cells #[.pointer (some ⟨T, 0, none⟩), .map (some w1.heap.size), .map (some (w1.heap.size + 1)), .map (some (w1.heap.size + 1 + 1))] 66))
      (w1.heap.size + 1 + 1 + 1) T w1.heap.size (w1.heap.size + 1) (w1.heap.size + 1 + 1) (fun _ => 0) [] := by
  obtain ⟨a, ha⟩ : ∃ a, a = w1.alloc (.map #[] 0) := ⟨_, rfl⟩
  obtain ⟨b, hb2⟩ : ∃ b, b = a.alloc (.map #[] 0) := ⟨_, rfl⟩
  obtain ⟨c, hc⟩ : ∃ c, c = b.alloc (.map #[] 0) := ⟨_, rfl⟩
  obtain ⟨d, hd⟩ : ∃ d, d = c.alloc (.cells #[.pointer (some ⟨T, 0, none⟩), .map (some w1.heap.size), .map (some (w1.heap.size + 1)), .map (some (w1.heap.size + 1 + 1))] 66) := ⟨_, rfl⟩
  rw [← ha, ← hb2, ← hc, ← hd]
  have za : a.heap.size = w1.heap.size + 1 := by rw [ha]; simp
  have zb : b.heap.size = w1.heap.size + 1 + 1 := by rw [hb2]; simp [za]
  have zc : c.heap.size = w1.heap.size + 1 + 1 + 1 := by rw [hc]; simp [zb]
  have b1 : Below w1.heap.size w1 a := by rw [ha]; exact (Below.refl _ _).alloc (Nat.le_refl _) _
  have b2 : Below a.heap.size a b := by rw [hb2]; exact (Below.refl _ _).alloc (Nat.le_refl _) _
  have b3 : Below b.heap.size b c := by rw [hc]; exact (Below.refl _ _).alloc (Nat.le_refl _) _
  have b4 : Below c.heap.size c d := by rw [hd]; exact (Below.refl _ _).alloc (Nat.le_refl _) _
  have c34 : Below b.heap.size b d := b3.trans (b4.mono b3.size)
  have c24 : Below a.heap.size a d := b2.trans (c34.mono b2.size)
  have c14 : Below w1.heap.size w1 d := b1.trans (c24.mono b1.size)
  have hz := hb.size
  have hf : ∀ k, w1.heap.size ≤ k → ¬ Tr.fpT d T k := fun k hk h => by
    have h2 := (ht.fpon (fun j hj _ => c14.block j hj) k).1 h
    have := (ht.fpb h2).2
    omega
  refine ⟨hb.trans (c14.mono hb.size), by omega, by omega, by omega, by omega, ⟨by rw [hd]; have := heap_alloc_new c (.cells #[.pointer (some ⟨T, 0, none⟩), .map (some w1.heap.size), .map (some (w1.heap.size + 1)), .map (some (w1.heap.size + 1 + 1))] 66); rw [zc] at this; exact this⟩,
    ht.below c14, ⟨0, .map [], Nat.le_refl _, own_at (by rw [ha]; exact World.ownsMap_made w1 _ _ _) (c24.block _ (by omega)), ParIs.nil _⟩,
    ⟨0, .map [], Nat.le_refl _, own_at (by rw [hb2, ← za]; exact World.ownsMap_made a _ _ _) (c34.block _ (by omega)), MadIs.nil⟩,
    ⟨0, .map [], Nat.le_refl _, own_at (by rw [hc, ← zb]; exact World.ownsMap_made b _ _ _) (b4.block _ (by omega)), SecIs.nil⟩,
    hf _ (by omega), hf _ (by omega), hf _ (by omega), hf _ (by omega), by omega, by omega, by omega⟩

end Go.Proofs.YtagbeioooohbgaaGreatDoor.Ba
end
section
namespace Go.Proofs.YtagbeioooohbgaaGreatDoor.Ba
open Go.RowKit Go.Maps Uc Ha
open Fi (scal scal_bd)
open Tr (law21 own_keep own_one wf32 isKey_int int_ne)

def TeP (w : World) (L : List Rw) (e : Ending) (w' : World) : Prop := ∃ X T P M S, e = .returned (.pointer (some ⟨X, 0, none⟩)) ∧ TeR w w' X T P M S (clsB L) (prR L)
set_option maxRecDepth 100000 in
set_option maxHeartbeats 8000000 in
theorem tell_any (A : Option Addr) (c : Nat) (L : List Rw) (w : World) (hR : Rws w A L) (hF : Frm L) (hn : L.length ≤ 4096) :
    Calls Tryz.prog 25 #[.slice A L.length c] w (TeP w L) := by
  have hmm := @run_makeMap Tryz.prog
  have HR := Lib.hid hR
  have HF := Lib.hid hF
  clear hR hF
  go_enter Tryz.func25, Tryz.ntmps25
  go_wp2_with fail
  refine (Tr.newT_any _ 0).mono ?_
  rintro e w1 ⟨T, rfl, ht, hb⟩
  have S0 := Lib.hid (te_start ht hb)
  clear ht hb
  go_wp2_with fail
  obtain ⟨P, hP⟩ : ∃ P, P = w1.heap.size := ⟨_, rfl⟩
  obtain ⟨M, hM⟩ : ∃ M, M = P + 1 := ⟨_, rfl⟩
  obtain ⟨S, hS⟩ : ∃ S, S = M + 1 := ⟨_, rfl⟩
  obtain ⟨X, hX⟩ : ∃ X, X = S + 1 := ⟨_, rfl⟩
  rw [← hP, ← hM, ← hS, ← hX] at S0
  rw [← hP, ← hM, ← hS, ← hX]
  obtain ⟨w2, hw2⟩ : ∃ w2, w2 = (((w1.alloc (.map #[] 0)).alloc (.map #[] 0)).alloc (.map #[] 0)).alloc (.cells #[.pointer (some ⟨T, 0, none⟩), .map (some P), .map (some M), .map (some S)] 66) := ⟨_, rfl⟩
  rw [← hw2] at S0
  rw [← hw2]
  clear hw2 hP hM hS hX hmm
  go_loopw [14] (fun i wr => ∃ k : Nat, i = .int .i64 k ∧ k ≤ L.length ∧ Hid (TeR w wr X T P M S (clsB (L.take k)) (prR (L.take k)))) (fun i _ => L.length - (intOf i).toNat)
  case atStart => exact ⟨0, rfl, Nat.zero_le _, S0⟩
  case round =>
    obtain ⟨k, rfl, hk, HQ⟩ := hrel
    by_cases hlt : k < L.length
    · have hltI : (k : Int) < L.length := by omega
      obtain ⟨b, off, B, d, rfl, hat, hints⟩ := rws_at HR.out HQ.out.bel hlt
      have hm := List.getElem_mem hlt
      have HCl := Lib.hid (cls_more HF.out hlt)
      have HNew := Lib.hid (prR_new HF.out hlt)
      have HMore := Lib.hid (prR_more hlt)
      have hcl := (HF.out.fin _ hm)
      have hcl0 := hcl.cl0
      have hcl1 := hcl.cl1
      have HB := Lib.hid (HF.out.bd hm)
      clear hcl hm
      generalize hx : L[k] = x at hat hints HCl HNew HMore hcl0 hcl1 HB
      clear hx
      have hHI := Lib.hid hints
      have HAT := Lib.hid hat
      obtain ⟨c0, c1, c2, c3, c4, c5, c6⟩ := hat
      clear hints
      have hcv : IntKind.u8.wrap x.cl = x.cl := by unfold IntKind.wrap; simp [IntKind.bits, IntKind.signed]; omega
      go_upto_region 5 with fail
      obtain ⟨w3, hw3⟩ : ∃ w3, w3 = wr.alloc (.cells #[.int .i32 x.fr, .int .i32 x.tt, .string ⟨x.nm.toArray⟩, .string ⟨x.ct.toArray⟩, .int .i64 x.cl, .string ⟨x.kd.toArray⟩, .slice B x.into.length d] 91) := ⟨_, rfl⟩
      rw [← hw3]
      have hb3 : Below wr.heap.size wr w3 := by rw [hw3]; exact (Below.refl _ wr).alloc (Nat.le_refl _) _
      have RK := Lib.hid (show Tr.Bk w3 wr.heap.size [.int .i32 x.fr, .int .i32 x.tt, .string ⟨x.nm.toArray⟩, .string ⟨x.ct.toArray⟩, .int .i64 x.cl, .string ⟨x.kd.toArray⟩, .slice B x.into.length d] 91 by rw [hw3]; exact ⟨heap_alloc_new wr _⟩)
      have S3 := Lib.hid (HQ.out.below hb3)
      have I3 := Lib.hid (hHI.out.below hb3)
      have HI4 := Lib.hid (show Ints .i32 w3.drew B x.into from fun i hi => I3.out i hi)
      have S4 := Lib.hid (show TeR w w3.drew X T P M S (clsB (L.take k)) (prR (L.take k)) from S3.out.below (Below.refl _ _).drew)
      have RK4 := Lib.hid (RK.out.drew 1)
      change Hid (Tr.Bk w3.drew _ _ _) at RK4
      have RF := Lib.hid (show ¬ Tr.fpT w3 T wr.heap.size from fun h => by
        have h2 := (HQ.out.tab.fpb ((HQ.out.tab.fpon (fun j hj _ => hb3.block j hj) _).1 h)).2
        omega)
      clear hw3 hb3
      have x0 := S3.out.blk.c (i := 0) rfl
      have r0 := RK.out.c (i := 0) rfl
      have r1 := RK.out.c (i := 1) rfl
      have r4 := RK.out.c (i := 4) rfl
      clear c0 c1 c2 c3 c4 c5 c6
      go_still_tail 11, (by kernel_rfl)
      change wpList _ _ _ _ _ w3.drew
      have RF4 := Lib.hid (show ¬ Tr.fpT w3.drew T wr.heap.size from fun h => RF.out ((S3.out.tab.fpon (w' := w3.drew) (fun j hj _ => rfl) _).1 h))
      generalize w3.drew = w4 at *
      clear x0 r0 r1 r4 S3 RK I3 RF
      have HK2 := Lib.hid (show ∀ y ∈ prR (L.take k), ∀ b o, Ints .i32 w4 (some ⟨b, o, none⟩) y.into → ¬ Tr.fpT w4 T b from fun y hy b o hi => ints_fp S4.out.tab (mem_prR.1 hy).2 hi)
      by_cases hp : x.into = []
      · have hz : x.into.length = 0 := by rw [hp]; rfl
        have HM2 := Lib.hid (show prR (L.take (k + 1)) = prR (L.take k) by rw [HMore.out, if_neg (by simpa using hp)])
        rw [hz] at RK4
        clear hp hz HMore
        go_wp2_with (go_at_call 55; refine (Tr.set_any w4 w.heap.size T 0 _ x.fr x.tt x.cl S4.out.tab).mono ?_; rintro e w5 ⟨rfl, ht5, hm5⟩; have RK5 := Lib.hid (RK4.out.on (hm5.keep _ RK4.out.lt RF4.out)); have S5 := Lib.hid (S4.out.setd ht5 hm5 HK2.out); have q6 := RK5.out.c (i := 6) rfl; clear ht5 hm5)
        go_roundw
        case measure => simp [intOf]; omega
        case rel => exact ⟨k + 1, by go_num, by omega, Lib.hid (by rw [HM2.out, ← HCl.out]; exact S5.out)⟩
      · have hd : decide (0 < x.into.length) = true := by simpa using List.length_pos_iff.2 hp
        have HM2 := Lib.hid (show prR (L.take (k + 1)) = prR (L.take k) ++ [x] by rw [HMore.out, if_pos hp])
        have HP := Lib.hid hp
        obtain ⟨bb, o, rfl, hcl⟩ := HI4.out 0 (List.length_pos_iff.2 hp)
        clear hp HMore hcl
        go_upto_region 7 with (go_at_call 55; refine (Tr.set_any w4 w.heap.size T 0 _ x.fr x.tt x.cl S4.out.tab).mono ?_; rintro e w5 ⟨rfl, ht5, hm5⟩; have RK5 := Lib.hid (RK4.out.on (hm5.keep _ RK4.out.lt RF4.out)); have S5 := Lib.hid (S4.out.setd ht5 hm5 HK2.out); have I5 := Lib.hid (ints_mv hm5 HI4.out fun b' o' e => by cases e; exact ints_fp S4.out.tab HP.out HI4.out); have q6 := RK5.out.c (i := 6) rfl; clear ht5 hm5)
        have y1 := S5.out.blk.c (i := 1) rfl
        have r0 := RK5.out.c (i := 0) rfl
        have r5 := RK5.out.c (i := 5) rfl
        go_still_tail 11, (by kernel_rfl)
        change wpList _ _ _ _ _ w5.drew
        have S6 := Lib.hid (show TeR w w5.drew X T P M S (Tr.updS (clsB (L.take k)) (x.fr, x.tt, x.cl)) (prR (L.take k)) from S5.out.below (Below.refl _ _).drew)
        have I6 := Lib.hid (show Ints .i32 w5.drew (some ⟨bb, o, none⟩) x.into from fun i hi => I5.out i hi)
        generalize w5.drew = w6 at *
        clear y1 r0 r5 q6 S5 RK5 I5
        obtain ⟨n, D, hn, ho, hpar⟩ := S6.out.par
        have HO := Lib.hid ho
        have HPA := Lib.hid hpar
        have HNN := Lib.hid hn
        have hlen : (prR (L.take k)).length ≤ 4096 := by
          have h1 := List.length_filter_le (fun x : Rw => decide (x.into ≠ [])) (L.take k)
          rw [List.length_take] at h1
          unfold prR
          omega
        have HKY := Lib.hid (keyR (wfR_of (r := x.fr) (by have := HB.out; omega) (by have := HB.out; omega)))
        have hn3 : n < maxLen := by unfold maxLen; omega
        have HN3 := Lib.hid hn3
        clear ho hpar hlen hn3
        go_wp2_with (at_mapUpdate; refine wpList_mapUpdate_own _ rfl _ _ _ 62 rfl 21 75 law21 Tryz.underlying62 parE P n D rfl HO.out HN3.out _ _ _ rfl rfl HKY.out (parD x.kd (.agg [.lit (.int .i64 (bb : Nat)), .lit (.int .i64 (o : Nat))]) x.into.length d) [] (parE_V rfl) ?_; intro w7 hown7 hgrow7; have S7 := Lib.hid (S6.out.put HNN.out HO.out HPA.out hown7 hgrow7 HNew.out I6.out HP.out); clear hown7 hgrow7)
        go_roundw
        case measure => simp [intOf]; omega
        case rel => exact ⟨k + 1, by go_num, by omega, Lib.hid (by rw [HM2.out, ← HCl.out]; exact S7.out)⟩
    · have hltI : ¬ (k : Int) < L.length := by omega
      have HE : Hid (L.take k = L) := Lib.hid (List.take_of_length_le (by omega))
      go_wp2_with fail
      go_ret
      exact ⟨X, T, P, M, S, rfl, by have := HQ.out; rw [HE.out] at this; exact this⟩

end Go.Proofs.YtagbeioooohbgaaGreatDoor.Ba
end
section
namespace Go.Proofs.YtagbeioooohbgaaGreatDoor.Ba
open Go.RowKit Go.Maps Uc Ha
open Fi (scal scal_bd)
open Tr (law21 own_keep own_one wf32 isKey_int int_ne)

/-! Class, parts, Pair, Second, makes -/
theorem gE_cls {L : List Rw} (hF : Frm L) (r : Int) : Tr.gE (clsB L) 0 r = clsB L r := by
  unfold Tr.gE
  split
  · rfl
  · rename_i h; exact (cls_out hF h).symm
set_option maxRecDepth 100000 in
set_option maxHeartbeats 4000000 in
theorem class_any {L mk : List Rw} (v : Value) (r : Int) (w : World) (hF : Frm L) (hB : BV w v L mk) :
    Calls Tryz.prog 13 #[v, .int .i32 r] w fun e w' => e = .returned (.int .i64 (clsB L r)) ∧ w = w' := by
  rcases hB with ⟨rfl, rfl, rfl⟩ | ⟨base, X, T, P, M, S, rfl, hB⟩
  · go_enter Tryz.func13, Tryz.ntmps13
    go_wp2_with fail
    go_ret
    exact ⟨rfl, rfl⟩
  · have hG := Tr.get_any w base T 0 (clsB L) hB.tab r
    rw [gE_cls hF r] at hG
    obtain ⟨h0, h1⟩ := cls_bd hF r
    have c0 := hB.blk.c (i := 0) rfl
    generalize clsB L r = c at *
    have HG := Lib.hid hG
    clear hG hB hF
    go_enter Tryz.func13, Tryz.ntmps13
    go_wp2_with (go_at_call 31; refine HG.out.mono ?_; rintro e w' ⟨rfl, rfl⟩)
    go_ret
    exact ⟨rfl, rfl⟩
/-- What parts answers: the kind, and a row for reading. -/
def PrtP (w : World) (d : List UInt8 × List Int) (e : Ending) (w' : World) : Prop := ∃ A c, e = .returned (.tuple #[.string ⟨d.1.toArray⟩, .slice A d.2.length c]) ∧ Ints .i32 w' A d.2 ∧ Below w.heap.size w w'
theorem PrtP.of {w w1 : World} {d : List UInt8 × List Int} {e : Ending} {w' : World} (h : PrtP w1 d e w') (hb : Below w.heap.size w w1) : PrtP w d e w' := by
  obtain ⟨A, c, h1, h2, h3⟩ := h
  exact ⟨A, c, h1, h2, hb.trans (h3.mono hb.size)⟩
theorem split_c {r a b : Int} {f : Bool} (h : splE r = (a, b, f)) (w : World) (hT : Tab w) : Calls Tryz.prog 61 #[.int .i32 r] w fun e w' => e = .returned (.tuple #[.int .i32 a, .int .i32 b, .bool f]) ∧ Below w.heap.size w w' := by
  have := split_any r w hT
  rw [h] at this
  exact this
theorem join_c {a b s : Int} {f : Bool} (h : joinE a b = (s, f)) (w : World) (hT : Tab w) : Calls Tryz.prog 28 #[.int .i32 a, .int .i32 b] w fun e w' => e = .returned (.tuple #[.int .i32 s, .bool f]) ∧ Below w.heap.size w w' := by
  have := join_any a b w hT
  rw [h] at this
  exact this
theorem ints_two (a b : Int) (t : TypeId) (w : World) : Ints .i32 (w.alloc (.cells #[.int .i32 a, .int .i32 b] t)) (some ⟨w.heap.size, 0, none⟩) [a, b] := fun i hi => by
  refine ⟨w.heap.size, 0, rfl, by simp, ?_⟩
  have := World.news_of_block (w := w.alloc (.cells #[.int .i32 a, .int .i32 b] t)) (cs := #[.int .i32 a, .int .i32 b]) (t := t) (fr := (0, 0)) (heap_alloc_new w _) i (.int .i32 ([a, b].getD i 0)) (by
    match i, hi with
    | 0, _ => rfl
    | 1, _ => rfl)
  have e : (⟨w.heap.size, 0, none⟩ : Addr).add i = ⟨w.heap.size, 0 + i, none⟩ := by unfold Addr.add; split <;> simp_all
  rw [e] at this
  exact this
theorem zeroPar (w : World) : (zeroValue 75).run Tryz.prog w = .ok (parV [] none 0 0) w := by kernel_rfl
/-- 'm[k]' at the map of partings: the value written out. -/
theorem lookup_par {w : World} {P n : Nat} {D : DataW Unit} (ho : w.ownsMap Tryz.prog 21 parE P n D) {r : Int} (hr : wfR r) {kd : List UInt8} {A : Option Addr} {m c : Nat} {a : DataW Unit} (ha : adrD A = some a) (hat : D.atKey (.int .i32 r) zd = parD kd a m c) :
    (Instr.lookup 62 (.map (some P)) (.int .i32 r) false).run Tryz.prog w = .ok (parV kd A m c) w := by
  obtain ⟨v, ps, hrun, hv⟩ := ho.lookup law21 Tryz.underlying62 (zeroPar w) zd_E (keyR hr)
  rw [hat] at hv
  rw [hrun, parE_inv ha hv]
theorem lookup_parts {w : World} {base X T P M S : Nat} {L mk : List Rw} (hB : Bs w base X T P M S L mk) (_ : Frm L) {r : Int} (hr : wfR r) :
    ∃ kd into A c, (Instr.lookup 62 (.map (some P)) (.int .i32 r) false).run Tryz.prog w = .ok (parV kd A into.length c) w ∧ Ints .i32 w A into ∧ (match parA L r with | some x => kd = x.kd ∧ into = x.into | none => kd = [] ∧ into = []) := by
  obtain ⟨n, D, _, ho, hp⟩ := hB.par
  cases e : parA L r with
  | none =>
    refine ⟨[], [], none, 0, lookup_par (A := none) ho hr rfl (hp.no r fun x hx => ?_), (fun i hi => by cases hi), rfl, rfl⟩
    exact parA_none e (mem_prR.1 hx).1 (mem_prR.1 hx).2
  | some x =>
    obtain ⟨h1, h2, rfl⟩ := parA_some e
    obtain ⟨b, o, c, h3, h4⟩ := hp.at_ x (mem_prR.2 ⟨h1, h2⟩)
    exact ⟨x.kd, x.into, some ⟨b, o, none⟩, c, lookup_par (A := some ⟨b, o, none⟩) ho hr rfl h3, h4, rfl, rfl⟩
theorem dec_syl {L : List Rw} {r a b : Int} (h : splE r = (a, b, true)) : decB L r = ([], [a, b]) := by
  have hs : isS r = true := by rw [← split_is, h]
  rw [syl_dec hs, h]
set_option maxRecDepth 100000 in
set_option maxHeartbeats 4000000 in
theorem parts_any {L mk : List Rw} (v : Value) (r : Int) (w : World) (hF : Frm L) (hB : BV w v L mk) (hT : Tab w) (hr : wfR r) :
    Calls Tryz.prog 29 #[v, .int .i32 r] w (PrtP w (decB L r)) := by
  cases hs : isS r with
  | true =>
    obtain ⟨a, b, hx⟩ : ∃ a b, splE r = (a, b, true) := ⟨(splE r).1, (splE r).2.1, by rw [← hs, ← split_is]⟩
    rw [dec_syl hx]
    have HS := Lib.hid (split_c hx w hT)
    have HV : Hid (BV w v L mk) := Lib.hid hB
    clear hx hT hB
    go_enter Tryz.func29, Tryz.ntmps29
    go_wp2_with fail
    refine HS.out.mono ?_
    rintro e w1 ⟨rfl, hb⟩
    have D1 := Lib.hid hb
    clear hb
    go_wp2_with fail
    go_ret2
    exact ⟨_, _, rfl, ints_two a b _ _, D1.out.alloc D1.out.size _⟩
  | false =>
    have hx := split_no hs
    have HS := Lib.hid (split_c hx w hT)
    clear hx hT
    rcases hB with ⟨rfl, rfl, rfl⟩ | ⟨base, X, T, P, M, S, rfl, hB⟩
    · have HD : Hid (decB [] r = ([], [])) := Lib.hid (dec_none frm_nil hs rfl)
      go_enter Tryz.func29, Tryz.ntmps29
      go_wp2_with fail
      refine HS.out.mono ?_
      rintro e w1 ⟨rfl, hb⟩
      have D1 := Lib.hid hb
      clear hb
      go_wp2_with fail
      go_ret2
      rw [HD.out]
      exact ⟨none, 0, rfl, (fun i hi => by cases hi), D1.out⟩
    · have HB := Lib.hid hB
      have HD := Lib.hid (dec_par hF hs)
      have HFF := Lib.hid hF
      clear hB hF
      go_enter Tryz.func29, Tryz.ntmps29
      go_wp2_with fail
      refine HS.out.mono ?_
      rintro e w1 ⟨rfl, hb⟩
      have D1 := Lib.hid hb
      have hB1 := HB.out.below hb
      obtain ⟨kd, into, A, c, hrun, hi, hm⟩ := lookup_parts hB1 HFF.out hr
      have c1 := hB1.blk.c (i := 1) rfl
      have HI := Lib.hid hi
      have HD2 : Hid (decB L r = (kd, into)) := Lib.hid (by
        rw [HD.out]
        cases e : parA L r with
        | none => rw [e] at hm; rw [hm.1, hm.2]
        | some x => rw [e] at hm; rw [hm.1, hm.2])
      unfold parV at hrun
      clear hb hB1 hi hm HD
      go_wp2_with fail
      go_quiet (fail)
      go_wp2_with fail
      go_ret2
      rw [HD2.out]
      have D2 := D1.out.alloc D1.out.size (.cells #[.string ⟨kd.toArray⟩, .slice A into.length c] 75)
      exact ⟨A, c, rfl, HI.out.below (bel_drewN ((Below.refl _ w1).alloc (Nat.le_refl _) _) _), bel_drewN D2 _⟩

/-! slices.Clone -/
def CloP (w : World) (l : List Int) (e : Ending) (w' : World) : Prop := ∃ A c, e = .returned (.slice A l.length c) ∧ Ints .i32 w' A l ∧ Below w.heap.size w w'
theorem eqnil_some (a : Addr) (n c : Nat) (W : World) : (binOp .eql 32 (.slice (some a) n c) (.slice none 0 0)).run Tryz.prog W = .ok (.bool false) W := by kernel_rfl
theorem eqnil_none (n c : Nat) (W : World) : (binOp .eql 32 (.slice none n c) (.slice none 0 0)).run Tryz.prog W = .ok (.bool true) W := by kernel_rfl
theorem own_none (w : World) (t : TypeId) : (w.alloc (.cells #[] t)).ownsRow w.heap.size t 1 (.slice (some ⟨w.heap.size, 0, none⟩) 0 0) 0 [] :=
  ⟨rfl, .inr ⟨w.heap.size, 0, #[], rfl, Nat.le_refl _, heap_alloc_new w _, Nat.le_refl _, Nat.zero_le _, rfl, rfl⟩⟩
theorem ints_news {w : World} {a : Addr} {l : List Int} (h : Ints .i32 w (some a) l) : ∀ (j : Nat) u, (i32s l)[j]? = some u → w.cell? (a.add j) = some u := fun j u hu => by
  have hj : j < l.length := by
    by_cases e : j < l.length
    · exact e
    · rw [List.getElem?_eq_none (by simp [i32s]; omega)] at hu; cases hu
  obtain ⟨b, o, e, _, hc⟩ := h j hj
  cases e
  have e2 : (⟨b, o, none⟩ : Addr).add j = ⟨b, o + j, none⟩ := by unfold Addr.add; split <;> simp_all
  rw [e2, hc]
  simp [i32s, List.getElem?_eq_getElem hj] at hu ⊢
  exact hu
set_option maxRecDepth 100000 in
set_option maxHeartbeats 4000000 in
theorem clone_any (A : Option Addr) (c : Nat) (l : List Int) (w : World) (hi : Ints .i32 w A l) (hz : l.length ≤ 10000) :
    Calls Tryz.prog 30 #[.slice A l.length c] w (CloP w l) := by
  cases A with
  | none =>
    have hn : l = [] := by
      cases l with
      | nil => rfl
      | cons a l =>
        obtain ⟨b, o, e, _⟩ := hi 0 (by simp)
        cases e
    subst hn
    have hq := eqnil_none 0 c
    go_enter Tryz.func30, Tryz.ntmps30
    go_wp2_with fail
    go_ret
    exact ⟨none, 0, rfl, (fun i hi => by cases hi), Below.refl _ _⟩
  | some a =>
    obtain ⟨i0, hi0, hz0, hz1, hz2⟩ := info_parts r_info
    have I0 := Lib.hid hi0
    have I1 := Lib.hid hz0
    have I2 := Lib.hid hz1
    have I3 := Lib.hid hz2
    have HI := Lib.hid hi
    have HL := Lib.hid (show l.length = (i32s l).length by simp [i32s])
    have HW := Lib.hid ((Below.refl w.heap.size w).alloc (Nat.le_refl _) (.cells #[] 21))
    have HO := Lib.hid (own_none w 21)
    have HN := Lib.hid (ints_news (hi.below HW.out))
    have HL := Lib.hid (show (i32s l).length = l.length * 1 by simp [i32s])
    have H1 := Lib.hid (show ∀ u ∈ i32s l, u.oneCell' = true from fun u hu => by
      obtain ⟨x, _, rfl⟩ := List.mem_map.1 hu
      rfl)
    clear hi hi0 hz0 hz1 hz2 HI
    have hq := eqnil_some a l.length c
    have hq0 := eqnil_some a 0 c
    go_enter Tryz.func30, Tryz.ntmps30
    go_wp2_with (at_builtin; refine wpList_append_own_at _ rfl (.tmp 5) (.tmp 6) _ rfl w.heap.size 21 i0 _ 1 4 Tryz.underlying32 I0.out I1.out I2.out I3.out rfl (by omega) (.slice (some ⟨w.heap.size, 0, none⟩) 0 0) 0 [] rfl HO.out a l.length c (i32s l) rfl HL.out HN.out H1.out (by unfold maxLen; omega) (by omega) (by simp) ?_; intro v2 w3 ho3 hg3 hn3 ha3; have O3 := Lib.hid ho3; have G3 := Lib.hid hg3; clear ho3 hg3 hn3 ha3)
    go_ret
    have h3 := O3.out
    rw [Nat.zero_add, List.nil_append] at h3
    obtain ⟨A, c2, rfl, hi2⟩ := own_ints h3
    exact ⟨A, c2, rfl, hi2, HW.out.grown G3.out (by simp) (fun k hk => by cases hk; exact Nat.le_refl _)⟩

end Go.Proofs.YtagbeioooohbgaaGreatDoor.Ba
end
section
namespace Go.Proofs.YtagbeioooohbgaaGreatDoor.Ba
open Go.RowKit Go.Maps Uc Ha
open Fi (scal scal_bd)
open Tr (law21 own_keep own_one wf32 isKey_int int_ne)

/-! Decomp, Pair, Second, makes -/
theorem dec_len {L : List Rw} (hF : Frm L) (r : Int) : (decB L r).2.length ≤ 18 := by
  cases hs : isS r with
  | true => rw [syl_dec hs]; simp
  | false =>
    cases e : parA L r with
    | none => rw [dec_none hF hs e]; simp
    | some x => rw [dec_some hF hs e]; exact (hF.fin x (parA_some e).1).into
set_option maxRecDepth 100000 in
set_option maxHeartbeats 4000000 in
theorem decomp_any {L mk : List Rw} (v : Value) (r : Int) (w : World) (hF : Frm L) (hB : BV w v L mk) (hT : Tab w) (hr : wfR r) :
    Calls Tryz.prog 11 #[v, .int .i32 r] w (PrtP w (decB L r)) := by
  have HP := Lib.hid (parts_any v r w hF hB hT hr)
  have hl := dec_len hF r
  clear hF hB hT hr
  generalize decB L r = d at *
  obtain ⟨k, into⟩ := d
  go_enter Tryz.func11, Tryz.ntmps11
  go_wp2_with fail
  refine HP.out.mono ?_
  rintro e w1 ⟨A, c, rfl, hi, hb⟩
  have D1 := Lib.hid hb
  have HC := Lib.hid (clone_any A c into w1 hi (Nat.le_trans hl (by omega)))
  clear hb hi
  go_wp2_with fail
  refine HC.out.mono ?_
  rintro e w2 ⟨B, d, rfl, hi, hb⟩
  have D2 := Lib.hid (D1.out.trans (hb.mono D1.out.size))
  have HI := Lib.hid hi
  clear hb hi
  go_wp2_with fail
  go_ret2
  exact ⟨B, d, rfl, HI.out, D2.out⟩
theorem zero21 (w : World) : (zeroValue 21).run Tryz.prog w = .ok (.int .i32 0) w := by kernel_rfl
theorem zeroU (w : World) : (zeroValue 70).run Tryz.prog w = .ok (.agg #[]) w := by kernel_rfl
theorem lookup_made {w : World} {base X T P M S : Nat} {L mk : List Rw} (hB : Bs w base X T P M S L mk) {a b : Int} (ha : wfR a) (hb : wfR b) :
    (Instr.lookup 63 (.map (some M)) (.agg #[.int .i32 a, .int .i32 b]) true).run Tryz.prog w = .ok (.tuple #[.int .i32 ((lkM mk a b).getD 0), .bool (lkM mk a b).isSome]) w := by
  obtain ⟨n, D, _, ho, hp⟩ := hB.mad
  obtain ⟨v, ps, hrun, hv⟩ := ho.look_ok law2 Tryz.underlying63 (zero21 w) (zd := .lit (.int .i32 0)) (plainElem_int Tryz.underlying21 (by decide)) (key2 ha hb)
  rw [hp.at_ a b ha hb] at hv
  obtain ⟨c, rfl, hc, _⟩ := plainElem_int_inv Tryz.underlying21 hv
  simp only [Prod.mk.injEq, DataW.lit.injEq, Lit.int.injEq, true_and] at hc
  rw [hrun, hp.has a b ha hb, hc.1]
theorem lookup_sec {w : World} {base X T P M S : Nat} {L mk : List Rw} (hB : Bs w base X T P M S L mk) {r : Int} (hr : wfR r) :
    (Instr.lookup 64 (.map (some S)) (.int .i32 r) true).run Tryz.prog w = .ok (.tuple #[.agg #[], .bool (mk.any fun z => decide (z.into.getD 1 0 = r))]) w := by
  obtain ⟨n, D, _, ho, hp⟩ := hB.sec
  obtain ⟨v, ps, hrun, hv⟩ := ho.look_ok law21 Tryz.underlying64 (zeroU w) unitElem_mk (keyR hr)
  obtain ⟨rfl, _⟩ := unitElem_inv hv
  rw [hrun, hp r]
def lkV (x : Int × Bool) : Value := .tuple #[.int .i32 x.1, .bool x.2]
theorem pairP_yes {mk : List Rw} {a b s : Int} (h : joinE a b = (s, true)) : pairP mk a b = (s, true) := by
  unfold pairP
  rw [if_pos (by rw [h]), h]
theorem pairP_no {mk : List Rw} {a b : Int} (h : joinE a b = (0, false)) : pairP mk a b = ((lkM mk a b).getD 0, (lkM mk a b).isSome) := by
  unfold pairP
  rw [if_neg (by rw [h]; simp)]
  cases lkM mk a b <;> rfl
set_option maxRecDepth 100000 in
set_option maxHeartbeats 4000000 in
theorem pairM_any {L mk : List Rw} (v : Value) (a b : Int) (w : World) (hB : BV w v L mk) (hT : Tab w) (ha : wfR a) (hb : wfR b) :
    Calls Tryz.prog 10 #[v, .int .i32 a, .int .i32 b] w fun e w' => e = .returned (lkV (pairP mk a b)) ∧ Below w.heap.size w w' := by
  obtain ⟨s, f, hj⟩ : ∃ s f, joinE a b = (s, f) := ⟨_, _, rfl⟩
  have HJ := Lib.hid (join_c hj w hT)
  cases f with
  | true =>
    have HP := Lib.hid (pairP_yes (mk := mk) hj)
    clear hT hj hB
    go_enter Tryz.func10, Tryz.ntmps10
    go_wp2_with fail
    refine HJ.out.mono ?_
    rintro e w1 ⟨rfl, hb1⟩
    have D1 := Lib.hid hb1
    clear hb1
    go_wp2_with fail
    go_ret2
    exact ⟨by rw [HP.out]; rfl, D1.out⟩
  | false =>
    have hs : s = 0 := by
      have := join_no (a := a) (b := b) (by rw [hj])
      rw [hj] at this
      exact congrArg Prod.fst this
    subst hs
    have HP := Lib.hid (pairP_no (mk := mk) hj)
    clear hT hj
    rcases hB with ⟨rfl, rfl, rfl⟩ | ⟨base, X, T, P, M, S, rfl, hB⟩
    · go_enter Tryz.func10, Tryz.ntmps10
      go_wp2_with fail
      refine HJ.out.mono ?_
      rintro e w1 ⟨rfl, hb1⟩
      have D1 := Lib.hid hb1
      clear hb1
      go_wp2_with fail
      go_ret2
      exact ⟨by rw [HP.out]; rfl, D1.out⟩
    · have HB := Lib.hid hB
      clear hB
      go_enter Tryz.func10, Tryz.ntmps10
      go_wp2_with fail
      refine HJ.out.mono ?_
      rintro e w1 ⟨rfl, hb1⟩
      have D1 := Lib.hid hb1
      have B1 := Lib.hid (HB.out.below hb1)
      clear hb1
      have hrun := lookup_made B1.out ha hb
      have c2 := B1.out.blk.c (i := 2) rfl
      go_wp2_with fail
      go_ret2
      exact ⟨by rw [HP.out]; rfl, D1.out⟩
theorem join_vw (r : Int) : (joinE 4352 r).2 = decide (4449 ≤ r ∧ r ≤ 4469) := by
  by_cases h : 4449 ≤ r ∧ r ≤ 4469
  · have h1 : lvB 4352 r := ⟨by omega, h⟩
    unfold joinE
    rw [if_pos h1]
    simp [h]
  · have h1 : ¬ lvB 4352 r := fun h2 => h h2.2
    have h2 : ¬ stB 4352 r := fun h3 => by
      have := (isS_iff 4352).1 h3.1.1
      omega
    unfold joinE
    rw [if_neg h1, if_neg h2]
    simpa using h
theorem join_tl (r : Int) : (joinE 44032 r).2 = decide (4520 ≤ r ∧ r ≤ 4546) := by
  have h1 : ¬ lvB 44032 r := fun h2 => by have := h2.1; omega
  by_cases h : 4520 ≤ r ∧ r ≤ 4546
  · have h2 : stB 44032 r := ⟨⟨by decide, by decide⟩, h⟩
    unfold joinE
    rw [if_neg h1, if_pos h2]
    simp [h]
  · have h2 : ¬ stB 44032 r := fun h3 => h h3.2
    unfold joinE
    rw [if_neg h1, if_neg h2]
    simpa using h
set_option maxRecDepth 100000 in
set_option maxHeartbeats 4000000 in
theorem second_any {L mk : List Rw} (v : Value) (r : Int) (w : World) (hB : BV w v L mk) (hT : Tab w) (hr : wfR r) :
    Calls Tryz.prog 14 #[v, .int .i32 r] w fun e w' => e = .returned (.bool (secP mk r)) ∧ Below w.heap.size w w' := by
  obtain ⟨s, f, hj⟩ : ∃ s f, joinE 4352 r = (s, f) := ⟨_, _, rfl⟩
  obtain ⟨t, g, hk⟩ : ∃ t g, joinE 44032 r = (t, g) := ⟨_, _, rfl⟩
  have hf := join_vw r
  have hg := join_tl r
  rw [hj] at hf
  rw [hk] at hg
  simp only at hf hg
  have HS : Hid (secP mk r = ((mk.any fun z => decide (z.into.getD 1 0 = r)) || (f || g))) := Lib.hid (by unfold secP; rw [hf, hg])
  have HJ := Lib.hid (join_c hj w hT)
  have HK := Lib.hid (fun W hW => join_c hk W hW)
  have HT := Lib.hid hT.all
  clear hT hj hk hf hg
  cases f with
  | true =>
    clear hB
    go_enter Tryz.func14, Tryz.ntmps14
    go_wp2_with fail
    refine HJ.out.mono ?_
    rintro e w1 ⟨rfl, hb1⟩
    have D1 := Lib.hid hb1
    clear hb1
    go_wp2_with fail
    go_ret
    exact ⟨by rw [HS.out]; simp, D1.out⟩
  | false =>
    cases g with
    | true =>
      clear hB
      go_enter Tryz.func14, Tryz.ntmps14
      go_wp2_with fail
      refine HJ.out.mono ?_
      rintro e w1 ⟨rfl, hb1⟩
      have D1 := Lib.hid hb1
      clear hb1
      go_wp2_with fail
      refine (HK.out _ (HT.out _ D1.out)).mono ?_
      rintro e w2 ⟨rfl, hb2⟩
      have D2 := Lib.hid (D1.out.trans (hb2.mono D1.out.size))
      clear hb2
      go_wp2_with fail
      go_ret
      exact ⟨by rw [HS.out]; simp, D2.out⟩
    | false =>
      have HBV := Lib.hid hB
      rcases hB with ⟨rfl, rfl, rfl⟩ | ⟨base, X, T, P, M, S, rfl, hB⟩
      · go_enter Tryz.func14, Tryz.ntmps14
        go_wp2_with fail
        refine HJ.out.mono ?_
        rintro e w1 ⟨rfl, hb1⟩
        have D1 := Lib.hid hb1
        clear hb1
        go_wp2_with fail
        refine (HK.out _ (HT.out _ D1.out)).mono ?_
        rintro e w2 ⟨rfl, hb2⟩
        have D2 := Lib.hid (D1.out.trans (hb2.mono D1.out.size))
        clear hb2
        go_wp2_with fail
        go_ret
        exact ⟨by rw [HS.out]; rfl, D2.out⟩
      · have HB := Lib.hid hB
        clear hB
        go_enter Tryz.func14, Tryz.ntmps14
        go_wp2_with fail
        refine HJ.out.mono ?_
        rintro e w1 ⟨rfl, hb1⟩
        have D1 := Lib.hid hb1
        clear hb1
        go_wp2_with fail
        refine (HK.out _ (HT.out _ D1.out)).mono ?_
        rintro e w2 ⟨rfl, hb2⟩
        have D2 := Lib.hid (D1.out.trans (hb2.mono D1.out.size))
        clear hb2
        have B2 := Lib.hid (HB.out.below D2.out)
        have hrun := lookup_sec B2.out hr
        have c3 := B2.out.blk.c (i := 3) rfl
        go_wp2_with fail
        go_ret
        exact ⟨by rw [HS.out]; simp, D2.out.alloc D2.out.size _⟩
set_option maxRecDepth 100000 in
set_option maxHeartbeats 4000000 in
theorem makes_any {base X T P M S : Nat} {L mk : List Rw} (a b r : Int) (w : World) (hB : Bs w base X T P M S L mk) (ha : wfR a) (hb : wfR b) :
    Calls Tryz.prog 34 #[.pointer (some ⟨X, 0, none⟩), .agg #[.int .i32 a, .int .i32 b], .int .i32 r] w fun e w' => e = .returned (.bool (decide (lkM mk a b = some r))) ∧ Below w.heap.size w w' := by
  obtain ⟨w1, hw1⟩ : ∃ w1, w1 = w.alloc (.cells #[.int .i32 a, .int .i32 b] 67) := ⟨_, rfl⟩
  have hb1 : Below w.heap.size w w1 := by rw [hw1]; exact (Below.refl _ w).alloc (Nat.le_refl _) _
  have HB := Lib.hid hB
  have H1 := Lib.hid (fun W (hW : Below w.heap.size w W) => lookup_made (hB.below hW) ha hb)
  have H2 := Lib.hid (fun W (hW : Below w.heap.size w W) => (hB.below hW).blk.c (i := 2) rfl)
  have HE : Hid (decide (lkM mk a b = some r) = ((lkM mk a b).isSome && ((lkM mk a b).getD 0 == r))) := Lib.hid (by
    cases lkM mk a b with
    | none => simp
    | some q => simp; rfl)
  generalize (lkM mk a b).isSome = f at *
  generalize (lkM mk a b).getD 0 = c at *
  clear hB
  go_enter Tryz.func34, Tryz.ntmps34
  go_wp2_with fail
  rw [← hw1]
  have D1 := Lib.hid hb1
  have k0 := (show Tr.Bk w1 w.heap.size [.int .i32 a, .int .i32 b] 67 by rw [hw1]; exact ⟨heap_alloc_new w _⟩).c (i := 0) rfl
  have k1 := (show Tr.Bk w1 w.heap.size [.int .i32 a, .int .i32 b] 67 by rw [hw1]; exact ⟨heap_alloc_new w _⟩).c (i := 1) rfl
  have c2 := H2.out w1 hb1
  have hrun := fun n => H1.out (w1.drewN n) (bel_drewN hb1 n)
  clear hw1 hb1
  cases f with
  | false =>
    go_quiet (fail)
    go_wp2_with fail
    go_ret
    exact ⟨by rw [HE.out]; rfl, bel_drewN D1.out _⟩
  | true =>
    go_quiet (fail)
    go_wp2_with fail
    go_ret
    exact ⟨by rw [HE.out]; rfl, bel_drewN D1.out _⟩

end Go.Proofs.YtagbeioooohbgaaGreatDoor.Ba
end

import Derived.Test.YtagbeioooohbgaaGreatDoorM18
import Derived.Test.YtagbeioooohbgaaGreatDoorZP
import Derived.Test.YtagbeioooohbgaaGreatDoorM20
import Derived.Sort.LotD3
import Derived.IntWalk
import Derived.Deep.CutRange
import Derived.Deep.DeepCutAuto
namespace Go.Proofs.YtagbeioooohbgaaGreatDoor.So
open Go.RowKit Go.Sort Tr
variable {w0 w : World} {g : Nat} {pf sp : List Value} {d : Array Int}

/-! pdqsort -/
theorem swo_int : SWO ltInt := ⟨fun x => by simp [ltInt], fun x y z h1 h2 => by simp [ltInt] at *; omega, fun x y z h1 h2 => by simp [ltInt] at *; omega⟩
/-- What breakPatterns does. -/
def BrkOk : Prop := ∀ (w0 w : World) (g : Nat) (pf sp : List Value) (d : Array Int) (cap a b : Nat), SR w0 w g pf sp d → a + 12 < b → b ≤ d.size → d.size ≤ 100000 →
  Calls Tryz.prog 109 #[.slice (some ⟨g, pf.length, none⟩) d.size cap, .int .i64 a, .int .i64 b] w fun e w' => e = .returned (.tuple #[]) ∧ ∃ d', PermIn a b d d' ∧ SR w0 w' g pf sp d'
/-- What is to be sorted still, and what comes of it. -/
structure St (w0 w : World) (g : Nat) (pf sp : List Value) (n a0 b0 a b : Nat) (d dk : Array Int) : Prop where
  sz : dk.size = n
  sr : SR w0 w g pf sp dk
  bl : Go.Sort.Below ltInt a b dk
  go : ∀ R, PermIn a b dk R → SortedIn ltInt a b R → PermIn a0 b0 d R ∧ SortedIn ltInt a0 b0 R
theorem St.perm {a0 b0 a b n : Nat} {dk d' : Array Int} {w' : World} (h : St w0 w g pf sp n a0 b0 a b d dk) (hb : b ≤ n) (hp : PermIn a b dk d') (hs : SR w0 w' g pf sp d') : St w0 w' g pf sp n a0 b0 a b d d' :=
  ⟨hp.1.trans h.sz, hs, h.bl.perm (by rw [h.sz]; exact hb) hp, fun R h1 h2 => h.go R (permIn_trans _ _ _ a b hp h1) h2⟩
/-- The end of a call. -/
def PdqE (w0 : World) (g : Nat) (pf sp : List Value) (a b : Nat) (d : Array Int) (e : Ending) (w' : World) : Prop := e = .returned (.tuple #[]) ∧ ∃ d', PermIn a b d d' ∧ SortedIn ltInt a b d' ∧ SR w0 w' g pf sp d'
set_option maxHeartbeats 32000000 in
set_option maxRecDepth 100000 in
theorem pdq_step (hbrk : BrkOk) (m : Nat)
    (ih : ∀ (w0 w : World) (g : Nat) (pf sp : List Value) (d : Array Int) (cap a b : Nat) (lim : Int), SR w0 w g pf sp d → a ≤ b → b ≤ d.size → d.size ≤ 100000 → Go.Sort.Below ltInt a b d → 0 ≤ lim → lim ≤ 100 → b - a < m →
      Calls Tryz.prog 88 #[.slice (some ⟨g, pf.length, none⟩) d.size cap, .int .i64 a, .int .i64 b, .int .i64 lim] w (PdqE w0 g pf sp a b d))
    (cap a b : Nat) (lim : Int) (h : SR w0 w g pf sp d) (hab : a ≤ b) (hb : b ≤ d.size) (hsz : d.size ≤ 100000) (hB : Go.Sort.Below ltInt a b d) (hl0 : 0 ≤ lim) (hl1 : lim ≤ 100) (hm : b - a ≤ m) :
    Calls Tryz.prog 88 #[.slice (some ⟨g, pf.length, none⟩) d.size cap, .int .i64 a, .int .i64 b, .int .i64 lim] w (PdqE w0 g pf sp a b d) := by
  obtain ⟨n, hn⟩ : ∃ n, n = d.size := ⟨_, rfl⟩
  obtain ⟨off, hoff⟩ : ∃ off, off = pf.length := ⟨_, rfl⟩
  rw [← hn, ← hoff]
  rw [← hn] at hb hsz
  have HN := Lib.hid hn
  have HF := Lib.hid hoff
  have HS0 : Hid (St w0 w g pf sp n a b a b d d) := Lib.hid ⟨hn.symm, h, hB, fun R h1 h2 => ⟨h1, h2⟩⟩
  have HIH := Lib.hid ih
  have HBRK := Lib.hid hbrk
  clear hn hoff h hB ih hbrk
  go_enter Tryz.func88, Tryz.ntmps88
  go_wp2_with fail
  go_loopw [1, 2, 3, 8, 9] (fun va vb vl v8 v9 wr => ∃ (a1 b1 : Nat) (l1 : Int) (wb wp : Bool) (dk : Array Int), va = .int .i64 a1 ∧ vb = .int .i64 b1 ∧ vl = .int .i64 l1 ∧ v8 = .bool wb ∧ v9 = .bool wp ∧ a ≤ a1 ∧ a1 ≤ b1 ∧ b1 ≤ b ∧ 0 ≤ l1 ∧ l1 ≤ 100 ∧ Hid (St w0 wr g pf sp n a b a1 b1 d dk)) (fun va vb _ _ _ _ => (intOf vb - intOf va).toNat)
  case atStart => exact ⟨a, b, lim, true, true, d, rfl, rfl, rfl, rfl, rfl, Nat.le_refl _, hab, Nat.le_refl _, hl0, hl1, HS0⟩
  case round =>
    obtain ⟨a1, b1, l1, wb, wp, dk, rfl, rfl, rfl, rfl, rfl, ha1, hab1, hb1, hl10, hl11, HS⟩ := hrel
    obtain ⟨l, hl⟩ : ∃ l, l = b1 - a1 := ⟨_, rfl⟩
    have hlI : (b1 : Int) - a1 = l := by omega
    have hl12 : b1 - a1 ≤ 12 ↔ l ≤ 12 := by omega
    have hlm : l ≤ m := by omega
    have hln : l ≤ 100000 := by omega
    have ha12 : 12 < l → a1 + 12 < b1 := by omega
    clear hl
    by_cases h12 : l ≤ 12
    · have h12I : (l : Int) ≤ 12 := by omega
      have HC := Lib.hid (ins_any (d := dk) cap a1 b1 HS.out.sr hab1 (by rw [HS.out.sz]; omega) (by rw [HS.out.sz]; exact hsz))
      rw [HS.out.sz, ← HF.out] at HC
      go_wp2_with fail
      refine HC.out.mono ?_
      rintro e w2 ⟨rfl, hs2⟩
      have S2 := Lib.hid hs2
      clear hs2
      go_wp2_with fail
      refine bodyPost_ret (results_none rfl _ _ _) rfl ⟨rfl, ?_⟩
      obtain ⟨k1, k2⟩ := insertionSort_holds swo_int dk a1 b1 hab1 (by rw [HS.out.sz]; omega)
      exact ⟨_, (HS.out.go _ k1 k2).1, (HS.out.go _ k1 k2).2, S2.out⟩
    · have h12I : ¬ (l : Int) ≤ 12 := by omega
      have hab2 := ha12 (by omega)
      by_cases hl9 : l1 = 0
      · subst hl9
        have HC := Lib.hid (heap_any (d := dk) cap a1 b1 HS.out.sr (by omega) (by rw [HS.out.sz]; omega) (by rw [HS.out.sz]; exact hsz))
        rw [HS.out.sz, ← HF.out] at HC
        go_wp2_with fail
        refine HC.out.mono ?_
        rintro e w2 ⟨rfl, hs2⟩
        have S2 := Lib.hid hs2
        clear hs2
        go_wp2_with fail
        refine bodyPost_ret (results_none rfl _ _ _) rfl ⟨rfl, ?_⟩
        obtain ⟨k1, k2⟩ := heapSort_holds swo_int dk a1 b1 hab1 (by rw [HS.out.sz]; omega)
        exact ⟨_, (HS.out.go _ k1 k2).1, (HS.out.go _ k1 k2).2, S2.out⟩
      · have hl9B : (l1 == 0) = false := by simpa using hl9
        have hb1n : b1 ≤ n := by omega
        have lk : ∀ dk2 : Array Int, Hid (dk2.size = n) → Hid (dk2.size = n) := fun _ h => h
        go_upto_if 35 with fail
        go_cut [3] (fun v3 wx => ∃ (l2 : Int) (d1 : Array Int), v3 = .int .i64 l2 ∧ 0 ≤ l2 ∧ l2 ≤ 100 ∧ Hid (St w0 wx g pf sp n a b a1 b1 d d1))
        case first =>
          cases wb with
          | true =>
            go_wp2_with fail
            go_meet
            case rel => exact ⟨l1, dk, rfl, hl10, hl11, HS⟩
          | false =>
            have HC := Lib.hid (HBRK.out w0 wr g pf sp dk cap a1 b1 HS.out.sr hab2 (by rw [HS.out.sz]; exact hb1n) (by rw [HS.out.sz]; exact hsz))
            rw [HS.out.sz, ← HF.out] at HC
            go_wp2_with fail
            refine HC.out.mono ?_
            rintro e w2 ⟨rfl, d1, hp1, hs2⟩
            have S2 := Lib.hid (HS.out.perm hb1n hp1 hs2)
            clear hs2 hp1
            go_wp2_with fail
            go_meet
            case rel => exact ⟨l1 - 1, d1, rfl, by omega, by omega, S2⟩
        case rest =>
          obtain ⟨l2, d1, rfl, hl20, hl21, HS1⟩ := hcut
          have HCP := Lib.hid (pivot_any (d := d1) cap a1 b1 HS1.out.sr hab2 (by rw [HS1.out.sz]; exact hb1n) (by rw [HS1.out.sz]; exact hsz))
          rw [HS1.out.sz, ← HF.out] at HCP
          go_wp2_with fail
          refine HCP.out.mono ?_
          rintro e w2 ⟨⟨pv, hh, rfl, hpa, hpb, hhh⟩, hs2⟩
          have HS2 := Lib.hid (HS1.out.perm hb1n (permIn_refl _ _ _) hs2)
          clear hs2
          go_upto_if 50 with fail
          go_cut [11, 12] (fun v11 v12 wx => ∃ (p2 : Nat) (h2 : Int) (d2 : Array Int), v11 = .int .i64 p2 ∧ v12 = .int .i64 h2 ∧ a1 ≤ p2 ∧ p2 < b1 ∧ Hid (St w0 wx g pf sp n a b a1 b1 d d2))
          case first =>
            by_cases h2 : hh = 2
            · subst h2
              have HC := Lib.hid (rev_any (d := d1) cap a1 b1 HS2.out.sr (by omega) (by rw [HS2.out.sz]; exact hb1n) (by rw [HS2.out.sz]; exact hsz))
              rw [HS2.out.sz, ← HF.out] at HC
              go_wp2_with fail
              refine HC.out.mono ?_
              rintro e w3 ⟨rfl, hs3⟩
              have S3 := Lib.hid (HS2.out.perm hb1n (reverseRange_holds _ a1 b1 hab1 (by rw [HS2.out.sz]; exact hb1n)) hs3)
              clear hs3
              go_wp2_with fail
              go_meet
              case rel => exact ⟨b1 - 1 - (pv - a1), 1, _, by congr 1; omega, rfl, by omega, by omega, S3⟩
            · have h2B : (hh == 2) = false := by simpa using h2
              go_wp2_with fail
              go_meet
              case rel => exact ⟨pv, hh, d1, rfl, rfl, hpa, hpb, HS2⟩
          case rest =>
            obtain ⟨p2, h2, d2, rfl, rfl, hp2a, hp2b, HS3⟩ := hcut
            go_upto_region 15 with fail
            go_cut [68] (fun v68 wx => v68 = .bool (wb && wp && (h2 == 1)) ∧ Hid (St w0 wx g pf sp n a b a1 b1 d d2))
            case first =>
              by_cases hh2 : h2 = 1
              · subst hh2
                cases wb <;> cases wp
                all_goals
                  go_wp2_with fail
                  go_meet
                  case rel => exact ⟨rfl, HS3⟩
              · have h2B : (h2 == 1) = false := by simpa using hh2
                cases wb <;> cases wp
                all_goals
                  go_wp2_with fail
                  go_meet
                  case rel => exact ⟨by rw [h2B]; rfl, HS3⟩
            case rest =>
              obtain ⟨rfl, HS3⟩ := hcut
              go_upto_if 68 with fail
              go_cut [12] (fun v12 wx => v12 = .int .i64 h2 ∧ ∃ (d3 : Array Int), Hid (St w0 wx g pf sp n a b a1 b1 d d3))
              case first =>
                cases hw0 : (wb && wp && (h2 == 1)) with
                | true =>
                  have hw := hw0
                  simp only [Bool.and_eq_true, beq_iff_eq] at hw
                  obtain ⟨⟨rfl, rfl⟩, rfl⟩ := hw
                  clear hw0
                  have HC := Lib.hid (part_ins_any (d := d2) cap a1 b1 HS3.out.sr (by omega) (by rw [HS3.out.sz]; exact hb1n) (by rw [HS3.out.sz]; exact hsz))
                  rw [HS3.out.sz, ← HF.out] at HC
                  have HPI := Lib.hid (partialInsertionSort_holds swo_int d2 a1 b1 (by omega) (by rw [HS3.out.sz]; exact hb1n) HS3.out.bl)
                  cases hr : (partialInsertionSort ltInt d2 a1 b1).2 with
                  | true =>
                    rw [hr] at HC
                    have HRR := Lib.hid hr
                    clear hr
                    go_wp2_with fail
                    refine HC.out.mono ?_
                    rintro e w3 ⟨rfl, hs3⟩
                    have S3 := Lib.hid hs3
                    clear hs3
                    go_wp2_with fail
                    refine bodyPost_ret (results_none rfl _ _ _) rfl ⟨rfl, ?_⟩
                    obtain ⟨k1, k2⟩ := HS3.out.go _ HPI.out.1 (HPI.out.2 HRR.out)
                    exact ⟨_, k1, k2, S3.out⟩
                  | false =>
                    rw [hr] at HC
                    clear hr
                    go_wp2_with fail
                    refine HC.out.mono ?_
                    rintro e w3 ⟨rfl, hs3⟩
                    have S3 := Lib.hid (HS3.out.perm hb1n HPI.out.1 hs3)
                    clear hs3
                    go_wp2_with fail
                    go_meet
                    case rel => exact ⟨rfl, _, S3⟩
                | false =>
                  clear hw0
                  go_wp2_with fail
                  go_meet
                  case rel => exact ⟨rfl, d2, HS3⟩
              case rest =>
                obtain ⟨rfl, d3, HS4⟩ := hcut
                have PT : ∀ wz : World, Hid (SR w0 wz g pf sp d3) → Calls Tryz.prog 114 #[.slice (some ⟨g, off, none⟩) n cap, .int .i64 a1, .int .i64 b1, .int .i64 p2] wz fun e w' => ∃ (m : Nat) (fl : Bool), e = .returned (.tuple #[.int .i64 m, .bool fl]) ∧ m = (partition ltInt d3 a1 b1 p2).1 ∧ SR w0 w' g pf sp (partition ltInt d3 a1 b1 p2).2.2 := fun wz hz => by
                  have h9 := part_any (d := d3) cap a1 b1 p2 hz.out hp2a hp2b (by rw [HS4.out.sz]; exact hb1n) (by rw [HS4.out.sz]; exact hsz)
                  rw [HS4.out.sz, ← HF.out] at h9
                  exact h9
                have PE : ∀ wz : World, Hid (SR w0 wz g pf sp d3) → Calls Tryz.prog 113 #[.slice (some ⟨g, off, none⟩) n cap, .int .i64 a1, .int .i64 b1, .int .i64 p2] wz fun e w' => ∃ m : Nat, e = .returned (.int .i64 m) ∧ m = (partitionEqual ltInt d3 a1 b1 p2).1 ∧ SR w0 w' g pf sp (partitionEqual ltInt d3 a1 b1 p2).2 := fun wz hz => by
                  have h9 := partEq_any (d := d3) cap a1 b1 p2 hz.out hp2a hp2b (by rw [HS4.out.sz]; exact hb1n) (by rw [HS4.out.sz]; exact hsz)
                  rw [HS4.out.sz, ← HF.out] at h9
                  exact h9
                have HK : Hid (d3.size = n) := Lib.hid HS4.out.sz
                have HSR : Hid (SR w0 wc g pf sp d3) := Lib.hid HS4.out.sr
                obtain ⟨G, hG⟩ : ∃ G : Nat → Int, ∀ t, G t = d3[t]! := ⟨fun t => d3[t]!, fun _ => rfl⟩
                have hcw : ∀ t, t < n → wc.cell? ⟨g, off + t, none⟩ = some (.int .i32 (G t)) := fun t ht => by rw [hG, HF.out]; exact HSR.out.cell t (by rw [HK.out]; exact ht)
                have hfw : ∀ t, t < n → wc.frozen? ⟨g, off + t, none⟩ = false := fun t ht => by rw [HF.out]; exact HSR.out.fr t (by rw [HK.out]; exact ht)
                have HG := Lib.hid hG
                clear hG
                have hp2n : p2 < n := by omega
                have pw : IntKind.i64.wrap (p2 : Int) = p2 := IntWalk.i64_in _ (by omega)
                by_cases ha0 : 0 < a1
                · have ha0I : (0 : Int) < a1 := by omega
                  obtain ⟨q, hq⟩ : ∃ q, q = a1 - 1 := ⟨_, rfl⟩
                  have hqI : (a1 : Int) - 1 = q := by omega
                  have hqn : q < n := by omega
                  have qw : IntKind.i64.wrap (q : Int) = q := IntWalk.i64_in _ (by omega)
                  have HQ := Lib.hid hq
                  clear hq
                  go_wp2_with fail
                  go_quiet (first | (go_at_call 80; refine Calls.quiet_of_same (less_any _ _ _)))
                  go_wp2_with fail
                  · have hl : ltInt (G q) (G p2) = false := by first | assumption | simpa using ‹(!ltInt (G q) (G p2)) = true›
                    have hl2 := hl
                    rw [HG.out, HG.out] at hl2
                    have HL2 := Lib.hid hl2
                    have HS5 : Hid (SR w0 (wc.drewN nq) g pf sp d3) := Lib.hid (HSR.out.drew nq)
                    clear hl2 hcw hfw
                    refine (PE _ HS5).mono ?_
                    rintro e w4 ⟨mid, rfl, hmid, hs4⟩
                    obtain ⟨d4, hd4⟩ : ∃ d4, d4 = (partitionEqual ltInt d3 a1 b1 p2).2 := ⟨_, rfl⟩
                    rw [← hd4] at hs4
                    obtain ⟨r1, r2, r3, r4, r5⟩ := round_eq (d4 := d4) (mid := mid) swo_int (partitionEqual_holds ltInt) ha0 hp2a hp2b (by rw [HS4.out.sz]; exact hb1n) HS4.out.bl (by rw [← HQ.out]; exact HL2.out) (by rw [hmid, hd4])
                    have HS6 : Hid (St w0 w4 g pf sp n a b mid b1 d d4) := Lib.hid ⟨r3.trans HS4.out.sz, hs4, r4, fun R h1 h2 => HS4.out.go R (r5 R h1 h2).1 (r5 R h1 h2).2⟩
                    clear hmid hd4 hs4 r3 r4 r5
                    go_wp2_with fail
                    go_roundw
                    case measure => simp [intOf]; omega
                    case rel =>
                      first
                        | exact ⟨mid, b1, l2, wb, wp, d4, rfl, rfl, rfl, rfl, rfl, by omega, by omega, hb1, hl20, hl21, HS6⟩
                        | (repeat apply Exists.intro
                           exact ⟨⟨mid, b1, l2, wb, wp, d4, rfl, rfl, rfl, rfl, rfl, by omega, by omega, hb1, hl20, hl21, HS6⟩, rfl⟩)
                  · have HS5 : Hid (SR w0 (wc.drewN nq) g pf sp d3) := Lib.hid (HSR.out.drew nq)
                    clear hcw hfw
                    refine (PT _ HS5).mono ?_
                    rintro e w4 ⟨mid, fl, rfl, hmid, hs4⟩
                    obtain ⟨d4, hd4⟩ : ∃ d4, d4 = (partition ltInt d3 a1 b1 p2).2.2 := ⟨_, rfl⟩
                    rw [← hd4] at hs4
                    obtain ⟨r1, r2, r3, r4, r5, r6, r7⟩ := round_part (d4 := d4) (mid := mid) (ap := (partition ltInt d3 a1 b1 p2).2.1) swo_int (partition_holds ltInt) hp2a hp2b (by rw [HS4.out.sz]; exact hb1n) HS4.out.bl (by rw [hmid, hd4])
                    have HG := Lib.hid HS4.out.go
                    have HS6 := Lib.hid hs4
                    have R4 := Lib.hid (And.intro r4 r6)
                    have R5 := Lib.hid (And.intro r5 r7)
                    have SZ4 : Hid (d4.size = n) := Lib.hid (r3.trans HS4.out.sz)
                    obtain ⟨ll, hll⟩ : ∃ ll, ll = mid - a1 := ⟨_, rfl⟩
                    obtain ⟨rl, hrl⟩ : ∃ rl, rl = b1 - mid := ⟨_, rfl⟩
                    have hllI : (mid : Int) - a1 = ll := by omega
                    have hrlI : (b1 : Int) - mid = rl := by omega
                    have hmm : mid - a1 < m ∧ b1 - (mid + 1) < m ∧ mid + 1 ≤ b1 := by omega
                    clear hmid hd4 hs4 r3 r4 r5 r6 r7 hll hrl
                    by_cases hlr : ll < rl
                    · have hlrI : (ll : Int) < rl := by omega
                      have HC := Lib.hid (HIH.out w0 w4 g pf sp d4 cap a1 mid l2 HS6.out r1 (by rw [SZ4.out]; omega) (by rw [SZ4.out]; exact hsz) R4.out.1 hl20 hl21 hmm.1)
                      rw [SZ4.out, ← HF.out] at HC
                      go_wp2_with fail
                      refine HC.out.mono ?_
                      rintro e w5 ⟨rfl, L, hpl, hsl, hs5⟩
                      obtain ⟨q1, q2⟩ := R4.out.2 L hpl hsl
                      have HS7 : Hid (St w0 w5 g pf sp n a b (mid + 1) b1 d L) := Lib.hid ⟨hpl.1.trans SZ4.out, hs5, q1, fun R h1 h2 => HG.out R (q2 R h1 h2).1 (q2 R h1 h2).2⟩
                      clear hpl hsl hs5 q1 q2
                      go_wp2_with fail
                      go_roundw
                      case measure => simp [intOf]; omega
                      case rel =>
                        first
                          | exact ⟨mid + 1, b1, l2, _, fl, L, by go_num, rfl, rfl, rfl, rfl, by omega, by omega, by omega, hl20, hl21, HS7⟩
                          | (repeat apply Exists.intro
                             exact ⟨⟨mid + 1, b1, l2, _, fl, L, by go_num, rfl, rfl, rfl, rfl, by omega, by omega, by omega, hl20, hl21, HS7⟩, rfl⟩)
                    · have hlrI : ¬ (ll : Int) < rl := by omega
                      have hm1 : (mid : Int) + 1 = ((mid + 1 : Nat) : Int) := by omega
                      have HC := Lib.hid (HIH.out w0 w4 g pf sp d4 cap (mid + 1) b1 l2 HS6.out hmm.2.2 (by rw [SZ4.out]; exact hb1n) (by rw [SZ4.out]; exact hsz) R5.out.1 hl20 hl21 hmm.2.1)
                      rw [SZ4.out, ← HF.out, ← hm1] at HC
                      clear hm1
                      go_wp2_with fail
                      refine HC.out.mono ?_
                      rintro e w5 ⟨rfl, L, hpl, hsl, hs5⟩
                      obtain ⟨q1, q2⟩ := R5.out.2 L hpl hsl
                      have HS7 : Hid (St w0 w5 g pf sp n a b a1 mid d L) := Lib.hid ⟨hpl.1.trans SZ4.out, hs5, q1, fun R h1 h2 => HG.out R (q2 R h1 h2).1 (q2 R h1 h2).2⟩
                      clear hpl hsl hs5 q1 q2
                      go_wp2_with fail
                      go_roundw
                      case measure => simp [intOf]; omega
                      case rel =>
                        first
                          | exact ⟨a1, mid, l2, _, fl, L, rfl, rfl, rfl, rfl, rfl, by omega, by omega, by omega, hl20, hl21, HS7⟩
                          | (repeat apply Exists.intro
                             exact ⟨⟨a1, mid, l2, _, fl, L, rfl, rfl, rfl, rfl, rfl, by omega, by omega, by omega, hl20, hl21, HS7⟩, rfl⟩)
                · have ha0I : ¬ (0 : Int) < a1 := by omega
                  go_wp2_with fail
                  go_quiet (fail)
                  go_wp2_with fail
                  have HS5 : Hid (SR w0 (wc.drewN nq) g pf sp d3) := Lib.hid (HSR.out.drew nq)
                  clear hcw hfw
                  refine (PT _ HS5).mono ?_
                  rintro e w4 ⟨mid, fl, rfl, hmid, hs4⟩
                  obtain ⟨d4, hd4⟩ : ∃ d4, d4 = (partition ltInt d3 a1 b1 p2).2.2 := ⟨_, rfl⟩
                  rw [← hd4] at hs4
                  obtain ⟨r1, r2, r3, r4, r5, r6, r7⟩ := round_part (d4 := d4) (mid := mid) (ap := (partition ltInt d3 a1 b1 p2).2.1) swo_int (partition_holds ltInt) hp2a hp2b (by rw [HS4.out.sz]; exact hb1n) HS4.out.bl (by rw [hmid, hd4])
                  have HG := Lib.hid HS4.out.go
                  have HS6 := Lib.hid hs4
                  have R4 := Lib.hid (And.intro r4 r6)
                  have R5 := Lib.hid (And.intro r5 r7)
                  have SZ4 : Hid (d4.size = n) := Lib.hid (r3.trans HS4.out.sz)
                  obtain ⟨ll, hll⟩ : ∃ ll, ll = mid - a1 := ⟨_, rfl⟩
                  obtain ⟨rl, hrl⟩ : ∃ rl, rl = b1 - mid := ⟨_, rfl⟩
                  have hllI : (mid : Int) - a1 = ll := by omega
                  have hrlI : (b1 : Int) - mid = rl := by omega
                  have hmm : mid - a1 < m ∧ b1 - (mid + 1) < m ∧ mid + 1 ≤ b1 := by omega
                  clear hmid hd4 hs4 r3 r4 r5 r6 r7 hll hrl
                  by_cases hlr : ll < rl
                  · have hlrI : (ll : Int) < rl := by omega
                    have HC := Lib.hid (HIH.out w0 w4 g pf sp d4 cap a1 mid l2 HS6.out r1 (by rw [SZ4.out]; omega) (by rw [SZ4.out]; exact hsz) R4.out.1 hl20 hl21 hmm.1)
                    rw [SZ4.out, ← HF.out] at HC
                    go_wp2_with fail
                    refine HC.out.mono ?_
                    rintro e w5 ⟨rfl, L, hpl, hsl, hs5⟩
                    obtain ⟨q1, q2⟩ := R4.out.2 L hpl hsl
                    have HS7 : Hid (St w0 w5 g pf sp n a b (mid + 1) b1 d L) := Lib.hid ⟨hpl.1.trans SZ4.out, hs5, q1, fun R h1 h2 => HG.out R (q2 R h1 h2).1 (q2 R h1 h2).2⟩
                    clear hpl hsl hs5 q1 q2
                    go_wp2_with fail
                    go_roundw
                    case measure => simp [intOf]; omega
                    case rel =>
                      first
                        | exact ⟨mid + 1, b1, l2, _, fl, L, by go_num, rfl, rfl, rfl, rfl, by omega, by omega, by omega, hl20, hl21, HS7⟩
                        | (repeat apply Exists.intro
                           exact ⟨⟨mid + 1, b1, l2, _, fl, L, by go_num, rfl, rfl, rfl, rfl, by omega, by omega, by omega, hl20, hl21, HS7⟩, rfl⟩)
                  · have hlrI : ¬ (ll : Int) < rl := by omega
                    have hm1 : (mid : Int) + 1 = ((mid + 1 : Nat) : Int) := by omega
                    have HC := Lib.hid (HIH.out w0 w4 g pf sp d4 cap (mid + 1) b1 l2 HS6.out hmm.2.2 (by rw [SZ4.out]; exact hb1n) (by rw [SZ4.out]; exact hsz) R5.out.1 hl20 hl21 hmm.2.1)
                    rw [SZ4.out, ← HF.out, ← hm1] at HC
                    clear hm1
                    go_wp2_with fail
                    refine HC.out.mono ?_
                    rintro e w5 ⟨rfl, L, hpl, hsl, hs5⟩
                    obtain ⟨q1, q2⟩ := R5.out.2 L hpl hsl
                    have HS7 : Hid (St w0 w5 g pf sp n a b a1 mid d L) := Lib.hid ⟨hpl.1.trans SZ4.out, hs5, q1, fun R h1 h2 => HG.out R (q2 R h1 h2).1 (q2 R h1 h2).2⟩
                    clear hpl hsl hs5 q1 q2
                    go_wp2_with fail
                    go_roundw
                    case measure => simp [intOf]; omega
                    case rel =>
                      first
                        | exact ⟨a1, mid, l2, _, fl, L, rfl, rfl, rfl, rfl, rfl, by omega, by omega, by omega, hl20, hl21, HS7⟩
                        | (repeat apply Exists.intro
                           exact ⟨⟨a1, mid, l2, _, fl, L, rfl, rfl, rfl, rfl, rfl, by omega, by omega, by omega, hl20, hl21, HS7⟩, rfl⟩)

end Go.Proofs.YtagbeioooohbgaaGreatDoor.So

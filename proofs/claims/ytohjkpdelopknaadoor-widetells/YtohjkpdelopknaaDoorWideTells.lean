/- WideTells: for every kind and every string the law returns true and both read as before: Guess and Cut answer as the document's. Conditions: the table 'layouts' as the program's text lays it (tied). -/
import Derived.Test.YtohjkpdelopknaaDoorR
import Derived.Test.YtohjkpdelopknaaDoorY
import Derived.IntWalk
import Derived.Test.YtohjkpdelopknaaDoorCards
import Derived.ShutString
import Derived.ChangeOld
namespace Go.Proofs.YtohjkpdelopknaaDoor
open Go.ChangeShapes Go.WideShapes Go.ChangeAt Go.WideMaps Go.WideElems Go.RowKit
open Go.ChangeMaps (open_string shut_string)

theorem mark_ch2 (k : Nat) : strB (chB k 65279) = mk k := by
  unfold chB mk mkB
  rw [if_pos (.inr (by decide))]
/-- What the law's first loop has found behind j rounds. -/
def gsP (s m1 m2 m3 m4 : ByteArray) : Nat → Int × Int
  | 0 => (0, 0)
  | 1 => if preB s m2 then (2, 2) else (0, 0)
  | 2 => if preB s m1 then (1, 2) else if preB s m2 then (2, 2) else (0, 0)
  | 3 => if preB s m4 then (4, 4) else if preB s m1 then (1, 2) else if preB s m2 then (2, 2) else (0, 0)
  | _ => if preB s m3 then (3, 4) else if preB s m4 then (4, 4) else if preB s m1 then (1, 2) else if preB s m2 then (2, 2) else (0, 0)
/-- What the law's second loop knows at place p, having found C. -/
def CutR (k : Nat) (l : List Nat) (p C : Nat) : Prop := (C = l.length ∧ cutK k l = p + cutK k (l.drop p)) ∨ (C = cutK k l ∧ p = l.length)
theorem CutR.fin {k : Nat} {l : List Nat} {C : Nat} (h : CutR k l l.length C) : cutK k l = C := by
  rcases h with ⟨h1, h2⟩ | ⟨h1, _⟩
  · rw [List.drop_length, cutK_nil] at h2; omega
  · exact h1.symm
theorem CutR.more {k : Nat} {l : List Nat} {p C n : Nat} {r : Int} (h : CutR k l p C) (hp : p < l.length) (hx : nx k (l.drop p) = (r, (n : Int), 18)) (hn : n = (l.drop p).length) : CutR k l (p + n) p := by
  rcases h with ⟨h1, h2⟩ | ⟨_, h2⟩
  · rw [cutK_more k _ r n hx] at h2
    rw [List.length_drop] at hn
    exact .inr ⟨by omega, by omega⟩
  · omega
theorem CutR.next {k : Nat} {l : List Nat} {p C n : Nat} {r e : Int} (h : CutR k l p C) (hp : p < l.length) (hx : nx k (l.drop p) = (r, (n : Int), e)) (he : e ≠ 18) (hn : n ≤ (l.drop p).length) : CutR k l (p + n) C := by
  rcases h with ⟨h1, h2⟩ | ⟨_, h2⟩
  · rw [cutK_step k _ r e n hx he hn, List.drop_drop] at h2
    exact .inl ⟨h1, by omega⟩
  · omega

set_option maxRecDepth 100000 in
set_option maxHeartbeats 4000000 in
theorem wideTells_walk (kd : Int) (s : ByteArray) (w : World) (_hk : (Lit.int .i64 kd).wf = true) (_hm : s.size ≤ maxLen) (hT : Tab w) : Calls Tryd.prog 6 #[.int .i64 kd, .string s] w fun e w' => e = .returned (.bool true) ∧ Below w.heap.size w w' := by
  have hpos := hT.pos
  have HFin := Lib.hid (show ∀ w2 : World, Below w.heap.size w w2 → Tab w2 from fun w2 h => hT.below h hpos)
  have B0 := Lib.hid (Below.refl w.heap.size w)
  clear hT _hm _hk
  by_cases hs : s.size ≤ 400
  · have hs' : ¬ (400 : Int) < s.size := by omega
    have HG := Lib.hid (guess_any s w (HFin.out _ B0.out) (by omega))
    have hG : gss s = gsP s (mk 1) (mk 2) (mk 3) (mk 4) 4 := rfl
    rw [hG] at HG
    clear hG
    have HR1 := Lib.hid (fun W => rbytes_any 1 65279 W (by omega) (by omega) (by omega))
    rw [mark_ch2] at HR1
    have z1 : (mk 1).size = 2 := mk_size 1
    generalize mk 1 = m1 at *
    have Z1 := Lib.hid (show ((m1.size : Nat) : Int) = 2 by omega)
    have y1 : m1.size ≤ 4 := by omega
    clear z1
    have HR2 := Lib.hid (fun W => rbytes_any 2 65279 W (by omega) (by omega) (by omega))
    rw [mark_ch2] at HR2
    have z2 : (mk 2).size = 2 := mk_size 2
    generalize mk 2 = m2 at *
    have Z2 := Lib.hid (show ((m2.size : Nat) : Int) = 2 by omega)
    have y2 : m2.size ≤ 4 := by omega
    clear z2
    have HR3 := Lib.hid (fun W => rbytes_any 3 65279 W (by omega) (by omega) (by omega))
    rw [mark_ch2] at HR3
    have z3 : (mk 3).size = 4 := mk_size 3
    generalize mk 3 = m3 at *
    have Z3 := Lib.hid (show ((m3.size : Nat) : Int) = 4 by omega)
    have y3 : m3.size ≤ 4 := by omega
    clear z3
    have HR4 := Lib.hid (fun W => rbytes_any 4 65279 W (by omega) (by omega) (by omega))
    rw [mark_ch2] at HR4
    have z4 : (mk 4).size = 4 := mk_size 4
    generalize mk 4 = m4 at *
    have Z4 := Lib.hid (show ((m4.size : Nat) : Int) = 4 by omega)
    have y4 : m4.size ≤ 4 := by omega
    clear z4
    go_enter Tryd.func6, Tryd.ntmps6
    go_wp2_with fail
    refine HG.out.mono ?_
    rintro e w1 ⟨rfl, hb1⟩
    have B1 := Lib.hid hb1
    have z1 := hb1.size
    clear hb1
    generalize hgg : gsP s m1 m2 m3 m4 4 = gg
    have HGG := Lib.hid hgg
    clear hgg
    obtain ⟨g1, g2⟩ := gg
    go_wp2_with fail
    have B2 := Lib.hid (B1.out.alloc z1 (.cells #[.int .i64 3, .int .i64 4, .int .i64 1, .int .i64 2] 3))
    have HC0 := Lib.hid (World.cell?_alloc_new (w := w1) #[.int .i64 3, .int .i64 4, .int .i64 1, .int .i64 2] 3 0)
    have HC1 := Lib.hid (World.cell?_alloc_new (w := w1) #[.int .i64 3, .int .i64 4, .int .i64 1, .int .i64 2] 3 1)
    have HC2 := Lib.hid (World.cell?_alloc_new (w := w1) #[.int .i64 3, .int .i64 4, .int .i64 1, .int .i64 2] 3 2)
    have HC3 := Lib.hid (World.cell?_alloc_new (w := w1) #[.int .i64 3, .int .i64 4, .int .i64 1, .int .i64 2] 3 3)
    have hz2 : w1.heap.size < (w1.alloc (.cells #[.int .i64 3, .int .i64 4, .int .i64 1, .int .i64 2] 3)).heap.size := by simp
    generalize hw5 : w1.alloc (.cells #[.int .i64 3, .int .i64 4, .int .i64 1, .int .i64 2] 3) = w5 at *
    clear hw5
    go_loopw [7, 8, 10] (fun want many iv wr => ∃ j : Nat, want = .int .i64 (gsP s m1 m2 m3 m4 j).1 ∧ many = .int .i64 (gsP s m1 m2 m3 m4 j).2 ∧ iv = .int .i64 (3 - (j : Int)) ∧ j ≤ 4 ∧ Hid (Below w5.heap.size w5 wr)) (fun _ _ iv _ => (intOf iv + 1).toNat)
    case atStart => exact ⟨0, rfl, rfl, rfl, by omega, Below.refl _ _⟩
    case round =>
      obtain ⟨j, rfl, rfl, rfl, hj, HQ⟩ := hrel
      have hqz := HQ.out.size
      have hj' : j = 0 ∨ j = 1 ∨ j = 2 ∨ j = 3 ∨ j = 4 := by omega
      rcases hj' with rfl | rfl | rfl | rfl | rfl
      · rw [show (3 : Int) - ((0 : Nat) : Int) = 3 from rfl]
        have hc : wr.cell? ⟨w1.heap.size, 3, none⟩ = some (.int .i64 2) := (HQ.out.cell (p := ⟨w1.heap.size, 3, none⟩) hz2).trans HC3.out
        obtain ⟨p1, hp1⟩ : ∃ p, (gsP s m1 m2 m3 m4 0).1 = p := ⟨_, rfl⟩
        obtain ⟨p2, hp2⟩ : ∃ p, (gsP s m1 m2 m3 m4 0).2 = p := ⟨_, rfl⟩
        rw [hp1, hp2]
        have P1 := Lib.hid hp1
        have P2 := Lib.hid hp2
        clear hp1 hp2
        rcases (Bool.eq_false_or_eq_true (preB s m2)).symm with hp | hp
        · have HN : Hid (gsP s m1 m2 m3 m4 1 = (p1, p2)) := by
            show gsP s m1 m2 m3 m4 1 = (p1, p2)
            rw [← P1.out, ← P2.out]
            simp [gsP, hp]
          have hor : s.size < m2.size ∨ (m2.size ≤ s.size ∧ ((s.extract 0 m2.size).toList == m2.toList) = false) := by
            unfold preB at hp
            simp only [Bool.and_eq_false_iff, decide_eq_false_iff_not] at hp
            by_cases hh : m2.size ≤ s.size
            · right
              rcases hp with hp | hp
              · exact absurd hh hp
              · exact ⟨hh, hp⟩
            · left; omega
          clear hp
          rcases hor with hor | ⟨hor, hor2⟩
          · have ho : ¬ (m2.size : Int) ≤ s.size := by omega
            clear hor
            go_wp2_with fail
            refine (HR2.out _).mono ?_
            rintro e w6 ⟨rfl, hb6⟩
            have B6 := Lib.hid (HQ.out.trans (hb6.mono hqz))
            clear hb6 hc
            go_wp2_with fail
            go_roundw
            case rel => exact ⟨1, by rw [HN.out], by rw [HN.out], by go_num, by omega, B6.out⟩
            case measure => simp [intOf]
          · have ho : (m2.size : Int) ≤ s.size := by omega
            clear hor
            go_wp2_with fail
            refine (HR2.out _).mono ?_
            rintro e w6 ⟨rfl, hb6⟩
            have B6 := Lib.hid (HQ.out.trans (hb6.mono hqz))
            clear hb6 hc
            go_wp2_with fail
            go_roundw
            case rel => exact ⟨1, by rw [HN.out], by rw [HN.out], by go_num, by omega, B6.out⟩
            case measure => simp [intOf]
        · have HN : Hid (gsP s m1 m2 m3 m4 1 = (2, 2)) := by
            show gsP s m1 m2 m3 m4 1 = (2, 2)
            simp [gsP, hp]
          unfold preB at hp
          simp only [Bool.and_eq_true, decide_eq_true_eq] at hp
          obtain ⟨hor, hor2⟩ := hp
          have ho : (m2.size : Int) ≤ s.size := by omega
          clear hor
          go_wp2_with fail
          refine (HR2.out _).mono ?_
          rintro e w6 ⟨rfl, hb6⟩
          have B6 := Lib.hid (HQ.out.trans (hb6.mono hqz))
          have hc6 : w6.cell? ⟨w1.heap.size, 3, none⟩ = some (.int .i64 2) := (B6.out.cell (p := ⟨w1.heap.size, 3, none⟩) hz2).trans HC3.out
          clear hb6 hc
          go_wp2_with fail
          go_roundw
          case rel => exact ⟨1, by rw [HN.out], by rw [HN.out, Z2.out], by go_num, by omega, B6.out⟩
          case measure => simp [intOf]
      · rw [show (3 : Int) - ((1 : Nat) : Int) = 2 from rfl]
        have hc : wr.cell? ⟨w1.heap.size, 2, none⟩ = some (.int .i64 1) := (HQ.out.cell (p := ⟨w1.heap.size, 2, none⟩) hz2).trans HC2.out
        obtain ⟨p1, hp1⟩ : ∃ p, (gsP s m1 m2 m3 m4 1).1 = p := ⟨_, rfl⟩
        obtain ⟨p2, hp2⟩ : ∃ p, (gsP s m1 m2 m3 m4 1).2 = p := ⟨_, rfl⟩
        rw [hp1, hp2]
        have P1 := Lib.hid hp1
        have P2 := Lib.hid hp2
        clear hp1 hp2
        rcases (Bool.eq_false_or_eq_true (preB s m1)).symm with hp | hp
        · have HN : Hid (gsP s m1 m2 m3 m4 2 = (p1, p2)) := by
            show gsP s m1 m2 m3 m4 2 = (p1, p2)
            rw [← P1.out, ← P2.out]
            simp [gsP, hp]
          have hor : s.size < m1.size ∨ (m1.size ≤ s.size ∧ ((s.extract 0 m1.size).toList == m1.toList) = false) := by
            unfold preB at hp
            simp only [Bool.and_eq_false_iff, decide_eq_false_iff_not] at hp
            by_cases hh : m1.size ≤ s.size
            · right
              rcases hp with hp | hp
              · exact absurd hh hp
              · exact ⟨hh, hp⟩
            · left; omega
          clear hp
          rcases hor with hor | ⟨hor, hor2⟩
          · have ho : ¬ (m1.size : Int) ≤ s.size := by omega
            clear hor
            go_wp2_with fail
            refine (HR1.out _).mono ?_
            rintro e w6 ⟨rfl, hb6⟩
            have B6 := Lib.hid (HQ.out.trans (hb6.mono hqz))
            clear hb6 hc
            go_wp2_with fail
            go_roundw
            case rel => exact ⟨2, by rw [HN.out], by rw [HN.out], by go_num, by omega, B6.out⟩
            case measure => simp [intOf]
          · have ho : (m1.size : Int) ≤ s.size := by omega
            clear hor
            go_wp2_with fail
            refine (HR1.out _).mono ?_
            rintro e w6 ⟨rfl, hb6⟩
            have B6 := Lib.hid (HQ.out.trans (hb6.mono hqz))
            clear hb6 hc
            go_wp2_with fail
            go_roundw
            case rel => exact ⟨2, by rw [HN.out], by rw [HN.out], by go_num, by omega, B6.out⟩
            case measure => simp [intOf]
        · have HN : Hid (gsP s m1 m2 m3 m4 2 = (1, 2)) := by
            show gsP s m1 m2 m3 m4 2 = (1, 2)
            simp [gsP, hp]
          unfold preB at hp
          simp only [Bool.and_eq_true, decide_eq_true_eq] at hp
          obtain ⟨hor, hor2⟩ := hp
          have ho : (m1.size : Int) ≤ s.size := by omega
          clear hor
          go_wp2_with fail
          refine (HR1.out _).mono ?_
          rintro e w6 ⟨rfl, hb6⟩
          have B6 := Lib.hid (HQ.out.trans (hb6.mono hqz))
          have hc6 : w6.cell? ⟨w1.heap.size, 2, none⟩ = some (.int .i64 1) := (B6.out.cell (p := ⟨w1.heap.size, 2, none⟩) hz2).trans HC2.out
          clear hb6 hc
          go_wp2_with fail
          go_roundw
          case rel => exact ⟨2, by rw [HN.out], by rw [HN.out, Z1.out], by go_num, by omega, B6.out⟩
          case measure => simp [intOf]
      · rw [show (3 : Int) - ((2 : Nat) : Int) = 1 from rfl]
        have hc : wr.cell? ⟨w1.heap.size, 1, none⟩ = some (.int .i64 4) := (HQ.out.cell (p := ⟨w1.heap.size, 1, none⟩) hz2).trans HC1.out
        obtain ⟨p1, hp1⟩ : ∃ p, (gsP s m1 m2 m3 m4 2).1 = p := ⟨_, rfl⟩
        obtain ⟨p2, hp2⟩ : ∃ p, (gsP s m1 m2 m3 m4 2).2 = p := ⟨_, rfl⟩
        rw [hp1, hp2]
        have P1 := Lib.hid hp1
        have P2 := Lib.hid hp2
        clear hp1 hp2
        rcases (Bool.eq_false_or_eq_true (preB s m4)).symm with hp | hp
        · have HN : Hid (gsP s m1 m2 m3 m4 3 = (p1, p2)) := by
            show gsP s m1 m2 m3 m4 3 = (p1, p2)
            rw [← P1.out, ← P2.out]
            simp [gsP, hp]
          have hor : s.size < m4.size ∨ (m4.size ≤ s.size ∧ ((s.extract 0 m4.size).toList == m4.toList) = false) := by
            unfold preB at hp
            simp only [Bool.and_eq_false_iff, decide_eq_false_iff_not] at hp
            by_cases hh : m4.size ≤ s.size
            · right
              rcases hp with hp | hp
              · exact absurd hh hp
              · exact ⟨hh, hp⟩
            · left; omega
          clear hp
          rcases hor with hor | ⟨hor, hor2⟩
          · have ho : ¬ (m4.size : Int) ≤ s.size := by omega
            clear hor
            go_wp2_with fail
            refine (HR4.out _).mono ?_
            rintro e w6 ⟨rfl, hb6⟩
            have B6 := Lib.hid (HQ.out.trans (hb6.mono hqz))
            clear hb6 hc
            go_wp2_with fail
            go_roundw
            case rel => exact ⟨3, by rw [HN.out], by rw [HN.out], by go_num, by omega, B6.out⟩
            case measure => simp [intOf]
          · have ho : (m4.size : Int) ≤ s.size := by omega
            clear hor
            go_wp2_with fail
            refine (HR4.out _).mono ?_
            rintro e w6 ⟨rfl, hb6⟩
            have B6 := Lib.hid (HQ.out.trans (hb6.mono hqz))
            clear hb6 hc
            go_wp2_with fail
            go_roundw
            case rel => exact ⟨3, by rw [HN.out], by rw [HN.out], by go_num, by omega, B6.out⟩
            case measure => simp [intOf]
        · have HN : Hid (gsP s m1 m2 m3 m4 3 = (4, 4)) := by
            show gsP s m1 m2 m3 m4 3 = (4, 4)
            simp [gsP, hp]
          unfold preB at hp
          simp only [Bool.and_eq_true, decide_eq_true_eq] at hp
          obtain ⟨hor, hor2⟩ := hp
          have ho : (m4.size : Int) ≤ s.size := by omega
          clear hor
          go_wp2_with fail
          refine (HR4.out _).mono ?_
          rintro e w6 ⟨rfl, hb6⟩
          have B6 := Lib.hid (HQ.out.trans (hb6.mono hqz))
          have hc6 : w6.cell? ⟨w1.heap.size, 1, none⟩ = some (.int .i64 4) := (B6.out.cell (p := ⟨w1.heap.size, 1, none⟩) hz2).trans HC1.out
          clear hb6 hc
          go_wp2_with fail
          go_roundw
          case rel => exact ⟨3, by rw [HN.out], by rw [HN.out, Z4.out], by go_num, by omega, B6.out⟩
          case measure => simp [intOf]
      · rw [show (3 : Int) - ((3 : Nat) : Int) = 0 from rfl]
        have hc : wr.cell? ⟨w1.heap.size, 0, none⟩ = some (.int .i64 3) := (HQ.out.cell (p := ⟨w1.heap.size, 0, none⟩) hz2).trans HC0.out
        obtain ⟨p1, hp1⟩ : ∃ p, (gsP s m1 m2 m3 m4 3).1 = p := ⟨_, rfl⟩
        obtain ⟨p2, hp2⟩ : ∃ p, (gsP s m1 m2 m3 m4 3).2 = p := ⟨_, rfl⟩
        rw [hp1, hp2]
        have P1 := Lib.hid hp1
        have P2 := Lib.hid hp2
        clear hp1 hp2
        rcases (Bool.eq_false_or_eq_true (preB s m3)).symm with hp | hp
        · have HN : Hid (gsP s m1 m2 m3 m4 4 = (p1, p2)) := by
            show gsP s m1 m2 m3 m4 4 = (p1, p2)
            rw [← P1.out, ← P2.out]
            simp [gsP, hp]
          have hor : s.size < m3.size ∨ (m3.size ≤ s.size ∧ ((s.extract 0 m3.size).toList == m3.toList) = false) := by
            unfold preB at hp
            simp only [Bool.and_eq_false_iff, decide_eq_false_iff_not] at hp
            by_cases hh : m3.size ≤ s.size
            · right
              rcases hp with hp | hp
              · exact absurd hh hp
              · exact ⟨hh, hp⟩
            · left; omega
          clear hp
          rcases hor with hor | ⟨hor, hor2⟩
          · have ho : ¬ (m3.size : Int) ≤ s.size := by omega
            clear hor
            go_wp2_with fail
            refine (HR3.out _).mono ?_
            rintro e w6 ⟨rfl, hb6⟩
            have B6 := Lib.hid (HQ.out.trans (hb6.mono hqz))
            clear hb6 hc
            go_wp2_with fail
            go_roundw
            case rel => exact ⟨4, by rw [HN.out], by rw [HN.out], by go_num, by omega, B6.out⟩
            case measure => simp [intOf]
          · have ho : (m3.size : Int) ≤ s.size := by omega
            clear hor
            go_wp2_with fail
            refine (HR3.out _).mono ?_
            rintro e w6 ⟨rfl, hb6⟩
            have B6 := Lib.hid (HQ.out.trans (hb6.mono hqz))
            clear hb6 hc
            go_wp2_with fail
            go_roundw
            case rel => exact ⟨4, by rw [HN.out], by rw [HN.out], by go_num, by omega, B6.out⟩
            case measure => simp [intOf]
        · have HN : Hid (gsP s m1 m2 m3 m4 4 = (3, 4)) := by
            show gsP s m1 m2 m3 m4 4 = (3, 4)
            simp [gsP, hp]
          unfold preB at hp
          simp only [Bool.and_eq_true, decide_eq_true_eq] at hp
          obtain ⟨hor, hor2⟩ := hp
          have ho : (m3.size : Int) ≤ s.size := by omega
          clear hor
          go_wp2_with fail
          refine (HR3.out _).mono ?_
          rintro e w6 ⟨rfl, hb6⟩
          have B6 := Lib.hid (HQ.out.trans (hb6.mono hqz))
          have hc6 : w6.cell? ⟨w1.heap.size, 0, none⟩ = some (.int .i64 3) := (B6.out.cell (p := ⟨w1.heap.size, 0, none⟩) hz2).trans HC0.out
          clear hb6 hc
          go_wp2_with fail
          go_roundw
          case rel => exact ⟨4, by rw [HN.out], by rw [HN.out, Z3.out], by go_num, by omega, B6.out⟩
          case measure => simp [intOf]
      · rw [show (3 : Int) - ((4 : Nat) : Int) = -1 from rfl, HGG.out]
        have BW := Lib.hid (B2.out.trans (HQ.out.mono B2.out.size))
        have e1 : (g1 != g1) = false := by simp
        have e2 : (g2 != g2) = false := by simp
        by_cases hk : 1 ≤ kd ∧ kd ≤ 4
        · obtain ⟨k, rfl⟩ : ∃ n : Nat, kd = n := ⟨kd.toNat, by omega⟩
          have k1 : 1 ≤ k := by omega
          have k4 : k ≤ 4 := by omega
          have HL := Lib.hid (bs_len s)
          go_wp2_with fail
          refine (cut_any k s _ (HFin.out _ BW.out) k1 k4 (by omega)).mono ?_
          rintro e w7 ⟨rfl, hb7⟩
          have B7 := Lib.hid (BW.out.trans (hb7.mono BW.out.size))
          clear hb7
          generalize hCC : cutK k (bs s) = CC
          have HCC := Lib.hid hCC
          clear hCC
          go_wp2_with fail
          refine (may_yes k _ (by omega) (by omega)).mono ?_
          rintro e w' ⟨rfl, rfl⟩
          go_wp2_with fail
          go_loop [14, 15] (fun i want => ∃ p C : Nat, i = .int .i64 p ∧ want = .int .i64 C ∧ p ≤ s.size ∧ Hid (CutR k (bs s) p C)) (fun i _ => s.size - (intOf i).toNat)
          case atStart => exact ⟨0, s.size, rfl, rfl, by omega, .inl ⟨HL.out.symm, by simp⟩⟩
          case round =>
            obtain ⟨p, C, rfl, rfl, hp, HK⟩ := hrel
            by_cases hlt : p < s.size
            · have hne : (bs s).drop p ≠ [] := by
                intro h
                have := congrArg List.length h
                rw [List.length_drop, bs_len] at this
                simp at this
                omega
              obtain ⟨r, e, n, hX, n1, n2, n3, n4, n5⟩ := nx_step k _ hne
              have HX := Lib.hid hX
              have N2 := Lib.hid n2
              rw [List.length_drop, bs_len] at n2
              clear hX hne n4
              have hlt' : (p : Int) < s.size := by omega
              by_cases he : e = 18
              · subst he
                have HR := Lib.hid (HK.out.more (by rw [HL.out]; exact hlt) HX.out (n5 rfl).1)
                clear n5
                go_wp2_with fail
                refine (rnext_from k s p _ k1 k4 (by omega) r 18 n HX.out).mono ?_
                rintro v w' ⟨rfl, rfl⟩
                go_wp2_with fail
                go_round
                case rel => exact ⟨p + n, p, by go_num, rfl, by omega, HR.out⟩
                case measure => simp [intOf]; omega
              · have hq : (e == 18) = false := by simpa using he
                have HR := Lib.hid (HK.out.next (by rw [HL.out]; exact hlt) HX.out he N2.out)
                clear he n5
                go_wp2_with fail
                refine (rnext_from k s p _ k1 k4 (by omega) r e n HX.out).mono ?_
                rintro v w' ⟨rfl, rfl⟩
                go_wp2_with fail
                go_round
                case rel => exact ⟨p + n, C, by go_num, rfl, by omega, HR.out⟩
                case measure => simp [intOf]; omega
            · obtain rfl : p = s.size := by omega
              have hlt' : ¬ ((s.size : Nat) : Int) < s.size := by omega
              have hcf : CC = C := by
                rw [← HCC.out]
                exact CutR.fin (by rw [HL.out]; exact HK.out)
              subst hcf
              have hwq : ((CC : Int) == (CC : Int)) = true := by simp
              go_wp2_with fail
              refine (awake_any _ (HFin.out _ B7.out)).mono ?_
              rintro e w9 ⟨rfl, hb9⟩
              have B9 := Lib.hid (B7.out.trans (hb9.mono B7.out.size))
              clear hb9
              go_wp2
              go_ret
              exact ⟨rfl, B9.out⟩
        · have HK := Lib.hid (show kd < 1 ∨ 4 < kd by omega)
          clear hk
          go_wp2_with fail
          refine (cut_no kd s _ HK.out).mono ?_
          rintro e w7 ⟨rfl, hb7⟩
          have B7 := Lib.hid (BW.out.trans (hb7.mono BW.out.size))
          clear hb7
          go_wp2_with fail
          refine (may_no kd _ HK.out).mono ?_
          rintro e w' ⟨rfl, rfl⟩
          go_wp2_with fail
          refine (awake_any _ (HFin.out _ B7.out)).mono ?_
          rintro e w9 ⟨rfl, hb9⟩
          have B9 := Lib.hid (B7.out.trans (hb9.mono B7.out.size))
          clear hb9
          go_wp2
          go_ret
          exact ⟨rfl, B9.out⟩
  · have hs' : (400 : Int) < s.size := by omega
    clear hs
    go_enter Tryd.func6, Tryd.ntmps6
    go_wp2_with fail
    refine (awake_any _ (HFin.out _ B0.out)).mono ?_
    rintro e w9 ⟨rfl, hb9⟩
    have B9 := Lib.hid (B0.out.trans (hb9.mono B0.out.size))
    clear hb9
    go_wp2
    go_ret
    exact ⟨rfl, B9.out⟩

set_option maxRecDepth 100000 in
theorem wideTells_lifted (os : Os) (started : os.Started) (H : Type) (enc : TypeId × Value → H) :
    ReturnsInHanded {} Tryd.checked os 6 .any (fun w args => (Rows.wideTellsSpec.pre enc Tryd.prog Tryd.f6 [] false w args ∧ laidMetH Tryd.prog laid1 w) ∧ sizedMet enc Tryd.prog Tryd.f6 (OpenSpec.ofChange Rows.wideTellsSpec) false w args)
      (Rows.wideTellsSpec.post enc Tryd.prog Tryd.f6 false true false false) := by
  refine returnsInHanded_of_change_and (C := Tryd.checked) (X := fun w _ => laidMetH Tryd.prog laid1 w) (fun _ _ _ hh h => h.of_heap hh) own started (by kernel_rfl) Tryd.func6
    (ChangeSpec.witness_shaped (enc := enc) (C := Tryd.checked) (os := os) (X := fun w _ => laidMetH Tryd.prog laid1 w) false (World.doorLaid Tryd.prog 400 os) #[.int .i64 0, .string ⟨#[]⟩] 8 rfl (World.shaped_of_RefB (by kernel_rfl) (by kernel_rfl)) (by kernel_rfl) (by kernel_rfl) (by kernel_rfl) (door_met os _)) ?_
  intro W base args ds gs before hval0 hW _ hsz hL _
  have hval : ∀ (j : Nat) t v, Tryd.f6.params[j]? = some t → args[j]? = some v → Value.okWide Tryd.prog W .any base t v := hval0
  have hW' := hW
  obtain ⟨p, q, hA0, hV, rfl, hfz, hnd⟩ := hW
  have hA : DataW.TrodAll enc Tryd.prog W 0 (fun _ => true) true Tryd.f6.params.toList args.toList ds p := hA0
  rw [Tryd.params6] at hA hval
  obtain ⟨v0, vs0, d0, ds0, p0, q0, hargs, rfl, rfl, h0, r0⟩ := trodAll_cons hA
  obtain ⟨v1, vs1, d1, ds1, p1, q1, rfl, rfl, rfl, h1, r1⟩ := trodAll_cons r0
  obtain ⟨rfl, rfl, rfl⟩ := trodAll_nil r1
  obtain rfl : args = #[v0, v1] := by cases args; simp_all
  obtain ⟨rfl, rfl⟩ := trodVars_none hV
  obtain ⟨a0, rfl, rfl, rfl, m0⟩ := open_int Tryd.underlying3 (hval 0 3 v0 rfl rfl) h0
  obtain ⟨s1, rfl, rfl, rfl, m1⟩ := open_string Tryd.underlying9 (hval 1 9 v1 rfl rfl) h1
  clear hA0 hval0
  refine (wideTells_walk a0 s1 W m0 m1 (of_laid hL)).mono fun e W' ⟨he, bel⟩ => ?_
  subst he
  exact ⟨_, rfl, _, _, _, [], _, [], hW', trodAll_mk1 (shut_bool Tryd.underlying4 _), (trodAll_cons_mk (shut_int Tryd.underlying3 m0) (trodAll_cons_mk (shut_string Tryd.underlying9 m1) trodAll_mk0)), rfl, bel.frame _, fun h => by cases h⟩

theorem wideTells_row : Rows.WideTellsSaid :=
  OpenClaim.holds_of_wide 6 Tryd.f6 rfl rfl rfl rfl rfl rfl rfl ⟨rfl, rfl, rfl, rfl, rfl⟩ rfl rfl rfl rfl rfl (by kernel_rfl) Tryd.func6 (by kernel_rfl)
    (of_decide_eq_true (by kernel_rfl)) (by unfold Func.isWrapper; first | (rw [if_pos (by decide +kernel)]; kernel_rfl) | (rw [if_neg (by decide +kernel)]; exact ⟨rfl, rfl⟩))
    (fun os started H enc _ => wideTells_lifted os started H enc)

theorem wideTells_holds : Rows.WideTellsCardSaid :=
  Claim7.holds_tied_plain_at .later [] [.data] true Rows.wideTellsCard.stood.harness false
    wideTells_row (fun _ h => by cases h) (by kernel_rfl) (fun _ h => by cases h) wideTells_row_tie rfl ⟨rfl, rfl⟩ (by kernel_rfl) rfl
    (fun f fn hf hfn => by
      obtain rfl : f = 6 := Option.some.inj ((show Tryd.prog.funcNamed Rows.wideTellsRow.func = some 6 by kernel_rfl).symm.trans hf) |>.symm
      obtain rfl : fn = Tryd.f6 := (Option.some.inj (Tryd.func6.symm.trans hfn)).symm
      exact ⟨by kernel_rfl, fun j t ht => by
        rw [Tryd.params6] at ht
        have hm : t ∈ [3, 9] := by simpa using Array.mem_of_getElem? ht
        have hall : ([3, 9].all fun u => !Tryd.prog.wantsStandIn u) = true := by kernel_rfl
        exact (show Tryd.prog.wantsStandIn t = false by simpa using List.all_eq_true.1 hall t hm)⟩)
    (by kernel_rfl)
#print axioms wideTells_holds
end Go.Proofs.YtohjkpdelopknaaDoor

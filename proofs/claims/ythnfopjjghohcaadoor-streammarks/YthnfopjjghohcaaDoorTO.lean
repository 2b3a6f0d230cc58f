import Derived.Test.YthnfopjjghohcaaDoorSN
import Derived.Test.YthnfopjjghohcaaDoorGC1
namespace Go.Proofs.YthnfopjjghohcaaDoor.St
open Go.RowKit

theorem aw1 : Dg.sure 5 2 true ([] ++ bs ⟨#[239, 187]⟩) = ([], [], 0) := by decide +kernel
theorem aw2 : Dg.sure 5 2 true ([239, 187] ++ bs ⟨#[191, 65, 195]⟩) = ([65], [], 0) := by decide +kernel
theorem aw3 : Dg.cut5 5 true [239, 187, 191, 65, 195] = 4 := by decide +kernel
theorem aw4 : Dg.whole 5 2 true [239, 187, 191, 65, 195] = ([65, 65533], [(4, 1)], 0) := by decide +kernel
set_option maxRecDepth 100000 in
set_option maxHeartbeats 2000000 in
theorem awake_any (w : World) (hT : Tabs w) : Calls Tryd.prog 9 #[] w fun e w' => e = .returned (.bool true) ∧ Below w.heap.size w w' := by
  have hpos := hT.pos
  have HT := Lib.hid hT
  have HN := Lib.hid (new_ok 5 2 true w hT (by omega) (by omega) (.inr (.inl rfl)))
  have HF1 := Lib.hid (fun B W (hF : Fed W w.heap.size B (.slice none 0 0) 5 2 true []) (hW : Tabs W) => (show Calls Tryd.prog 17 #[.pointer (some ⟨B, 0, none⟩), .slice (some ⟨W.heap.size, 0, none⟩) 1 1] (W.alloc (.cells #[.string ⟨#[239, 187]⟩] 9)) (fun e w' => ∃ fv' A c, e = .returned (.tuple #[.slice A 0 c, .int .i64 0]) ∧ Stp B W (.slice none 0 0) w' fv' ∧ Fed w' w.heap.size B fv' 5 2 true [239, 187]) from by
    refine (feed_one w.heap.size B _ 5 2 true [] ⟨#[239, 187]⟩ W hF hW hpos (by omega) (by omega) (.inr (.inl rfl)) (by decide)).mono ?_
    rintro e w' ⟨fv', v1, o, he, ho, hx, hs, hc⟩
    rw [aw1] at he hx hc
    have ho0 : o = [] := by
      have := (List.append_eq_nil_iff.1 hx).2
      exact this
    subst ho0
    obtain ⟨A, c, rfl, _⟩ := own_ints ho
    rcases hc with ⟨_, hc⟩ | ⟨hc, _⟩
    · exact ⟨fv', A, c, he, hs, hc⟩
    · exact absurd hc (by decide)))
  have HF2 := Lib.hid (fun B fv W (hF : Fed W w.heap.size B fv 5 2 true [239, 187]) (hW : Tabs W) => (show Calls Tryd.prog 17 #[.pointer (some ⟨B, 0, none⟩), .slice (some ⟨W.heap.size, 0, none⟩) 1 1] (W.alloc (.cells #[.string ⟨#[191, 65, 195]⟩] 9)) (fun e w' => ∃ fv' A c, e = .returned (.tuple #[.slice A 1 c, .int .i64 0]) ∧ w'.ownsRow W.heap.size 21 1 (.slice A 1 c) 1 (i32s [65]) ∧ Stp B W fv w' fv' ∧ Fed w' w.heap.size B fv' 5 2 true [239, 187, 191, 65, 195] ∧ Dc w' w.heap.size B fv' 5 ⟨#[195]⟩ (Dg.sure 5 2 true [239, 187, 191, 65, 195]).2.1 (Dg.sureK 5 true [239, 187, 191, 65, 195]) 2 (true && Dg.und [239, 187, 191, 65, 195]) false) from by
    refine (feed_one w.heap.size B fv 5 2 true [239, 187] ⟨#[191, 65, 195]⟩ W hF hW hpos (by omega) (by omega) (.inr (.inl rfl)) (by decide)).mono ?_
    rintro e w' ⟨fv', v1, o, he, ho, hx, hs, hc⟩
    rw [aw2] at he hx hc
    have ho0 : o = [65] := by
      have h0 : (Dg.sure 5 2 true [239, 187]).1 = [] := by have := aw1; exact congrArg (·.1) this
      rw [h0] at hx
      exact hx
    subst ho0
    obtain ⟨A, c, rfl, _⟩ := own_ints ho
    rcases hc with ⟨_, hc⟩ | ⟨hc, _⟩
    · have hc' : Fed w' w.heap.size B fv' 5 2 true [239, 187, 191, 65, 195] := hc
      have hF' := hc'
      obtain ⟨wt, hwt, _, hD⟩ := hc'
      rw [aw3] at hwt
      have hw2 : wt = ⟨#[195]⟩ := bs_inj (by rw [hwt]; rfl)
      subst hw2
      exact ⟨fv', A, c, he, ho, hs, hF', hD⟩
    · exact absurd hc (by decide)))
  have HC := Lib.hid (fun B fv W (hF : Fed W w.heap.size B fv 5 2 true [239, 187, 191, 65, 195]) (hW : Tabs W) => (show Calls Tryd.prog 22 #[.pointer (some ⟨B, 0, none⟩)] W (fun e w' => ∃ fv' A c, e = .returned (.tuple #[.slice A 1 c, .int .i64 0]) ∧ Ints .i32 w' A [65533] ∧ Stp B W fv w' fv') from by
    refine (close_fed w.heap.size B fv 5 2 true _ W hF hW hpos (by omega) (by omega) (.inr (.inl rfl)) (by decide)).mono ?_
    rintro e w' ⟨fv', v1, o, he, ho, hx, hs, _⟩
    rw [aw4] at he hx
    have ho0 : o = [65533] := by
      have h0 : (Dg.sure 5 2 true [239, 187, 191, 65, 195]).1 = [65] := by have := aw2; exact congrArg (·.1) this
      rw [h0] at hx
      simpa using hx
    subst ho0
    obtain ⟨A, c, rfl, hI⟩ := own_ints ho
    exact ⟨fv', A, c, he, hI, hs⟩))
  clear hT
  go_enter Tryd.func9, Tryd.ntmps9
  go_wp2_with (go_at_call 15; refine HN.out.mono ?_; rintro e w1 ⟨B, rfl, hd1, hb1⟩; have F1 := Lib.hid (Fed.start hd1); have B1 := Lib.hid hb1; clear hd1 hb1)
  refine (HF1.out B _ F1.out (HT.out.below B1.out hpos)).mono ?_
  rintro e w2 ⟨fv2, A2, c2, rfl, hs2, hf2⟩
  have F2 := Lib.hid hf2
  have B2 := Lib.hid (B1.out.trans (F1.out.belowS hs2))
  clear hs2 hf2
  go_wp2_with fail
  refine (HF2.out B fv2 _ F2.out (HT.out.below B2.out hpos)).mono ?_
  rintro e w3 ⟨fv3, A3, c3, rfl, ho3, hs3, hf3, hd3⟩
  have F3 := Lib.hid hf3
  have D3 := Lib.hid hd3
  have O3 := Lib.hid ho3
  have B3 := Lib.hid (B2.out.trans (F2.out.belowS hs3))
  clear ho3 hs3 hf3 hd3
  go_wp2_with (go_at_call 20; refine (waits_any _ _ _ _ _ _ _ _ _ _ _ D3.out).mono ?_; rintro e w' ⟨rfl, rfl⟩)
  refine (HC.out B fv3 _ F3.out (HT.out.below B3.out hpos)).mono ?_
  rintro e w4 ⟨fv4, A4, c4, rfl, hi4, hs4⟩
  have O4 := Lib.hid (F3.out.keep hs4 O3.out (by decide) (by decide))
  obtain ⟨A3', c3', hA, hi3⟩ := own_ints O4.out
  have hA' : A3' = A3 := by injection hA with h1 _ _; exact h1.symm
  subst hA'
  have I4 := Lib.hid hi4
  have I3 := Lib.hid hi3
  have B4 := Lib.hid (B3.out.trans (F3.out.belowS hs4))
  have z4 := B4.out.size
  clear hi4 hs4 hi3 hA
  go_wp2_with fail
  refine (runes_any A3' (some ⟨w4.heap.size, 0, none⟩) c3 1 [65] [65] _ (I3.out.below ((Below.refl _ _).alloc (Nat.le_refl _) _)) (ints_new .i32 [65] 21 w4) (by simp) (by simp)).mono ?_
  rintro e w5 ⟨rfl, hb5⟩
  rw [show decide (([65] : List Int) = [65]) = true from by decide]
  have b45 : Below w4.heap.size w4 w5 := ((Below.refl _ _).alloc (Nat.le_refl _) (.cells #[.int .i32 65] 21)).trans (hb5.mono (by simp))
  have I5 := Lib.hid (I4.out.below b45)
  have B5 := Lib.hid (B4.out.trans (b45.mono z4))
  have z5 := B5.out.size
  clear hb5 b45
  go_wp2_with fail
  refine (runes_any A4 (some ⟨w5.heap.size, 0, none⟩) c4 1 [65533] [65533] _ (I5.out.below ((Below.refl _ _).alloc (Nat.le_refl _) _)) (ints_new .i32 [65533] 21 w5) (by simp) (by simp)).mono ?_
  rintro e w6 ⟨rfl, hb6⟩
  rw [show decide (([65533] : List Int) = [65533]) = true from by decide]
  have b56 : Below w5.heap.size w5 w6 := ((Below.refl _ _).alloc (Nat.le_refl _) (.cells #[.int .i32 65533] 21)).trans (hb6.mono (by simp))
  have B6 := Lib.hid (B5.out.trans (b56.mono z5))
  clear hb6 b56
  go_wp2
  go_ret
  exact ⟨rfl, B6.out⟩
def fewB (l : List ByteArray) : Bool := decide (l.length ≤ 20) && l.all fun s => decide (s.size ≤ 60)
theorem fewB_yes {l : List ByteArray} (h : fewB l = true) : l.length ≤ 20 ∧ ∀ s ∈ l, s.size ≤ 60 := by
  simpa [fewB] using h
set_option maxRecDepth 100000 in
set_option maxHeartbeats 1000000 in
theorem few_any (A : Option Addr) (c : Nat) (xs : List ByteArray) (w : World) (hx : Strs w A c xs) (hn : xs.length ≤ 8796093022208) (hs : ∀ s ∈ xs, s.size ≤ 9223372036854775807) :
    Calls Tryd.prog 16 #[.slice A xs.length c] w fun e w' => e = .returned (.bool (fewB xs)) ∧ Below w.heap.size w w' := by
  have HX := Lib.hid hx
  have HS := Lib.hid hs
  clear hx hs
  go_enter Tryd.func16, Tryd.ntmps16
  go_wp2_with fail
  go_loopw [3] (fun i wr => ∃ q : Nat, i = .int .i64 q ∧ q ≤ xs.length ∧ Hid (Below w.heap.size w wr ∧ ∀ s ∈ xs.take q, s.size ≤ 60)) (fun i _ => xs.length - (intOf i).toNat)
  case atStart => exact ⟨0, rfl, by omega, Below.refl _ _, by simp⟩
  case round =>
    obtain ⟨q, rfl, hq, HR⟩ := hrel
    by_cases hlt : q < xs.length
    · have hlt' : (q : Int) < xs.length := by omega
      have hxx := HX.out.below (HR.out.1)
      rcases hxx with hxx | ⟨bk, off, rfl, hbk, hxc, hcell⟩
      · rw [hxx] at hlt; simp at hlt
      obtain ⟨s, hs⟩ : ∃ s, xs[q] = s := ⟨_, rfl⟩
      have kc := hcell q s (by rw [List.getElem?_eq_getElem hlt, hs])
      have HSq := Lib.hid hs
      have hsm : s.size ≤ 9223372036854775807 := HS.out s (by rw [← hs]; exact List.getElem_mem hlt)
      clear hcell hs
      by_cases h60 : s.size ≤ 60
      · have h60' : ¬ (60 : Int) < s.size := by omega
        go_wp2_with fail
        go_roundw
        case rel => exact ⟨q + 1, by go_num, by omega, HR.out.1, fun t ht => by
          rw [List.take_succ_eq_append_getElem hlt, HSq.out] at ht
          rcases List.mem_append.1 ht with h | h
          · exact HR.out.2 t h
          · simp at h; subst h; exact h60⟩
        case measure => simp [intOf]; omega
      · have h60' : (60 : Int) < s.size := by omega
        go_wp2
        go_ret
        refine ⟨ret_bool ?_, HR.out.1⟩
        have : ¬ fewB xs = true := fun h => h60 ((fewB_yes h).2 s (by rw [← HSq.out]; exact List.getElem_mem hlt))
        simpa using this
    · have hlt' : ¬ (q : Int) < xs.length := by omega
      have HA : Hid (∀ s ∈ xs, s.size ≤ 60) := by
        have := HR.out.2
        rw [List.take_of_length_le (by omega)] at this
        exact this
      by_cases h20 : xs.length ≤ 20
      · have h20' : (xs.length : Int) ≤ 20 := by omega
        go_wp2
        go_ret
        refine ⟨ret_bool ?_, HR.out.1⟩
        simp [fewB, h20]
        exact HA.out
      · have h20' : ¬ (xs.length : Int) ≤ 20 := by omega
        go_wp2
        go_ret
        refine ⟨ret_bool ?_, HR.out.1⟩
        simp [fewB, h20]
end Go.Proofs.YthnfopjjghohcaaDoor.St

import Derived.Test.YtajhgbcgbgpcjaaDoorHA
import Derived.Test.YtajhgbcgbgpcjaaDoorFL
namespace Go.Proofs.YtajhgbcgbgpcjaaDoor.Uc
open Go.RowKit Fi

set_option maxHeartbeats 1000000 in
theorem cnan_any (x : Int) (w : World) : Calls Tryd.prog 74 #[.int .i32 x] w fun e w' => e = .returned (.bool false) ∧ w = w' := by
  go_enter Tryd.func74, Tryd.ntmps74
  go_wp2
  go_ret
  exact ⟨ret_bool (by simp), rfl⟩
set_option maxHeartbeats 1000000 in
theorem snan_any (x : Int) (w : World) : Calls Tryd.prog 52 #[.int .i32 x] w fun e w' => e = .returned (.bool false) ∧ w = w' := by
  go_enter Tryd.func52, Tryd.ntmps52
  go_wp2
  go_ret
  exact ⟨ret_bool (by simp), rfl⟩
set_option maxHeartbeats 1000000 in
theorem less_any (x y : Int) (w : World) : Calls Tryd.prog 51 #[.int .i32 x, .int .i32 y] w fun e w' => e = .returned (.bool (decide (x < y))) ∧ w = w' := by
  go_enter Tryd.func51, Tryd.ntmps51
  go_wp2_with (go_at_call 74; refine (cnan_any _ _).mono ?_; rintro e w' ⟨rfl, rfl⟩)
  go_ret
  exact ⟨rfl, rfl⟩

theorem cnt_at {s : List Int} {x : Int} {i : Nat} (hi : i ≤ s.length) (h1 : ∀ k, k < i → s.getD k 0 < x) (h2 : ∀ k, i ≤ k → k < s.length → x ≤ s.getD k 0) : cnt s x = i := by
  refine cnt_of hi (fun k hk hki => ?_) (fun k hk hki => ?_)
  · have := h1 k hki
    simpa [List.getD, List.getElem?_eq_getElem hk] using this
  · have := h2 k hki hk
    simpa [List.getD, List.getElem?_eq_getElem hk] using this
theorem rise_at {s : List Int} (h : s.Pairwise (· < ·)) (a b : Nat) (hab : a ≤ b) (hb : b < s.length) : s.getD a 0 ≤ s.getD b 0 := by
  have ha : a < s.length := by omega
  simp only [List.getD, List.getElem?_eq_getElem ha, List.getElem?_eq_getElem hb, Option.getD_some]
  by_cases e : a = b
  · subst e; exact Int.le_refl _
  · have := List.pairwise_iff_getElem.1 h a b ha hb (by omega)
    omega
def SeP (w : World) (n : Nat) (e : Ending) (w' : World) : Prop := ∃ b, e = .returned (.tuple #[.int .i64 (n : Int), .bool b]) ∧ Below w.heap.size w w'
set_option maxHeartbeats 4000000 in
set_option maxRecDepth 100000 in
theorem search_some (b off c : Nat) (s : List Int) (x : Int) (w : World) (hl : Ints .i32 w (some ⟨b, off, none⟩) s) (hz : s.length ≤ 10000) (hr : s.Pairwise (· < ·)) :
    Calls Tryd.prog 28 #[.slice (some ⟨b, off, none⟩) s.length c, .int .i32 x] w (SeP w (cnt s x)) := by
  have hc : ∀ j, j < s.length → w.cell? ⟨b, off + j, none⟩ = some (.int .i32 (s.getD j 0)) := fun j hj => by
    obtain ⟨b', off', e, _, h⟩ := hl j hj
    cases e
    exact h
  have HC := Lib.hid hc
  have S := Lib.hid (rise_at hr)
  have HF := Lib.hid (fun (i : Nat) (hi : i ≤ s.length) (h1 : ∀ k, k < i → s.getD k 0 < x) (h2 : ∀ k, i ≤ k → k < s.length → x ≤ s.getD k 0) => cnt_at hi h1 h2)
  clear hc hl hr
  obtain ⟨n, hn⟩ : ∃ n, n = s.length := ⟨_, rfl⟩
  rw [← hn] at hz HC S HF ⊢
  clear hn
  generalize cnt s x = ct at *
  go_enter Tryd.func28, Tryd.ntmps28
  go_wp2_with fail
  go_loopw [7, 8] (fun s7 s8 wr => ∃ lo hi : Nat, s7 = .int .i64 lo ∧ s8 = .int .i64 hi ∧ lo ≤ hi ∧ hi ≤ n ∧ wr = w ∧ Hid ((∀ t, t < lo → s.getD t 0 < x) ∧ (∀ t, hi ≤ t → t < n → x ≤ s.getD t 0))) (fun s7 s8 _ => (intOf s8).toNat - (intOf s7).toNat)
  case atStart => exact ⟨0, n, rfl, rfl, Nat.zero_le _, Nat.le_refl _, rfl, fun t ht => absurd ht (Nat.not_lt_zero _), fun t h1 h2 => by omega⟩
  case round =>
    obtain ⟨lo, hi, rfl, rfl, hlh, hin, rfl, I⟩ := hrel
    by_cases hlt : lo < hi
    · have cm := HC.out ((lo + hi) / 2) (by omega)
      generalize hy : s.getD ((lo + hi) / 2) 0 = y at cm
      have Y := Lib.hid hy
      clear hy
      by_cases hyx : y < x
      · go_wp2_with (go_at_call 51; refine (less_any _ _ _).mono ?_; rintro e w' ⟨rfl, rfl⟩)
        go_roundw
        case measure => simp [intOf]; omega
        case rel =>
          refine ⟨(lo + hi) / 2 + 1, hi, by go_num, rfl, by omega, hin, trivial, fun t ht => ?_, I.out.2⟩
          have := S.out t ((lo + hi) / 2) (by omega) (by omega)
          rw [Y.out] at this
          omega
      · go_wp2_with (go_at_call 51; refine (less_any _ _ _).mono ?_; rintro e w' ⟨rfl, rfl⟩)
        go_roundw
        case measure => simp [intOf]; omega
        case rel =>
          refine ⟨lo, (lo + hi) / 2, rfl, by go_num, by omega, by omega, trivial, I.out.1, fun t h1 h2 => ?_⟩
          have := S.out ((lo + hi) / 2) t h1 h2
          rw [Y.out] at this
          omega
    · obtain rfl : lo = hi := by omega
      have E := HF.out lo hin I.out.1 I.out.2
      subst E
      by_cases hn : ct < n
      · have cm := HC.out ct hn
        generalize s.getD ct 0 = y at cm
        go_wp2_with (go_at_call 52; refine (snan_any _ _).mono ?_; rintro e w' ⟨rfl, rfl⟩)
        all_goals (go_ret2; exact ⟨_, rfl, Below.refl _ _⟩)
      · go_wp2_with fail
        all_goals (go_ret2; exact ⟨_, rfl, Below.refl _ _⟩)
set_option maxHeartbeats 4000000 in
set_option maxRecDepth 100000 in
theorem search_none (A : Option Addr) (c : Nat) (x : Int) (w : World) :
    Calls Tryd.prog 28 #[.slice A 0 c, .int .i32 x] w (SeP w 0) := by
  go_enter Tryd.func28, Tryd.ntmps28
  go_wp2_with fail
  go_loopw [7, 8] (fun s7 s8 wr => s7 = .int .i64 0 ∧ s8 = .int .i64 0 ∧ wr = w) (fun _ _ _ => 0)
  case atStart => exact ⟨rfl, rfl, rfl⟩
  case round =>
    obtain ⟨rfl, rfl, rfl⟩ := hrel
    go_wp2_with fail
    go_ret2
    exact ⟨_, rfl, Below.refl _ _⟩
theorem search_any (A : Option Addr) (c : Nat) (s : List Int) (x : Int) (w : World) (hl : Ints .i32 w A s) (hz : s.length ≤ 10000) (hr : s.Pairwise (· < ·)) :
    Calls Tryd.prog 28 #[.slice A s.length c, .int .i32 x] w (SeP w (cnt s x)) := by
  cases s with
  | nil => exact search_none A c x w
  | cons y s =>
    obtain ⟨b, off, rfl, _⟩ := hl 0 (by simp)
    exact search_some b off c (y :: s) x w hl hz hr

end Go.Proofs.YtajhgbcgbgpcjaaDoor.Uc

import Derived.Test.YtfjckdjnnbpcnaaTC
namespace Go.Proofs.Ytfjckdjnnbpcnaa.Tr
open Go.RowKit

theorem bel_drewN {a w : World} {B : Nat} (h : Below B a w) (n : Nat) : Below B a (w.drewN n) := ⟨h.os, h.tape, h.output, h.size, h.block⟩
theorem getL_take {nn r : Int} {L : List Sp} {j : Nat} (h : j < L.length) : getL nn (L.take (j + 1)) r = if inS L[j] r then (L[j]).2.2 else getL nn (L.take j) r := by
  rw [List.take_succ_eq_append_getElem h, getL_snoc]

set_option maxHeartbeats 4000000 in
set_option maxRecDepth 100000 in
theorem rget_any (w : World) (base X : Nat) (nn : Int) (L : List Sp) (r : Int) (h : Rt w base X nn L) (hL : L.length ≤ 1000) :
    Calls Try.prog 35 #[.pointer (some ⟨X, 0, none⟩), .int .i32 r] w
      fun e w' => e = .returned (.int .i64 (getL nn L r)) ∧ w = w' := by
  obtain ⟨v, hb, ho⟩ := h.blk
  obtain ⟨A, c, rfl, hs⟩ := own_sps ho
  have HS := Lib.hid hs
  have c0 := hb.c (i := 0) rfl
  have c1 := hb.c (i := 1) rfl
  clear hb ho hs h
  go_enter Try.func35, Try.ntmps35
  go_wp2_with fail
  go_loopw [5] (fun i wr => ∃ k : Nat, i = .int .i64 ((k : Int) - 1) ∧ k ≤ L.length ∧ wr = w ∧ Hid (getL nn L r = getL nn (L.take k) r)) (fun i _ => (intOf i + 1).toNat)
  case atStart => exact ⟨L.length, by go_num, Nat.le_refl _, rfl, (by show getL nn L r = _; rw [List.take_length])⟩
  case round =>
    obtain ⟨k, rfl, hk, rfl, HQ⟩ := hrel
    cases k with
    | zero =>
      go_wp2_with fail
      go_ret
      exact ⟨by rw [HQ.out]; rfl, rfl⟩
    | succ j =>
      have e1 : ((j + 1 : Nat) : Int) - 1 = (j : Int) := by omega
      simp only [e1]
      obtain ⟨b, off, rfl, hbl, p0, p1, p2⟩ := HS.out j (by omega)
      have hn := getL_take (nn := nn) (r := r) (L := L) (j := j) (by omega)
      generalize L[j] = y at *
      obtain ⟨f, t, u⟩ := y
      simp only at p0 p1 p2 hn
      have HN := Lib.hid hn
      have g2 : (j : Int) < L.length := by omega
      clear hn e1
      by_cases h1 : f ≤ r
      · by_cases h2 : r ≤ t
        · go_wp2_with fail
          go_ret
          exact ⟨by rw [HQ.out, HN.out, if_pos (by simp [inS, h1, h2])]; rfl, rfl⟩
        · go_wp2_with fail
          go_roundw
          case rel => exact ⟨j, by go_num, by omega, trivial, (by show getL nn L r = _; rw [HQ.out, HN.out, if_neg (by simp [inS, h2])])⟩
          case measure => simp [intOf] <;> omega
      · go_wp2_with fail
        go_roundw
        case rel => exact ⟨j, by go_num, by omega, trivial, (by show getL nn L r = _; rw [HQ.out, HN.out, if_neg (by simp [inS, h1])])⟩
        case measure => simp [intOf] <;> omega

set_option maxHeartbeats 4000000 in
set_option maxRecDepth 100000 in
theorem at_any (w : World) (base X : Nat) (nn : Int) (L : List Sp) (r : Int) (h : Rt w base X nn L) (hL : L.length ≤ 1000) (hok : ∀ s ∈ L, okS s = true) :
    Calls Try.prog 30 #[.pointer (some ⟨X, 0, none⟩), .int .i32 r] w
      fun e w' => e = .returned (.int .i64 (getL nn L r)) ∧ w = w' := by
  obtain ⟨v, hb, ho⟩ := h.blk
  have c0 := hb.c (i := 0) rfl
  have HG := Lib.hid (rget_any w base X nn L r h hL)
  have out : r < 0 ∨ 1114111 < r → getL nn L r = nn := fun hr => by
    exact getL_out fun s hs => by
      have h9 := hok s hs
      simp only [okS, Bool.not_eq_true', Bool.or_eq_false_iff, decide_eq_false_iff_not] at h9
      simp [inS]
      omega
  clear hb ho h hok
  by_cases h1 : r < 0
  · have ho := Lib.hid (out (.inl h1))
    clear out
    go_enter Try.func30, Try.ntmps30
    go_wp2_with fail
    go_ret
    exact ⟨by rw [ho.out]; rfl, rfl⟩
  · by_cases h2 : 1114111 < r
    · have ho := Lib.hid (out (.inr h2))
      clear out
      go_enter Try.func30, Try.ntmps30
      go_wp2_with fail
      go_ret
      exact ⟨by rw [ho.out]; rfl, rfl⟩
    · clear out
      go_enter Try.func30, Try.ntmps30
      go_wp2_with (go_at_call 35; refine HG.out.mono ?_; rintro e w' ⟨rfl, rfl⟩)
      go_ret
      exact ⟨rfl, rfl⟩

end Go.Proofs.Ytfjckdjnnbpcnaa.Tr

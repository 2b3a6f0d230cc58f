import Derived.Test.YtfjckdjnnbpcnaaZA
import Derived.IntWalk
namespace Go.Proofs.Ytfjckdjnnbpcnaa.So
open Go.RowKit Go.Sort Tr
variable {w0 w : World} {g : Nat} {pf sp : List Value} {d : Array Int}

/-! order2, median, medianAdjacent, choosePivot: they write nothing but a counter of the call's own: which of the places comes out is left open. -/
structure Two (w w' : World) (B : Nat) : Prop where
  b : ∃ k : Int, 0 ≤ k ∧ k ≤ 1000000 ∧ Bk w' B [.int .i64 k] 3
  mv : Mv (· = B) (· = B) w w'
/-- The counter, told by a number. -/
def Cnt (w : World) (B : Nat) (k : Int) : Prop := Bk w B [.int .i64 k] 3
set_option maxHeartbeats 4000000 in
set_option maxRecDepth 100000 in
theorem order2_any (cap x y B : Nat) (k : Int) (h : SR w0 w g pf sp d) (hx : x < d.size) (hy : y < d.size) (hsz : d.size ≤ 100000) (hB : Bk w B [.int .i64 k] 3) (hk : 0 ≤ k) (hk2 : k ≤ 1000) (_hBg : B ≠ g) :
    Calls Try.prog 79 #[.slice (some ⟨g, pf.length, none⟩) d.size cap, .int .i64 x, .int .i64 y, .pointer (some ⟨B, 0, none⟩)] w fun e w' =>
      ∃ (p q : Nat) (k' : Int), e = .returned (.tuple #[.int .i64 p, .int .i64 q]) ∧ ((p = x ∧ q = y) ∨ (p = y ∧ q = x)) ∧ 0 ≤ k' ∧ k' ≤ k + 1 ∧ Bk w' B [.int .i64 k'] 3 ∧ Mv (· = B) (· = B) w w' := by
  obtain ⟨n, hn⟩ : ∃ n, n = d.size := ⟨_, rfl⟩
  obtain ⟨off, hoff⟩ : ∃ off, off = pf.length := ⟨_, rfl⟩
  rw [← hn, ← hoff]
  rw [← hn] at hx hy hsz
  have HN := Lib.hid hn
  have HF := Lib.hid hoff
  have HR := Lib.hid h
  clear hn hoff h
  obtain ⟨G, hG⟩ : ∃ G : Nat → Int, ∀ t, G t = d[t]! := ⟨fun t => d[t]!, fun _ => rfl⟩
  have hcw : ∀ t, t < n → w.cell? ⟨g, off + t, none⟩ = some (.int .i32 (G t)) := fun t ht => by rw [hG, HF.out]; exact HR.out.cell t (by rw [← HN.out]; exact ht)
  have hb0 := hB.c (i := 0) rfl
  have hbf := hB.fr 0
  have HB := Lib.hid hB
  clear hG hB
  have qx : IntKind.i64.wrap (x : Int) = x := IntWalk.i64_in _ (by omega)
  have qy : IntKind.i64.wrap (y : Int) = y := IntWalk.i64_in _ (by omega)
  go_enter Try.func79, Try.ntmps79
  go_wp2_with fail
  go_quiet (first | (go_at_call 68; refine Calls.quiet_of_same (less_any _ _ _)))
  go_wp2_with fail
  · go_ret2
    exact ⟨y, x, k + 1, rfl, .inr ⟨rfl, rfl⟩, by omega, by omega, (HB.out.drew _).set 0 _, ((Mv.refl _ _).drew _).set _ _⟩
  · go_ret2
    exact ⟨x, y, k, rfl, .inl ⟨rfl, rfl⟩, by omega, by omega, HB.out.drew _, (Mv.refl _ _).drew _⟩

set_option maxHeartbeats 4000000 in
set_option maxRecDepth 100000 in
theorem median_any (cap x y z B : Nat) (k : Int) (h : SR w0 w g pf sp d) (hx : x < d.size) (hy : y < d.size) (hz : z < d.size) (hsz : d.size ≤ 100000) (hB : Bk w B [.int .i64 k] 3) (hk : 0 ≤ k) (hk2 : k ≤ 900) (hBg : B ≠ g) (hBn : w0.heap.size ≤ B) :
    Calls Try.prog 77 #[.slice (some ⟨g, pf.length, none⟩) d.size cap, .int .i64 x, .int .i64 y, .int .i64 z, .pointer (some ⟨B, 0, none⟩)] w fun e w' =>
      ∃ (p : Nat) (k' : Int), e = .returned (.int .i64 p) ∧ (p = x ∨ p = y ∨ p = z) ∧ 0 ≤ k' ∧ k' ≤ k + 3 ∧ Bk w' B [.int .i64 k'] 3 ∧ Mv (· = B) (· = B) w w' ∧ SR w0 w' g pf sp d := by
  have keepR : ∀ {u u' : World}, SR w0 u g pf sp d → Mv (· = B) (· = B) u u' → SR w0 u' g pf sp d := fun {u u'} hu hm =>
    ⟨hu.blk.on (hm.keep g hu.lt (fun e => hBg e.symm)), hm.os.trans hu.mv.os, hm.tape.trans hu.mv.tape, hm.output.trans hu.mv.output, Nat.le_trans hu.mv.size hm.size, fun j hj hF => (hm.keep j (Nat.lt_of_lt_of_le hj hu.mv.size) (by omega)).trans (hu.mv.keep j hj hF), hu.mv.fp⟩
  have HR := Lib.hid h
  have HB := Lib.hid hB
  have KR := @keepR
  clear h hB keepR
  go_enter Try.func77, Try.ntmps77
  go_wp2_with fail
  refine (order2_any cap x y B k HR.out hx hy hsz HB.out hk (by omega) hBg).mono ?_
  rintro e w1 ⟨p1, q1, k1, rfl, ho1, hk1a, hk1b, hB1, hm1⟩
  have B1 := Lib.hid hB1
  have M1 := Lib.hid hm1
  have R1 := Lib.hid (KR HR.out hm1)
  clear hB1 hm1
  go_wp2_with fail
  refine (order2_any cap q1 z B k1 R1.out (by omega) hz hsz B1.out hk1a (by omega) hBg).mono ?_
  rintro e w2 ⟨p2, q2, k2, rfl, ho2, hk2a, hk2b, hB2, hm2⟩
  have B2 := Lib.hid hB2
  have M2 := Lib.hid (M1.out.trans hm2)
  have R2 := Lib.hid (KR R1.out hm2)
  clear hB2 hm2
  go_wp2_with fail
  refine (order2_any cap p1 p2 B k2 R2.out (by omega) (by omega) hsz B2.out hk2a (by omega) hBg).mono ?_
  rintro e w3 ⟨p3, q3, k3, rfl, ho3, hk3a, hk3b, hB3, hm3⟩
  have B3 := Lib.hid hB3
  have M3 := Lib.hid (M2.out.trans hm3)
  have R3 := Lib.hid (KR R2.out hm3)
  clear hB3 hm3
  go_wp2_with fail
  go_ret
  exact ⟨q3, k3, rfl, by omega, hk3a, by omega, B3.out, M3.out, R3.out⟩
set_option maxHeartbeats 4000000 in
set_option maxRecDepth 100000 in
theorem medianAdj_any (cap x B : Nat) (k : Int) (h : SR w0 w g pf sp d) (hx0 : 1 ≤ x) (hx : x + 1 < d.size) (hsz : d.size ≤ 100000) (hB : Bk w B [.int .i64 k] 3) (hk : 0 ≤ k) (hk2 : k ≤ 900) (hBg : B ≠ g) (hBn : w0.heap.size ≤ B) :
    Calls Try.prog 76 #[.slice (some ⟨g, pf.length, none⟩) d.size cap, .int .i64 x, .pointer (some ⟨B, 0, none⟩)] w fun e w' =>
      ∃ (p : Nat) (k' : Int), e = .returned (.int .i64 p) ∧ (x ≤ p + 1 ∧ p ≤ x + 1) ∧ 0 ≤ k' ∧ k' ≤ k + 3 ∧ Bk w' B [.int .i64 k'] 3 ∧ Mv (· = B) (· = B) w w' ∧ SR w0 w' g pf sp d := by
  obtain ⟨a, ha⟩ : ∃ a, x = a + 1 := ⟨x - 1, by omega⟩
  subst ha
  have e1 : ((a + 1 : Nat) : Int) - 1 = a := by omega
  have e2 : ((a + 1 : Nat) : Int) + 1 = ((a + 2 : Nat) : Int) := by omega
  have HM := Lib.hid (median_any cap a (a + 1) (a + 2) B k h (by omega) (by omega) (by omega) hsz hB hk hk2 hBg hBn)
  clear h hB
  go_enter Try.func76, Try.ntmps76
  go_wp2_with fail
  refine HM.out.mono ?_
  rintro e w3 ⟨p, k', rfl, hp, hka, hkb, hB3, hm3, hs3⟩
  have Q := Lib.hid (And.intro hB3 (And.intro hm3 hs3))
  clear hB3 hm3 hs3
  go_wp2_with fail
  go_ret
  exact ⟨p, k', rfl, by omega, hka, hkb, Q.out⟩
/-- A place within, and a hint: which ones is left open. -/
def PivE (a b : Nat) (e : Ending) : Prop := ∃ (p : Nat) (hh : Int), e = .returned (.tuple #[.int .i64 p, .int .i64 hh]) ∧ a ≤ p ∧ p < b ∧ (hh = 0 ∨ hh = 1 ∨ hh = 2)
set_option maxHeartbeats 8000000 in
set_option maxRecDepth 100000 in
theorem pivot_any (cap a b : Nat) (h : SR w0 w g pf sp d) (hab : a + 12 < b) (hb : b ≤ d.size) (hsz : d.size ≤ 100000) :
    Calls Try.prog 65 #[.slice (some ⟨g, pf.length, none⟩) d.size cap, .int .i64 a, .int .i64 b] w fun e w' =>
      PivE a b e ∧ SR w0 w' g pf sp d := by
  obtain ⟨l, hl⟩ : ∃ l, l = b - a := ⟨_, rfl⟩
  have hlI : (b : Int) - a = l := by omega
  obtain ⟨q, hq⟩ : ∃ q, q = l / 4 := ⟨_, rfl⟩
  have hqI : (l : Int) / 4 = q := by omega
  obtain ⟨i, hi⟩ : ∃ i, i = a + q := ⟨_, rfl⟩
  obtain ⟨j, hj⟩ : ∃ j, j = a + q * 2 := ⟨_, rfl⟩
  obtain ⟨k, hk⟩ : ∃ k, k = a + q * 3 := ⟨_, rfl⟩
  have hiI : (a : Int) + q = i := by omega
  have hjI : (a : Int) + q * 2 = j := by omega
  have hkI : (a : Int) + q * 3 = k := by omega
  have hl13 : (13 : Int) ≤ l := by omega
  have hlb : l ≤ 100000 := by omega
  have hqb : q ≤ 100000 := by omega
  have B1 : a ≤ i ∧ i < b ∧ a ≤ j ∧ j < b ∧ a ≤ k ∧ k < b ∧ k ≤ 200000 := by omega
  obtain ⟨bi0, bi1, bj0, bj1, bk0, bk1, bk2⟩ := B1
  have B2 : 50 ≤ l → a + 1 ≤ i ∧ i + 1 < b ∧ a + 1 ≤ j ∧ j + 1 < b ∧ a + 1 ≤ k ∧ k + 1 < b := by omega
  clear hl hq hi hj hk
  have h0l := h.lt
  have hsz0 := h.mv.size
  have HR := Lib.hid (h.grow ((Below.refl _ w).alloc (Nat.le_refl _) (.cells #[.int .i64 0] 3)))
  have HB : Hid (Bk (w.alloc (.cells #[.int .i64 0] 3)) w.heap.size [.int .i64 0] 3) := Lib.hid ⟨heap_alloc_new w _⟩
  have hBg : w.heap.size ≠ g := by omega
  clear h
  by_cases h50 : 50 ≤ l
  · obtain ⟨c1, c2, c3, c4, c5, c6⟩ := B2 h50
    have h50I : (50 : Int) ≤ l := by omega
    clear B2
    go_enter Try.func65, Try.ntmps65
    go_wp2_with fail
    refine (medianAdj_any cap i w.heap.size 0 HR.out (by omega) (by omega) hsz HB.out (by omega) (by omega) hBg hsz0).mono ?_
    rintro e w3 ⟨p1, k1, rfl, hp1, hka1, hkb1, hB3, hm3, hs3⟩
    have Q1 := Lib.hid (And.intro hB3 hs3)
    clear hB3 hm3 hs3
    go_wp2_with fail
    refine (medianAdj_any cap j w.heap.size k1 Q1.out.2 (by omega) (by omega) hsz Q1.out.1 (by omega) (by omega) hBg hsz0).mono ?_
    rintro e w4 ⟨p2, k2, rfl, hp2, hka2, hkb2, hB3, hm3, hs3⟩
    have Q2 := Lib.hid (And.intro hB3 hs3)
    clear hB3 hm3 hs3
    go_wp2_with fail
    refine (medianAdj_any cap k w.heap.size k2 Q2.out.2 (by omega) (by omega) hsz Q2.out.1 (by omega) (by omega) hBg hsz0).mono ?_
    rintro e w5 ⟨p3, k3, rfl, hp3, hka3, hkb3, hB3, hm3, hs3⟩
    have Q3 := Lib.hid (And.intro hB3 hs3)
    clear hB3 hm3 hs3
    go_wp2_with fail
    refine (median_any cap p1 p2 p3 w.heap.size k3 Q3.out.2 (by omega) (by omega) (by omega) hsz Q3.out.1 (by omega) (by omega) hBg hsz0).mono ?_
    rintro e w6 ⟨p, k', rfl, hp, hka, hkb, hB3, hm3, hs3⟩
    have c0 := hB3.c (i := 0) rfl
    have Q := Lib.hid hs3
    clear hB3 hm3 hs3
    go_wp2_with fail
    all_goals
      go_ret2
      first
        | exact ⟨⟨p, 1, rfl, by omega, by omega, by omega⟩, Q.out⟩
        | exact ⟨⟨p, 2, rfl, by omega, by omega, by omega⟩, Q.out⟩
        | exact ⟨⟨p, 0, rfl, by omega, by omega, by omega⟩, Q.out⟩
  · have h50I : ¬ (50 : Int) ≤ l := by omega
    clear B2
    go_enter Try.func65, Try.ntmps65
    go_wp2_with fail
    refine (median_any cap i j k w.heap.size 0 HR.out (by omega) (by omega) (by omega) hsz HB.out (by omega) (by omega) hBg hsz0).mono ?_
    rintro e w3 ⟨p, k', rfl, hp, hka, hkb, hB3, hm3, hs3⟩
    have c0 := hB3.c (i := 0) rfl
    have Q := Lib.hid hs3
    clear hB3 hm3 hs3
    go_wp2_with fail
    all_goals
      go_ret2
      first
        | exact ⟨⟨p, 1, rfl, by omega, by omega, by omega⟩, Q.out⟩
        | exact ⟨⟨p, 2, rfl, by omega, by omega, by omega⟩, Q.out⟩
        | exact ⟨⟨p, 0, rfl, by omega, by omega, by omega⟩, Q.out⟩

end Go.Proofs.Ytfjckdjnnbpcnaa.So

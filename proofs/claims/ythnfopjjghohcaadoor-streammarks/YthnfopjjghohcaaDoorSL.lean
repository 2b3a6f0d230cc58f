import Derived.Test.YthnfopjjghohcaaDoorSMp
namespace Go.Proofs.YthnfopjjghohcaaDoor.St
open Go.RowKit

/-- What Whole answers. -/
def WholeP (w : World) (kd : Int) (d : List Int × List (Nat × Nat) × Int) (e : Ending) (w' : World) : Prop :=
  ∃ A c A2 c2, e = .returned (.tuple #[.slice A d.1.length c, .slice A2 d.2.1.length c2, .int .i64 kd, .int .i64 d.2.2]) ∧ w'.ownsRow w.heap.size 21 1 (.slice A d.1.length c) d.1.length (i32s d.1) ∧ w'.ownsRow w.heap.size 50 2 (.slice A2 d.2.1.length c2) d.2.1.length (flts d.2.1) ∧ Ints .i32 w' A d.1 ∧ Flts w' A2 d.2.1 ∧ Below w.heap.size w w'
theorem nil_app (s : ByteArray) : (⟨#[]⟩ : ByteArray) ++ s = s := bs_inj (by rw [bs_app]; rfl)
theorem shL_zero (l : List (Nat × Nat)) : shL 0 l = l := by simp [shL]
set_option maxRecDepth 100000 in
set_option maxHeartbeats 1000000 in
theorem whole_no (k pol : Int) (gs : Bool) (s : ByteArray) (w : World) (hT : Tabs w) (h : ¬ (1 ≤ k ∧ k ≤ 5 ∧ (pol = 1 ∨ pol = 2 ∨ pol = 3))) :
    Calls Tryd.prog 10 #[.int .i64 k, .int .i64 pol, .bool gs, .string s] w fun e w' => e = .returned (.tuple #[.slice none 0 0, .slice none 0 0, .int .i64 0, .int .i64 16]) ∧ Below w.heap.size w w' := by
  have HN := Lib.hid (new_no k pol gs w hT h)
  clear h hT
  go_enter Tryd.func10, Tryd.ntmps10
  go_wp2_with (go_at_call 15; refine HN.out.mono ?_; rintro e w1 ⟨rfl, hb⟩; have B1 := Lib.hid hb; clear hb)
  exact bodyPost_ret (v := .tuple #[.slice none 0 0, .slice none 0 0, .int .i64 0, .int .i64 16]) (by simp [results, Tryd.results10, go_sem]) rfl ⟨rfl, B1.out⟩
set_option maxRecDepth 100000 in
set_option maxHeartbeats 1000000 in
theorem whole_any (k : Nat) (pol : Int) (gs : Bool) (s : ByteArray) (w : World) (hT : Tabs w) (h1 : 1 ≤ k) (h5 : k ≤ 5) (hq : pol = 1 ∨ pol = 2 ∨ pol = 3) (hs : s.size ≤ 90000) :
    Calls Tryd.prog 10 #[.int .i64 (k : Int), .int .i64 pol, .bool gs, .string s] w (WholeP w (Dg.knd k gs (bs s)) (Dg.whole k pol gs (bs s))) := by
  have hpos := hT.pos
  have HT := Lib.hid hT
  have HN := Lib.hid (new_ok k pol gs w hT h1 h5 hq)
  have HC := Lib.hid (fun B W (hD : Dc W w.heap.size B (.slice none 0 0) s.size s [] k pol gs false) (hW : Tabs W) => close_any w.heap.size B (.slice none 0 0) s.size s [] k pol gs W hD hW hpos h1 h5 hq (Nat.le_refl _) (by omega) (by simp))
  simp only [Nat.sub_self, shL_zero, List.nil_append] at HC
  have hwl := Dg.whole_lens k pol gs (bs s)
  rw [bs_len] at hwl
  generalize Dg.whole k pol gs (bs s) = dd at *
  generalize Dg.knd k gs (bs s) = kd at *
  have hl2 : dd.2.1.length ≤ 300000 := by omega
  clear hT hq hwl
  go_enter Tryd.func10, Tryd.ntmps10
  go_wp2_with (first
    | (go_at_call 15; refine HN.out.mono ?_; rintro e w1 ⟨B, rfl, hd1, hb1⟩; have D1 := Lib.hid hd1; have B1 := Lib.hid hb1; clear hd1 hb1)
    | (go_at_call 23; refine (add_any w.heap.size B (.slice none 0 0) 0 ⟨#[]⟩ [] k pol gs false s _ D1.out (by omega) (Nat.zero_le _) (by omega)).mono ?_; rintro e w2 ⟨rfl, hd2, hs2⟩; rw [nil_app, Nat.zero_add] at hd2; have D2 := Lib.hid hd2; have B2 := Lib.hid (B1.out.trans (D1.out.belowS hs2)); clear hd2 hs2)
    | (go_at_call 22; refine (HC.out B _ D2.out (HT.out.below B2.out hpos)).mono ?_; rintro e w3 ⟨fv3, v3, rfl, ho3, hd3, hs3⟩; have O3 := Lib.hid ho3; have D3 := Lib.hid hd3; have B3 := Lib.hid (B2.out.trans (D2.out.belowS hs3)); clear ho3 hd3 hs3)
    | (go_at_call 18; refine (faults_got _ _ _ _ _ _ _ _ _ _ _ D3.out hl2).mono ?_; rintro e w4 ⟨v4, rfl, ho4, hb4⟩; have O4 := Lib.hid ho4; have D4 := Lib.hid (D3.out.bel hb4); have O34 := Lib.hid (own_below O3.out hb4); have z3 := B3.out.size; have B4 := Lib.hid (B3.out.trans (hb4.mono z3)); clear ho4 hb4)
    | (go_at_call 19; refine (kind_any _ _ _ _ _ _ _ _ _ _ _ D4.out).mono ?_; rintro e w' ⟨rfl, rfl⟩))
  obtain ⟨A, c, rfl, hI⟩ := own_ints O34.out
  obtain ⟨A2, c2, rfl, hF⟩ := own_flts O4.out
  exact bodyPost_ret (v := .tuple #[.slice A dd.1.length c, .slice A2 dd.2.1.length c2, .int .i64 kd, .int .i64 dd.2.2]) (by simp [results, Tryd.results10, go_sem]) rfl ⟨A, c, A2, c2, rfl, O34.out.mono B2.out.size, O4.out.mono z3, hI, hF, B4.out⟩
end Go.Proofs.YthnfopjjghohcaaDoor.St

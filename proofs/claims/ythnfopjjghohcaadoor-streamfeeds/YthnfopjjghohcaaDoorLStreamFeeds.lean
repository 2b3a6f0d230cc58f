/- StreamFeeds: for every kind, policy, guess and parts the law returns true and all read as before: which characters are sure, part by part, what waits, which kind it goes by, where bytes were none, and what is answered once it is over. Conditions: the tables 'shapes' and 'layouts' as the program's text lays them (tied). -/
import Derived.Test.YthnfopjjghohcaaDoorTR
import Derived.Test.YthnfopjjghohcaaDoorTO
import Derived.Test.YthnfopjjghohcaaDoorSRd
import Derived.Test.YthnfopjjghohcaaDoorCards
import Derived.ShutString
import Derived.ChangeOld
namespace Go.Proofs.YthnfopjjghohcaaDoor
open Go.ChangeShapes Go.WideShapes Go.ChangeAt Go.WideMaps Go.WideElems Go.RowKit
open Go.ChangeMaps (open_string shut_string)
open St (Tabs)

theorem may_iff (k q : Int) : St.mayB k q = true ↔ (1 ≤ k ∧ k ≤ 5 ∧ (q = 1 ∨ q = 2 ∨ q = 3)) := by
  unfold St.mayB
  rw [decide_eq_true_eq]
  omega
theorem ba_app_size (a b : ByteArray) : (a ++ b).size = a.size + b.size := by
  have := bs_len (a ++ b)
  rw [bs_app, List.length_append, bs_len, bs_len] at this
  omega
theorem cat_bound (xs : List ByteArray) (h : ∀ s ∈ xs, s.size ≤ 60) : ∀ q, (bs (catB (xs.take q))).length ≤ 60 * q := by
  intro q
  rw [catB_bs]
  induction q with
  | zero => simp
  | succ q ih =>
    by_cases hq : q < xs.length
    · rw [List.take_succ_eq_append_getElem hq, List.map_append, List.flatten_append, List.length_append]
      have := h _ (List.getElem_mem hq)
      simp only [List.map_cons, List.map_nil, List.flatten_cons, List.flatten_nil, List.append_nil, bs_len]
      omega
    · rw [List.take_of_length_le (by omega)] at ih ⊢
      omega
set_option maxRecDepth 100000 in
set_option maxHeartbeats 2000000 in
theorem streamFeeds_no (k q : Int) (g : Bool) (A : Option Addr) (c : Nat) (xs : List ByteArray) (w : World) (hx : Strs w A c xs) (hn : xs.length ≤ 8796093022208) (hss : ∀ s ∈ xs, s.size ≤ 9223372036854775807) (hm : ¬ (1 ≤ k ∧ k ≤ 5 ∧ (q = 1 ∨ q = 2 ∨ q = 3))) (hT : Tabs w) : Calls Tryd.prog 4 #[.agg #[.int .i64 k, .int .i64 q, .bool g], .slice A xs.length c] w fun e w' => e = .returned (.bool true) ∧ Below w.heap.size w w' := by
  have hpos := hT.pos
  have HFin := Lib.hid (show ∀ w2 : World, Below w.heap.size w w2 → Tabs w2 from fun w2 h => hT.below h hpos)
  have B0 := Lib.hid (Below.refl w.heap.size w)
  have HA := Lib.hid (fun W hW => St.awake_any W hW)
  have BX := Lib.hid (B0.out.alloc (Nat.le_refl _) (.cells #[.int .i64 k, .int .i64 q, .bool g] 23))
  have HX := Lib.hid hx
  have HFW := Lib.hid (fun W hW => St.few_any A c xs W hW hn hss)
  have HM := Lib.hid (fun W => St.may_r k q W)
  have HN := Lib.hid (fun W hW => St.new_no k q g W hW hm)
  rw [show St.mayB k q = false from by rw [← Bool.not_eq_true, may_iff]; exact hm] at HM
  clear hT hm hx hss HX HFW
  go_enter Tryd.func4, Tryd.ntmps4
  go_wp2_with (first
    | (go_at_call 15; refine (HN.out _ (HFin.out _ BX.out)).mono ?_; rintro e w1 ⟨rfl, hb1⟩; have B1 := Lib.hid (BX.out.trans (hb1.mono BX.out.size)); have c0 := hb1.cell (p := ⟨w.heap.size, 0, none⟩) (by simp); have c1 := hb1.cell (p := ⟨w.heap.size, 1, none⟩) (by simp); have c2 := hb1.cell (p := ⟨w.heap.size, 2, none⟩) (by simp); simp at c0 c1 c2; clear hb1)
    | (go_at_call 11; refine (HM.out _).mono ?_; rintro e w' ⟨rfl, rfl⟩)
    | (go_at_call 9; refine (HA.out _ (HFin.out _ B1.out)).mono ?_; rintro e w9 ⟨rfl, hb9⟩; have B9 := Lib.hid (B1.out.trans (hb9.mono B1.out.size)); clear hb9))
  go_ret
  exact ⟨rfl, B9.out⟩
set_option maxRecDepth 100000 in
set_option maxHeartbeats 2000000 in
theorem streamFeeds_many (k : Nat) (q : Int) (g : Bool) (A : Option Addr) (c : Nat) (xs : List ByteArray) (w : World) (hx : Strs w A c xs) (hn : xs.length ≤ 8796093022208) (hss : ∀ s ∈ xs, s.size ≤ 9223372036854775807) (h1 : 1 ≤ k) (h5 : k ≤ 5) (hq : q = 1 ∨ q = 2 ∨ q = 3) (hf : St.fewB xs = false) (hT : Tabs w) : Calls Tryd.prog 4 #[.agg #[.int .i64 (k : Int), .int .i64 q, .bool g], .slice A xs.length c] w fun e w' => e = .returned (.bool true) ∧ Below w.heap.size w w' := by
  have hpos := hT.pos
  have HFin := Lib.hid (show ∀ w2 : World, Below w.heap.size w w2 → Tabs w2 from fun w2 h => hT.below h hpos)
  have B0 := Lib.hid (Below.refl w.heap.size w)
  have HA := Lib.hid (fun W hW => St.awake_any W hW)
  have BX := Lib.hid (B0.out.alloc (Nat.le_refl _) (.cells #[.int .i64 (k : Int), .int .i64 q, .bool g] 23))
  have HX := Lib.hid hx
  have HFW := Lib.hid (fun W hW => St.few_any A c xs W hW hn hss)
  have HM := Lib.hid (fun W => St.may_r (k : Int) q W)
  have HN := Lib.hid (fun W hW => St.new_ok k q g W hW h1 h5 hq)
  rw [hf] at HFW
  rw [show St.mayB (k : Int) q = true from by rw [may_iff]; exact ⟨by omega, by omega, hq⟩] at HM
  clear hT hx hf hss
  go_enter Tryd.func4, Tryd.ntmps4
  go_wp2_with (first
    | (go_at_call 15; refine (HN.out _ (HFin.out _ BX.out)).mono ?_; rintro e w1 ⟨B, rfl, hd1, hb1⟩; have F1 := Lib.hid (St.Fed.start hd1); have X1 := Lib.hid hb1; have B1 := Lib.hid (BX.out.trans (hb1.mono BX.out.size)); have c0 := hb1.cell (p := ⟨w.heap.size, 0, none⟩) (by simp); have c1 := hb1.cell (p := ⟨w.heap.size, 1, none⟩) (by simp); have c2 := hb1.cell (p := ⟨w.heap.size, 2, none⟩) (by simp); simp at c0 c1 c2; clear hb1 hd1)
    | (go_at_call 11; refine (HM.out _).mono ?_; rintro e w' ⟨rfl, rfl⟩)
    | (go_at_call 16; refine (HFW.out _ (HX.out.below B1.out)).mono ?_; rintro e w2 ⟨rfl, hb2⟩; have B2 := Lib.hid (B1.out.trans (hb2.mono B1.out.size)); have X2 := Lib.hid (X1.out.trans (hb2.mono X1.out.size)); have F2 := Lib.hid (F1.out.bel hb2); have d0 := (hb2.cell (p := ⟨w.heap.size, 0, none⟩) (World.block_lt_of_cell? w1 _ c0)).trans c0; have d1 := (hb2.cell (p := ⟨w.heap.size, 1, none⟩) (World.block_lt_of_cell? w1 _ c1)).trans c1; have d2 := (hb2.cell (p := ⟨w.heap.size, 2, none⟩) (World.block_lt_of_cell? w1 _ c2)).trans c2; clear hb2 c0 c1 c2)
    | (go_at_call 9; refine (HA.out _ (HFin.out _ B2.out)).mono ?_; rintro e w9 ⟨rfl, hb9⟩; have B9 := Lib.hid (B2.out.trans (hb9.mono B2.out.size)); clear hb9))
  go_ret
  exact ⟨rfl, B9.out⟩
/-- What the loop knows: a decoder that goes on, or one that is over. -/
def Lp (w2 wr : World) (base B : Nat) (fv : Value) (k : Nat) (q : Int) (g : Bool) (a : ByteArray) (got : Value) (ov : Bool) : Prop :=
  Below base w2 wr ∧ ((ov = false ∧ St.Fed wr base B fv k q g (bs a) ∧ wr.ownsRow base 21 1 got (Dg.sure k q g (bs a)).1.length (i32s (Dg.sure k q g (bs a)).1)) ∨ (ov = true ∧ ∃ p fl kd gs, St.Dc wr base B fv p ⟨#[]⟩ fl kd q gs true))
set_option maxRecDepth 100000 in
set_option maxHeartbeats 8000000 in
theorem streamFeeds_in (k : Nat) (q : Int) (g : Bool) (A : Option Addr) (c : Nat) (xs : List ByteArray) (w : World) (hx : Strs w A c xs) (hn : xs.length ≤ 8796093022208) (hss : ∀ s ∈ xs, s.size ≤ 9223372036854775807) (h1 : 1 ≤ k) (h5 : k ≤ 5) (hq : q = 1 ∨ q = 2 ∨ q = 3) (hf : St.fewB xs = true) (hT : Tabs w) : Calls Tryd.prog 4 #[.agg #[.int .i64 (k : Int), .int .i64 q, .bool g], .slice A xs.length c] w fun e w' => e = .returned (.bool true) ∧ Below w.heap.size w w' := by
  have hpos := hT.pos
  have HFin := Lib.hid (show ∀ w2 : World, Below w.heap.size w w2 → Tabs w2 from fun w2 h => hT.below h hpos)
  have B0 := Lib.hid (Below.refl w.heap.size w)
  have HA := Lib.hid (fun W hW => St.awake_any W hW)
  have BX := Lib.hid (B0.out.alloc (Nat.le_refl _) (.cells #[.int .i64 (k : Int), .int .i64 q, .bool g] 23))
  have HX := Lib.hid hx
  have HFW := Lib.hid (fun W hW => St.few_any A c xs W hW hn hss)
  have HM := Lib.hid (fun W => St.may_r (k : Int) q W)
  have HN := Lib.hid (fun W hW => St.new_ok k q g W hW h1 h5 hq)
  rw [hf] at HFW
  rw [show St.mayB (k : Int) q = true from by rw [may_iff]; exact ⟨by omega, by omega, hq⟩] at HM
  obtain ⟨hf1, hf2⟩ := St.fewB_yes hf
  have HCB := Lib.hid (cat_bound xs hf2)
  obtain ⟨i0, hi0, hz0, hz1, hz2⟩ := info_parts r_info
  have I0 := Lib.hid hi0
  have I1 := Lib.hid hz0
  have I2 := Lib.hid hz1
  have I3 := Lib.hid hz2
  clear hi0 hz0 hz1 hz2
  have HQ := Lib.hid hq
  clear hT hx hf hss hq
  go_enter Tryd.func4, Tryd.ntmps4
  go_wp2_with (first
    | (go_at_call 15; refine (HN.out _ (HFin.out _ BX.out)).mono ?_; rintro e w1 ⟨B, rfl, hd1, hb1⟩; have F1 := Lib.hid (St.Fed.start hd1); have X1 := Lib.hid hb1; have B1 := Lib.hid (BX.out.trans (hb1.mono BX.out.size)); have c0 := hb1.cell (p := ⟨w.heap.size, 0, none⟩) (by simp); have c1 := hb1.cell (p := ⟨w.heap.size, 1, none⟩) (by simp); have c2 := hb1.cell (p := ⟨w.heap.size, 2, none⟩) (by simp); simp at c0 c1 c2; clear hb1 hd1)
    | (go_at_call 11; refine (HM.out _).mono ?_; rintro e w' ⟨rfl, rfl⟩)
    | (go_at_call 16; refine (HFW.out _ (HX.out.below B1.out)).mono ?_; rintro e w2 ⟨rfl, hb2⟩; have B2 := Lib.hid (B1.out.trans (hb2.mono B1.out.size)); have X2 := Lib.hid (X1.out.trans (hb2.mono X1.out.size)); have F2 := Lib.hid (F1.out.bel hb2); have d0 := (hb2.cell (p := ⟨w.heap.size, 0, none⟩) (World.block_lt_of_cell? w1 _ c0)).trans c0; have d1 := (hb2.cell (p := ⟨w.heap.size, 1, none⟩) (World.block_lt_of_cell? w1 _ c1)).trans c1; have d2 := (hb2.cell (p := ⟨w.heap.size, 2, none⟩) (World.block_lt_of_cell? w1 _ c2)).trans c2; clear hb2 c0 c1 c2))
  have hBX : (w.alloc (.cells #[.int .i64 (k : Int), .int .i64 q, .bool g] 23)).heap.size = w.heap.size + 1 := by simp
  rw [hBX] at F2 X2
  have HX2 := Lib.hid (show ∀ W, Below (w.heap.size + 1) w2 W → Below w.heap.size w W from fun W h => B2.out.trans (h.mono (by omega)))
  have z2 : w.heap.size + 1 ≤ w2.heap.size := by have := F2.out.base; have := F2.out.lt; omega
  have D0 := Lib.hid d0
  have D1 := Lib.hid d1
  have D2 := Lib.hid d2
  clear d0 d1 d2 F1 X1
  go_loopw [7, 8, 9, 10] (fun al got ov i wr => ∃ n : Nat, i = .int .i64 n ∧ n ≤ xs.length ∧ ∃ a, al = .string a ∧ a.size ≤ 60 * n ∧ ∃ fv' o, ov = .bool o ∧ Hid ((o = false → bs a = bs (catB (xs.take n))) ∧ Lp w2 wr (w.heap.size + 1) B fv' k q g a got o)) (fun _ _ _ i _ => xs.length - (intOf i).toNat)
  case atStart =>
    refine ⟨0, rfl, by omega, ⟨#[]⟩, rfl, by decide, .slice none 0 0, false, rfl, fun _ => by simp [catB], Below.refl _ _, .inl ⟨rfl, F2.out, ?_⟩⟩
    rw [show bs ⟨#[]⟩ = [] from rfl, (Dg.sure_nil k q g).1]
    exact World.ownsRow_nil _ _ _ _
  case round =>
    obtain ⟨n, rfl, hnn, a, rfl, haz, fv', o, rfl, HR⟩ := hrel
    have hzr := HR.out.2.1.size
    by_cases hlt : n < xs.length
    · have hlt' : (n : Int) < xs.length := by omega
      rcases HX.out.below (HX2.out _ HR.out.2.1) with hS | ⟨bk, off, rfl, hbk, hxc, hcell⟩
      · rw [hS] at hlt; simp at hlt
      obtain ⟨s, hs⟩ : ∃ s, xs[n] = s := ⟨_, rfl⟩
      have kc := hcell n s (by rw [List.getElem?_eq_getElem hlt, hs])
      have hsz : s.size ≤ 60 := hf2 s (by rw [← hs]; exact List.getElem_mem hlt)
      have HBK := Lib.hid (show bk < w.heap.size from by
        rcases HX.out with h | ⟨b', o', e', h', _⟩
        · rw [h] at hlt; simp at hlt
        · have : bk = b' := by injection e' with e'; injection e'
          omega)
      have HSN := Lib.hid hs
      clear hcell hs
      rcases HR.out.2.2 with ⟨ho, hF, hO⟩ | ⟨ho, p, fl, kd, gs, hD⟩
      · subst ho
        have hca := HR.out.1 rfl
        have HCM := Lib.hid (show bs (a ++ s) = bs (catB (xs.take (n + 1))) by rw [St.cat_more xs n hlt, HSN.out, bs_app, hca])
        have FA := Lib.hid hF
        have OA := Lib.hid hO
        have haz2 := ba_app_size a s
        have hsum : a.size + s.size ≤ 9223372036854775807 := by omega
        have HFO := Lib.hid (St.feed_one (w.heap.size + 1) B fv' k q g (bs a) s wr hF (HFin.out _ (HX2.out _ HR.out.2.1)) (by omega) h1 h5 HQ.out (by rw [bs_len]; omega))
        rw [← bs_app] at HFO
        have HRF := Lib.hid (fun W => St.rsure_any k q g (a ++ s) W h1 h5 HQ.out (by omega))
        have hsl := Dg.sure_lens k q g (bs (a ++ s))
        have hsl0 := (Dg.sure_lens k q g (bs a)).1
        rw [bs_len] at hsl hsl0
        have herr := Dg.sure_errs k q g (bs (a ++ s))
        have hl1 : (Dg.sure k q g (bs (a ++ s))).1.length ≤ 100000 := by omega
        have hl2 : (Dg.sure k q g (bs (a ++ s))).2.1.length ≤ 100000 := by omega
        have hl3 : (Dg.sure k q g (bs (a ++ s))).2.1.length ≤ 300000 := by omega
        have KC := Lib.hid (show ∀ W, Below (w.heap.size + 1) w2 W → W.cell? ⟨bk, off + n, none⟩ = some (.string s) from fun W hW => by
          have e1 := (HX2.out _ HR.out.2.1).cell (p := ⟨bk, off + n, none⟩) HBK.out
          have e2 := (HX2.out _ hW).cell (p := ⟨bk, off + n, none⟩) HBK.out
          rw [e2, ← e1]
          exact kc)
        have QC := Lib.hid (show ∀ W, Below (w.heap.size + 1) w2 W → W.cell? ⟨w.heap.size, 0, none⟩ = some (.int .i64 (k : Int)) ∧ W.cell? ⟨w.heap.size, 1, none⟩ = some (.int .i64 q) ∧ W.cell? ⟨w.heap.size, 2, none⟩ = some (.bool g) from fun W hW => ⟨(hW.cell (p := ⟨w.heap.size, 0, none⟩) (Nat.lt_succ_self _)).trans D0.out, (hW.cell (p := ⟨w.heap.size, 1, none⟩) (Nat.lt_succ_self _)).trans D1.out, (hW.cell (p := ⟨w.heap.size, 2, none⟩) (Nat.lt_succ_self _)).trans D2.out⟩)
        have haz3 : (a ++ s).size ≤ 60 * (n + 1) := by omega
        have XR := Lib.hid HR.out.2.1
        obtain ⟨a2, ha2⟩ : ∃ a2, a ++ s = a2 := ⟨_, rfl⟩
        rw [ha2] at HFO HRF HCM hsl herr hl1 hl2 hl3 haz3
        have HA2 := Lib.hid ha2
        clear hF hO hca haz2
        rcases herr with herr | herr
        · rw [herr, if_pos rfl] at HRF
          rw [show St.FeedP wr (w.heap.size + 1) B fv' k q g (bs a) True (bs a2) = fun e w' => ∃ fv'' v1 o, e = .returned (.tuple #[v1, .int .i64 0]) ∧ w'.ownsRow wr.heap.size 21 1 v1 o.length (i32s o) ∧ (Dg.sure k q g (bs a)).1 ++ o = (Dg.sure k q g (bs a2)).1 ∧ St.Stp B wr fv' w' fv'' ∧ St.Fed w' (w.heap.size + 1) B fv'' k q g (bs a2) from by
            unfold St.FeedP
            rw [herr]
            funext e w'
            simp] at HFO
          go_wp2_with (first
            | (go_at_call 17; refine HFO.out.mono ?_; rintro e w3 ⟨fv3, v3, o3, rfl, ho3, hx3, hs3, hf3⟩; have F3 := Lib.hid (hf3); have V3 := Lib.hid ho3; have O3 := Lib.hid (FA.out.keep hs3 OA.out (by decide) (by decide)); have X3 := Lib.hid (XR.out.trans (FA.out.belowS hs3)); have HX3 := Lib.hid hx3; have z3 := X3.out.size; have hol : o3.length ≤ 90000 := (by have := congrArg List.length hx3; rw [List.length_append] at this; omega); have hmx : (Dg.sure k q g (bs a)).1.length + o3.length ≤ maxLen := (by unfold maxLen; omega); have hmb : ((Dg.sure k q g (bs a)).1.length + o3.length) * 4 ≤ 140737488355328 := (by omega); have zz3 : w.heap.size + 1 ≤ w3.heap.size := (by omega); have kc3 := KC.out _ X3.out; clear ho3 hx3 hs3 hf3)
            | (at_builtin; refine St.wpList_append_row rfl (.tmp 104) (.tmp 105) _ rfl (w.heap.size + 1) 21 i0 _ 1 4 Tryd.underlying25 I0.out I1.out I2.out I3.out rfl (by omega) u8 _ _ rfl O3.out _ v3 o3.length (i32s o3) rfl V3.out (St.i32s_one _) hmx hmb zz3 ?_; intro v4 w4 ho hg ha; have O4 := Lib.hid (by rw [← i32s_app, ← List.length_append, HX3.out] at ho; exact ho); have F4 := Lib.hid (F3.out.grown O3.out (by decide) (by decide) hg); have X4 := Lib.hid (X3.out.trans (below_grown O3.out hg zz3)); obtain ⟨A4, c4', hv4, hi4⟩ := own_ints O4.out; subst hv4; have I4 := Lib.hid hi4; obtain ⟨q0, q1, q2⟩ := QC.out _ X4.out; clear ho hg ha hi4)
            | (go_at_call 12; refine (HRF.out _).mono ?_; rintro e w5 ⟨A5, c5', A6, c6', rfl, hi5, hf5, hb5⟩; rw [herr]; have I45 := Lib.hid (I4.out.below hb5); have I5 := Lib.hid hi5; have F5 := Lib.hid hf5; have D5 := Lib.hid (F4.out.bel hb5); have O5 := Lib.hid (own_below O4.out hb5); have X5 := Lib.hid (X4.out.trans (hb5.mono (by have := X4.out.size; omega))); clear hi5 hf5 hb5 q0 q1 q2)
            | (go_at_call 13; refine (runes_any A4 A5 c4' c5' _ _ _ I45.out I5.out hl1 hl1).mono ?_; rintro e w6 ⟨rfl, hb6⟩; rw [show decide ((Dg.sure k q g (bs a2)).1 = (Dg.sure k q g (bs a2)).1) = true from by simp]; have F6 := Lib.hid (F5.out.below hb6); have D6 := Lib.hid (D5.out.bel hb6); have O6 := Lib.hid (own_below O5.out hb6); have X6 := Lib.hid (X5.out.trans (hb6.mono (by have := X5.out.size; omega))); clear hb6)
            | (go_at_call 18; obtain ⟨wt, hwt, hwe, hD6⟩ := D6.out; refine (St.faults_got _ _ _ _ _ _ _ _ _ _ _ hD6 hl3).mono ?_; rintro e w7 ⟨v7, rfl, ho7, hb7⟩; obtain ⟨A7, c7', hv7, hf7⟩ := own_flts ho7; subst hv7; have F7 := Lib.hid hf7; have F67 := Lib.hid (F6.out.below hb7); have D7 := Lib.hid (hD6.bel hb7); have FD7 := Lib.hid (D6.out.bel hb7); have O7 := Lib.hid (own_below O6.out hb7); have X7 := Lib.hid (X6.out.trans (hb7.mono (by have := X6.out.size; omega))); have HWT := Lib.hid hwt; clear hwt hwe; clear ho7 hb7 hf7 hD6)
            | (go_at_call 14; refine (faults_any A7 A6 c7' c6' _ _ _ F7.out F67.out hl2 hl2).mono ?_; rintro e w8 ⟨rfl, hb8⟩; rw [show decide ((Dg.sure k q g (bs a2)).2.1 = (Dg.sure k q g (bs a2)).2.1) = true from by simp]; have D8 := Lib.hid (D7.out.bel hb8); have FD8 := Lib.hid (FD7.out.bel hb8); have O8 := Lib.hid (own_below O7.out hb8); have X8 := Lib.hid (X7.out.trans (hb8.mono (by have := X7.out.size; omega))); clear hb8)
            | (go_at_call 19; refine (St.kind_any _ _ _ _ _ _ _ _ _ _ _ D8.out).mono ?_; rintro e w' ⟨rfl, rfl⟩)
            | (go_at_call 20; refine (St.waits_any _ _ _ _ _ _ _ _ _ _ _ D8.out).mono ?_; rintro e w' ⟨rfl, rfl⟩; have hwx : a2.extract (Dg.cut5 k g (bs a2)) a2.size = wt := (St.bs_inj (by rw [bs_from, HWT.out])); rw [hwx])
            | (go_at_call 21; refine (St.at_any _ _ _ _ _ _ _ _ _ _ _ D8.out).mono ?_; rintro e w' ⟨rfl, rfl⟩; rw [bs_len a2]))
          go_roundw
          case rel => exact ⟨n + 1, by go_num, by omega, a2, rfl, haz3, fv3, false, rfl, fun _ => HCM.out, X8.out, .inl ⟨rfl, FD8.out, O8.out⟩⟩
          case measure => simp [intOf]; omega
        · rw [herr, if_neg (by decide)] at HRF
          rw [show St.FeedP wr (w.heap.size + 1) B fv' k q g (bs a) True (bs a2) = fun e w' => ∃ fv'' v1 o, e = .returned (.tuple #[v1, .int .i64 17]) ∧ w'.ownsRow wr.heap.size 21 1 v1 o.length (i32s o) ∧ (Dg.sure k q g (bs a)).1 ++ o = (Dg.sure k q g (bs a2)).1 ∧ St.Stp B wr fv' w' fv'' ∧ ∃ p gs, (p = (bs a2).length) ∧ St.Dc w' (w.heap.size + 1) B fv'' p ⟨#[]⟩ (Dg.sure k q g (bs a2)).2.1 (Dg.sureK k g (bs a2)) q gs true from by
            unfold St.FeedP
            rw [herr]
            funext e w'
            simp] at HFO
          go_wp2_with (first
            | (go_at_call 17; refine HFO.out.mono ?_; rintro e w3 ⟨fv3, v3, o3, rfl, ho3, hx3, hs3, hf3⟩; obtain ⟨p3, gs3, hp3, hd3⟩ := hf3; subst hp3; have F3 := Lib.hid hd3; have V3 := Lib.hid ho3; have O3 := Lib.hid (FA.out.keep hs3 OA.out (by decide) (by decide)); have X3 := Lib.hid (XR.out.trans (FA.out.belowS hs3)); have HX3 := Lib.hid hx3; have z3 := X3.out.size; have hol : o3.length ≤ 90000 := (by have := congrArg List.length hx3; rw [List.length_append] at this; omega); have hmx : (Dg.sure k q g (bs a)).1.length + o3.length ≤ maxLen := (by unfold maxLen; omega); have hmb : ((Dg.sure k q g (bs a)).1.length + o3.length) * 4 ≤ 140737488355328 := (by omega); have zz3 : w.heap.size + 1 ≤ w3.heap.size := (by omega); have kc3 := KC.out _ X3.out; clear ho3 hx3 hs3 hd3)
            | (at_builtin; refine St.wpList_append_row rfl (.tmp 104) (.tmp 105) _ rfl (w.heap.size + 1) 21 i0 _ 1 4 Tryd.underlying25 I0.out I1.out I2.out I3.out rfl (by omega) u8 _ _ rfl O3.out _ v3 o3.length (i32s o3) rfl V3.out (St.i32s_one _) hmx hmb zz3 ?_; intro v4 w4 ho hg ha; have O4 := Lib.hid (by rw [← i32s_app, ← List.length_append, HX3.out] at ho; exact ho); have F4 := Lib.hid (F3.out.grown O3.out (by decide) (by decide) hg); have X4 := Lib.hid (X3.out.trans (below_grown O3.out hg zz3)); obtain ⟨A4, c4', hv4, hi4⟩ := own_ints O4.out; subst hv4; have I4 := Lib.hid hi4; obtain ⟨q0, q1, q2⟩ := QC.out _ X4.out; clear ho hg ha hi4)
            | (go_at_call 12; refine (HRF.out _).mono ?_; rintro e w5 ⟨A5, c5', A6, c6', rfl, hi5, hf5, hb5⟩; rw [herr]; have I45 := Lib.hid (I4.out.below hb5); have I5 := Lib.hid hi5; have F5 := Lib.hid hf5; have D5 := Lib.hid (F4.out.bel hb5); have O5 := Lib.hid (own_below O4.out hb5); have X5 := Lib.hid (X4.out.trans (hb5.mono (by have := X4.out.size; omega))); clear hi5 hf5 hb5 q0 q1 q2)
            | (go_at_call 13; refine (runes_any A4 A5 c4' c5' _ _ _ I45.out I5.out hl1 hl1).mono ?_; rintro e w6 ⟨rfl, hb6⟩; rw [show decide ((Dg.sure k q g (bs a2)).1 = (Dg.sure k q g (bs a2)).1) = true from by simp]; have F6 := Lib.hid (F5.out.below hb6); have D6 := Lib.hid (D5.out.bel hb6); have O6 := Lib.hid (own_below O5.out hb6); have X6 := Lib.hid (X5.out.trans (hb6.mono (by have := X5.out.size; omega))); clear hb6)
            | (go_at_call 18; have hD6 := D6.out; refine (St.faults_got _ _ _ _ _ _ _ _ _ _ _ hD6 hl3).mono ?_; rintro e w7 ⟨v7, rfl, ho7, hb7⟩; obtain ⟨A7, c7', hv7, hf7⟩ := own_flts ho7; subst hv7; have F7 := Lib.hid hf7; have F67 := Lib.hid (F6.out.below hb7); have D7 := Lib.hid (hD6.bel hb7); have FD7 := Lib.hid (D6.out.bel hb7); have O7 := Lib.hid (own_below O6.out hb7); have X7 := Lib.hid (X6.out.trans (hb7.mono (by have := X6.out.size; omega))); clear ho7 hb7 hf7 hD6)
            | (go_at_call 14; refine (faults_any A7 A6 c7' c6' _ _ _ F7.out F67.out hl2 hl2).mono ?_; rintro e w8 ⟨rfl, hb8⟩; rw [show decide ((Dg.sure k q g (bs a2)).2.1 = (Dg.sure k q g (bs a2)).2.1) = true from by simp]; have D8 := Lib.hid (D7.out.bel hb8); have FD8 := Lib.hid (FD7.out.bel hb8); have O8 := Lib.hid (own_below O7.out hb8); have X8 := Lib.hid (X7.out.trans (hb8.mono (by have := X7.out.size; omega))); clear hb8)
            | (go_at_call 19; refine (St.kind_any _ _ _ _ _ _ _ _ _ _ _ D8.out).mono ?_; rintro e w' ⟨rfl, rfl⟩)
            | (go_at_call 20; refine (St.waits_any _ _ _ _ _ _ _ _ _ _ _ D8.out).mono ?_; rintro e w' ⟨rfl, rfl⟩)
            | (go_at_call 21; refine (St.at_any _ _ _ _ _ _ _ _ _ _ _ D8.out).mono ?_; rintro e w' ⟨rfl, rfl⟩; rw [bs_len a2]))
          go_roundw
          case rel => exact ⟨n + 1, by go_num, by omega, a2, rfl, haz3, fv3, true, rfl, fun h => absurd h (by decide), X8.out, .inr ⟨rfl, _, _, _, _, D8.out⟩⟩
          case measure => simp [intOf]; omega
      · subst ho
        have HD := Lib.hid hD
        have XR := Lib.hid HR.out.2.1
        clear hD
        go_wp2_with (go_at_call 17; refine (St.feed_over _ _ _ _ _ _ _ _ _ _ _ (HD.out.bel ((Below.refl _ wr).alloc (Nat.le_refl _) (.cells #[.string s] 9)))).mono ?_; rintro e w' ⟨rfl, rfl⟩)
        go_roundw
        case rel => exact ⟨n + 1, by go_num, by omega, a, rfl, by omega, fv', true, rfl, fun h => absurd h (by decide), XR.out.alloc (by omega) _, .inr ⟨rfl, p, fl, kd, gs, HD.out.bel ((Below.refl _ wr).alloc (Nat.le_refl _) _)⟩⟩
        case measure => simp [intOf]; omega
    · have hlt' : ¬ (n : Int) < xs.length := by omega
      have XR := Lib.hid HR.out.2.1
      rcases HR.out.2.2 with ⟨ho, hF, hO⟩ | ⟨ho, p, fl, kd, gs, hD⟩
      · subst ho
        have FA := Lib.hid hF
        have OA := Lib.hid hO
        have HCL := Lib.hid (St.close_fed (w.heap.size + 1) B fv' k q g (bs a) wr hF (HFin.out _ (HX2.out _ HR.out.2.1)) (by omega) h1 h5 HQ.out (by rw [bs_len]; omega))
        have HRF := Lib.hid (fun W => St.rwhole_any k q g a W h1 h5 HQ.out (by omega))
        have hwl := Dg.whole_lens k q g (bs a)
        have hsl0 := (Dg.sure_lens k q g (bs a)).1
        rw [bs_len] at hwl hsl0
        have QC := Lib.hid (show ∀ W, Below (w.heap.size + 1) w2 W → W.cell? ⟨w.heap.size, 0, none⟩ = some (.int .i64 (k : Int)) ∧ W.cell? ⟨w.heap.size, 1, none⟩ = some (.int .i64 q) ∧ W.cell? ⟨w.heap.size, 2, none⟩ = some (.bool g) from fun W hW => ⟨(hW.cell (p := ⟨w.heap.size, 0, none⟩) (Nat.lt_succ_self _)).trans D0.out, (hW.cell (p := ⟨w.heap.size, 1, none⟩) (Nat.lt_succ_self _)).trans D1.out, (hW.cell (p := ⟨w.heap.size, 2, none⟩) (Nat.lt_succ_self _)).trans D2.out⟩)
        generalize hWH : Dg.whole k q g (bs a) = dd at *
        generalize Dg.knd k g (bs a) = kd at *
        have hl1 : dd.1.length ≤ 100000 := by omega
        have hl2 : dd.2.1.length ≤ 100000 := by omega
        have hl3 : dd.2.1.length ≤ 300000 := by omega
        clear hF hO hWH HR
        go_wp2_with (first
          | (go_at_call 22; refine HCL.out.mono ?_; rintro e w3 ⟨fv3, v3, o3, rfl, ho3, hx3, hs3, hd3⟩; have D3 := Lib.hid hd3; have V3 := Lib.hid ho3; have O3 := Lib.hid (FA.out.keep hs3 OA.out (by decide) (by decide)); have X3 := Lib.hid (XR.out.trans (FA.out.belowS hs3)); have HX3 := Lib.hid hx3; have z3 := X3.out.size; have hol : o3.length ≤ 90000 := (by have := congrArg List.length hx3; rw [List.length_append] at this; omega); have hmx : (Dg.sure k q g (bs a)).1.length + o3.length ≤ maxLen := (by unfold maxLen; omega); have hmb : ((Dg.sure k q g (bs a)).1.length + o3.length) * 4 ≤ 140737488355328 := (by omega); have zz3 : w.heap.size + 1 ≤ w3.heap.size := (by omega); clear ho3 hx3 hs3 hd3)
          | (at_builtin; refine St.wpList_append_row rfl (.tmp 174) (.tmp 175) _ rfl (w.heap.size + 1) 21 i0 _ 1 4 Tryd.underlying25 I0.out I1.out I2.out I3.out rfl (by omega) u8 _ _ rfl O3.out _ v3 o3.length (i32s o3) rfl V3.out (St.i32s_one _) hmx hmb zz3 ?_; intro v4 w4 ho hg ha; have O4 := Lib.hid (by rw [← i32s_app, ← List.length_append, HX3.out] at ho; exact ho); have D4 := Lib.hid (D3.out.grown O3.out (by decide) (by decide) hg); have X4 := Lib.hid (X3.out.trans (below_grown O3.out hg zz3)); obtain ⟨A4, c4', hv4, hi4⟩ := own_ints O4.out; subst hv4; have I4 := Lib.hid hi4; obtain ⟨q0, q1, q2⟩ := QC.out _ X4.out; clear ho hg ha hi4)
          | (go_at_call 12; refine (HRF.out _).mono ?_; rintro e w5 ⟨A5, c5', A6, c6', rfl, hi5, hf5, hb5⟩; have I45 := Lib.hid (I4.out.below hb5); have I5 := Lib.hid hi5; have F5 := Lib.hid hf5; have D5 := Lib.hid (D4.out.bel hb5); have X5 := Lib.hid (X4.out.trans (hb5.mono (by have := X4.out.size; omega))); clear hi5 hf5 hb5 q0 q1 q2)
          | (go_at_call 17; refine (St.feed_over _ _ _ _ _ _ _ _ _ _ _ (D5.out.bel ((Below.refl _ w5).alloc (Nat.le_refl _) (.cells #[.string ⟨#[97]⟩] 9)))).mono ?_; rintro e w' ⟨rfl, rfl⟩; have hb6 : Below w5.heap.size w5 (w5.alloc (.cells #[.string ⟨#[97]⟩] 9)) := ((Below.refl _ w5).alloc (Nat.le_refl _) _); have I46 := Lib.hid (I45.out.below hb6); have I6 := Lib.hid (I5.out.below hb6); have F6 := Lib.hid (F5.out.below hb6); have D6 := Lib.hid (D5.out.bel hb6); have X6 := Lib.hid (X5.out.trans (hb6.mono (by have := X5.out.size; omega))); clear hb6)
          | (go_at_call 22; refine (St.close_over _ _ _ _ _ _ _ _ _ _ D6.out).mono ?_; rintro e w' ⟨rfl, rfl⟩)
          | (go_at_call 13; refine (runes_any A4 A5 c4' c5' dd.1 dd.1 _ I46.out I6.out hl1 hl1).mono ?_; rintro e w7 ⟨rfl, hb7⟩; rw [show decide (dd.1 = dd.1) = true from by simp]; have F7 := Lib.hid (F6.out.below hb7); have D7 := Lib.hid (D6.out.bel hb7); have X7 := Lib.hid (X6.out.trans (hb7.mono (by have := X6.out.size; omega))); clear hb7)
          | (go_at_call 18; refine (St.faults_got _ _ _ _ _ _ _ _ _ _ _ D7.out hl3).mono ?_; rintro e w8 ⟨v8, rfl, ho8, hb8⟩; obtain ⟨A8, c8', hv8, hf8⟩ := own_flts ho8; subst hv8; have FF8 := Lib.hid hf8; have F8 := Lib.hid (F7.out.below hb8); have D8 := Lib.hid (D7.out.bel hb8); have X8 := Lib.hid (X7.out.trans (hb8.mono (by have := X7.out.size; omega))); clear ho8 hb8 hf8)
          | (go_at_call 14; refine (faults_any A8 A6 c8' c6' dd.2.1 dd.2.1 _ FF8.out F8.out hl2 hl2).mono ?_; rintro e w10 ⟨rfl, hb10⟩; rw [show decide (dd.2.1 = dd.2.1) = true from by simp]; have D10 := Lib.hid (D8.out.bel hb10); have X10 := Lib.hid (X8.out.trans (hb10.mono (by have := X8.out.size; omega))); have BB := Lib.hid (HX2.out _ X10.out); clear hb10)
          | (go_at_call 19; refine (St.kind_any _ _ _ _ _ _ _ _ _ _ _ D10.out).mono ?_; rintro e w' ⟨rfl, rfl⟩)
          | (go_at_call 20; refine (St.waits_any _ _ _ _ _ _ _ _ _ _ _ D10.out).mono ?_; rintro e w' ⟨rfl, rfl⟩)
          | (go_at_call 9; refine (HA.out _ (HFin.out _ BB.out)).mono ?_; rintro e w9 ⟨rfl, hb9⟩; have B9 := Lib.hid (BB.out.trans (hb9.mono BB.out.size)); clear hb9))
        go_ret
        exact ⟨rfl, B9.out⟩
      · subst ho
        have HD := Lib.hid hD
        have BB := Lib.hid (HX2.out _ HR.out.2.1)
        clear hD
        go_wp2_with (first
          | (go_at_call 22; refine (St.close_over _ _ _ _ _ _ _ _ _ _ HD.out).mono ?_; rintro e w' ⟨rfl, rfl⟩)
          | (go_at_call 9; refine (HA.out _ (HFin.out _ BB.out)).mono ?_; rintro e w9 ⟨rfl, hb9⟩; have B9 := Lib.hid (BB.out.trans (hb9.mono BB.out.size)); clear hb9))
        go_ret
        exact ⟨rfl, B9.out⟩
theorem streamFeeds_walk (k q : Int) (g : Bool) (A : Option Addr) (c : Nat) (xs : List ByteArray) (w : World) (hx : Strs w A c xs) (hn : xs.length ≤ 8796093022208) (hss : ∀ s ∈ xs, s.size ≤ 9223372036854775807) (hT : Tabs w) : Calls Tryd.prog 4 #[.agg #[.int .i64 k, .int .i64 q, .bool g], .slice A xs.length c] w fun e w' => e = .returned (.bool true) ∧ Below w.heap.size w w' := by
  by_cases hm : 1 ≤ k ∧ k ≤ 5 ∧ (q = 1 ∨ q = 2 ∨ q = 3)
  · obtain ⟨n, rfl⟩ : ∃ n : Nat, k = n := ⟨k.toNat, by omega⟩
    cases hf : St.fewB xs
    · exact streamFeeds_many n q g A c xs w hx hn hss (by omega) (by omega) hm.2.2 hf hT
    · exact streamFeeds_in n q g A c xs w hx hn hss (by omega) (by omega) hm.2.2 hf hT
  · exact streamFeeds_no k q g A c xs w hx hn hss hm hT

set_option maxRecDepth 100000 in
theorem streamFeeds_lifted (os : Os) (started : os.Started) (H : Type) (enc : TypeId × Value → H) :
    ReturnsInHanded {} Tryd.checked os 4 .any (fun w args => (Rows.streamFeedsSpec.pre enc Tryd.prog Tryd.f4 [] false w args ∧ laidMetH Tryd.prog laid1 w) ∧ sizedMet enc Tryd.prog Tryd.f4 (OpenSpec.ofChange Rows.streamFeedsSpec) false w args)
      (Rows.streamFeedsSpec.post enc Tryd.prog Tryd.f4 false true false false) := by
  refine returnsInHanded_of_change_and (C := Tryd.checked) (X := fun w _ => laidMetH Tryd.prog laid1 w) (fun _ _ _ hh h => h.of_heap hh) own started (by kernel_rfl) Tryd.func4
    (ChangeSpec.witness_shaped (enc := enc) (C := Tryd.checked) (os := os) (X := fun w _ => laidMetH Tryd.prog laid1 w) false (World.doorLaid Tryd.prog 400 os) #[.agg #[.int .i64 0, .int .i64 0, .bool false], .slice none 0 0] 8 rfl (World.shaped_of_RefB (by kernel_rfl) (by kernel_rfl)) (by kernel_rfl) (by kernel_rfl) (by kernel_rfl) (door_met os _)) ?_
  intro W base args ds gs before hval0 hW _ hsz hL _
  have hval : ∀ (j : Nat) t v, Tryd.f4.params[j]? = some t → args[j]? = some v → Value.okWide Tryd.prog W .any base t v := hval0
  have hW' := hW
  obtain ⟨p, q, hA0, hV, rfl, hfz, hnd⟩ := hW
  have hA : DataW.TrodAll enc Tryd.prog W 0 (fun _ => true) true Tryd.f4.params.toList args.toList ds p := hA0
  rw [Tryd.params4] at hA hval
  obtain ⟨v0, vs0, d0, ds0, p0, q0, hargs, rfl, rfl, h0, r0⟩ := trodAll_cons hA
  obtain ⟨v1, vs1, d1, ds1, p1, q1, rfl, rfl, rfl, h1, r1⟩ := trodAll_cons r0
  obtain ⟨rfl, rfl, rfl⟩ := trodAll_nil r1
  obtain rfl : args = #[v0, v1] := by cases args; simp_all
  obtain ⟨rfl, rfl⟩ := trodVars_none hV
  obtain ⟨cs0, rfl, _⟩ := okWide_struct Tryd.underlying23 (hval 0 23 v0 rfl rfl)
  have k0 := h0
  have lt0 : ∀ x ∈ p0, x.block < W.heap.size := by obtain ⟨m, hm⟩ := k0; exact DataW.trod_lt m _ _ _ hm
  obtain ⟨a0, b0, c0, rfl⟩ := how_of_trod h0
  obtain ⟨A1, len1, cap1, rfl⟩ := okWide_slice Tryd.underlying36 (hval 1 36 v1 rfl rfl)
  have k1 := h1
  have lt1 : ∀ x ∈ p1, x.block < W.heap.size := by obtain ⟨m, hm⟩ := k1; exact DataW.trod_lt m _ _ _ hm
  obtain ⟨l1, e1, g1, dd1, gs1⟩ := strs_of_trod h1
  have z1 : l1.length ≤ 8796093022208 := strs_bound dd1 (fun el sp hd => sized_slice hsz (j := 1) (t := 36) rfl (by rw [hd]; rfl) Tryd.underlying36)
  subst e1
  clear hA0 hval0
  refine (streamFeeds_walk a0 b0 c0 A1 cap1 l1 W g1 z1 gs1 (of_laid hL)).mono fun e W' ⟨he, bel⟩ => ?_
  subst he
  exact ⟨_, rfl, _, _, _, [], _, [], hW', trodAll_mk1 (shut_bool Tryd.underlying4 _), (trodAll_cons_mk (Below.trod laidOut (by kernel_rfl) (of_decide_eq_true (by kernel_rfl)) k0 bel lt0) (trodAll_cons_mk (Below.trod laidOut (by kernel_rfl) (of_decide_eq_true (by kernel_rfl)) k1 bel lt1) trodAll_mk0)), rfl, bel.frame _, fun h => by cases h⟩

theorem streamFeeds_row : Rows.StreamFeedsSaid :=
  OpenClaim.holds_of_wide 4 Tryd.f4 rfl rfl rfl rfl rfl rfl rfl ⟨rfl, rfl, rfl, rfl, rfl⟩ rfl rfl rfl rfl rfl (by kernel_rfl) Tryd.func4 (by kernel_rfl)
    (of_decide_eq_true (by kernel_rfl)) (by unfold Func.isWrapper; first | (rw [if_pos (by decide +kernel)]; kernel_rfl) | (rw [if_neg (by decide +kernel)]; exact ⟨rfl, rfl⟩))
    (fun os started H enc _ => streamFeeds_lifted os started H enc)

theorem streamFeeds_holds : Rows.StreamFeedsCardSaid :=
  Claim7.holds_tied_plain_at .later [] [.data, .data] true Rows.streamFeedsCard.stood.harness false
    streamFeeds_row (fun _ h => by cases h) (by kernel_rfl) (fun _ h => by cases h) streamFeeds_row_tie rfl ⟨rfl, rfl⟩ (by kernel_rfl) rfl
    (fun f fn hf hfn => by
      obtain rfl : f = 4 := Option.some.inj ((show Tryd.prog.funcNamed Rows.streamFeedsRow.func = some 4 by kernel_rfl).symm.trans hf) |>.symm
      obtain rfl : fn = Tryd.f4 := (Option.some.inj (Tryd.func4.symm.trans hfn)).symm
      exact ⟨by kernel_rfl, fun j t ht => by
        rw [Tryd.params4] at ht
        have hm : t ∈ [23, 36] := by simpa using Array.mem_of_getElem? ht
        have hall : ([23, 36].all fun u => !Tryd.prog.wantsStandIn u) = true := by kernel_rfl
        exact (show Tryd.prog.wantsStandIn t = false by simpa using List.all_eq_true.1 hall t hm)⟩)
    (by kernel_rfl)
#print axioms streamFeeds_holds
end Go.Proofs.YthnfopjjghohcaaDoor

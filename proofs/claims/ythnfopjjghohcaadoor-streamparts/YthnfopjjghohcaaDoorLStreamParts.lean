/- StreamParts: for every kind, policy, guess and parts the law returns true and all read as before: what is answered by all Feeds, and Close, is what Whole answers of all bytes, however they were parted, and no more than three bytes wait. Conditions: the tables 'shapes' and 'layouts' as the program's text lays them (tied). -/
import Derived.Test.YthnfopjjghohcaaDoorTR
import Derived.Test.YthnfopjjghohcaaDoorTO
import Derived.Test.YthnfopjjghohcaaDoorSP
import Derived.Laws.AppendOwnNone
import Derived.Test.YthnfopjjghohcaaDoorCards
import Derived.ShutString
import Derived.ChangeOld
namespace Go.Proofs.YthnfopjjghohcaaDoor
open Go.ChangeShapes Go.WideShapes Go.ChangeAt Go.WideMaps Go.WideElems Go.RowKit
open Go.ChangeMaps (open_string shut_string)
open St (Tabs)

theorem ba_app_size (a b : ByteArray) : (a ++ b).size = a.size + b.size := by
  have := bs_len (a ++ b)
  rw [bs_app, List.length_append, bs_len, bs_len] at this
  omega
theorem cat_bound (xs : List ByteArray) (h : ∀ s ∈ xs, s.size ≤ 60) : ∀ q, (bs (catB (xs.take q))).length ≤ 60 * q := by
  intro q
  rw [catB_bs]
  induction q with
  | zero => simp
  | succ q ih =>
    by_cases hq : q < xs.length
    · rw [List.take_succ_eq_append_getElem hq, List.map_append, List.flatten_append, List.length_append]
      have := h _ (List.getElem_mem hq)
      simp only [List.map_cons, List.map_nil, List.flatten_cons, List.flatten_nil, List.append_nil, bs_len]
      omega
    · rw [List.take_of_length_le (by omega)] at ih ⊢
      omega
set_option maxRecDepth 100000 in
set_option maxHeartbeats 2000000 in
theorem streamParts_no (k q : Int) (g : Bool) (A : Option Addr) (c : Nat) (xs : List ByteArray) (w : World) (hx : Strs w A c xs) (hn : xs.length ≤ 8796093022208) (hss : ∀ s ∈ xs, s.size ≤ 9223372036854775807) (hm : ¬ (1 ≤ k ∧ k ≤ 5 ∧ (q = 1 ∨ q = 2 ∨ q = 3))) (hT : Tabs w) : Calls Tryd.prog 5 #[.agg #[.int .i64 k, .int .i64 q, .bool g], .slice A xs.length c] w fun e w' => e = .returned (.bool true) ∧ Below w.heap.size w w' := by
  have hpos := hT.pos
  have HFin := Lib.hid (show ∀ w2 : World, Below w.heap.size w w2 → Tabs w2 from fun w2 h => hT.below h hpos)
  have B0 := Lib.hid (Below.refl w.heap.size w)
  have HA := Lib.hid (fun W hW => St.awake_any W hW)
  have BX := Lib.hid (B0.out.alloc (Nat.le_refl _) (.cells #[.int .i64 k, .int .i64 q, .bool g] 23))
  have HX := Lib.hid hx
  have HFW := Lib.hid (fun W hW => St.few_any A c xs W hW hn hss)
  have HN := Lib.hid (fun W hW => St.new_no k q g W hW hm)
  clear hT hm hx hss HX HFW
  go_enter Tryd.func5, Tryd.ntmps5
  go_wp2_with fail
  refine (HN.out _ (HFin.out _ BX.out)).mono ?_
  rintro e w1 ⟨rfl, hb1⟩
  have B1 := Lib.hid (BX.out.trans (hb1.mono BX.out.size))
  have c0 := hb1.cell (p := ⟨w.heap.size, 0, none⟩) (by simp)
  have c1 := hb1.cell (p := ⟨w.heap.size, 1, none⟩) (by simp)
  have c2 := hb1.cell (p := ⟨w.heap.size, 2, none⟩) (by simp)
  simp at c0 c1 c2
  clear hb1
  go_wp2_with fail
  refine (HN.out _ (HFin.out _ B1.out)).mono ?_
  rintro e w2 ⟨rfl, hb2⟩
  have B2 := Lib.hid (B1.out.trans (hb2.mono B1.out.size))
  clear hb2
  go_wp2_with (go_at_call 9; refine (HA.out _ (HFin.out _ B2.out)).mono ?_; rintro e w9 ⟨rfl, hb9⟩; have B9 := Lib.hid (B2.out.trans (hb9.mono B2.out.size)); clear hb9)
  go_ret
  exact ⟨rfl, B9.out⟩
set_option maxRecDepth 100000 in
set_option maxHeartbeats 2000000 in
theorem streamParts_many (k : Nat) (q : Int) (g : Bool) (A : Option Addr) (c : Nat) (xs : List ByteArray) (w : World) (hx : Strs w A c xs) (hn : xs.length ≤ 8796093022208) (hss : ∀ s ∈ xs, s.size ≤ 9223372036854775807) (h1 : 1 ≤ k) (h5 : k ≤ 5) (hq : q = 1 ∨ q = 2 ∨ q = 3) (hf : St.fewB xs = false) (hT : Tabs w) : Calls Tryd.prog 5 #[.agg #[.int .i64 (k : Int), .int .i64 q, .bool g], .slice A xs.length c] w fun e w' => e = .returned (.bool true) ∧ Below w.heap.size w w' := by
  have hpos := hT.pos
  have HFin := Lib.hid (show ∀ w2 : World, Below w.heap.size w w2 → Tabs w2 from fun w2 h => hT.below h hpos)
  have B0 := Lib.hid (Below.refl w.heap.size w)
  have HA := Lib.hid (fun W hW => St.awake_any W hW)
  have BX := Lib.hid (B0.out.alloc (Nat.le_refl _) (.cells #[.int .i64 (k : Int), .int .i64 q, .bool g] 23))
  have HX := Lib.hid hx
  have HFW := Lib.hid (fun W hW => St.few_any A c xs W hW hn hss)
  have HN := Lib.hid (fun W hW => St.new_ok k q g W hW h1 h5 hq)
  rw [hf] at HFW
  clear hT hx hf hss
  go_enter Tryd.func5, Tryd.ntmps5
  go_wp2_with fail
  refine (HN.out _ (HFin.out _ BX.out)).mono ?_
  rintro e w1 ⟨Ba, rfl, hd1, hb1⟩
  have DA1 := Lib.hid hd1
  have X1 := Lib.hid hb1
  have B1 := Lib.hid (BX.out.trans (hb1.mono BX.out.size))
  have c0 := hb1.cell (p := ⟨w.heap.size, 0, none⟩) (by simp)
  have c1 := hb1.cell (p := ⟨w.heap.size, 1, none⟩) (by simp)
  have c2 := hb1.cell (p := ⟨w.heap.size, 2, none⟩) (by simp)
  simp at c0 c1 c2
  clear hb1 hd1
  go_wp2_with fail
  refine (HN.out _ (HFin.out _ B1.out)).mono ?_
  rintro e w2 ⟨Bb, rfl, hd2, hb2⟩
  have DB2 := Lib.hid hd2
  have DA2 := Lib.hid (DA1.out.bel hb2)
  have hab : Ba < w1.heap.size := DA1.out.d.lt
  have B2 := Lib.hid (B1.out.trans (hb2.mono B1.out.size))
  have X2 := Lib.hid (X1.out.trans (hb2.mono X1.out.size))
  have d0 := (hb2.cell (p := ⟨w.heap.size, 0, none⟩) (World.block_lt_of_cell? w1 _ c0)).trans c0
  have d1 := (hb2.cell (p := ⟨w.heap.size, 1, none⟩) (World.block_lt_of_cell? w1 _ c1)).trans c1
  have d2 := (hb2.cell (p := ⟨w.heap.size, 2, none⟩) (World.block_lt_of_cell? w1 _ c2)).trans c2
  clear hb2 hd2 c0 c1 c2 DA1 X1
  go_wp2_with fail
  refine (HFW.out _ (HX.out.below B2.out)).mono ?_
  rintro e w3 ⟨rfl, hb3⟩
  have DB3 := Lib.hid (DB2.out.bel hb3)
  have DA3 := Lib.hid (DA2.out.bel hb3)
  have B3 := Lib.hid (B2.out.trans (hb3.mono B2.out.size))
  have X3 := Lib.hid (X2.out.trans (hb3.mono X2.out.size))
  have e0 := (hb3.cell (p := ⟨w.heap.size, 0, none⟩) (World.block_lt_of_cell? w2 _ d0)).trans d0
  have e1 := (hb3.cell (p := ⟨w.heap.size, 1, none⟩) (World.block_lt_of_cell? w2 _ d1)).trans d1
  have e2 := (hb3.cell (p := ⟨w.heap.size, 2, none⟩) (World.block_lt_of_cell? w2 _ d2)).trans d2
  clear hb3 d0 d1 d2 DB2 DA2 X2
  go_wp2_with (go_at_call 9; refine (HA.out _ (HFin.out _ B3.out)).mono ?_; rintro e w9 ⟨rfl, hb9⟩; have B9 := Lib.hid (B3.out.trans (hb9.mono B3.out.size)); clear hb9)
  go_ret
  exact ⟨rfl, B9.out⟩
set_option maxRecDepth 100000 in
set_option maxHeartbeats 8000000 in
theorem streamParts_in (k : Nat) (q : Int) (g : Bool) (A : Option Addr) (c : Nat) (xs : List ByteArray) (w : World) (hx : Strs w A c xs) (hn : xs.length ≤ 8796093022208) (hss : ∀ s ∈ xs, s.size ≤ 9223372036854775807) (h1 : 1 ≤ k) (h5 : k ≤ 5) (hq : q = 1 ∨ q = 2 ∨ q = 3) (hf : St.fewB xs = true) (hT : Tabs w) : Calls Tryd.prog 5 #[.agg #[.int .i64 (k : Int), .int .i64 q, .bool g], .slice A xs.length c] w fun e w' => e = .returned (.bool true) ∧ Below w.heap.size w w' := by
  have hpos := hT.pos
  have HFin := Lib.hid (show ∀ w2 : World, Below w.heap.size w w2 → Tabs w2 from fun w2 h => hT.below h hpos)
  have B0 := Lib.hid (Below.refl w.heap.size w)
  have HA := Lib.hid (fun W hW => St.awake_any W hW)
  have BX := Lib.hid (B0.out.alloc (Nat.le_refl _) (.cells #[.int .i64 (k : Int), .int .i64 q, .bool g] 23))
  have HX := Lib.hid hx
  have HFW := Lib.hid (fun W hW => St.few_any A c xs W hW hn hss)
  have HN := Lib.hid (fun W hW => St.new_ok k q g W hW h1 h5 hq)
  rw [hf] at HFW
  obtain ⟨hf1, hf2⟩ := St.fewB_yes hf
  have HCB := Lib.hid (cat_bound xs hf2)
  obtain ⟨i0, hi0, hz0, hz1, hz2⟩ := info_parts r_info
  have I0 := Lib.hid hi0
  have I1 := Lib.hid hz0
  have I2 := Lib.hid hz1
  have I3 := Lib.hid hz2
  clear hi0 hz0 hz1 hz2
  have HQ := Lib.hid hq
  clear hT hx hf hss hq
  go_enter Tryd.func5, Tryd.ntmps5
  go_wp2_with fail
  refine (HN.out _ (HFin.out _ BX.out)).mono ?_
  rintro e w1 ⟨Ba, rfl, hd1, hb1⟩
  have DA1 := Lib.hid hd1
  have X1 := Lib.hid hb1
  have B1 := Lib.hid (BX.out.trans (hb1.mono BX.out.size))
  have c0 := hb1.cell (p := ⟨w.heap.size, 0, none⟩) (by simp)
  have c1 := hb1.cell (p := ⟨w.heap.size, 1, none⟩) (by simp)
  have c2 := hb1.cell (p := ⟨w.heap.size, 2, none⟩) (by simp)
  simp at c0 c1 c2
  clear hb1 hd1
  go_wp2_with fail
  refine (HN.out _ (HFin.out _ B1.out)).mono ?_
  rintro e w2 ⟨Bb, rfl, hd2, hb2⟩
  have DB2 := Lib.hid hd2
  have DA2 := Lib.hid (DA1.out.bel hb2)
  have hab : Ba < w1.heap.size := DA1.out.d.lt
  have B2 := Lib.hid (B1.out.trans (hb2.mono B1.out.size))
  have X2 := Lib.hid (X1.out.trans (hb2.mono X1.out.size))
  have d0 := (hb2.cell (p := ⟨w.heap.size, 0, none⟩) (World.block_lt_of_cell? w1 _ c0)).trans c0
  have d1 := (hb2.cell (p := ⟨w.heap.size, 1, none⟩) (World.block_lt_of_cell? w1 _ c1)).trans c1
  have d2 := (hb2.cell (p := ⟨w.heap.size, 2, none⟩) (World.block_lt_of_cell? w1 _ c2)).trans c2
  clear hb2 hd2 c0 c1 c2 DA1 X1
  go_wp2_with fail
  refine (HFW.out _ (HX.out.below B2.out)).mono ?_
  rintro e w3 ⟨rfl, hb3⟩
  have DB3 := Lib.hid (DB2.out.bel hb3)
  have DA3 := Lib.hid (DA2.out.bel hb3)
  have B3 := Lib.hid (B2.out.trans (hb3.mono B2.out.size))
  have X3 := Lib.hid (X2.out.trans (hb3.mono X2.out.size))
  have e0 := (hb3.cell (p := ⟨w.heap.size, 0, none⟩) (World.block_lt_of_cell? w2 _ d0)).trans d0
  have e1 := (hb3.cell (p := ⟨w.heap.size, 1, none⟩) (World.block_lt_of_cell? w2 _ d1)).trans d1
  have e2 := (hb3.cell (p := ⟨w.heap.size, 2, none⟩) (World.block_lt_of_cell? w2 _ d2)).trans d2
  clear hb3 d0 d1 d2 DB2 DA2 X2
  have hBX : (w.alloc (.cells #[.int .i64 (k : Int), .int .i64 q, .bool g] 23)).heap.size = w.heap.size + 1 := by simp
  rw [hBX] at DA3 X3
  have HX2 := Lib.hid (show ∀ W, Below (w.heap.size + 1) w3 W → Below w.heap.size w W from fun W h => B3.out.trans (h.mono (by omega)))
  have z3 : w.heap.size + 1 ≤ w3.heap.size := by have := DA3.out.le; omega
  have hne : Bb ≠ Ba := by have := DB3.out.b; omega
  have D0 := Lib.hid e0
  have D1 := Lib.hid e1
  have D2 := Lib.hid e2
  clear e0 e1 e2 X3
  obtain ⟨b2, hb2e⟩ : ∃ b2, w1.heap.size = b2 := ⟨_, rfl⟩
  rw [hb2e] at DB3
  have hb2g : w.heap.size + 1 ≤ b2 := by have := B1.out.size; have := DA3.out.b; omega
  have hne2 : Ba ≠ Bb := fun h => hne h.symm
  clear hb2e hab
  go_wp2_with fail
  go_loopw [9, 10, 11, 12] (fun al x er i wr => ∃ n : Nat, i = .int .i64 n ∧ n ≤ xs.length ∧ ∃ a, al = .string a ∧ a.size ≤ 60 * n ∧ Hid (bs a = bs (catB (xs.take n))) ∧ er = .int .i64 (Dg.sure k q g (bs a)).2.2 ∧ Hid (St.PA w3 wr (w.heap.size + 1) b2 Ba Bb k q g (bs a) x)) (fun _ _ _ i _ => xs.length - (intOf i).toNat)
  case atStart =>
    refine ⟨0, rfl, by omega, ⟨#[]⟩, rfl, by decide, by simp [Hid, catB], by rw [show bs ⟨#[]⟩ = [] from rfl, (Dg.sure_nil k q g).1], .slice none 0 0, Below.refl _ _, DB3.out, ?_, St.AS.start DA3.out⟩
    rw [show bs ⟨#[]⟩ = [] from rfl, (Dg.sure_nil k q g).1]
    exact World.ownsRow_nil _ _ _ _
  case round =>
    obtain ⟨n, rfl, hnn, a, rfl, haz, HCA, rfl, HP0⟩ := hrel
    have XX : Hid (Below (w.heap.size + 1) w3 wr) := by obtain ⟨_, h, _⟩ := HP0.out; exact h
    have BW0 := Lib.hid (HX2.out _ XX.out)
    by_cases hlt : n < xs.length
    · have hlt' : (n : Int) < xs.length := by omega
      rcases HX.out.below BW0.out with hS | ⟨bk, off, rfl, hbk, hxc, hcell⟩
      · rw [hS] at hlt; simp at hlt
      obtain ⟨s, hs⟩ : ∃ s, xs[n] = s := ⟨_, rfl⟩
      have kc := hcell n s (by rw [List.getElem?_eq_getElem hlt, hs])
      have hsz : s.size ≤ 60 := hf2 s (by rw [← hs]; exact List.getElem_mem hlt)
      have HBK := Lib.hid (show bk < w.heap.size from by
        rcases HX.out with h | ⟨b', o', e', h', _⟩
        · rw [h] at hlt; simp at hlt
        · have : bk = b' := by injection e' with e'; injection e'
          omega)
      have HCM := Lib.hid (show bs (a ++ s) = bs (catB (xs.take (n + 1))) by rw [St.cat_more xs n hlt, hs, bs_app, HCA.out])
      have KC := Lib.hid (show ∀ W, Below (w.heap.size + 1) w3 W → W.cell? ⟨bk, off + n, none⟩ = some (.string s) from fun W hW => by
        have e1 := BW0.out.cell (p := ⟨bk, off + n, none⟩) HBK.out
        have e2 := (HX2.out _ hW).cell (p := ⟨bk, off + n, none⟩) HBK.out
        rw [e2, ← e1]
        exact kc)
      have haz2 := ba_app_size a s
      have haz3 : (a ++ s).size ≤ 60 * (n + 1) := by omega
      have hsum : a.size + s.size ≤ 9223372036854775807 := by omega
      clear hcell hs haz2
      go_wp2_with fail
      go_loopw [10, 11, 13] (fun x er i wr => ∃ j : Nat, i = .int .i64 j ∧ j ≤ s.size ∧ er = .int .i64 (Dg.sure k q g (bs a ++ (bs s).take j)).2.2 ∧ Hid (St.PA w3 wr (w.heap.size + 1) b2 Ba Bb k q g (bs a ++ (bs s).take j) x)) (fun _ _ i _ => s.size - (intOf i).toNat)
      case atStart => exact ⟨0, rfl, by omega, by rw [List.take_zero, List.append_nil], by rw [List.take_zero, List.append_nil]; exact HP0.out⟩
      case round =>
        obtain ⟨j, rfl, hj, rfl, HPj⟩ := hrel
        have XJ : Hid (Below (w.heap.size + 1) w3 wr) := by obtain ⟨_, h, _⟩ := HPj.out; exact h
        have kcj := KC.out _ XJ.out
        by_cases hjl : j < s.size
        · have hjl' : (j : Int) < s.size := by omega
          have hj0 : (0 : Int) ≤ j := by omega
          have hj1 : (j : Int) + 1 ≤ s.size := by omega
          have hj2 : (j : Int) ≤ (j : Int) + 1 := by omega
          have HLX := Lib.hid (show bs a ++ (bs s).take (j + 1) = (bs a ++ (bs s).take j) ++ bs (s.extract j (j + 1)) by rw [St.take_byte s j hjl, List.append_assoc])
          have htz : (s.extract j (j + 1)).size ≤ 1 := by rw [← bs_len, bs_ext, List.length_take]; omega
          have hLl : (bs a ++ (bs s).take j).length ≤ 2000 := by rw [List.length_append, bs_len, List.length_take, bs_len]; omega
          obtain ⟨t, ht⟩ : ∃ t, s.extract j (j + 1) = t := ⟨_, rfl⟩
          rw [ht] at HLX htz
          generalize bs a ++ (bs s).take j = L at *
          have HP := HPj.out
          clear HPj
          rcases HP with ⟨fva, hX, hDB, hO, hAS⟩
          have XR := Lib.hid hX
          have DB := Lib.hid hDB
          have OA := Lib.hid hO
          have hzr := hX.size
          rcases hAS with ⟨he0, hF⟩ | ⟨he0, p, gs, hD⟩
          · have FA := Lib.hid hF
            have HFO := Lib.hid (St.feed_one (w.heap.size + 1) Ba fva k q g L t wr hF (HFin.out _ (HX2.out _ hX)) (by omega) h1 h5 HQ.out (by omega))
            have hsl := Dg.sure_lens k q g (L ++ bs t)
            have hsl0 := (Dg.sure_lens k q g L).1
            rw [List.length_append, bs_len t] at hsl
            have herr := Dg.sure_errs k q g (L ++ bs t)
            clear hF hX hDB hO
            rw [he0]
            rcases herr with herr | herr
            · rw [show St.FeedP wr (w.heap.size + 1) Ba fva k q g L True (L ++ bs t) = fun e w' => ∃ fv'' v1 o, e = .returned (.tuple #[v1, .int .i64 0]) ∧ w'.ownsRow wr.heap.size 21 1 v1 o.length (i32s o) ∧ (Dg.sure k q g L).1 ++ o = (Dg.sure k q g (L ++ bs t)).1 ∧ St.Stp Ba wr fva w' fv'' ∧ St.Fed w' (w.heap.size + 1) Ba fv'' k q g (L ++ bs t) from by
                unfold St.FeedP
                rw [herr]
                funext e w'
                simp] at HFO
              go_wp2_with (first
                | (go_at_call 17; refine HFO.out.mono ?_; rintro e w4 ⟨fv4, v4, o4, rfl, ho4, hx4, hs4, hf4⟩; have F4 := Lib.hid hf4; have V4 := Lib.hid ho4; have O4 := Lib.hid (FA.out.keep hs4 OA.out (by decide) (by decide)); have X4 := Lib.hid (XR.out.trans (FA.out.belowS hs4)); have DB4 := Lib.hid (FA.out.other hs4 DB.out hne); have HX4 := Lib.hid hx4; have z4 := X4.out.size; have hol : o4.length ≤ 90000 := (by have := congrArg List.length hx4; rw [List.length_append] at this; omega); have hmx : (Dg.sure k q g L).1.length + o4.length ≤ maxLen := (by unfold maxLen; omega); have hmb : ((Dg.sure k q g L).1.length + o4.length) * 4 ≤ 140737488355328 := (by omega); have zz4 : w.heap.size + 1 ≤ w4.heap.size := (by omega); clear ho4 hx4 hs4 hf4)
                | (at_builtin; refine St.wpList_append_row rfl (.tmp 113) (.tmp 114) _ rfl (w.heap.size + 1) 21 i0 _ 1 4 Tryd.underlying25 I0.out I1.out I2.out I3.out rfl (by omega) u10 _ _ rfl O4.out _ v4 o4.length (i32s o4) rfl V4.out (St.i32s_one _) hmx hmb zz4 ?_; intro v5 w5 ho hg ha; have O5 := Lib.hid (by rw [← i32s_app, ← List.length_append, HX4.out] at ho; exact ho); have DB5 := Lib.hid (DB4.out.grown O4.out (by decide) (by decide) hg); have F5 := Lib.hid (F4.out.grown O4.out (by decide) (by decide) hg); have X5 := Lib.hid (X4.out.trans (below_grown O4.out hg zz4)); clear ho hg ha)
                | (go_at_call 20; obtain ⟨wt, hwt, hwe, hD5⟩ := F5.out; refine (St.waits_any _ _ _ _ _ _ _ _ _ _ _ hD5).mono ?_; rintro e w' ⟨rfl, rfl⟩; have hw3 : ¬ (3 : Int) < wt.size := (by have := (St.wt_size hwt).2; omega); have hwn : wt.size ≤ 9223372036854775807 := (by have := (St.wt_size hwt).2; omega); clear hwt hwe hD5))
              go_roundw
              case rel => exact ⟨j + 1, by go_num, by omega, by rw [HLX.out]; rw [herr], fv4, X5.out, DB5.out, by rw [HLX.out]; exact O5.out, by rw [HLX.out]; exact .inl ⟨herr, F5.out⟩⟩
              case measure => simp [intOf]; omega
            · rw [show St.FeedP wr (w.heap.size + 1) Ba fva k q g L True (L ++ bs t) = fun e w' => ∃ fv'' v1 o, e = .returned (.tuple #[v1, .int .i64 17]) ∧ w'.ownsRow wr.heap.size 21 1 v1 o.length (i32s o) ∧ (Dg.sure k q g L).1 ++ o = (Dg.sure k q g (L ++ bs t)).1 ∧ St.Stp Ba wr fva w' fv'' ∧ ∃ p gs, (p = (L ++ bs t).length) ∧ St.Dc w' (w.heap.size + 1) Ba fv'' p ⟨#[]⟩ (Dg.sure k q g (L ++ bs t)).2.1 (Dg.sureK k g (L ++ bs t)) q gs true from by
                unfold St.FeedP
                rw [herr]
                funext e w'
                simp] at HFO
              go_wp2_with (first
                | (go_at_call 17; refine HFO.out.mono ?_; rintro e w4 ⟨fv4, v4, o4, rfl, ho4, hx4, hs4, hf4⟩; obtain ⟨p4, gs4, hp4, hd4⟩ := hf4; subst hp4; have F4 := Lib.hid hd4; have V4 := Lib.hid ho4; have O4 := Lib.hid (FA.out.keep hs4 OA.out (by decide) (by decide)); have X4 := Lib.hid (XR.out.trans (FA.out.belowS hs4)); have DB4 := Lib.hid (FA.out.other hs4 DB.out hne); have HX4 := Lib.hid hx4; have z4 := X4.out.size; have hol : o4.length ≤ 90000 := (by have := congrArg List.length hx4; rw [List.length_append] at this; omega); have hmx : (Dg.sure k q g L).1.length + o4.length ≤ maxLen := (by unfold maxLen; omega); have hmb : ((Dg.sure k q g L).1.length + o4.length) * 4 ≤ 140737488355328 := (by omega); have zz4 : w.heap.size + 1 ≤ w4.heap.size := (by omega); clear ho4 hx4 hs4 hd4)
                | (at_builtin; refine St.wpList_append_row rfl (.tmp 113) (.tmp 114) _ rfl (w.heap.size + 1) 21 i0 _ 1 4 Tryd.underlying25 I0.out I1.out I2.out I3.out rfl (by omega) u10 _ _ rfl O4.out _ v4 o4.length (i32s o4) rfl V4.out (St.i32s_one _) hmx hmb zz4 ?_; intro v5 w5 ho hg ha; have O5 := Lib.hid (by rw [← i32s_app, ← List.length_append, HX4.out] at ho; exact ho); have DB5 := Lib.hid (DB4.out.grown O4.out (by decide) (by decide) hg); have F5 := Lib.hid (F4.out.grown O4.out (by decide) (by decide) hg); have X5 := Lib.hid (X4.out.trans (below_grown O4.out hg zz4)); clear ho hg ha)
                | (go_at_call 20; refine (St.waits_any _ _ _ _ _ _ _ _ _ _ _ F5.out).mono ?_; rintro e w' ⟨rfl, rfl⟩))
              go_roundw
              case rel => exact ⟨j + 1, by go_num, by omega, by rw [HLX.out]; rw [herr], fv4, X5.out, DB5.out, by rw [HLX.out]; exact O5.out, by rw [HLX.out]; exact .inr ⟨herr, _, _, F5.out⟩⟩
              case measure => simp [intOf]; omega
          · have HD := Lib.hid hD
            have HST := Lib.hid (St.over_stay k q g L (bs t) (by rw [he0]; decide))
            clear hD hX hDB hO
            rw [he0]
            go_wp2_with (first
              | (go_at_call 17; refine (St.feed_over _ _ _ _ _ _ _ _ _ _ _ (HD.out.bel ((Below.refl _ wr).alloc (Nat.le_refl _) (.cells #[.string t] 9)))).mono ?_; rintro e w' ⟨rfl, rfl⟩)
              | (at_builtin; refine wpList_append_own_none rfl (.tmp 113) (.tmp 114) _ rfl (w.heap.size + 1) 21 i0 1 Tryd.underlying25 I0.out u10 _ _ rfl (OA.out.alloc _) rfl ?_)
              | (go_at_call 20; refine (St.waits_any _ _ _ _ _ _ _ _ _ _ _ (HD.out.bel ((Below.refl _ wr).alloc (Nat.le_refl _) (.cells #[.string t] 9)))).mono ?_; rintro e w' ⟨rfl, rfl⟩))
            go_roundw
            case rel => exact ⟨j + 1, by go_num, by omega, by rw [HLX.out, HST.out.1, he0], fva, XR.out.alloc (by omega) _, DB.out.bel ((Below.refl _ wr).alloc (Nat.le_refl _) _), by rw [HLX.out, HST.out.1]; exact OA.out.alloc _, by rw [HLX.out]; exact .inr ⟨by rw [HST.out.1]; exact he0, p, gs, by rw [HST.out.1, HST.out.2]; exact HD.out.bel ((Below.refl _ wr).alloc (Nat.le_refl _) _)⟩⟩
            case measure => simp [intOf]; omega
        · have hjl' : ¬ (j : Int) < s.size := by omega
          have HEJ := Lib.hid (show bs a ++ (bs s).take j = bs (a ++ s) by rw [List.take_of_length_le (by rw [bs_len]; omega), bs_app])
          rw [HEJ.out] at HPj ⊢
          go_wp2_with fail
          go_roundw
          case rel => exact ⟨n + 1, by go_num, by omega, a ++ s, rfl, haz3, HCM.out, rfl, HPj.out⟩
          case measure => simp [intOf]; omega
    · have hlt' : ¬ (n : Int) < xs.length := by omega
      have HB : Hid (∀ W, Below (w.heap.size + 1) w3 W → Strs W A c xs) := fun W hW => HX.out.below (HX2.out _ hW)
      have HBA := Lib.hid (show xs ≠ [] → ∀ a', A = some a' → a'.block ≠ Bb from fun h0 a' ha' => by
        rcases HX.out with h | ⟨bk, o, e, h', _⟩
        · exact absurd h h0
        · rw [e] at ha'
          injection ha' with ha'
          subst ha'
          have := DB3.out.b
          simp only
          omega)
      have hca : bs a = bs (catB xs) := by have := HCA.out; rw [List.take_of_length_le (by omega)] at this; exact this
      have HFB := Lib.hid (fun W (hD : St.Dc W b2 Bb (.slice none 0 0) 0 ⟨#[]⟩ [] k q g false) (hW : Below (w.heap.size + 1) w3 W) => St.feed_all b2 Bb k q g A c xs W hD (HFin.out _ (HX2.out _ hW)) (by omega) h1 h5 HQ.out (HB.out _ hW) HBA.out (by omega) (by rw [← hca, bs_len]; omega))
      rw [← hca] at HFB
      have HWH := Lib.hid (fun W hW => St.whole_any k q g a W hW h1 h5 HQ.out (by omega))
      have QC := Lib.hid (show ∀ W, Below (w.heap.size + 1) w3 W → W.cell? ⟨w.heap.size, 0, none⟩ = some (.int .i64 (k : Int)) ∧ W.cell? ⟨w.heap.size, 1, none⟩ = some (.int .i64 q) ∧ W.cell? ⟨w.heap.size, 2, none⟩ = some (.bool g) from fun W hW => ⟨(hW.cell (p := ⟨w.heap.size, 0, none⟩) (Nat.lt_succ_self _)).trans D0.out, (hW.cell (p := ⟨w.heap.size, 1, none⟩) (Nat.lt_succ_self _)).trans D1.out, (hW.cell (p := ⟨w.heap.size, 2, none⟩) (Nat.lt_succ_self _)).trans D2.out⟩)
      have hwl := Dg.whole_lens k q g (bs a)
      have hsl := (Dg.sure_lens k q g (bs a)).1
      rw [bs_len] at hwl hsl
      rcases HP0.out with ⟨fva, hX, hDB, hO, hAS⟩
      have XR := Lib.hid hX
      have DB := Lib.hid hDB
      have OA := Lib.hid hO
      have hzr := hX.size
      have hs0 : (Dg.sure k q g []).1 = [] := by rw [(Dg.sure_nil k q g).1]
      clear hX hDB hO hca
      rcases hAS with ⟨he0, hF⟩ | ⟨he0, p, gs, hD⟩
      · have FA := Lib.hid hF
        have HCL := Lib.hid (St.close_fed (w.heap.size + 1) Ba fva k q g (bs a) wr hF (HFin.out _ (HX2.out _ XR.out)) (by omega) h1 h5 HQ.out (by rw [bs_len]; omega))
        have HCB2 := Lib.hid (fun fv W (hFW : St.Fed W b2 Bb fv k q g (bs a)) (hW : Below (w.heap.size + 1) w3 W) => St.close_fed b2 Bb fv k q g (bs a) W hFW (HFin.out _ (HX2.out _ hW)) (by omega) h1 h5 HQ.out (by rw [bs_len]; omega))
        have HFB0 := Lib.hid (fun W hD hW => (show Calls Tryd.prog 17 #[.pointer (some ⟨Bb, 0, none⟩), .slice A xs.length c] W (fun e w' => ∃ fv' v1, e = .returned (.tuple #[v1, .int .i64 0]) ∧ w'.ownsRow W.heap.size 21 1 v1 (Dg.sure k q g (bs a)).1.length (i32s (Dg.sure k q g (bs a)).1) ∧ St.Stp Bb W (.slice none 0 0) w' fv' ∧ St.Fed w' b2 Bb fv' k q g (bs a)) from (HFB.out W hD hW).mono (by
          rintro e w' ⟨fv', v1, o, he, ho, hx, hs, hc⟩
          rw [hs0, List.nil_append] at hx
          rw [hx] at ho
          rw [he0] at he
          rcases hc with ⟨hc0, hc⟩ | ⟨hc0, p', gs', _, hc⟩
          · exact ⟨fv', v1, he, ho, hs, hc⟩
          · rw [he0] at hc0; exact absurd hc0 (by decide))))
        rw [he0]
        generalize hss : (Dg.sure k q g (bs a)).1 = ss at *
        generalize Dg.whole k q g (bs a) = dd at *
        generalize Dg.knd k g (bs a) = kd at *
        have hl1 : dd.1.length ≤ 100000 := by omega
        have hl2 : dd.2.1.length ≤ 100000 := by omega
        have hl3 : dd.2.1.length ≤ 300000 := by omega
        clear hF HFB hss
        go_wp2_with fail
        refine HCL.out.mono ?_
        rintro e w4 ⟨fv4, v4, o4, rfl, ho4, hx4, hs4, hd4⟩
        have V4 := Lib.hid ho4
        have O4 := Lib.hid (FA.out.keep hs4 OA.out (by decide) (by decide))
        have X4 := Lib.hid (XR.out.trans (FA.out.belowS hs4))
        have DB4 := Lib.hid (FA.out.other hs4 DB.out hne)
        have DA4 := Lib.hid hd4
        have HX4 := Lib.hid hx4
        have z4 := X4.out.size
        have hol : o4.length ≤ 90000 := by have := congrArg List.length hx4; rw [List.length_append] at this; omega
        have hmx : ss.length + o4.length ≤ maxLen := by unfold maxLen; omega
        have hmb : (ss.length + o4.length) * 4 ≤ 140737488355328 := by omega
        have zz4 : w.heap.size + 1 ≤ w4.heap.size := by omega
        clear ho4 hx4 hs4 hd4
        go_wp2_with (at_builtin; refine St.wpList_append_row rfl (.tmp 128) (.tmp 129) _ rfl (w.heap.size + 1) 21 i0 _ 1 4 Tryd.underlying25 I0.out I1.out I2.out I3.out rfl (by omega) u10 _ _ rfl O4.out _ v4 o4.length (i32s o4) rfl V4.out (St.i32s_one _) hmx hmb zz4 ?_; intro v5 w5 ho hg ha; have O5 := Lib.hid (by rw [← i32s_app, ← List.length_append, HX4.out] at ho; exact ho); have DB5 := Lib.hid (DB4.out.grown O4.out (by decide) (by decide) hg); have DA5 := Lib.hid (DA4.out.grown O4.out (by decide) (by decide) hg); have X5 := Lib.hid (X4.out.trans (below_grown O4.out hg zz4)); obtain ⟨Ax, cx, hvx, hIx⟩ := own_ints O5.out; subst hvx; clear ho hg ha hIx)
        refine (HFB0.out _ DB5.out X5.out).mono ?_
        rintro e w6 ⟨fv6, v6, rfl, ho6, hs6, hf6⟩
        have FB6 := Lib.hid hf6
        have Y6 := Lib.hid ho6
        have O6 := Lib.hid (DB5.out.keep hs6 O5.out (by decide) (by decide))
        have DA6 := Lib.hid (DB5.out.later (wc := w5) hs6 DA5.out hne2 (fun g hg => (DA5.out.f.lt g hg).2) (fun g hg => by cases hg))
        have X6 := Lib.hid (X5.out.trans ((DB5.out.belowS hs6).mono hb2g))
        have HN6 := Lib.hid (show ∀ g, fv6.ownBlock = some g → w5.heap.size ≤ g from fun g hg => (hs6.own g hg).resolve_left (by simp [Value.ownBlock]))
        have z56 := hs6.size
        clear ho6 hs6 hf6
        go_wp2_with fail
        refine (HCB2.out fv6 _ FB6.out X6.out).mono ?_
        rintro e w7 ⟨fv7, v7, o7, rfl, ho7, hx7, hs7, hd7⟩
        have V7 := Lib.hid ho7
        have O7 := Lib.hid (FB6.out.keep hs7 O6.out (by decide) (by decide))
        have Y7 := Lib.hid (FB6.out.keep hs7 Y6.out (by decide) (by decide))
        have DA7 := Lib.hid (FB6.out.later (wc := w5) hs7 DA6.out hne2 (fun g hg => (DA5.out.f.lt g hg).2) HN6.out)
        have DB7 := Lib.hid hd7
        have X7 := Lib.hid (X6.out.trans ((FB6.out.belowS hs7).mono hb2g))
        have HX7 := Lib.hid hx7
        have hol7 : o7.length ≤ 90000 := by have := congrArg List.length hx7; rw [List.length_append] at this; omega
        have hmx7 : ss.length + o7.length ≤ maxLen := by unfold maxLen; omega
        have hmb7 : (ss.length + o7.length) * 4 ≤ 140737488355328 := by omega
        have z7 : w5.heap.size ≤ w7.heap.size := by have := hs7.size; omega
        clear ho7 hx7 hs7 hd7
        go_wp2_with (at_builtin; refine St.wpList_append_row rfl (.tmp 145) (.tmp 146) _ rfl w5.heap.size 21 i0 _ 1 4 Tryd.underlying25 I0.out I1.out I2.out I3.out rfl (by omega) v6 _ _ rfl Y7.out _ v7 o7.length (i32s o7) rfl V7.out (St.i32s_one _) hmx7 hmb7 z7 ?_; intro v8 w8 ho hg ha; have Y8 := Lib.hid (by rw [← i32s_app, ← List.length_append, HX7.out] at ho; exact ho); have O8 := Lib.hid (O7.out.kept hg (St.own_old O5.out Y7.out (Nat.le_refl _))); have DA8 := Lib.hid (DA7.out.grown Y7.out (by decide) (by decide) hg); have DB8 := Lib.hid (DB7.out.grown Y7.out (by decide) (by decide) hg); have X8 := Lib.hid (X7.out.trans ((below_grown Y7.out hg z7).mono (by have := X5.out.size; omega))); obtain ⟨Ay, cy, hvy, hIy⟩ := own_ints Y8.out; subst hvy; obtain ⟨q0, q1, q2⟩ := QC.out _ X8.out; clear ho hg ha hIy)
        refine (HWH.out _ (HFin.out _ (HX2.out _ X8.out))).mono ?_
        rintro e w10 ⟨Aw, cw, Af, cf, rfl, _, _, hiw, hfw, hb10⟩
        have IX := Lib.hid ((St.ints_own O8.out).below hb10)
        have IY := Lib.hid ((St.ints_own Y8.out).below hb10)
        have IW := Lib.hid hiw
        have FW := Lib.hid hfw
        have DA10 := Lib.hid (DA8.out.bel hb10)
        have DB10 := Lib.hid (DB8.out.bel hb10)
        have BB := Lib.hid ((HX2.out _ X8.out).trans (hb10.mono (HX2.out _ X8.out).size))
        clear hiw hfw hb10 q0 q1 q2
        go_wp2_with fail
        refine (runes_any Ax Aw cx cw dd.1 dd.1 _ IX.out IW.out hl1 hl1).mono ?_
        rintro e w11 ⟨rfl, hb11⟩
        rw [show decide (dd.1 = dd.1) = true from by simp]
        have IY11 := Lib.hid (IY.out.below hb11)
        have IW11 := Lib.hid (IW.out.below hb11)
        have FW11 := Lib.hid (FW.out.below hb11)
        have DA11 := Lib.hid (DA10.out.bel hb11)
        have DB11 := Lib.hid (DB10.out.bel hb11)
        have BB11 := Lib.hid (BB.out.trans (hb11.mono BB.out.size))
        clear hb11
        go_wp2_with fail
        refine (runes_any Ay Aw cy cw dd.1 dd.1 _ IY11.out IW11.out hl1 hl1).mono ?_
        rintro e w12 ⟨rfl, hb12⟩
        rw [show decide (dd.1 = dd.1) = true from by simp]
        have FW12 := Lib.hid (FW11.out.below hb12)
        have DA12 := Lib.hid (DA11.out.bel hb12)
        have DB12 := Lib.hid (DB11.out.bel hb12)
        have BB12 := Lib.hid (BB11.out.trans (hb12.mono BB11.out.size))
        clear hb12
        go_wp2_with fail
        refine (St.kind_any _ _ _ _ _ _ _ _ _ _ _ DA12.out).mono ?_
        rintro e w' ⟨rfl, rfl⟩
        go_wp2_with fail
        refine (St.kind_any _ _ _ _ _ _ _ _ _ _ _ DB12.out).mono ?_
        rintro e w' ⟨rfl, rfl⟩
        go_wp2_with fail
        refine (St.faults_got _ _ _ _ _ _ _ _ _ _ _ DA12.out hl3).mono ?_
        rintro e w13 ⟨v13, rfl, ho13, hb13⟩
        obtain ⟨A13, c13, hv13, hf13⟩ := own_flts ho13
        subst hv13
        have FA13 := Lib.hid hf13
        have FW13 := Lib.hid (FW12.out.below hb13)
        have DB13 := Lib.hid (DB12.out.bel hb13)
        have BB13 := Lib.hid (BB12.out.trans (hb13.mono BB12.out.size))
        clear ho13 hb13 hf13
        go_wp2_with fail
        refine (faults_any A13 Af c13 cf dd.2.1 dd.2.1 _ FA13.out FW13.out hl2 hl2).mono ?_
        rintro e w14 ⟨rfl, hb14⟩
        rw [show decide (dd.2.1 = dd.2.1) = true from by simp]
        have FW14 := Lib.hid (FW13.out.below hb14)
        have DB14 := Lib.hid (DB13.out.bel hb14)
        have BB14 := Lib.hid (BB13.out.trans (hb14.mono BB13.out.size))
        clear hb14
        go_wp2_with fail
        refine (St.faults_got _ _ _ _ _ _ _ _ _ _ _ DB14.out hl3).mono ?_
        rintro e w15 ⟨v15, rfl, ho15, hb15⟩
        obtain ⟨A15, c15, hv15, hf15⟩ := own_flts ho15
        subst hv15
        have FA15 := Lib.hid hf15
        have FW15 := Lib.hid (FW14.out.below hb15)
        have BB15 := Lib.hid (BB14.out.trans (hb15.mono BB14.out.size))
        clear ho15 hb15 hf15
        go_wp2_with fail
        refine (faults_any A15 Af c15 cf dd.2.1 dd.2.1 _ FA15.out FW15.out hl2 hl2).mono ?_
        rintro e w16 ⟨rfl, hb16⟩
        rw [show decide (dd.2.1 = dd.2.1) = true from by simp]
        have BB16 := Lib.hid (BB15.out.trans (hb16.mono BB15.out.size))
        clear hb16
        go_wp2_with (go_at_call 9; refine (HA.out _ (HFin.out _ BB16.out)).mono ?_; rintro e w9 ⟨rfl, hb9⟩; have B9 := Lib.hid (BB16.out.trans (hb9.mono BB16.out.size)); clear hb9)
        go_ret
        exact ⟨rfl, B9.out⟩
      · have HD := Lib.hid hD
        obtain ⟨hw1, hw2⟩ := St.over_whole k q g (bs a) he0
        have HFB0 := Lib.hid (fun W hD hW => (show Calls Tryd.prog 17 #[.pointer (some ⟨Bb, 0, none⟩), .slice A xs.length c] W (fun e w' => ∃ fv' v1, e = .returned (.tuple #[v1, .int .i64 17]) ∧ w'.ownsRow W.heap.size 21 1 v1 (Dg.sure k q g (bs a)).1.length (i32s (Dg.sure k q g (bs a)).1) ∧ St.Stp Bb W (.slice none 0 0) w' fv' ∧ ∃ p gs, St.Dc w' b2 Bb fv' p ⟨#[]⟩ (Dg.sure k q g (bs a)).2.1 (Dg.sureK k g (bs a)) q gs true) from (HFB.out W hD hW).mono (by
          rintro e w' ⟨fv', v1, o, he, ho, hx, hs, hc⟩
          rw [hs0, List.nil_append] at hx
          rw [hx] at ho
          rw [he0] at he
          rcases hc with ⟨hc0, hc⟩ | ⟨hc0, p', gs', _, hc⟩
          · rw [he0] at hc0; exact absurd hc0 (by decide)
          · exact ⟨fv', v1, he, ho, hs, p', gs', hc⟩)))
        rw [he0]
        rw [hw1] at HWH hwl
        rw [hw2] at HWH
        generalize Dg.sure k q g (bs a) = dd at *
        generalize Dg.sureK k g (bs a) = kd at *
        have hl1 : dd.1.length ≤ 100000 := by omega
        have hl2 : dd.2.1.length ≤ 100000 := by omega
        have hl3 : dd.2.1.length ≤ 300000 := by omega
        obtain ⟨Ax, cx, hvx, hIx⟩ := own_ints OA.out
        subst hvx
        clear hD HFB hw1 hw2 hIx
        go_wp2_with fail
        refine (St.close_over _ _ _ _ _ _ _ _ _ _ HD.out).mono ?_
        rintro e w' ⟨rfl, rfl⟩
        go_wp2_with (at_builtin; refine wpList_append_own_none rfl (.tmp 128) (.tmp 129) _ rfl (w.heap.size + 1) 21 i0 1 Tryd.underlying25 I0.out _ _ _ rfl OA.out rfl ?_)
        refine (HFB0.out _ DB.out XR.out).mono ?_
        rintro e w6 ⟨fv6, v6, rfl, ho6, hs6, p6, gs6, hd6⟩
        have Y6 := Lib.hid ho6
        have O8 := Lib.hid (DB.out.keep hs6 OA.out (by decide) (by decide))
        have DA8 := Lib.hid (DB.out.later (wc := wr) hs6 HD.out hne2 (fun g hg => (HD.out.f.lt g hg).2) (fun g hg => by cases hg))
        have DB8 := Lib.hid hd6
        have X8 := Lib.hid (XR.out.trans ((DB.out.belowS hs6).mono hb2g))
        obtain ⟨Ay, cy, hvy, hIy⟩ := own_ints ho6
        subst hvy
        have Y8 := Lib.hid ho6
        obtain ⟨q0, q1, q2⟩ := QC.out _ X8.out
        clear ho6 hs6 hd6 hIy
        go_wp2_with fail
        refine (St.close_over _ _ _ _ _ _ _ _ _ _ DB8.out).mono ?_
        rintro e w' ⟨rfl, rfl⟩
        go_wp2_with (at_builtin; refine wpList_append_own_none rfl (.tmp 145) (.tmp 146) _ rfl wr.heap.size 21 i0 1 Tryd.underlying25 I0.out _ _ _ rfl Y8.out rfl ?_)
        refine (HWH.out _ (HFin.out _ (HX2.out _ X8.out))).mono ?_
        rintro e w10 ⟨Aw, cw, Af, cf, rfl, _, _, hiw, hfw, hb10⟩
        have IX := Lib.hid ((St.ints_own O8.out).below hb10)
        have IY := Lib.hid ((St.ints_own Y8.out).below hb10)
        have IW := Lib.hid hiw
        have FW := Lib.hid hfw
        have DA10 := Lib.hid (DA8.out.bel hb10)
        have DB10 := Lib.hid (DB8.out.bel hb10)
        have BB := Lib.hid ((HX2.out _ X8.out).trans (hb10.mono (HX2.out _ X8.out).size))
        clear hiw hfw hb10 q0 q1 q2
        go_wp2_with fail
        refine (runes_any Ax Aw cx cw dd.1 dd.1 _ IX.out IW.out hl1 hl1).mono ?_
        rintro e w11 ⟨rfl, hb11⟩
        rw [show decide (dd.1 = dd.1) = true from by simp]
        have IY11 := Lib.hid (IY.out.below hb11)
        have IW11 := Lib.hid (IW.out.below hb11)
        have FW11 := Lib.hid (FW.out.below hb11)
        have DA11 := Lib.hid (DA10.out.bel hb11)
        have DB11 := Lib.hid (DB10.out.bel hb11)
        have BB11 := Lib.hid (BB.out.trans (hb11.mono BB.out.size))
        clear hb11
        go_wp2_with fail
        refine (runes_any Ay Aw cy cw dd.1 dd.1 _ IY11.out IW11.out hl1 hl1).mono ?_
        rintro e w12 ⟨rfl, hb12⟩
        rw [show decide (dd.1 = dd.1) = true from by simp]
        have FW12 := Lib.hid (FW11.out.below hb12)
        have DA12 := Lib.hid (DA11.out.bel hb12)
        have DB12 := Lib.hid (DB11.out.bel hb12)
        have BB12 := Lib.hid (BB11.out.trans (hb12.mono BB11.out.size))
        clear hb12
        go_wp2_with fail
        refine (St.kind_any _ _ _ _ _ _ _ _ _ _ _ DA12.out).mono ?_
        rintro e w' ⟨rfl, rfl⟩
        go_wp2_with fail
        refine (St.kind_any _ _ _ _ _ _ _ _ _ _ _ DB12.out).mono ?_
        rintro e w' ⟨rfl, rfl⟩
        go_wp2_with fail
        refine (St.faults_got _ _ _ _ _ _ _ _ _ _ _ DA12.out hl3).mono ?_
        rintro e w13 ⟨v13, rfl, ho13, hb13⟩
        obtain ⟨A13, c13, hv13, hf13⟩ := own_flts ho13
        subst hv13
        have FA13 := Lib.hid hf13
        have FW13 := Lib.hid (FW12.out.below hb13)
        have DB13 := Lib.hid (DB12.out.bel hb13)
        have BB13 := Lib.hid (BB12.out.trans (hb13.mono BB12.out.size))
        clear ho13 hb13 hf13
        go_wp2_with fail
        refine (faults_any A13 Af c13 cf dd.2.1 dd.2.1 _ FA13.out FW13.out hl2 hl2).mono ?_
        rintro e w14 ⟨rfl, hb14⟩
        rw [show decide (dd.2.1 = dd.2.1) = true from by simp]
        have FW14 := Lib.hid (FW13.out.below hb14)
        have DB14 := Lib.hid (DB13.out.bel hb14)
        have BB14 := Lib.hid (BB13.out.trans (hb14.mono BB13.out.size))
        clear hb14
        go_wp2_with fail
        refine (St.faults_got _ _ _ _ _ _ _ _ _ _ _ DB14.out hl3).mono ?_
        rintro e w15 ⟨v15, rfl, ho15, hb15⟩
        obtain ⟨A15, c15, hv15, hf15⟩ := own_flts ho15
        subst hv15
        have FA15 := Lib.hid hf15
        have FW15 := Lib.hid (FW14.out.below hb15)
        have BB15 := Lib.hid (BB14.out.trans (hb15.mono BB14.out.size))
        clear ho15 hb15 hf15
        go_wp2_with fail
        refine (faults_any A15 Af c15 cf dd.2.1 dd.2.1 _ FA15.out FW15.out hl2 hl2).mono ?_
        rintro e w16 ⟨rfl, hb16⟩
        rw [show decide (dd.2.1 = dd.2.1) = true from by simp]
        have BB16 := Lib.hid (BB15.out.trans (hb16.mono BB15.out.size))
        clear hb16
        go_wp2_with (go_at_call 9; refine (HA.out _ (HFin.out _ BB16.out)).mono ?_; rintro e w9 ⟨rfl, hb9⟩; have B9 := Lib.hid (BB16.out.trans (hb9.mono BB16.out.size)); clear hb9)
        go_ret
        exact ⟨rfl, B9.out⟩
theorem streamParts_walk (k q : Int) (g : Bool) (A : Option Addr) (c : Nat) (xs : List ByteArray) (w : World) (hx : Strs w A c xs) (hn : xs.length ≤ 8796093022208) (hss : ∀ s ∈ xs, s.size ≤ 9223372036854775807) (hT : Tabs w) : Calls Tryd.prog 5 #[.agg #[.int .i64 k, .int .i64 q, .bool g], .slice A xs.length c] w fun e w' => e = .returned (.bool true) ∧ Below w.heap.size w w' := by
  by_cases hm : 1 ≤ k ∧ k ≤ 5 ∧ (q = 1 ∨ q = 2 ∨ q = 3)
  · obtain ⟨n, rfl⟩ : ∃ n : Nat, k = n := ⟨k.toNat, by omega⟩
    cases hf : St.fewB xs
    · exact streamParts_many n q g A c xs w hx hn hss (by omega) (by omega) hm.2.2 hf hT
    · exact streamParts_in n q g A c xs w hx hn hss (by omega) (by omega) hm.2.2 hf hT
  · exact streamParts_no k q g A c xs w hx hn hss hm hT

set_option maxRecDepth 100000 in
theorem streamParts_lifted (os : Os) (started : os.Started) (H : Type) (enc : TypeId × Value → H) :
    ReturnsInHanded {} Tryd.checked os 5 .any (fun w args => (Rows.streamPartsSpec.pre enc Tryd.prog Tryd.f5 [] false w args ∧ laidMetH Tryd.prog laid1 w) ∧ sizedMet enc Tryd.prog Tryd.f5 (OpenSpec.ofChange Rows.streamPartsSpec) false w args)
      (Rows.streamPartsSpec.post enc Tryd.prog Tryd.f5 false true false false) := by
  refine returnsInHanded_of_change_and (C := Tryd.checked) (X := fun w _ => laidMetH Tryd.prog laid1 w) (fun _ _ _ hh h => h.of_heap hh) own started (by kernel_rfl) Tryd.func5
    (ChangeSpec.witness_shaped (enc := enc) (C := Tryd.checked) (os := os) (X := fun w _ => laidMetH Tryd.prog laid1 w) false (World.doorLaid Tryd.prog 400 os) #[.agg #[.int .i64 0, .int .i64 0, .bool false], .slice none 0 0] 8 rfl (World.shaped_of_RefB (by kernel_rfl) (by kernel_rfl)) (by kernel_rfl) (by kernel_rfl) (by kernel_rfl) (door_met os _)) ?_
  intro W base args ds gs before hval0 hW _ hsz hL _
  have hval : ∀ (j : Nat) t v, Tryd.f5.params[j]? = some t → args[j]? = some v → Value.okWide Tryd.prog W .any base t v := hval0
  have hW' := hW
  obtain ⟨p, q, hA0, hV, rfl, hfz, hnd⟩ := hW
  have hA : DataW.TrodAll enc Tryd.prog W 0 (fun _ => true) true Tryd.f5.params.toList args.toList ds p := hA0
  rw [Tryd.params5] at hA hval
  obtain ⟨v0, vs0, d0, ds0, p0, q0, hargs, rfl, rfl, h0, r0⟩ := trodAll_cons hA
  obtain ⟨v1, vs1, d1, ds1, p1, q1, rfl, rfl, rfl, h1, r1⟩ := trodAll_cons r0
  obtain ⟨rfl, rfl, rfl⟩ := trodAll_nil r1
  obtain rfl : args = #[v0, v1] := by cases args; simp_all
  obtain ⟨rfl, rfl⟩ := trodVars_none hV
  obtain ⟨cs0, rfl, _⟩ := okWide_struct Tryd.underlying23 (hval 0 23 v0 rfl rfl)
  have k0 := h0
  have lt0 : ∀ x ∈ p0, x.block < W.heap.size := by obtain ⟨m, hm⟩ := k0; exact DataW.trod_lt m _ _ _ hm
  obtain ⟨a0, b0, c0, rfl⟩ := how_of_trod h0
  obtain ⟨A1, len1, cap1, rfl⟩ := okWide_slice Tryd.underlying36 (hval 1 36 v1 rfl rfl)
  have k1 := h1
  have lt1 : ∀ x ∈ p1, x.block < W.heap.size := by obtain ⟨m, hm⟩ := k1; exact DataW.trod_lt m _ _ _ hm
  obtain ⟨l1, e1, g1, dd1, gs1⟩ := strs_of_trod h1
  have z1 : l1.length ≤ 8796093022208 := strs_bound dd1 (fun el sp hd => sized_slice hsz (j := 1) (t := 36) rfl (by rw [hd]; rfl) Tryd.underlying36)
  subst e1
  clear hA0 hval0
  refine (streamParts_walk a0 b0 c0 A1 cap1 l1 W g1 z1 gs1 (of_laid hL)).mono fun e W' ⟨he, bel⟩ => ?_
  subst he
  exact ⟨_, rfl, _, _, _, [], _, [], hW', trodAll_mk1 (shut_bool Tryd.underlying4 _), (trodAll_cons_mk (Below.trod laidOut (by kernel_rfl) (of_decide_eq_true (by kernel_rfl)) k0 bel lt0) (trodAll_cons_mk (Below.trod laidOut (by kernel_rfl) (of_decide_eq_true (by kernel_rfl)) k1 bel lt1) trodAll_mk0)), rfl, bel.frame _, fun h => by cases h⟩

theorem streamParts_row : Rows.StreamPartsSaid :=
  OpenClaim.holds_of_wide 5 Tryd.f5 rfl rfl rfl rfl rfl rfl rfl ⟨rfl, rfl, rfl, rfl, rfl⟩ rfl rfl rfl rfl rfl (by kernel_rfl) Tryd.func5 (by kernel_rfl)
    (of_decide_eq_true (by kernel_rfl)) (by unfold Func.isWrapper; first | (rw [if_pos (by decide +kernel)]; kernel_rfl) | (rw [if_neg (by decide +kernel)]; exact ⟨rfl, rfl⟩))
    (fun os started H enc _ => streamParts_lifted os started H enc)

theorem streamParts_holds : Rows.StreamPartsCardSaid :=
  Claim7.holds_tied_plain_at .later [] [.data, .data] true Rows.streamPartsCard.stood.harness false
    streamParts_row (fun _ h => by cases h) (by kernel_rfl) (fun _ h => by cases h) streamParts_row_tie rfl ⟨rfl, rfl⟩ (by kernel_rfl) rfl
    (fun f fn hf hfn => by
      obtain rfl : f = 5 := Option.some.inj ((show Tryd.prog.funcNamed Rows.streamPartsRow.func = some 5 by kernel_rfl).symm.trans hf) |>.symm
      obtain rfl : fn = Tryd.f5 := (Option.some.inj (Tryd.func5.symm.trans hfn)).symm
      exact ⟨by kernel_rfl, fun j t ht => by
        rw [Tryd.params5] at ht
        have hm : t ∈ [23, 36] := by simpa using Array.mem_of_getElem? ht
        have hall : ([23, 36].all fun u => !Tryd.prog.wantsStandIn u) = true := by kernel_rfl
        exact (show Tryd.prog.wantsStandIn t = false by simpa using List.all_eq_true.1 hall t hm)⟩)
    (by kernel_rfl)
#print axioms streamParts_holds
end Go.Proofs.YthnfopjjghohcaaDoor

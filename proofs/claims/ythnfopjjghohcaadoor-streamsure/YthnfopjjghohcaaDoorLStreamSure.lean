/- StreamSure: for every kind, policy, guess, parts and bytes behind them the law returns true and all read as before: what is answered so far does not hang on what comes behind. Conditions: the tables 'shapes' and 'layouts' as the program's text lays them (tied). -/
import Derived.Test.YthnfopjjghohcaaDoorTR
import Derived.Test.YthnfopjjghohcaaDoorTO
import Derived.Test.YthnfopjjghohcaaDoorCards
import Derived.ShutString
import Derived.ChangeOld
namespace Go.Proofs.YthnfopjjghohcaaDoor
open Go.ChangeShapes Go.WideShapes Go.ChangeAt Go.WideMaps Go.WideElems Go.RowKit
open Go.ChangeMaps (open_string shut_string)
open St (Tabs)

set_option maxRecDepth 100000 in
set_option maxHeartbeats 2000000 in
theorem streamSure_no (k q : Int) (g : Bool) (A : Option Addr) (c : Nat) (xs : List ByteArray) (more : ByteArray) (w : World) (hx : Strs w A c xs) (hn : xs.length ≤ 8796093022208) (hss : ∀ s ∈ xs, s.size ≤ 9223372036854775807) (_hmo : more.size ≤ 9223372036854775807) (hm : ¬ (1 ≤ k ∧ k ≤ 5 ∧ (q = 1 ∨ q = 2 ∨ q = 3))) (hT : Tabs w) : Calls Tryd.prog 8 #[.agg #[.int .i64 k, .int .i64 q, .bool g], .slice A xs.length c, .string more] w fun e w' => e = .returned (.bool true) ∧ Below w.heap.size w w' := by
  have hpos := hT.pos
  have HFin := Lib.hid (show ∀ w2 : World, Below w.heap.size w w2 → Tabs w2 from fun w2 h => hT.below h hpos)
  have B0 := Lib.hid (Below.refl w.heap.size w)
  have HA := Lib.hid (fun W hW => St.awake_any W hW)
  have BX := Lib.hid (B0.out.alloc (Nat.le_refl _) (.cells #[.int .i64 k, .int .i64 q, .bool g] 23))
  have HX := Lib.hid hx
  have HFW := Lib.hid (fun W hW => St.few_any A c xs W hW hn hss)
  have HN := Lib.hid (fun W hW => St.new_no k q g W hW hm)
  clear hT hm hx hss HX HFW
  go_enter Tryd.func8, Tryd.ntmps8
  go_wp2_with (first
    | (go_at_call 15; refine (HN.out _ (HFin.out _ BX.out)).mono ?_; rintro e w1 ⟨rfl, hb1⟩; have B1 := Lib.hid (BX.out.trans (hb1.mono BX.out.size)); have c0 := hb1.cell (p := ⟨w.heap.size, 0, none⟩) (by simp); have c1 := hb1.cell (p := ⟨w.heap.size, 1, none⟩) (by simp); have c2 := hb1.cell (p := ⟨w.heap.size, 2, none⟩) (by simp); simp at c0 c1 c2; clear hb1)
    | (go_at_call 9; refine (HA.out _ (HFin.out _ B1.out)).mono ?_; rintro e w9 ⟨rfl, hb9⟩; have B9 := Lib.hid (B1.out.trans (hb9.mono B1.out.size)); clear hb9))
  go_ret
  exact ⟨rfl, B9.out⟩
set_option maxRecDepth 100000 in
set_option maxHeartbeats 2000000 in
theorem streamSure_many (k : Nat) (q : Int) (g : Bool) (A : Option Addr) (c : Nat) (xs : List ByteArray) (more : ByteArray) (w : World) (hx : Strs w A c xs) (hn : xs.length ≤ 8796093022208) (hss : ∀ s ∈ xs, s.size ≤ 9223372036854775807) (_hmo : more.size ≤ 9223372036854775807) (h1 : 1 ≤ k) (h5 : k ≤ 5) (hq : q = 1 ∨ q = 2 ∨ q = 3) (hf : St.fewB xs = false) (hT : Tabs w) : Calls Tryd.prog 8 #[.agg #[.int .i64 (k : Int), .int .i64 q, .bool g], .slice A xs.length c, .string more] w fun e w' => e = .returned (.bool true) ∧ Below w.heap.size w w' := by
  have hpos := hT.pos
  have HFin := Lib.hid (show ∀ w2 : World, Below w.heap.size w w2 → Tabs w2 from fun w2 h => hT.below h hpos)
  have B0 := Lib.hid (Below.refl w.heap.size w)
  have HA := Lib.hid (fun W hW => St.awake_any W hW)
  have BX := Lib.hid (B0.out.alloc (Nat.le_refl _) (.cells #[.int .i64 (k : Int), .int .i64 q, .bool g] 23))
  have HX := Lib.hid hx
  have HFW := Lib.hid (fun W hW => St.few_any A c xs W hW hn hss)
  have HN := Lib.hid (fun W hW => St.new_ok k q g W hW h1 h5 hq)
  rw [hf] at HFW
  clear hT hx hf hss
  go_enter Tryd.func8, Tryd.ntmps8
  go_wp2_with (first
    | (go_at_call 15; refine (HN.out _ (HFin.out _ BX.out)).mono ?_; rintro e w1 ⟨B, rfl, hd1, hb1⟩; have F1 := Lib.hid (St.Fed.start hd1); have X1 := Lib.hid hb1; have B1 := Lib.hid (BX.out.trans (hb1.mono BX.out.size)); have c0 := hb1.cell (p := ⟨w.heap.size, 0, none⟩) (by simp); have c1 := hb1.cell (p := ⟨w.heap.size, 1, none⟩) (by simp); have c2 := hb1.cell (p := ⟨w.heap.size, 2, none⟩) (by simp); simp at c0 c1 c2; clear hb1 hd1)
    | (go_at_call 16; refine (HFW.out _ (HX.out.below B1.out)).mono ?_; rintro e w2 ⟨rfl, hb2⟩; have B2 := Lib.hid (B1.out.trans (hb2.mono B1.out.size)); have X2 := Lib.hid (X1.out.trans (hb2.mono X1.out.size)); have F2 := Lib.hid (F1.out.bel hb2); have d0 := (hb2.cell (p := ⟨w.heap.size, 0, none⟩) (World.block_lt_of_cell? w1 _ c0)).trans c0; have d1 := (hb2.cell (p := ⟨w.heap.size, 1, none⟩) (World.block_lt_of_cell? w1 _ c1)).trans c1; have d2 := (hb2.cell (p := ⟨w.heap.size, 2, none⟩) (World.block_lt_of_cell? w1 _ c2)).trans c2; clear hb2 c0 c1 c2)
    | (go_at_call 9; refine (HA.out _ (HFin.out _ B2.out)).mono ?_; rintro e w9 ⟨rfl, hb9⟩; have B9 := Lib.hid (B2.out.trans (hb9.mono B2.out.size)); clear hb9))
  go_ret
  exact ⟨rfl, B9.out⟩
set_option maxRecDepth 100000 in
set_option maxHeartbeats 2000000 in
theorem streamSure_long (k : Nat) (q : Int) (g : Bool) (A : Option Addr) (c : Nat) (xs : List ByteArray) (more : ByteArray) (w : World) (hx : Strs w A c xs) (hn : xs.length ≤ 8796093022208) (hss : ∀ s ∈ xs, s.size ≤ 9223372036854775807) (_hmo : more.size ≤ 9223372036854775807) (h1 : 1 ≤ k) (h5 : k ≤ 5) (hq : q = 1 ∨ q = 2 ∨ q = 3) (hf : St.fewB xs = true) (hl : 60 < more.size) (hT : Tabs w) : Calls Tryd.prog 8 #[.agg #[.int .i64 (k : Int), .int .i64 q, .bool g], .slice A xs.length c, .string more] w fun e w' => e = .returned (.bool true) ∧ Below w.heap.size w w' := by
  have hpos := hT.pos
  have HFin := Lib.hid (show ∀ w2 : World, Below w.heap.size w w2 → Tabs w2 from fun w2 h => hT.below h hpos)
  have B0 := Lib.hid (Below.refl w.heap.size w)
  have HA := Lib.hid (fun W hW => St.awake_any W hW)
  have BX := Lib.hid (B0.out.alloc (Nat.le_refl _) (.cells #[.int .i64 (k : Int), .int .i64 q, .bool g] 23))
  have HX := Lib.hid hx
  have HFW := Lib.hid (fun W hW => St.few_any A c xs W hW hn hss)
  have HN := Lib.hid (fun W hW => St.new_ok k q g W hW h1 h5 hq)
  rw [hf] at HFW
  have g6 : (60 : Int) < more.size := by omega
  clear hT hx hf hss
  go_enter Tryd.func8, Tryd.ntmps8
  go_wp2_with (first
    | (go_at_call 15; refine (HN.out _ (HFin.out _ BX.out)).mono ?_; rintro e w1 ⟨B, rfl, hd1, hb1⟩; have F1 := Lib.hid (St.Fed.start hd1); have X1 := Lib.hid hb1; have B1 := Lib.hid (BX.out.trans (hb1.mono BX.out.size)); have c0 := hb1.cell (p := ⟨w.heap.size, 0, none⟩) (by simp); have c1 := hb1.cell (p := ⟨w.heap.size, 1, none⟩) (by simp); have c2 := hb1.cell (p := ⟨w.heap.size, 2, none⟩) (by simp); simp at c0 c1 c2; clear hb1 hd1)
    | (go_at_call 16; refine (HFW.out _ (HX.out.below B1.out)).mono ?_; rintro e w2 ⟨rfl, hb2⟩; have B2 := Lib.hid (B1.out.trans (hb2.mono B1.out.size)); have X2 := Lib.hid (X1.out.trans (hb2.mono X1.out.size)); have F2 := Lib.hid (F1.out.bel hb2); have d0 := (hb2.cell (p := ⟨w.heap.size, 0, none⟩) (World.block_lt_of_cell? w1 _ c0)).trans c0; have d1 := (hb2.cell (p := ⟨w.heap.size, 1, none⟩) (World.block_lt_of_cell? w1 _ c1)).trans c1; have d2 := (hb2.cell (p := ⟨w.heap.size, 2, none⟩) (World.block_lt_of_cell? w1 _ c2)).trans c2; clear hb2 c0 c1 c2)
    | (go_at_call 9; refine (HA.out _ (HFin.out _ B2.out)).mono ?_; rintro e w9 ⟨rfl, hb9⟩; have B9 := Lib.hid (B2.out.trans (hb9.mono B2.out.size)); clear hb9))
  go_ret
  exact ⟨rfl, B9.out⟩
set_option maxRecDepth 100000 in
set_option maxHeartbeats 2000000 in
theorem streamSure_strict (k : Nat) (q : Int) (g : Bool) (A : Option Addr) (c : Nat) (xs : List ByteArray) (more : ByteArray) (w : World) (hx : Strs w A c xs) (hn : xs.length ≤ 8796093022208) (hss : ∀ s ∈ xs, s.size ≤ 9223372036854775807) (_hmo : more.size ≤ 9223372036854775807) (h1 : 1 ≤ k) (h5 : k ≤ 5) (hq : q = 1 ∨ q = 2 ∨ q = 3) (hf : St.fewB xs = true) (hl : more.size ≤ 60) (hq1 : q = 1) (hT : Tabs w) : Calls Tryd.prog 8 #[.agg #[.int .i64 (k : Int), .int .i64 q, .bool g], .slice A xs.length c, .string more] w fun e w' => e = .returned (.bool true) ∧ Below w.heap.size w w' := by
  have hpos := hT.pos
  have HFin := Lib.hid (show ∀ w2 : World, Below w.heap.size w w2 → Tabs w2 from fun w2 h => hT.below h hpos)
  have B0 := Lib.hid (Below.refl w.heap.size w)
  have HA := Lib.hid (fun W hW => St.awake_any W hW)
  have BX := Lib.hid (B0.out.alloc (Nat.le_refl _) (.cells #[.int .i64 (k : Int), .int .i64 q, .bool g] 23))
  have HX := Lib.hid hx
  have HFW := Lib.hid (fun W hW => St.few_any A c xs W hW hn hss)
  have HN := Lib.hid (fun W hW => St.new_ok k q g W hW h1 h5 hq)
  rw [hf] at HFW
  have g6 : ¬ (60 : Int) < more.size := by omega
  subst hq1
  clear hT hx hf hss
  go_enter Tryd.func8, Tryd.ntmps8
  go_wp2_with (first
    | (go_at_call 15; refine (HN.out _ (HFin.out _ BX.out)).mono ?_; rintro e w1 ⟨B, rfl, hd1, hb1⟩; have F1 := Lib.hid (St.Fed.start hd1); have X1 := Lib.hid hb1; have B1 := Lib.hid (BX.out.trans (hb1.mono BX.out.size)); have c0 := hb1.cell (p := ⟨w.heap.size, 0, none⟩) (by simp); have c1 := hb1.cell (p := ⟨w.heap.size, 1, none⟩) (by simp); have c2 := hb1.cell (p := ⟨w.heap.size, 2, none⟩) (by simp); simp at c0 c1 c2; clear hb1 hd1)
    | (go_at_call 16; refine (HFW.out _ (HX.out.below B1.out)).mono ?_; rintro e w2 ⟨rfl, hb2⟩; have B2 := Lib.hid (B1.out.trans (hb2.mono B1.out.size)); have X2 := Lib.hid (X1.out.trans (hb2.mono X1.out.size)); have F2 := Lib.hid (F1.out.bel hb2); have d0 := (hb2.cell (p := ⟨w.heap.size, 0, none⟩) (World.block_lt_of_cell? w1 _ c0)).trans c0; have d1 := (hb2.cell (p := ⟨w.heap.size, 1, none⟩) (World.block_lt_of_cell? w1 _ c1)).trans c1; have d2 := (hb2.cell (p := ⟨w.heap.size, 2, none⟩) (World.block_lt_of_cell? w1 _ c2)).trans c2; clear hb2 c0 c1 c2)
    | (go_at_call 9; refine (HA.out _ (HFin.out _ B2.out)).mono ?_; rintro e w9 ⟨rfl, hb9⟩; have B9 := Lib.hid (B2.out.trans (hb9.mono B2.out.size)); clear hb9))
  go_ret
  exact ⟨rfl, B9.out⟩

theorem own_cap {w : World} {b e z n c : Nat} {A : Option Addr} {xs : List Value} (h : w.ownsRow b e z (.slice A n c) n xs) : n ≤ c := by
  rcases h.2 with ⟨hv, h0⟩ | ⟨g, cap, cur, hv, _, _, hn, _⟩
  · omega
  · injection hv with _ _ h3
    omega
theorem ints_take {w : World} {A : Option Addr} {l : List Int} (h : Ints .i32 w A l) (n : Nat) (hn : n ≤ l.length) : Ints .i32 w A (l.take n) := fun i hi => by
  rw [List.length_take] at hi
  obtain ⟨b, off, e, hl, hc⟩ := h i (by omega)
  refine ⟨b, off, e, hl, ?_⟩
  rw [hc]
  simp [show i < n by omega]
theorem tail_eq (a wt : ByteArray) (n : Nat) (h : bs wt = (bs a).drop n) (hn : n ≤ a.size) : a.extract n a.size = wt ∧ a.size - wt.size = n ∧ wt.size ≤ a.size := by
  have h1 := bs_len wt
  rw [h, List.length_drop, bs_len] at h1
  exact ⟨St.bs_inj (by rw [bs_from, h]), by omega, by omega⟩
theorem ba_app_size (a b : ByteArray) : (a ++ b).size = a.size + b.size := by
  have := bs_len (a ++ b)
  rw [bs_app, List.length_append, bs_len, bs_len] at this
  omega
theorem cat_bound (xs : List ByteArray) (h : ∀ s ∈ xs, s.size ≤ 60) : ∀ q, (bs (catB (xs.take q))).length ≤ 60 * q := by
  intro q
  rw [catB_bs]
  induction q with
  | zero => simp
  | succ q ih =>
    by_cases hq : q < xs.length
    · rw [List.take_succ_eq_append_getElem hq, List.map_append, List.flatten_append, List.length_append]
      have := h _ (List.getElem_mem hq)
      simp only [List.map_cons, List.map_nil, List.flatten_cons, List.flatten_nil, List.append_nil, bs_len]
      omega
    · rw [List.take_of_length_le (by omega)] at ih ⊢
      omega
set_option maxRecDepth 100000 in
set_option maxHeartbeats 4000000 in
theorem streamSure_in (k : Nat) (q : Int) (g : Bool) (A : Option Addr) (c : Nat) (xs : List ByteArray) (more : ByteArray) (w : World) (hx : Strs w A c xs) (hn : xs.length ≤ 8796093022208) (hss : ∀ s ∈ xs, s.size ≤ 9223372036854775807) (_hmo : more.size ≤ 9223372036854775807) (h1 : 1 ≤ k) (h5 : k ≤ 5) (hq : q = 2 ∨ q = 3) (hf : St.fewB xs = true) (hl : more.size ≤ 60) (hT : Tabs w) : Calls Tryd.prog 8 #[.agg #[.int .i64 (k : Int), .int .i64 q, .bool g], .slice A xs.length c, .string more] w fun e w' => e = .returned (.bool true) ∧ Below w.heap.size w w' := by
  have hpos := hT.pos
  have HFin := Lib.hid (show ∀ w2 : World, Below w.heap.size w w2 → Tabs w2 from fun w2 h => hT.below h hpos)
  have B0 := Lib.hid (Below.refl w.heap.size w)
  have HA := Lib.hid (fun W hW => St.awake_any W hW)
  have BX := Lib.hid (B0.out.alloc (Nat.le_refl _) (.cells #[.int .i64 (k : Int), .int .i64 q, .bool g] 23))
  have HX := Lib.hid hx
  have HFW := Lib.hid (fun W hW => St.few_any A c xs W hW hn hss)
  have hq3 : q = 1 ∨ q = 2 ∨ q = 3 := .inr hq
  have HN := Lib.hid (fun W hW => St.new_ok k q g W hW h1 h5 hq3)
  rw [hf] at HFW
  have g6 : ¬ (60 : Int) < more.size := by omega
  have g7 : (q == 1) = false := by simp; omega
  have hne : q ≠ 1 := by omega
  obtain ⟨hf1, hf2⟩ := St.fewB_yes hf
  have HCB := Lib.hid (cat_bound xs hf2)
  obtain ⟨i0, hi0, hz0, hz1, hz2⟩ := info_parts r_info
  have I0 := Lib.hid hi0
  have I1 := Lib.hid hz0
  have I2 := Lib.hid hz1
  have I3 := Lib.hid hz2
  clear hi0 hz0 hz1 hz2
  clear hT hx hf hss hq
  go_enter Tryd.func8, Tryd.ntmps8
  go_wp2_with (first
    | (go_at_call 15; refine (HN.out _ (HFin.out _ BX.out)).mono ?_; rintro e w1 ⟨B, rfl, hd1, hb1⟩; have F1 := Lib.hid (St.Fed.start hd1); have X1 := Lib.hid hb1; have B1 := Lib.hid (BX.out.trans (hb1.mono BX.out.size)); have c0 := hb1.cell (p := ⟨w.heap.size, 0, none⟩) (by simp); have c1 := hb1.cell (p := ⟨w.heap.size, 1, none⟩) (by simp); have c2 := hb1.cell (p := ⟨w.heap.size, 2, none⟩) (by simp); simp at c0 c1 c2; clear hb1 hd1)
    | (go_at_call 16; refine (HFW.out _ (HX.out.below B1.out)).mono ?_; rintro e w2 ⟨rfl, hb2⟩; have B2 := Lib.hid (B1.out.trans (hb2.mono B1.out.size)); have X2 := Lib.hid (X1.out.trans (hb2.mono X1.out.size)); have F2 := Lib.hid (F1.out.bel hb2); have d0 := (hb2.cell (p := ⟨w.heap.size, 0, none⟩) (World.block_lt_of_cell? w1 _ c0)).trans c0; have d1 := (hb2.cell (p := ⟨w.heap.size, 1, none⟩) (World.block_lt_of_cell? w1 _ c1)).trans c1; have d2 := (hb2.cell (p := ⟨w.heap.size, 2, none⟩) (World.block_lt_of_cell? w1 _ c2)).trans c2; clear hb2 c0 c1 c2))
  have hBX : (w.alloc (.cells #[.int .i64 (k : Int), .int .i64 q, .bool g] 23)).heap.size = w.heap.size + 1 := by simp
  rw [hBX] at F2 X2
  have HX2 := Lib.hid (show ∀ W, Below (w.heap.size + 1) w2 W → Below w.heap.size w W from fun W h => B2.out.trans (h.mono (by omega)))
  have z2 : w.heap.size + 1 ≤ w2.heap.size := by have := F2.out.base; have := F2.out.lt; omega
  have D0 := Lib.hid d0
  have D1 := Lib.hid d1
  have D2 := Lib.hid d2
  clear d0 d1 d2 F1 X1
  have gd : decide ((60 : Int) < (more.size : Int)) = false := by simp; omega
  rw [gd]
  go_loopw [9, 10, 11] (fun al got i wr => ∃ n : Nat, i = .int .i64 n ∧ n ≤ xs.length ∧ ∃ a, al = .string a ∧ ∃ fv', Hid (bs a = bs (catB (xs.take n)) ∧ Below (w.heap.size + 1) w2 wr ∧ St.Fed wr (w.heap.size + 1) B fv' k q g (bs a) ∧ wr.ownsRow (w.heap.size + 1) 21 1 got (Dg.sure k q g (bs a)).1.length (i32s (Dg.sure k q g (bs a)).1))) (fun _ _ i _ => xs.length - (intOf i).toNat)
  case atStart =>
    refine ⟨0, rfl, by omega, ⟨#[]⟩, rfl, .slice none 0 0, by simp [catB], Below.refl _ _, F2.out, ?_⟩
    rw [show bs ⟨#[]⟩ = [] from rfl, (Dg.sure_nil k q g).1]
    exact World.ownsRow_nil _ _ _ _
  case round =>
    obtain ⟨n, rfl, hnn, a, rfl, fv', HR⟩ := hrel
    have haz : a.size ≤ 60 * n := by have := HCB.out n; rw [← HR.out.1, bs_len] at this; exact this
    by_cases hlt : n < xs.length
    · have hlt' : (n : Int) < xs.length := by omega
      rcases HX.out.below (HX2.out _ HR.out.2.1) with hS | ⟨bk, off, rfl, hbk, hxc, hcell⟩
      · rw [hS] at hlt; simp at hlt
      obtain ⟨s, hs⟩ : ∃ s, xs[n] = s := ⟨_, rfl⟩
      have kc := hcell n s (by rw [List.getElem?_eq_getElem hlt, hs])
      have hsz : s.size ≤ 60 := hf2 s (by rw [← hs]; exact List.getElem_mem hlt)
      have HCM := Lib.hid (show bs (a ++ s) = bs (catB (xs.take (n + 1))) by rw [St.cat_more xs n hlt, hs, bs_app, HR.out.1])
      have HBK := Lib.hid (show bk < w.heap.size from by
        rcases HX.out with h | ⟨b', o', e', h', _⟩
        · rw [h] at hlt; simp at hlt
        · have : bk = b' := by injection e' with e'; injection e'
          omega)
      have hzr := HR.out.2.1.size
      have HFO := Lib.hid (St.feed_one (w.heap.size + 1) B fv' k q g (bs a) s wr HR.out.2.2.1 (HFin.out _ (HX2.out _ HR.out.2.1)) (by omega) h1 h5 hq3 (by rw [bs_len]; omega))
      rw [← bs_app] at HFO
      have hse := Dg.sure_err k q g (bs (a ++ s)) hne
      rw [show St.FeedP wr (w.heap.size + 1) B fv' k q g (bs a) True (bs (a ++ s)) = fun e w' => ∃ fv'' v1 o, e = .returned (.tuple #[v1, .int .i64 0]) ∧ w'.ownsRow wr.heap.size 21 1 v1 o.length (i32s o) ∧ (Dg.sure k q g (bs a)).1 ++ o = (Dg.sure k q g (bs (a ++ s))).1 ∧ St.Stp B wr fv' w' fv'' ∧ St.Fed w' (w.heap.size + 1) B fv'' k q g (bs (a ++ s)) from by
        unfold St.FeedP
        rw [hse]
        funext e w'
        simp] at HFO
      have hsl := (Dg.sure_lens k q g (bs (a ++ s))).1
      have hsl0 := (Dg.sure_lens k q g (bs a)).1
      rw [bs_len] at hsl hsl0
      have haz2 := ba_app_size a s
      have hsum : a.size + s.size ≤ 9223372036854775807 := by omega
      obtain ⟨a2, ha2⟩ : ∃ a2, a ++ s = a2 := ⟨_, rfl⟩
      rw [ha2] at HFO hsl haz2 HCM hse
      have haz3 : a2.size ≤ 60 * (n + 1) := by omega
      have FA := Lib.hid HR.out.2.2.1
      have OA := Lib.hid HR.out.2.2.2
      have KC := Lib.hid (show ∀ W, Below (w.heap.size + 1) w2 W → W.cell? ⟨bk, off + n, none⟩ = some (.string s) from fun W hW => by
        have h1 := (HX2.out _ HR.out.2.1).cell (p := ⟨bk, off + n, none⟩) HBK.out
        have h2 := (HX2.out _ hW).cell (p := ⟨bk, off + n, none⟩) HBK.out
        rw [h2, ← h1]
        exact kc)
      clear hcell hs hse haz2
      go_wp2_with (first
        | (go_at_call 17; refine HFO.out.mono ?_; rintro e w3 ⟨fv3, v3, o3, rfl, ho3, hx3, hs3, hf3⟩; have F3 := Lib.hid hf3; have V3 := Lib.hid ho3; have O3 := Lib.hid (FA.out.keep hs3 OA.out (by decide) (by decide)); have X3 := Lib.hid (HR.out.2.1.trans (FA.out.belowS hs3)); have HX3 := Lib.hid hx3; have z3 := X3.out.size; have hol : o3.length ≤ 90000 := (by have := congrArg List.length hx3; rw [List.length_append] at this; omega); have hmx : (Dg.sure k q g (bs a)).1.length + o3.length ≤ maxLen := (by unfold maxLen; omega); have hmb : ((Dg.sure k q g (bs a)).1.length + o3.length) * 4 ≤ 140737488355328 := (by omega); have zz3 : w.heap.size + 1 ≤ w3.heap.size := (by omega); clear ho3 hx3 hs3 hf3)
        | (at_builtin; refine St.wpList_append_row rfl (.tmp 76) (.tmp 77) _ rfl (w.heap.size + 1) 21 i0 _ 1 4 Tryd.underlying25 I0.out I1.out I2.out I3.out rfl (by omega) u10 _ _ rfl O3.out _ v3 o3.length (i32s o3) rfl V3.out (St.i32s_one _) hmx hmb zz3 ?_; intro v4 w4 ho hg ha; have O4 := Lib.hid ho; have F4 := Lib.hid (F3.out.grown O3.out (by decide) (by decide) hg); have X4 := Lib.hid (X3.out.trans (below_grown O3.out hg zz3)); have kc4 := KC.out _ X4.out; clear ho hg ha)
        | (go_at_call 20; obtain ⟨wt, hwt, hwe, hD4⟩ := F4.out; refine (St.waits_any _ _ _ _ _ _ _ _ _ _ _ hD4).mono ?_; rintro e w' ⟨rfl, rfl⟩; obtain ⟨t1, t2, t3⟩ := tail_eq a2 wt _ hwt (by rw [← bs_len]; exact (Dg.waits_le k g (bs a2)).1); have t4 := (Dg.waits_le k g (bs a2)).1; rw [bs_len] at t4; generalize Dg.cut5 k g (bs a2) = nc at *; have t5 : ¬ (a2.size : Int) < wt.size := (by omega); have t6 : (a2.size : Int) - (wt.size : Int) = (nc : Int) := (by omega); have t7 : (0 : Int) ≤ nc := (by omega); have t8 : (nc : Int) ≤ a2.size := (by omega); clear hwt hwe hD4 t2))
      go_roundw
      case rel =>
        refine ⟨n + 1, by go_num, by omega, a2, rfl, fv3, HCM.out, X4.out, F4.out, ?_⟩
        have := O4.out
        rw [← i32s_app, ← List.length_append, HX3.out] at this
        exact this
      case measure => simp [intOf]; omega
    · have hlt' : ¬ (n : Int) < xs.length := by omega
      have hsum : a.size + more.size ≤ 9223372036854775807 := by omega
      have haz2 := ba_app_size a more
      have HWH := Lib.hid (fun W hW => St.whole_any k q g (a ++ more) W hW h1 h5 hq3 (by omega))
      have hwe := Dg.whole_err k q g (bs (a ++ more)) hne
      have hwl := (Dg.whole_lens k q g (bs (a ++ more))).1
      have hpre : (Dg.whole k q g (bs (a ++ more))).1.take (Dg.sure k q g (bs a)).1.length = (Dg.sure k q g (bs a)).1 := by
        rw [bs_app, (Dg.close_step k q g (bs a ++ bs more)).1, Dg.cat_err _ _ (Dg.sure_err k q g _ hne), (Dg.feed_step k q g (bs a) (bs more)).1, Dg.cat_err _ _ (Dg.sure_err k q g _ hne)]
        simp
      have hle : (Dg.sure k q g (bs a)).1.length ≤ (Dg.whole k q g (bs (a ++ more))).1.length := by
        have := congrArg List.length hpre
        rw [List.length_take] at this
        omega
      rw [bs_len] at hwl
      have OA := Lib.hid HR.out.2.2.2
      generalize Dg.whole k q g (bs (a ++ more)) = dd at *
      generalize Dg.knd k g (bs (a ++ more)) = kd at *
      generalize (Dg.sure k q g (bs a)).1 = ss at *
      have XA := Lib.hid HR.out.2.1
      have BA := Lib.hid (HX2.out _ HR.out.2.1)
      have q0 := (XA.out.cell (p := ⟨w.heap.size, 0, none⟩) (Nat.lt_succ_self _)).trans D0.out
      have q1 := (XA.out.cell (p := ⟨w.heap.size, 1, none⟩) (Nat.lt_succ_self _)).trans D1.out
      have q2 := (XA.out.cell (p := ⟨w.heap.size, 2, none⟩) (Nat.lt_succ_self _)).trans D2.out
      obtain ⟨Ag, cg, hug, hIg⟩ := own_ints OA.out
      subst hug
      have IG := Lib.hid hIg
      have HPR := Lib.hid hpre
      have hle' : (ss.length : Int) ≤ dd.1.length := by omega
      have hss0 : (0 : Int) ≤ ss.length := by omega
      clear hIg hpre HR
      go_wp2_with (first
        | (go_at_call 10; refine (HWH.out _ (HFin.out _ BA.out)).mono ?_; rintro e w3 ⟨A1, c1', A2, c2', rfl, ho1, ho2, hi1, hf1, hb1⟩; rw [hwe]; have B3 := Lib.hid (BA.out.trans (hb1.mono BA.out.size)); have IG3 := Lib.hid (IG.out.below hb1); have I3' := Lib.hid hi1; have hcp := own_cap ho1; have hcp' : (ss.length : Int) ≤ c1' := (by omega); clear hb1 ho1 ho2 hi1 hf1)
        | (go_at_call 13; refine (runes_any Ag A1 cg c1' ss ss _ IG3.out (by have := ints_take I3'.out ss.length hle; rw [HPR.out] at this; exact this) (by omega) (by omega)).mono ?_; rintro e w4 ⟨rfl, hb4⟩; rw [show decide (ss = ss) = true from by simp]; have B4 := Lib.hid (B3.out.trans (hb4.mono B3.out.size)); clear hb4)
        | (go_at_call 9; refine (HA.out _ (HFin.out _ B4.out)).mono ?_; rintro e w9 ⟨rfl, hb9⟩; have B9 := Lib.hid (B4.out.trans (hb9.mono B4.out.size)); clear hb9))
      go_ret
      exact ⟨rfl, B9.out⟩
theorem streamSure_walk (k q : Int) (g : Bool) (A : Option Addr) (c : Nat) (xs : List ByteArray) (more : ByteArray) (w : World) (hx : Strs w A c xs) (hn : xs.length ≤ 8796093022208) (hss : ∀ s ∈ xs, s.size ≤ 9223372036854775807) (_hmo : more.size ≤ 9223372036854775807) (hT : Tabs w) : Calls Tryd.prog 8 #[.agg #[.int .i64 k, .int .i64 q, .bool g], .slice A xs.length c, .string more] w fun e w' => e = .returned (.bool true) ∧ Below w.heap.size w w' := by
  by_cases hm : 1 ≤ k ∧ k ≤ 5 ∧ (q = 1 ∨ q = 2 ∨ q = 3)
  · obtain ⟨n, rfl⟩ : ∃ n : Nat, k = n := ⟨k.toNat, by omega⟩
    cases hf : St.fewB xs
    · exact streamSure_many n q g A c xs more w hx hn hss _hmo (by omega) (by omega) hm.2.2 hf hT
    · by_cases hl : more.size ≤ 60
      · by_cases hq : q = 1
        · exact streamSure_strict n q g A c xs more w hx hn hss _hmo (by omega) (by omega) hm.2.2 hf hl hq hT
        · exact streamSure_in n q g A c xs more w hx hn hss _hmo (by omega) (by omega) (by omega) hf hl hT
      · exact streamSure_long n q g A c xs more w hx hn hss _hmo (by omega) (by omega) hm.2.2 hf (by omega) hT
  · exact streamSure_no k q g A c xs more w hx hn hss _hmo hm hT

set_option maxRecDepth 100000 in
theorem streamSure_lifted (os : Os) (started : os.Started) (H : Type) (enc : TypeId × Value → H) :
    ReturnsInHanded {} Tryd.checked os 8 .any (fun w args => (Rows.streamSureSpec.pre enc Tryd.prog Tryd.f8 [] false w args ∧ laidMetH Tryd.prog laid1 w) ∧ sizedMet enc Tryd.prog Tryd.f8 (OpenSpec.ofChange Rows.streamSureSpec) false w args)
      (Rows.streamSureSpec.post enc Tryd.prog Tryd.f8 false true false false) := by
  refine returnsInHanded_of_change_and (C := Tryd.checked) (X := fun w _ => laidMetH Tryd.prog laid1 w) (fun _ _ _ hh h => h.of_heap hh) own started (by kernel_rfl) Tryd.func8
    (ChangeSpec.witness_shaped (enc := enc) (C := Tryd.checked) (os := os) (X := fun w _ => laidMetH Tryd.prog laid1 w) false (World.doorLaid Tryd.prog 400 os) #[.agg #[.int .i64 0, .int .i64 0, .bool false], .slice none 0 0, .string ⟨#[]⟩] 8 rfl (World.shaped_of_RefB (by kernel_rfl) (by kernel_rfl)) (by kernel_rfl) (by kernel_rfl) (by kernel_rfl) (door_met os _)) ?_
  intro W base args ds gs before hval0 hW _ hsz hL _
  have hval : ∀ (j : Nat) t v, Tryd.f8.params[j]? = some t → args[j]? = some v → Value.okWide Tryd.prog W .any base t v := hval0
  have hW' := hW
  obtain ⟨p, q, hA0, hV, rfl, hfz, hnd⟩ := hW
  have hA : DataW.TrodAll enc Tryd.prog W 0 (fun _ => true) true Tryd.f8.params.toList args.toList ds p := hA0
  rw [Tryd.params8] at hA hval
  obtain ⟨v0, vs0, d0, ds0, p0, q0, hargs, rfl, rfl, h0, r0⟩ := trodAll_cons hA
  obtain ⟨v1, vs1, d1, ds1, p1, q1, rfl, rfl, rfl, h1, r1⟩ := trodAll_cons r0
  obtain ⟨v2, vs2, d2, ds2, p2, q2, rfl, rfl, rfl, h2, r2⟩ := trodAll_cons r1
  obtain ⟨rfl, rfl, rfl⟩ := trodAll_nil r2
  obtain rfl : args = #[v0, v1, v2] := by cases args; simp_all
  obtain ⟨rfl, rfl⟩ := trodVars_none hV
  obtain ⟨cs0, rfl, _⟩ := okWide_struct Tryd.underlying23 (hval 0 23 v0 rfl rfl)
  have k0 := h0
  have lt0 : ∀ x ∈ p0, x.block < W.heap.size := by obtain ⟨m, hm⟩ := k0; exact DataW.trod_lt m _ _ _ hm
  obtain ⟨a0, b0, c0, rfl⟩ := how_of_trod h0
  obtain ⟨A1, len1, cap1, rfl⟩ := okWide_slice Tryd.underlying36 (hval 1 36 v1 rfl rfl)
  have k1 := h1
  have lt1 : ∀ x ∈ p1, x.block < W.heap.size := by obtain ⟨m, hm⟩ := k1; exact DataW.trod_lt m _ _ _ hm
  obtain ⟨l1, e1, g1, dd1, gs1⟩ := strs_of_trod h1
  have z1 : l1.length ≤ 8796093022208 := strs_bound dd1 (fun el sp hd => sized_slice hsz (j := 1) (t := 36) rfl (by rw [hd]; rfl) Tryd.underlying36)
  subst e1
  obtain ⟨s2, rfl, rfl, rfl, m2⟩ := open_string Tryd.underlying9 (hval 2 9 v2 rfl rfl) h2
  clear hA0 hval0
  refine (streamSure_walk a0 b0 c0 A1 cap1 l1 s2 W g1 z1 gs1 m2 (of_laid hL)).mono fun e W' ⟨he, bel⟩ => ?_
  subst he
  exact ⟨_, rfl, _, _, _, [], _, [], hW', trodAll_mk1 (shut_bool Tryd.underlying4 _), (trodAll_cons_mk (Below.trod laidOut (by kernel_rfl) (of_decide_eq_true (by kernel_rfl)) k0 bel lt0) (trodAll_cons_mk (Below.trod laidOut (by kernel_rfl) (of_decide_eq_true (by kernel_rfl)) k1 bel lt1) (trodAll_cons_mk (shut_string Tryd.underlying9 m2) trodAll_mk0))), rfl, bel.frame _, fun h => by cases h⟩

theorem streamSure_row : Rows.StreamSureSaid :=
  OpenClaim.holds_of_wide 8 Tryd.f8 rfl rfl rfl rfl rfl rfl rfl ⟨rfl, rfl, rfl, rfl, rfl⟩ rfl rfl rfl rfl rfl (by kernel_rfl) Tryd.func8 (by kernel_rfl)
    (of_decide_eq_true (by kernel_rfl)) (by unfold Func.isWrapper; first | (rw [if_pos (by decide +kernel)]; kernel_rfl) | (rw [if_neg (by decide +kernel)]; exact ⟨rfl, rfl⟩))
    (fun os started H enc _ => streamSure_lifted os started H enc)

theorem streamSure_holds : Rows.StreamSureCardSaid :=
  Claim7.holds_tied_plain_at .later [] [.data, .data] true Rows.streamSureCard.stood.harness false
    streamSure_row (fun _ h => by cases h) (by kernel_rfl) (fun _ h => by cases h) streamSure_row_tie rfl ⟨rfl, rfl⟩ (by kernel_rfl) rfl
    (fun f fn hf hfn => by
      obtain rfl : f = 8 := Option.some.inj ((show Tryd.prog.funcNamed Rows.streamSureRow.func = some 8 by kernel_rfl).symm.trans hf) |>.symm
      obtain rfl : fn = Tryd.f8 := (Option.some.inj (Tryd.func8.symm.trans hfn)).symm
      exact ⟨by kernel_rfl, fun j t ht => by
        rw [Tryd.params8] at ht
        have hm : t ∈ [23, 36, 9] := by simpa using Array.mem_of_getElem? ht
        have hall : ([23, 36, 9].all fun u => !Tryd.prog.wantsStandIn u) = true := by kernel_rfl
        exact (show Tryd.prog.wantsStandIn t = false by simpa using List.all_eq_true.1 hall t hm)⟩)
    (by kernel_rfl)
#print axioms streamSure_holds
end Go.Proofs.YthnfopjjghohcaaDoor

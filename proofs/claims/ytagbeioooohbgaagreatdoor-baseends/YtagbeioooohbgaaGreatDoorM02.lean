import Derived.Test.YtagbeioooohbgaaGreatDoorM01
import Derived.Test.YtagbeioooohbgaaGreatDoorM07
section
namespace Go.Proofs.YtagbeioooohbgaaGreatDoor.Fi
open Go.RowKit

theorem own_low {w : World} {b b' : Nat} {e : TypeId} {z n : Nat} {v : Value} {xs : List Value} (h : w.ownsRow b e z v n xs) (hb : b' ≤ b) : w.ownsRow b' e z v n xs := by
  refine ⟨h.1, ?_⟩
  rcases h.2 with h2 | ⟨g, cap, cur, h1, h2, h3⟩
  · exact .inl h2
  · exact .inr ⟨g, cap, cur, h1, by omega, h3⟩
theorem wds_len : ∀ (l cur : List UInt8), (wds cur l).length ≤ l.length + (if cur = [] then 0 else 1)
  | [], cur => by unfold wds; split <;> simp
  | c :: l, cur => by
    unfold wds
    have h1 := wds_len l []
    have h2 := wds_len l (cur ++ [c])
    simp only [if_true] at h1
    rw [if_neg (by simp)] at h2
    rw [List.length_cons]
    split
    · split
      · omega
      · rw [List.length_cons]; omega
    · split <;> omega
theorem fields_len (s : ByteArray) : (Lib.goFieldsP blk s).length ≤ s.size := by
  have h := congrArg List.length (fields_wds s)
  rw [List.length_map] at h
  have := wds_len s.data.toList []
  rw [lst_len] at this
  simp only [if_true] at this
  omega
theorem ext_size (s : ByteArray) (a b : Nat) : (s.extract a b).size ≤ s.size := by
  rw [← lst_len, Lib.extract_data, List.length_take, List.length_drop, lst_len]; omega
theorem fields_size (s : ByteArray) : ∀ x ∈ Lib.goFieldsP blk s, x.size ≤ s.size := by
  intro x hx
  unfold Lib.goFieldsP at hx
  obtain ⟨y, _, rfl⟩ := List.mem_map.1 hx
  exact ext_size _ _ _
theorem rnsW_ok {acc : List Int} {x : List UInt8} {r : List (List UInt8)} (h : (hexE x).2 = 0) : rnsW acc (x :: r) = rnsW (acc ++ [(hexE x).1]) r := by rw [rnsW, if_pos h]
theorem rnsW_no {acc : List Int} {x : List UInt8} {r : List (List UInt8)} (h : (hexE x).2 ≠ 0) : rnsW acc (x :: r) = ([], (hexE x).2) := by rw [rnsW, if_neg h]
theorem enters40 : ∀ args w, (callFunc 124 args).run Tryz.prog w = .ok (.enter 124 args) w := enters_of Tryz.func124 (by kernel_rfl) rfl

structure RnR (w w1 wr : World) (ws : List ByteArray) (out : Value) (k : Nat) (os : List Int) (tot : List Int × Int) : Prop where
  bel : Below w1.heap.size w1 wr
  own : wr.ownsRow w1.heap.size 21 1 out os.length (i32s os)
  len : os.length = k
  tot : rnsW os ((ws.map (fun x => x.data.toList)).drop k) = tot

set_option maxRecDepth 100000 in
set_option maxHeartbeats 4000000 in
theorem runes_any (s : ByteArray) (w : World) (hs : s.size ≤ 100000) :
    Calls Tryz.prog 95 #[.string s] w (RnsP w (rnsE s.data.toList)) := by
  obtain ⟨i0, hi0, hz0, hz1, hz2⟩ := info_parts r_info
  have I0 := Lib.hid hi0
  have I1 := Lib.hid hz0
  have I2 := Lib.hid hz1
  have I3 := Lib.hid hz2
  clear hi0 hz0 hz1 hz2
  have HF := Lib.hid (Tryz.strings_FieldsFunc_grows 124 #[] enters40 blk s w (by omega) (pred_blank w))
  have hwl := fields_len s
  have hwz := fields_size s
  have HT := Lib.hid (show rnsW [] (((Lib.goFieldsP blk s).map (fun x => x.data.toList)).drop 0) = rnsE s.data.toList by rw [fields_wds]; rfl)
  obtain ⟨ws, hws⟩ : ∃ ws, ws = Lib.goFieldsP blk s := ⟨_, rfl⟩
  obtain ⟨tot, htot⟩ : ∃ tot, tot = rnsE s.data.toList := ⟨_, rfl⟩
  rw [← hws] at HF hwl hwz HT
  rw [← htot] at HT ⊢
  clear hws htot
  have HWZ := Lib.hid hwz
  clear hwz
  go_enter Tryz.func95, Tryz.ntmps95
  go_wp2_with (go_at_call 123; refine HF.out.mono ?_; rintro e w1 ⟨A, rfl, hA, ho, hb⟩; have O1 := Lib.hid ho; have B1 := Lib.hid hb; clear ho hb)
  have hAl : A < w1.heap.size := (O1.out.lt A rfl).2
  go_loopw [4, 12] (fun out i wr => ∃ k : Nat, i = .int .i64 k ∧ k ≤ ws.length ∧ ∃ os, Hid (RnR w w1 wr ws out k os tot)) (fun _ i _ => ws.length - (intOf i).toNat)
  case atStart => exact ⟨0, rfl, by omega, [], Below.refl _ _, World.ownsRow_nil _ _ _ _, rfl, HT.out⟩
  case round =>
    obtain ⟨k, rfl, hk, os, HR⟩ := hrel
    have hol := HR.out.len
    have HOL := Lib.hid hol
    have hob : os.length ≤ 100000 := by omega
    have hmo : os.length + 1 ≤ maxLen := by unfold maxLen; omega
    clear hol
    have hsz := HR.out.bel.size
    by_cases hlt : k < ws.length
    · have hx0 : ws[k]? = some ws[k] := List.getElem?_eq_getElem hlt
      obtain ⟨x, hx⟩ : ∃ x, x = ws[k] := ⟨_, rfl⟩
      rw [← hx] at hx0
      have hxz : x.size ≤ s.size := HWZ.out x (by rw [hx]; exact List.getElem_mem hlt)
      have hc : wr.cell? ⟨A, k, none⟩ = some (.string x) := by
        have h1 := O1.out.cells (g := A) rfl k (.string x) (by rw [List.getElem?_map, hx0]; rfl)
        have e : (⟨A, 0, none⟩ : Addr).add k = ⟨A, k, none⟩ := by unfold Addr.add; split <;> simp_all
        rw [e] at h1
        exact (HR.out.bel.cell (p := ⟨A, k, none⟩) hAl).trans h1
      have HD := Lib.hid (show (ws.map (fun x => x.data.toList)).drop k = x.data.toList :: (ws.map (fun x => x.data.toList)).drop (k + 1) by
        rw [List.drop_eq_getElem_cons (by rw [List.length_map]; exact hlt)]
        simp [hx])
      clear hx0 hx
      have hX := hex_any x wr (by omega)
      have hcs := hexE_cases x.data.toList
      obtain ⟨y, hy⟩ : ∃ y, y = hexE x.data.toList := ⟨_, rfl⟩
      rw [← hy] at hX hcs
      obtain ⟨r, er⟩ := y
      unfold reV at hX
      simp only at hX hcs
      have HX := Lib.hid hX
      have HY := Lib.hid hy
      have g1 : (k : Int) < ws.length := by omega
      clear hX hy
      rcases hcs with ⟨rfl, hr⟩ | ⟨rfl, he⟩
      · have HQ := Lib.hid (show rnsW (os ++ [r]) ((ws.map (fun x => x.data.toList)).drop (k + 1)) = tot by
          have h1 := HR.out.tot
          rw [HD.out, rnsW_ok (by rw [← HY.out]), ← HY.out] at h1
          exact h1)
        clear HD HY
        go_wp2_with (first
          | (go_at_call 71; refine HX.out.mono ?_; rintro e w2 ⟨rfl, hb⟩; have B2 := Lib.hid hb; have O2 := Lib.hid (own_below' HR.out.own hb); have z2 := hb.size; clear hb)
          | (at_builtin; refine wpList_append_own_at _ rfl (.tmp 24) (.tmp 26) _ rfl w1.heap.size 21 i0 _ 1 4 Tryz.underlying32 I0.out I1.out I2.out I3.out rfl (by omega) u4 os.length _ rfl (O2.out.alloc _) ⟨w2.heap.size, 0, none⟩ 1 1 [_] rfl rfl (cell_one_new _ _ _) (by simp [Value.oneCell']) hmo (by omega) (by simp; omega) ?_; intro v2 w3 ho3 hg3 hn3 ha3; have O3 := Lib.hid ho3; have G3 := Lib.hid hg3; clear ho3 hg3 hn3 ha3))
        go_roundw
        case rel =>
          refine ⟨k + 1, by go_num, by omega, os ++ [r], ?_, ?_, ?_, HQ.out⟩
          · have b2 := HR.out.bel.trans (B2.out.mono HR.out.bel.size)
            exact (b2.alloc b2.size _).grown G3.out (by have := b2.size; simp; omega) (fun q hq => (O2.out.lt q hq).1)
          · have := O3.out
            rw [List.length_append, i32s_app]
            exact this
          · rw [List.length_append, HOL.out]; rfl
        case measure => simp [intOf]; omega
      · have HQ := Lib.hid (show ([], er) = tot by
          have h1 := HR.out.tot
          rw [HD.out, rnsW_no (by rw [← HY.out]; rcases he with rfl | rfl <;> decide), ← HY.out] at h1
          exact h1)
        clear HD HY
        rcases he with rfl | rfl
        all_goals
          go_wp2_with (go_at_call 71; refine HX.out.mono ?_; rintro e w2 ⟨rfl, hb⟩; have B2 := Lib.hid hb; clear hb)
          have b1 := B1.out.trans (HR.out.bel.mono B1.out.size)
          refine bodyPost_ret (v := .tuple #[.slice none 0 0, .int .i64 _]) (by simp [results, Tryz.results95, go_sem]; rfl) rfl ⟨_, by rw [← HQ.out], by rw [← HQ.out]; exact World.ownsRow_nil _ _ _ _, b1.trans (B2.out.mono b1.size)⟩
    · have g1 : ¬ (k : Int) < ws.length := by omega
      have HQ := Lib.hid (show (os, 0) = tot by
        have h1 := HR.out.tot
        rw [List.drop_eq_nil_of_le (by rw [List.length_map]; omega), rnsW] at h1
        exact h1)
      go_wp2_with fail
      have b1 := B1.out.trans (HR.out.bel.mono B1.out.size)
      refine bodyPost_ret (v := .tuple #[u4, .int .i64 0]) (by simp [results, Tryz.results95, go_sem]) rfl ⟨u4, by rw [← HQ.out], by rw [← HQ.out]; exact own_low HR.out.own B1.out.size, b1⟩

end Go.Proofs.YtagbeioooohbgaaGreatDoor.Fi
end
section
namespace Go.Proofs.YtagbeioooohbgaaGreatDoor.Fi
open Go.RowKit

/-- The bytes that pairs of digits tell, each behind the text 'a'. -/
def bytR (a : List UInt8) : Nat → List UInt8 → List UInt8 → Option (List UInt8)
  | _, out, [] => some out
  | 0, _, _ :: _ => none
  | f + 1, out, c :: l =>
    if (c :: l).length < a.length + 2 then none
    else match digs 16 2 (((c :: l).drop a.length).take 2) with
      | none => none
      | some n => if a.isPrefixOf (c :: l) then bytR a f (out ++ [n.toUInt8]) ((c :: l).drop (a.length + 2)) else none
def bytE (a l : List UInt8) : List UInt8 × Int := if l = [] then ([], 10) else match bytR a l.length [] l with
  | none => ([], 10)
  | some o => (o, 0)
theorem bytR_nil (a out : List UInt8) (f : Nat) : bytR a f out [] = some out := by cases f <;> rfl
theorem bytR_short {a out l : List UInt8} {f : Nat} (h0 : l ≠ []) (h : l.length < a.length + 2) : bytR a f out l = none := by
  cases l with
  | nil => exact absurd rfl h0
  | cons c l => cases f with
    | zero => rfl
    | succ f => rw [bytR, if_pos h]
theorem bytR_bad {a out l : List UInt8} {f : Nat} (h0 : l ≠ []) (h : digs 16 2 ((l.drop a.length).take 2) = none) : bytR a f out l = none := by
  cases l with
  | nil => exact absurd rfl h0
  | cons c l => cases f with
    | zero => rfl
    | succ f => rw [bytR]; split; rfl; rw [h]
theorem bytR_no {a out l : List UInt8} {f : Nat} (h0 : l ≠ []) (h : a.isPrefixOf l = false) : bytR a f out l = none := by
  cases l with
  | nil => exact absurd rfl h0
  | cons c l => cases f with
    | zero => rfl
    | succ f =>
      rw [bytR]
      split
      · rfl
      · split
        · rfl
        · rw [h]; rfl
theorem bytR_ok {a out l : List UInt8} {f n : Nat} (h0 : l ≠ []) (h1 : ¬ l.length < a.length + 2) (h2 : digs 16 2 ((l.drop a.length).take 2) = some n) (h : a.isPrefixOf l = true) : bytR a (f + 1) out l = bytR a f (out ++ [n.toUInt8]) (l.drop (a.length + 2)) := by
  cases l with
  | nil => exact absurd rfl h0
  | cons c l =>
    rw [bytR, if_neg h1, h2]
    simp only [h, if_true]
theorem bytR_rem {a : List UInt8} : ∀ (f : Nat) (out l : List UInt8), l.length % (a.length + 2) ≠ 0 → bytR a f out l = none
  | f, out, [], h => absurd (by simp) h
  | 0, out, c :: l, h => rfl
  | f + 1, out, c :: l, h => by
    by_cases h1 : (c :: l).length < a.length + 2
    · exact bytR_short (by simp) h1
    · cases h2 : digs 16 2 (((c :: l).drop a.length).take 2) with
      | none => exact bytR_bad (by simp) h2
      | some n =>
        cases h3 : a.isPrefixOf (c :: l) with
        | false => exact bytR_no (by simp) h3
        | true =>
          rw [bytR_ok (by simp) h1 h2 h3]
          apply bytR_rem
          rw [List.length_drop]
          intro h4
          apply h
          have : (c :: l).length = ((c :: l).length - (a.length + 2)) + (a.length + 2) := by omega
          rw [this, Nat.add_mod_right]
          exact h4
def u8v (l : List UInt8) : List Value := l.map fun x : UInt8 => .int .u8 (x.toNat : Int)
theorem u8v_app (a b : List UInt8) : u8v (a ++ b) = u8v a ++ u8v b := by simp [u8v]
theorem u8_info : (Tryz.prog.info? 5).map (fun i => (i.zero, i.size, i.bytes)) = some (some (.int .u8 0), 1, 1) := by kernel_rfl
theorem nums_str (l : List UInt8) : strOfNums (l.map fun x : UInt8 => (x.toNat : Int)) = ⟨l.toArray⟩ := by
  apply str_eq
  rw [strOfNums_data, List.map_map]
  conv => rhs; rw [lst_mk, ← List.map_id l]
  apply List.map_congr_left
  intro v _
  simp
theorem run_string_own (base : Nat) (v : Value) (n : Nat) (ys : List UInt8) (w : World) (h : w.ownsRow base 5 1 v n (u8v ys)) :
    (convert 139 9 v).run Tryz.prog w = .ok (.string ⟨ys.toArray⟩) w := by
  have hl : ys.length = n := by have := h.1; simpa [u8v] using this
  rcases h.2 with ⟨rfl, rfl⟩ | ⟨g, cap, cur, rfl, hg, hh, hn, hm, hc, ht⟩
  · have : ys = [] := List.eq_nil_of_length_eq_zero hl
    subst this
    exact run_convert_bytes_nil w 139 5 Tryz.underlying139 Tryz.underlying5 0 0 9 Tryz.underlying9
  · have := run_convert_bytes_arg w 139 5 Tryz.underlying139 Tryz.underlying5 g 0 n cap (ys.map fun x : UInt8 => (x.toNat : Int)) (by simpa using hl) (fun i hi => ?_) 9 Tryz.underlying9
    · rw [nums_str] at this
      exact this
    have hi' : i < ys.length := by omega
    have := h.cells (g := g) rfl i (.int .u8 ((ys.map fun x : UInt8 => (x.toNat : Int)).getD i 0)) (by simp [u8v, List.getD, List.getElem?_eq_getElem hi'])
    have e : (⟨g, 0, none⟩ : Addr).add i = ⟨g, 0 + i, none⟩ := by unfold Addr.add; split <;> simp_all
    rw [e] at this
    exact this
def bytV (x : List UInt8 × Int) : Value := .tuple #[.string ⟨x.1.toArray⟩, .int .i64 x.2]
theorem bytE_none {a l : List UInt8} (h : bytR a l.length [] l = none) : bytE a l = ([], 10) := by unfold bytE; split; rfl; rw [h]
theorem bytE_some {a l o : List UInt8} (h0 : l ≠ []) (h : bytR a l.length [] l = some o) : bytE a l = (o, 0) := by unfold bytE; rw [if_neg h0, h]
structure ByR (w wr : World) (a : List UInt8) (out : Value) (os : List UInt8) (f : Nat) (l : List UInt8) (tot : Option (List UInt8)) : Prop where
  bel : Below w.heap.size w wr
  own : wr.ownsRow w.heap.size 5 1 out os.length (u8v os)
  len : os.length + l.length ≤ 100000
  fl : l.length ≤ f
  tot : bytR a f os l = tot
theorem rem_no {x y : Nat} (h : x % (y + 2) = 0) : ((x : Int) % ((y : Int) + 2) != 0) = false := by
  have e : ((x : Int) % ((y : Int) + 2)) = ((x % (y + 2) : Nat) : Int) := by push_cast; rfl
  rw [e, h]; rfl
theorem rem_yes {x y : Nat} (h : ¬ x % (y + 2) = 0) : ((x : Int) % ((y : Int) + 2) != 0) = true := by
  have e : ((x : Int) % ((y : Int) + 2)) = ((x % (y + 2) : Nat) : Int) := by push_cast; rfl
  rw [e]
  generalize x % (y + 2) = z at h
  simpa using h
theorem lst_ne {s : ByteArray} (h : 0 < s.size) : s.data.toList ≠ [] := by
  intro hh
  have := lst_len s
  rw [hh] at this
  simp at this
  omega

end Go.Proofs.YtagbeioooohbgaaGreatDoor.Fi
end
section
namespace Go.Proofs.YtagbeioooohbgaaGreatDoor.Fi
open Go.RowKit

/-- A variable of one cell in a block of its own. -/
structure One (w : World) (X : Nat) (v : Value) (t : TypeId) : Prop where
  blk : w.heap[X]? = some (.cells #[v] t (0, 0))
theorem One.c {w : World} {X : Nat} {v : Value} {t : TypeId} (h : One w X v t) : w.cell? ⟨X, 0, none⟩ = some v := by simp [World.cell?, h.blk]
theorem One.fr {w : World} {X : Nat} {v : Value} {t : TypeId} (h : One w X v t) : w.frozen? ⟨X, 0, none⟩ = false := by simp [World.frozen?, h.blk]
theorem One.lt {w : World} {X : Nat} {v : Value} {t : TypeId} (h : One w X v t) : X < w.heap.size := (Array.getElem?_eq_some_iff.1 h.blk).1
theorem One.ne {w : World} {X : Nat} {v : Value} {t : TypeId} (h : One w X v t) {b e z n : Nat} {v' : Value} {xs : List Value} (ho : w.ownsRow b e z v' n xs) (ht : t ≠ e) : v'.ownBlock ≠ some X := by
  intro he
  rcases ho.2 with ⟨rfl, _⟩ | ⟨g, cap, cur, rfl, _, hg, _⟩
  · cases he
  · have : g = X := by injection he
    subst this
    rw [h.blk] at hg
    simp at hg
    exact ht hg.2
theorem One.below {w w' : World} {X : Nat} {v : Value} {t : TypeId} (h : One w X v t) (hb : Below w.heap.size w w') : One w' X v t := ⟨(hb.block X h.lt).trans h.blk⟩
theorem One.grown {w w' : World} {X : Nat} {v : Value} {t : TypeId} (h : One w X v t) {r : Option Nat} (hg : w.grownBy w' r) (hr : r ≠ some X) : One w' X v t := ⟨(hg.block X h.lt (fun e => hr e.symm)).trans h.blk⟩
theorem One.alloc {w : World} {X : Nat} {v : Value} {t : TypeId} (h : One w X v t) (o : Obj) : One (w.alloc o) X v t := ⟨(Below.heap_alloc _ _ _ h.lt).trans h.blk⟩
theorem One.set {w : World} {X : Nat} {v : Value} {t : TypeId} (h : One w X v t) (x : Value) : One (w.setCell ⟨X, 0, none⟩ x) X x t := ⟨by simp [World.setCell, Array.getElem?_modify, h.blk]⟩
theorem One.other {w : World} {X : Nat} {v : Value} {t : TypeId} (h : One w X v t) {Y : Nat} (hn : X ≠ Y) (x : Value) : One (w.setCell ⟨Y, 0, none⟩ x) X v t := ⟨(Go.Deep.blk_setCell_other _ _ _ _ hn).trans h.blk⟩
theorem One.drew {w : World} {X : Nat} {v : Value} {t : TypeId} (h : One w X v t) (n : Nat) : One (w.drewN n) X v t := ⟨h.blk⟩
theorem own_set {w : World} {b : Nat} {e : TypeId} {z n : Nat} {v : Value} {xs : List Value} {T o : Nat} (h : w.ownsRow b e z v n xs) (hne : v.ownBlock ≠ some T) (x : Value) : (w.setCell ⟨T, o, none⟩ x).ownsRow b e z v n xs := by
  refine ⟨h.1, ?_⟩
  rcases h.2 with h2 | ⟨g, cap, cur, h1, h2, h3, h4⟩
  · exact .inl h2
  · refine .inr ⟨g, cap, cur, h1, h2, ?_, h4⟩
    rw [Go.Deep.blk_setCell_other _ _ _ _ (fun he => hne (by have hg : g = T := he; rw [h1, hg]; rfl))]
    exact h3
theorem own_drew {w : World} {b : Nat} {e : TypeId} {z n : Nat} {v : Value} {xs : List Value} (h : w.ownsRow b e z v n xs) (m : Nat) : (w.drewN m).ownsRow b e z v n xs := h

def fnV (X M : Nat) : Value := .func (.func 120) #[] #[.pointer (some ⟨M, 0, none⟩), .pointer (some ⟨X, 0, none⟩)]
set_option maxHeartbeats 1000000 in
theorem takeOff_any (s : ByteArray) (w : World) :
    Calls Tryz.prog 91 #[.string s] w fun e w' => e = .returned (.func (.func 120) #[] #[.pointer (some ⟨w.heap.size + 1, 0, none⟩), .pointer (some ⟨w.heap.size, 0, none⟩)]) ∧ One w' w.heap.size (.string s) 9 ∧ One w' (w.heap.size + 1) (.bool true) 4 ∧ Below w.heap.size w w' := by
  go_enter Tryz.func91, Tryz.ntmps91
  go_wp2_with fail
  go_ret
  refine ⟨rfl, ?_, ?_, ?_⟩
  · exact One.alloc ⟨heap_alloc_new w _⟩ _
  · exact ⟨by have := heap_alloc_new (w.alloc (.cells #[.string s] 9)) (.cells #[.bool true] 4); simpa using this⟩
  · exact ((Below.refl _ w).alloc (Nat.le_refl _) _).alloc (by simp) _

/-- The next line, and how the two variables stand behind it. -/
structure Tk (w w' : World) (X M : Nat) (t r : ByteArray) (f : Bool) : Prop where
  eq : ∃ n, w' = ((w.drewN n).setCell ⟨X, 0, none⟩ (.string r)).setCell ⟨M, 0, none⟩ (.bool f)
set_option maxHeartbeats 1000000 in
theorem take_end (X M : Nat) (_t : ByteArray) (w : World) (hM : One w M (.bool false) 4) :
    Calls Tryz.prog 120 #[.pointer (some ⟨M, 0, none⟩), .pointer (some ⟨X, 0, none⟩)] w fun e w' => e = .returned (.tuple #[.string ⟨#[]⟩, .bool false]) ∧ w = w' := by
  have c1 := hM.c
  go_enter Tryz.func120, Tryz.ntmps120
  go_wp2_with fail
  go_ret2
  exact ⟨rfl, rfl⟩
set_option maxHeartbeats 1000000 in
theorem take_next (X M : Nat) (t : ByteArray) (w : World) (hX : One w X (.string t) 9) (hM : One w M (.bool true) 4) (hne : X ≠ M) (hL : Ml w) (hs : t.size < 4294967281) :
    Calls Tryz.prog 120 #[.pointer (some ⟨M, 0, none⟩), .pointer (some ⟨X, 0, none⟩)] w fun e w' => e = .returned (.tuple #[.string ⟨(Lib.cut t.data.toList [10]).1.toArray⟩, .bool true]) ∧ Tk w w' X M t ⟨(Lib.cut t.data.toList [10]).2.1.toArray⟩ (Lib.cut t.data.toList [10]).2.2 := by
  obtain ⟨m, hm⟩ := hL
  have HC := Lib.hid (Tryz.strings_Cut t ⟨#[10]⟩ m w hs hm)
  rw [show (⟨#[10]⟩ : ByteArray).data.toList = [10] from rfl] at HC
  obtain ⟨x, hx⟩ : ∃ x, x = Lib.cut t.data.toList [10] := ⟨_, rfl⟩
  rw [← hx] at HC ⊢
  clear hx hm
  obtain ⟨a, b, f⟩ := x
  have c1 := hM.c
  have c2 := hX.c
  have f1 := hM.fr
  have f2 := hX.fr
  go_enter Tryz.func120, Tryz.ntmps120
  go_wp2_with (go_at_call 76; refine HC.out.mono ?_; rintro e w1 ⟨rfl, n, rfl⟩; have d1 := (hM.drew n).c; have d2 := (hX.drew n).c; have d3 := (hM.drew n).fr; have d4 := (hX.drew n).fr; have d5 := ((hM.drew n).other (Ne.symm hne) (.string ⟨b.toArray⟩)).c; have d6 := ((hM.drew n).other (Ne.symm hne) (.string ⟨b.toArray⟩)).fr)
  go_ret2
  exact ⟨rfl, ⟨_, rfl⟩⟩

end Go.Proofs.YtagbeioooohbgaaGreatDoor.Fi
end
section
namespace Go.Proofs.YtagbeioooohbgaaGreatDoor.Fi
open Go.RowKit

theorem cut_hit {b : UInt8} {l t : List UInt8} (h : t.isPrefixOf (b :: l) = true) : Lib.cut (b :: l) t = ([], (b :: l).drop t.length, true) := by
  have e : Lib.index (b :: l) t = 0 := by rw [Lib.index, if_pos h]
  simp [Lib.cut, e]
theorem cut_skip {b : UInt8} {l t : List UInt8} (h : t.isPrefixOf (b :: l) = false) : Lib.cut (b :: l) t = if (Lib.cut l t).2.2 then (b :: (Lib.cut l t).1, (Lib.cut l t).2.1, true) else (b :: l, [], false) := by
  have hge := Lib.index_ge l t
  have e : Lib.index (b :: l) t = if Lib.index l t == -1 then -1 else Lib.index l t + 1 := by rw [Lib.index, h]; simp
  by_cases hm : Lib.index l t = -1
  · rw [hm] at e
    simp [Lib.cut, e, hm]
  · have h0 : 0 ≤ Lib.index l t := by omega
    rw [if_neg (by simpa using hm)] at e
    obtain ⟨j, hj⟩ : ∃ j : Nat, Lib.index l t = j := ⟨(Lib.index l t).toNat, by omega⟩
    rw [hj] at e
    have c1 : Lib.cut l t = (l.take j, l.drop (j + t.length), true) := by
      unfold Lib.cut
      rw [hj, if_pos (by omega), show (j : Int).toNat = j by omega]
    have c2 : Lib.cut (b :: l) t = ((b :: l).take (j + 1), (b :: l).drop (j + 1 + t.length), true) := by
      unfold Lib.cut
      rw [e, if_pos (by omega), show ((j : Int) + 1).toNat = j + 1 by omega]
    rw [c1, c2, show j + 1 + t.length = (j + t.length) + 1 by omega]
    simp
theorem cut_nil {t : List UInt8} (h : t ≠ []) : Lib.cut [] t = ([], [], false) := by
  have e : Lib.index [] t = -1 := by
    cases t with
    | nil => exact absurd rfl h
    | cons a t => rfl
  simp [Lib.cut, e]
theorem cut_miss {l t : List UInt8} (h : (Lib.cut l t).2.2 = false) : (Lib.cut l t).1 = l ∧ (Lib.cut l t).2.1 = [] := by
  unfold Lib.cut at *
  split at h
  · cases h
  · rename_i hh
    rw [if_neg hh]
    exact ⟨rfl, rfl⟩
/-- What stands between bytes; ahead: what stands so far. -/
def spl (c : UInt8) : List UInt8 → List UInt8 → List (List UInt8)
  | cur, [] => [cur]
  | cur, b :: l => if b = c then cur :: spl c [] l else spl c (cur ++ [b]) l
theorem pre_one (c b : UInt8) (l : List UInt8) : [c].isPrefixOf (b :: l) = decide (b = c) := by
  by_cases h : b = c
  · subst h; simp [List.isPrefixOf]
  · simp [List.isPrefixOf, h, Ne.symm h]
theorem spl_cut (c : UInt8) : ∀ (l cur : List UInt8), spl c cur l = if (Lib.cut l [c]).2.2 then (cur ++ (Lib.cut l [c]).1) :: spl c [] (Lib.cut l [c]).2.1 else [cur ++ l]
  | [], cur => by rw [cut_nil (by simp)]; simp [spl]
  | b :: l, cur => by
    by_cases h : b = c
    · rw [cut_hit (by rw [pre_one]; simpa using h), spl, if_pos h]
      simp
    · rw [cut_skip (by rw [pre_one]; simpa using h), spl, if_neg h, spl_cut c l (cur ++ [b])]
      cases (Lib.cut l [c]).2.2 <;> simp
theorem spl_len (c : UInt8) : ∀ (l cur : List UInt8), (spl c cur l).length = l.count c + 1
  | [], cur => by simp [spl]
  | b :: l, cur => by
    by_cases h : b = c
    · rw [spl, if_pos h, List.length_cons, spl_len c l []]
      subst h
      rw [List.count_cons_self]
    · rw [spl, if_neg h, spl_len c l _, List.count_cons_of_ne h]
theorem spl_ne (c : UInt8) (cur l : List UInt8) : spl c cur l ≠ [] := by
  intro h
  have := congrArg List.length h
  rw [spl_len] at this
  simp at this
/-- The lines that tell something, with their numbers, or the error. -/
def lnsW : Nat → List (Nat × List UInt8) → List (List UInt8) → List (Nat × List UInt8) × Int
  | _, acc, [] => (acc, 0)
  | no, acc, x :: r => if 512 < x.length then ([], 10) else if toldL x = [] then lnsW (no + 1) acc r else lnsW (no + 1) (acc ++ [(no, toldL x)]) r
def linE (l : List UInt8) : List (Nat × List UInt8) × Int := if 4096 < (spl 10 [] l).length then ([], 14) else lnsW 1 [] (spl 10 [] l)
theorem lnsW_long {no : Nat} {acc : List (Nat × List UInt8)} {x : List UInt8} {r : List (List UInt8)} (h : 512 < x.length) : lnsW no acc (x :: r) = ([], 10) := by rw [lnsW, if_pos h]
theorem lnsW_mute {no : Nat} {acc : List (Nat × List UInt8)} {x : List UInt8} {r : List (List UInt8)} (h : ¬ 512 < x.length) (h2 : toldL x = []) : lnsW no acc (x :: r) = lnsW (no + 1) acc r := by rw [lnsW, if_neg h, if_pos h2]
theorem lnsW_told {no : Nat} {acc : List (Nat × List UInt8)} {x : List UInt8} {r : List (List UInt8)} (h : ¬ 512 < x.length) (h2 : toldL x ≠ []) : lnsW no acc (x :: r) = lnsW (no + 1) (acc ++ [(no, toldL x)]) r := by rw [lnsW, if_neg h, if_neg h2]
/-- What is left of a text's lines: none, if there is no more. -/
def rest (m : Bool) (t : List UInt8) : List (List UInt8) := if m then spl 10 [] t else []
theorem rest_cut (t : List UInt8) : rest true t = (Lib.cut t [10]).1 :: rest (Lib.cut t [10]).2.2 (Lib.cut t [10]).2.1 := by
  unfold rest
  rw [if_pos rfl, spl_cut]
  cases h : (Lib.cut t [10]).2.2 with
  | true => simp
  | false => rw [(cut_miss h).1]; simp
def lnV (l : List (Nat × List UInt8)) : List Value := l.flatMap fun x => [.int .i64 x.1, .string ⟨x.2.toArray⟩]
theorem lnV_app (a b : List (Nat × List UInt8)) : lnV (a ++ b) = lnV a ++ lnV b := by simp [lnV]
theorem ln_info : (Tryz.prog.info? 90).map (fun i => (i.zero, i.size, i.bytes)) = some (some (.agg #[.int .i64 0, .string ⟨#[]⟩]), 2, 24) := by kernel_rfl
def LinP (w : World) (x : List (Nat × List UInt8) × Int) (e : Ending) (w' : World) : Prop := ∃ v, e = .returned (.tuple #[v, .int .i64 x.2]) ∧ w'.ownsRow w.heap.size 90 2 v x.1.length (lnV x.1) ∧ Below w.heap.size w w'
structure LnR (w wr : World) (X M : Nat) (t : ByteArray) (m : Bool) (out : Value) (no : Nat) (os : List (Nat × List UInt8)) (tot : List (Nat × List UInt8) × Int) : Prop where
  bel : Below w.heap.size w wr
  ox : One wr X (.string t) 9
  om : One wr M (.bool m) 4
  own : wr.ownsRow w.heap.size 90 2 out os.length (lnV os)
  len : os.length < no
  tot : lnsW no os (rest m t.data.toList) = tot
theorem tk_bel {w wr w' : World} {X M : Nat} {t r : ByteArray} {f : Bool} (h : Tk wr w' X M t r f) (hb : Below w.heap.size w wr) (hX : w.heap.size ≤ X) (hM : w.heap.size ≤ M) : Below w.heap.size w w' := by
  obtain ⟨n, rfl⟩ := h.eq
  exact ((bel_drewN hb n).setCell hX _).setCell hM _
theorem tk_x {wr w' : World} {X M : Nat} {t r t0 : ByteArray} {f : Bool} (h : Tk wr w' X M t r f) (hX : One wr X (.string t0) 9) (hne : X ≠ M) : One w' X (.string r) 9 := by
  obtain ⟨n, rfl⟩ := h.eq
  exact ((hX.drew n).set _).other hne _
theorem tk_m {wr w' : World} {X M : Nat} {t r : ByteArray} {f : Bool} {v : Value} (h : Tk wr w' X M t r f) (hM : One wr M v 4) (hne : X ≠ M) : One w' M (.bool f) 4 := by
  obtain ⟨n, rfl⟩ := h.eq
  exact ((hM.drew n).other (Ne.symm hne) _).set _
theorem tk_own {wr w' : World} {X M : Nat} {t r : ByteArray} {f : Bool} {b e z n : Nat} {v : Value} {xs : List Value} (h : Tk wr w' X M t r f) (ho : wr.ownsRow b e z v n xs) (h1 : v.ownBlock ≠ some X) (h2 : v.ownBlock ≠ some M) : w'.ownsRow b e z v n xs := by
  obtain ⟨n, rfl⟩ := h.eq
  exact own_set (own_set (own_drew ho n) h1 _) h2 _
theorem tk_size {wr w' : World} {X M : Nat} {t r : ByteArray} {f : Bool} (h : Tk wr w' X M t r f) : w'.heap.size = wr.heap.size := by
  obtain ⟨n, rfl⟩ := h.eq
  rw [Go.Deep.nblk_setCell, Go.Deep.nblk_setCell]
  rfl

end Go.Proofs.YtagbeioooohbgaaGreatDoor.Fi
end
section
namespace Go.Proofs.YtagbeioooohbgaaGreatDoor.Fi
open Go.RowKit

theorem cut_sz {t : ByteArray} {c : List UInt8} {n : Nat} (h : t.size ≤ n) : (⟨(Lib.cut t.data.toList c).2.1.toArray⟩ : ByteArray).size ≤ n ∧ (⟨(Lib.cut t.data.toList c).1.toArray⟩ : ByteArray).size ≤ n := by
  have := cut_le t.data.toList c
  rw [lst_len] at this
  rw [size_mk, size_mk]
  omega
theorem enters50 : ∀ args w, (callFunc 120 args).run Tryz.prog w = .ok (.enter 120 args) w := enters_of Tryz.func120 (by kernel_rfl) rfl

set_option maxRecDepth 100000 in
set_option maxHeartbeats 4000000 in
theorem lines_any (s : ByteArray) (w : World) (hL : Ml w) (hs : s.size ≤ 100000) :
    Calls Tryz.prog 70 #[.string s] w (LinP w (linE s.data.toList)) := by
  have hpos := hL.pos
  have HC := Lib.hid ((Tryz.strings_Count_one s 10 w).mono fun e w' h => (show e = .returned (.int .i64 (Lib.countByte s.data.toList 10)) ∧ w = w' from ⟨h.1, h.2.symm⟩))
  have hcl := spl_len 10 s.data.toList []
  unfold Lib.countByte at HC
  have hcn : s.data.toList.count 10 ≤ s.size := by have := List.count_le_length (a := (10 : UInt8)) (l := s.data.toList); rw [lst_len] at this; exact this
  obtain ⟨n, hn⟩ : ∃ n, n = s.data.toList.count 10 := ⟨_, rfl⟩
  rw [← hn] at HC hcl hcn
  by_cases h1 : 4096 < n + 1
  · have H := Lib.hid (show linE s.data.toList = ([], 14) by unfold linE; rw [if_pos (by omega)])
    have g1 : (4096 : Int) < (n : Int) + 1 := by omega
    clear hn hcl
    go_enter Tryz.func70, Tryz.ntmps70
    go_wp2_with (go_at_call 90; refine HC.out.mono ?_; rintro e w1 ⟨rfl, rfl⟩)
    refine bodyPost_ret (v := .tuple #[.slice none 0 0, .int .i64 14]) (by simp [results, Tryz.results70, go_sem]) rfl ⟨_, by rw [H.out], by rw [H.out]; exact World.ownsRow_nil _ _ _ _, Below.refl _ _⟩
  · have H := Lib.hid (show lnsW 1 [] (rest true s.data.toList) = linE s.data.toList by rw [linE, if_neg (by omega)]; rfl)
    have HN := Lib.hid (show (rest true s.data.toList).length < s.size + 2 by unfold rest; rw [if_pos rfl]; omega)
    have g1 : ¬ (4096 : Int) < (n : Int) + 1 := by omega
    obtain ⟨tot, htot⟩ : ∃ tot, tot = linE s.data.toList := ⟨_, rfl⟩
    rw [← htot] at H ⊢
    clear hn hcl htot
    obtain ⟨i0, hi0, hz0, hz1, hz2⟩ := info_parts ln_info
    have I0 := Lib.hid hi0
    have I1 := Lib.hid hz0
    have I2 := Lib.hid hz1
    have I3 := Lib.hid hz2
    clear hi0 hz0 hz1 hz2
    have HTk := Lib.hid (takeOff_any s w)
    have HML := Lib.hid hL
    clear hL
    go_enter Tryz.func70, Tryz.ntmps70
    go_wp2_with (first
      | (go_at_call 90; refine HC.out.mono ?_; rintro e w1 ⟨rfl, rfl⟩)
      | (go_at_call 91; refine HTk.out.mono ?_; rintro e w1 ⟨rfl, hx, hm, hb⟩; have OX1 := Lib.hid hx; have OM1 := Lib.hid hm; have B1 := Lib.hid hb; clear hx hm hb))
    clear h1 g1
    go_loopg [4, 6] (s.size + 2) (fun gf s4 s6 wx => ∃ no : Nat, s6 = .int .i64 no ∧ no + gf ≤ 100003 ∧ ∃ t m os, t.size ≤ 100000 ∧ Hid ((rest m t.data.toList).length < gf) ∧ Hid (LnR w wx w.heap.size (w.heap.size + 1) t m s4 no os tot))
    case atStart => exact ⟨1, rfl, by omega, s, true, [], hs, HN.out, B1.out, OX1.out, OM1.out, World.ownsRow_nil _ _ _ _, by simp, H.out⟩
    case round =>
      obtain ⟨no, rfl, hno, t, m, os, hts, HG, HR⟩ := hrel
      have hne : w.heap.size ≠ w.heap.size + 1 := by omega
      have hlen := HR.out.len
      have hmo : os.length + 1 ≤ maxLen := by unfold maxLen; omega
      have hsz := HR.out.bel.size
      cases m with
      | false =>
        have HK := Lib.hid (take_end w.heap.size (w.heap.size + 1) t wr HR.out.om)
        have HQ := Lib.hid (show (os, 0) = tot by have h1 := HR.out.tot; unfold rest at h1; rw [if_neg (by decide), lnsW] at h1; exact h1)
        go_wp2_with (go_at_call 120; refine HK.out.mono ?_; rintro e w2 ⟨rfl, rfl⟩)
        refine bodyPost_ret (v := .tuple #[u4, .int .i64 0]) (by simp [results, Tryz.results70, go_sem]) rfl ⟨u4, by rw [← HQ.out], by rw [← HQ.out]; exact HR.out.own, HR.out.bel⟩
      | true =>
        have HK := Lib.hid (take_next w.heap.size (w.heap.size + 1) t wr HR.out.ox HR.out.om hne (HML.out.below HR.out.bel hpos) (by omega))
        obtain ⟨hz1, hz2⟩ := cut_sz (c := [10]) hts
        have hrc := rest_cut t.data.toList
        obtain ⟨x, hx⟩ : ∃ x, x = Lib.cut t.data.toList [10] := ⟨_, rfl⟩
        rw [← hx] at hz1 hz2 hrc HK
        obtain ⟨a, b, f⟩ := x
        simp only at hz1 hz2 hrc HK
        have HRC := Lib.hid hrc
        clear hrc hx
        have HG2 := Lib.hid (show (rest f b).length + 1 < gk by have h1 := HG.out; rw [HRC.out, List.length_cons] at h1; exact h1)
        obtain ⟨g', rfl⟩ : ∃ g', gk = g' + 1 := ⟨gk - 1, by have := HG2.out; omega⟩
        have HT2 := Lib.hid (show lnsW no os (a :: rest f b) = tot by rw [← HRC.out]; exact HR.out.tot)
        clear HRC
        obtain ⟨ln, hln⟩ : ∃ ln : ByteArray, ln = ⟨a.toArray⟩ := ⟨_, rfl⟩
        obtain ⟨rs, hrs⟩ : ∃ rs : ByteArray, rs = ⟨b.toArray⟩ := ⟨_, rfl⟩
        rw [← hln] at hz2 HK
        rw [← hrs] at hz1 HK
        have HLA := Lib.hid (show ln.data.toList = a by rw [hln])
        have HRB := Lib.hid (show rs.data.toList = b by rw [hrs])
        have hlz : ln.size = a.length := by rw [hln, size_mk]
        have HLZ := Lib.hid hlz
        clear hln hrs hlz
        by_cases h5 : 512 < ln.size
        · have g5 : (512 : Int) < ln.size := by omega
          have HQ := Lib.hid (show ([], 10) = tot by rw [← HT2.out, lnsW_long (by have := HLZ.out; omega)])
          go_wp2_with (go_at_call 120; refine HK.out.mono ?_; rintro e w2 ⟨rfl, hk⟩; have HTK := Lib.hid hk; clear hk)
          refine bodyPost_ret (v := .tuple #[.slice none 0 0, .int .i64 10]) (by simp [results, Tryz.results70, go_sem]) rfl ⟨_, by rw [← HQ.out], by rw [← HQ.out]; exact World.ownsRow_nil _ _ _ _, tk_bel HTK.out HR.out.bel (Nat.le_refl _) (by omega)⟩
        · have g5 : ¬ (512 : Int) < ln.size := by omega
          have hTd := fun W (hW : Ml W) => told_any ln W hW (by omega)
          rw [HLA.out] at hTd
          by_cases h6 : toldL a = []
          · have HQ := Lib.hid (show lnsW (no + 1) os (rest f b) = tot by rw [← HT2.out, lnsW_mute (by have := HLZ.out; omega) h6])
            rw [h6] at hTd
            have HTd := Lib.hid hTd
            clear hTd h6 HT2
            go_wp2_with (first
              | (go_at_call 120; refine HK.out.mono ?_; rintro e w2 ⟨rfl, hk⟩; have HTK := Lib.hid hk; clear hk)
              | (go_at_call 92; refine (HTd.out _ (HML.out.below (tk_bel HTK.out HR.out.bel (Nat.le_refl _) (by omega)) hpos)).mono ?_; rintro e w3 ⟨rfl, hb⟩; have B3 := Lib.hid hb; clear hb))
            go_roundg g'
            case measure => omega
            case rel =>
              have b2 := tk_bel HTK.out HR.out.bel (Nat.le_refl _) (by omega)
              have o1 := HR.out.ox.ne HR.out.own (by decide)
              have o2 := HR.out.om.ne HR.out.own (by decide)
              exact ⟨no + 1, by go_num, by omega, rs, f, os, hz1, by rw [HRB.out]; have := HG2.out; show _ < g'; omega, b2.trans (B3.out.mono b2.size), (tk_x HTK.out HR.out.ox hne).below B3.out, (tk_m HTK.out HR.out.om hne).below B3.out, own_below' (tk_own HTK.out HR.out.own o1 o2) B3.out, by omega, by rw [HRB.out]; exact HQ.out⟩
          · have HQ := Lib.hid (show lnsW (no + 1) (os ++ [(no, toldL a)]) (rest f b) = tot by rw [← HT2.out, lnsW_told (by have := HLZ.out; omega) h6])
            obtain ⟨q, hq⟩ : ∃ q : ByteArray, q = ⟨(toldL a).toArray⟩ := ⟨_, rfl⟩
            have hq0 : 0 < q.size := by
              rw [hq, size_mk]
              cases h : toldL a with
              | nil => exact absurd h h6
              | cons _ _ => simp
            have hq1 : q.size ≤ 100000 := by
              rw [hq, size_mk]
              have := toldL_le a
              have := HLZ.out
              omega
            rw [← hq] at hTd
            have HTd := Lib.hid hTd
            have HOw := Lib.hid (fun W => own_any q W (by omega))
            have he := emp_no hq0
            have hne2 := emp_ne hq0
            have HQq := Lib.hid hq
            have HNX := Lib.hid (HR.out.ox.ne HR.out.own (by decide))
            have HNM := Lib.hid (HR.out.om.ne HR.out.own (by decide))
            clear hTd h6 HT2 hq
            go_wp2_with (first
              | (go_at_call 120; refine HK.out.mono ?_; rintro e w2 ⟨rfl, hk⟩; have HTK := Lib.hid hk; clear hk)
              | (go_at_call 92; refine (HTd.out _ (HML.out.below (tk_bel HTK.out HR.out.bel (Nat.le_refl _) (by omega)) hpos)).mono ?_; rintro e w3 ⟨rfl, hb⟩; have B3 := Lib.hid hb; clear hb)
              | (go_at_call 79; refine (HOw.out _).mono ?_; rintro e w4 ⟨rfl, hb⟩; have B4 := Lib.hid hb; have O4 := Lib.hid (own_below' (own_below' (tk_own HTK.out HR.out.own HNX.out HNM.out) B3.out) hb); have z4 : w.heap.size ≤ w4.heap.size := by { have b2 := tk_bel HTK.out HR.out.bel (Nat.le_refl _) (by omega); have := b2.size; have := B3.out.size; have := hb.size; omega }; clear hb)
              | (at_builtin; refine wpList_append_own_at _ rfl (.tmp 33) (.tmp 38) _ rfl w.heap.size 90 i0 _ 2 24 Tryz.underlying127 I0.out I1.out I2.out I3.out rfl (by omega) u4 os.length _ rfl (O4.out.alloc _) ⟨w4.heap.size, 0, none⟩ 1 1 [.int .i64 no, .string q] rfl rfl (World.news_of_block (cs := #[.int .i64 no, .string q]) (t := 90) (fr := (0, 0)) (heap_alloc_new w4 _)) (by simp [Value.oneCell']) hmo (by omega) (by simp; omega) ?_; intro v5 w5 ho5 hg5 hn5 ha5; have O5 := Lib.hid ho5; have G5 := Lib.hid hg5; clear ho5 hg5 hn5 ha5))
            go_roundg g'
            case measure => omega
            case rel =>
              have b2 := tk_bel HTK.out HR.out.bel (Nat.le_refl _) (by omega)
              have b3 := b2.trans (B3.out.mono b2.size)
              have b4 := b3.trans (B4.out.mono b3.size)
              have x4 := ((tk_x HTK.out HR.out.ox hne).below B3.out).below B4.out
              have m4 := ((tk_m HTK.out HR.out.om hne).below B3.out).below B4.out
              refine ⟨no + 1, by go_num, by omega, rs, f, os ++ [(no, toldL a)], hz1, by rw [HRB.out]; have := HG2.out; show _ < g'; omega, ?_, (x4.alloc _).grown G5.out HNX.out, (m4.alloc _).grown G5.out HNM.out, ?_, by rw [List.length_append]; simp; omega, by rw [HRB.out]; exact HQ.out⟩
              · exact (b4.alloc b4.size _).grown G5.out (by simp; omega) (fun z hz => (O4.out.lt z hz).1)
              · have := O5.out
                rw [List.length_append, lnV_app]
                have e1 : lnV [(no, toldL a)] = [.int .i64 no, .string q] := by rw [HQq.out]; rfl
                rw [e1]
                exact this

end Go.Proofs.YtagbeioooohbgaaGreatDoor.Fi
end
section
namespace Go.Proofs.YtagbeioooohbgaaGreatDoor.Uc
open Go.RowKit Fi

/-- A row, without the memory that its characters lie in. -/
structure Rw where
  fr : Int
  tt : Int
  nm : List UInt8
  ct : List UInt8
  cl : Int
  kd : List UInt8
  into : List Int

def ltr (b : Nat) : Bool := (97 ≤ b && b ≤ 122) || (65 ≤ b && b ≤ 90)
def ltrs (l : List UInt8) : Bool := l.all fun c => ltr c.toNat
def firstE : List UInt8 := [44, 32, 70, 105, 114, 115, 116, 62]
def lastE : List UInt8 := [44, 32, 76, 97, 115, 116, 62]
/-- The range's name in the name of its First, or of its Last. -/
def rgN (l e : List UInt8) : Option (List UInt8) :=
  if Lib.hasPrefix l [60] then (if Lib.hasSuffix (l.drop 1) e then some ((l.drop 1).take (l.length - 1 - e.length)) else none) else none
def intT (k s : List UInt8) (need : Bool) : List UInt8 × List Int × Int :=
  if (rnsE s).2 ≠ 0 then ([], [], (rnsE s).2) else if need = true ∧ (rnsE s).1 = [] then ([], [], 10) else if 18 < (rnsE s).1.length then ([], [], 11) else (k, (rnsE s).1, 0)
/-- Into what a character is parted, of which kind; the error. -/
def intE (s : List UInt8) : List UInt8 × List Int × Int :=
  if Lib.hasPrefix s [60] then
    (if (Lib.cut (s.drop 1) [62]).2.2 = true ∧ (Lib.cut (s.drop 1) [62]).1 ≠ [] ∧ ltrs (Lib.cut (s.drop 1) [62]).1 = true then intT (Lib.cut (s.drop 1) [62]).1 (Lib.cut (s.drop 1) [62]).2.1 true else ([], [], 10))
  else intT [] s false
def z0 : Rw := ⟨0, 0, [], [], 0, [], []⟩
def fld (l : List UInt8) : List (List UInt8) := (spl 59 [] l).map bareL
def rowF (f : List (List UInt8)) : Rw × Int :=
  if (hexE (f.getD 0 [])).2 ≠ 0 then (z0, (hexE (f.getD 0 [])).2)
  else if (nmE (f.getD 3 [])).2 ≠ 0 then (z0, (nmE (f.getD 3 [])).2)
  else if 254 < (nmE (f.getD 3 [])).1 then (z0, 11)
  else if (intE (f.getD 5 [])).2.2 ≠ 0 then (z0, (intE (f.getD 5 [])).2.2)
  else (⟨(hexE (f.getD 0 [])).1, (hexE (f.getD 0 [])).1, f.getD 1 [], f.getD 2 [], (nmE (f.getD 3 [])).1, (intE (f.getD 5 [])).1, (intE (f.getD 5 [])).2.1⟩, 0)
/-- What a line tells by itself; the error. -/
def rowE (l : List UInt8) : Rw × Int := if (fld l).length < 6 then (z0, 10) else rowF (fld l)
/-- Is a row the Last of a First that has its range's name already? -/
def endB (x y : Rw) : Bool := match rgN x.nm lastE with
  | none => false
  | some n => decide (n = y.nm) && (decide (x.ct = y.ct) && (decide (x.cl = y.cl) && (decide (x.into.length = 0) && (decide (y.into.length = 0) && decide (y.fr ≤ x.fr)))))
def lastR (l : List Rw) : Rw := l.getLastD z0
def putTo (l : List Rw) (t : Int) : List Rw := l.dropLast ++ [{ lastR l with tt := t }]
/-- A line behind others: the rows, the number of the First that waits; the error. -/
def stp (rs : List Rw) (op no : Nat) (t : List UInt8) : List Rw × Nat × Int :=
  if (rowE t).2 ≠ 0 then (rs, op, (rowE t).2)
  else if (rgN (rowE t).1.nm lastE).isSome = true ∨ op ≠ 0 then
    (if op = 0 ∨ endB (rowE t).1 (lastR rs) = false then (rs, op, 10) else (putTo rs (rowE t).1.tt, 0, 0))
  else if rs ≠ [] ∧ (rowE t).1.fr ≤ (lastR rs).tt then (rs, op, 12)
  else match rgN (rowE t).1.nm firstE with
    | some n => (rs ++ [{ (rowE t).1 with nm := n }], no, 0)
    | none => (rs ++ [(rowE t).1], op, 0)
def run : List Rw → Nat → List (Nat × List UInt8) → List Rw × Nat × Nat × Int
  | rs, op, [] => (rs, op, 0, 0)
  | rs, op, x :: r => if (stp rs op x.1 x.2).2.2 ≠ 0 then ((stp rs op x.1 x.2).1, (stp rs op x.1 x.2).2.1, x.1, (stp rs op x.1 x.2).2.2) else run (stp rs op x.1 x.2).1 (stp rs op x.1 x.2).2.1 r
def rwsE (s : List UInt8) : List Rw × Nat × Int :=
  if (linE s).2 ≠ 0 then ([], 0, (linE s).2)
  else if (run [] 0 (linE s).1).2.2.2 ≠ 0 then ([], (run [] 0 (linE s).1).2.2.1, (run [] 0 (linE s).1).2.2.2)
  else if (run [] 0 (linE s).1).2.1 ≠ 0 then ([], (run [] 0 (linE s).1).2.1, 10)
  else ((run [] 0 (linE s).1).1, 0, 0)

end Go.Proofs.YtagbeioooohbgaaGreatDoor.Uc
end
section
namespace Go.Proofs.YtagbeioooohbgaaGreatDoor.Ba
open Uc Ha

/-! Plain: what is known of characters, by rows that rise and exclusions. -/
def inR (x : Rw) (r : Int) : Bool := decide (x.fr ≤ r) && decide (r ≤ x.tt)
theorem inR_iff {x : Rw} {r : Int} : inR x r = true ↔ x.fr ≤ r ∧ r ≤ x.tt := by simp [inR]
def rowAt (L : List Rw) (r : Int) : Option Rw := L.find? fun x => inR x r
/-- What Class answers. -/
def clsB (L : List Rw) (r : Int) : Int := match rowAt L r with | none => 0 | some x => x.cl
/-- What Decomp answers. -/
def decB (L : List Rw) (r : Int) : List UInt8 × List Int :=
  if isS r = true then ([], [(splE r).1, (splE r).2.1]) else match rowAt L r with | none => ([], []) | some x => (x.kd, x.into)
def madeB (L : List Rw) (X : List Int) (x : Rw) : Bool :=
  decide (x.kd = []) && (decide (x.into.length = 2) && (!X.contains x.fr && (decide (x.cl = 0) && decide (clsB L (x.into.getD 0 0) = 0))))
/-- What Pair answers. -/
def pairB (L : List Rw) (X : List Int) (a b : Int) : Int × Bool :=
  match L.find? (fun z => madeB L X z && decide (z.into = [a, b])) with | some z => (z.fr, true) | none => joinE a b
def secB (L : List Rw) (X : List Int) (r : Int) : Bool :=
  (L.any fun z => madeB L X z && decide (z.into.getD 1 0 = r)) || (decide (4449 ≤ r ∧ r ≤ 4469) || decide (4520 ≤ r ∧ r ≤ 4546))
def prsB (L : List Rw) (X : List Int) : List Rw := L.filter (madeB L X)
def knwB (L : List Rw) : List Int := (L.filter fun x => decide (x.into ≠ [])).map (·.fr)
/-- A character leads to another one. -/
inductive Leads (L : List Rw) : Int → Int → Prop
  | one {r s : Int} : s ∈ (decB L r).2 → Leads L r s
  | more {r s t : Int} : s ∈ (decB L r).2 → Leads L s t → Leads L r t
/-- What New asks of rows and exclusions, but for what parted characters count. -/
structure OkB (L : List Rw) (X : List Int) : Prop where
  rise : L.Pairwise fun x y => x.tt < y.fr
  ends : ∀ x ∈ L, x.fr ≤ x.tt
  one : ∀ x ∈ L, x.into ≠ [] → x.tt = x.fr
  cl0 : ∀ x ∈ L, 0 ≤ x.cl
  syl : ∀ x ∈ L, 0 < x.cl ∨ x.into ≠ [] → ¬ (x.fr ≤ 55203 ∧ 44032 ≤ x.tt)
  form : ∀ x ∈ L, x.kd = [] → x.into.length ≤ 2
  loop : ∀ x ∈ L, ¬ Leads L x.fr x.fr
  two : ∀ x ∈ prsB L X, (joinE (x.into.getD 0 0) (x.into.getD 1 0)).2 = false ∧ pairB L X (x.into.getD 0 0) (x.into.getD 1 0) = (x.fr, true)

theorem row_at : ∀ {L : List Rw}, L.Pairwise (fun x y => x.tt < y.fr) → (∀ x ∈ L, x.fr ≤ x.tt) → ∀ {x : Rw}, x ∈ L → ∀ {r : Int}, inR x r = true → rowAt L r = some x
  | [], _, _, x, hx, _, _ => by cases hx
  | y :: L, h, he, x, hx, r, hr => by
    have hp := List.pairwise_cons.1 h
    unfold rowAt
    rw [List.find?_cons]
    rcases List.mem_cons.1 hx with rfl | hx
    · rw [hr]
    · have h1 := hp.1 x hx
      rw [inR_iff] at hr
      have h2 : inR y r = false := by
        cases h9 : inR y r with
        | false => rfl
        | true => rw [inR_iff] at h9; omega
      rw [h2]
      exact row_at hp.2 (fun z hz => he z (.tail _ hz)) hx (inR_iff.2 hr)
theorem row_mem {L : List Rw} {r : Int} {x : Rw} (h : rowAt L r = some x) : x ∈ L ∧ inR x r = true := ⟨List.mem_of_find?_eq_some h, by simpa using List.find?_some h⟩
theorem made_iff {L : List Rw} {X : List Int} {x : Rw} : madeB L X x = true ↔ x.kd = [] ∧ x.into.length = 2 ∧ x.fr ∉ X ∧ x.cl = 0 ∧ clsB L (x.into.getD 0 0) = 0 := by
  simp [madeB]
theorem two_of {l : List Int} (h : l.length = 2) : l = [l.getD 0 0, l.getD 1 0] := by
  match l, h with
  | [a, b], _ => rfl
variable {L : List Rw} {X : List Int}
/-- What a made character is parted into, and its class. -/
theorem made_dec (h : OkB L X) {x : Rw} (hx : x ∈ L) (hm : madeB L X x = true) : decB L x.fr = ([], x.into) ∧ clsB L x.fr = 0 ∧ isS x.fr = false := by
  obtain ⟨m1, m2, m3, m4, m5⟩ := made_iff.1 hm
  have hne : x.into ≠ [] := by intro e; rw [e] at m2; cases m2
  have hs := h.syl x hx (.inr hne)
  have ho := h.one x hx hne
  have hS : isS x.fr = false := by rw [isS_no]; omega
  have hr := row_at h.rise h.ends hx (r := x.fr) (inR_iff.2 ⟨Int.le_refl _, by omega⟩)
  refine ⟨?_, ?_, hS⟩
  · unfold decB
    rw [hS, hr]
    simp [m1]
  · unfold clsB
    rw [hr]
    exact m4
/-- A syllable has the class 0. -/
theorem syl_cls (h : OkB L X) {r : Int} (hs : isS r = true) : clsB L r = 0 := by
  unfold clsB
  cases hr : rowAt L r with
  | none => rfl
  | some x =>
    obtain ⟨hx, hi⟩ := row_mem hr
    have h0 := h.cl0 x hx
    by_cases hc : 0 < x.cl
    · have h1 := h.syl x hx (.inl hc)
      rw [isS_iff] at hs
      rw [inR_iff] at hi
      omega
    · show x.cl = 0
      omega
theorem syl_dec {r : Int} (hs : isS r = true) : decB L r = ([], [(splE r).1, (splE r).2.1]) := by unfold decB; rw [if_pos hs]
theorem pair_row {a b : Int} {z : Rw} (h : L.find? (fun z => madeB L X z && decide (z.into = [a, b])) = some z) : z ∈ L ∧ madeB L X z = true ∧ z.into = [a, b] := by
  have h1 := List.find?_some h
  simp only [Bool.and_eq_true, decide_eq_true_eq] at h1
  exact ⟨List.mem_of_find?_eq_some h, h1.1, h1.2⟩
/-- What two characters make is parted into them. -/
theorem pair_is (h : OkB L X) {a b : Int} (hp : (pairB L X a b).2 = true) : decB L (pairB L X a b).1 = ([], [a, b]) ∧ clsB L (pairB L X a b).1 = 0 ∧ secB L X b = true := by
  unfold pairB at hp ⊢
  cases hf : L.find? (fun z => madeB L X z && decide (z.into = [a, b])) with
  | some z =>
    obtain ⟨z1, z2, z3⟩ := pair_row hf
    obtain ⟨d1, d2, _⟩ := made_dec h z1 z2
    refine ⟨by rw [← z3]; exact d1, d2, ?_⟩
    unfold secB
    rw [Bool.or_eq_true]
    refine .inl (List.any_eq_true.2 ⟨z, z1, ?_⟩)
    simp [z2, z3]
  | none =>
    rw [hf] at hp
    simp only at hp ⊢
    have hs := join_isS hp
    have e := split_join hp
    refine ⟨by rw [syl_dec hs, e], syl_cls h hs, ?_⟩
    unfold secB
    rw [Bool.or_eq_true, Bool.or_eq_true]
    rcases join_cases hp with ⟨h1, _⟩ | ⟨h1, _⟩
    · exact .inr (.inl (by simpa using h1.2))
    · exact .inr (.inr (by simpa using h1.2))
theorem pair_no {a b : Int} (hp : (pairB L X a b).2 = false) : (pairB L X a b).1 = 0 := by
  unfold pairB at hp ⊢
  cases hf : L.find? (fun z => madeB L X z && decide (z.into = [a, b])) with
  | some z => rw [hf] at hp; cases hp
  | none =>
    rw [hf] at hp
    simp only at hp ⊢
    rw [join_no hp]
/-- Each of Pairs. -/
theorem prs_is (h : OkB L X) {x : Rw} (hx : x ∈ prsB L X) : ∃ a b, x.into = [a, b] ∧ decB L x.fr = ([], [a, b]) ∧ pairB L X a b = (x.fr, true) ∧ clsB L x.fr = 0 ∧ clsB L a = 0 ∧ secB L X b = true := by
  obtain ⟨hm, hk⟩ := List.mem_filter.1 hx
  obtain ⟨m1, m2, m3, m4, m5⟩ := made_iff.1 hk
  obtain ⟨d1, d2, _⟩ := made_dec h hm hk
  have ht := h.two x hx
  have e := two_of m2
  refine ⟨x.into.getD 0 0, x.into.getD 1 0, e, by rw [← e]; exact d1, ht.2, d2, m5, ?_⟩
  unfold secB
  rw [Bool.or_eq_true]
  exact .inl (List.any_eq_true.2 ⟨x, hm, by simp [hk]⟩)
/-- Excluding one more character. -/
theorem made_out {c : Int} {x : Rw} : madeB L [c] x = (madeB L [] x && decide (x.fr ≠ c)) := by
  rw [Bool.eq_iff_iff, Bool.and_eq_true, made_iff, made_iff]
  simp only [List.mem_singleton, List.not_mem_nil, not_false_eq_true, true_and, decide_eq_true_eq, ne_eq]
  exact ⟨fun ⟨a, b, c, d, e⟩ => ⟨⟨a, b, d, e⟩, c⟩, fun ⟨⟨a, b, d, e⟩, c⟩ => ⟨a, b, c, d, e⟩⟩
theorem prs_out (c : Int) : prsB L [c] = (prsB L []).filter fun x => decide (x.fr ≠ c) := by
  unfold prsB
  rw [List.filter_filter]
  congr 1
  funext x
  rw [made_out, Bool.and_comm]
theorem find_sub {α : Type} {p q : α → Bool} (hqp : ∀ x, q x = true → p x = true) : ∀ {l : List α} {z : α}, l.find? p = some z → q z = true → l.find? q = some z
  | [], z, h, _ => by cases h
  | x :: l, z, h, hz => by
    rw [List.find?_cons] at h ⊢
    cases hp : p x with
    | true =>
      rw [hp] at h
      simp only [Option.some.injEq] at h
      subst h
      rw [hz]
    | false =>
      rw [hp] at h
      simp only at h
      have hq : q x = false := by
        cases hq : q x with
        | false => rfl
        | true => rw [hqp x hq] at hp; cases hp
      rw [hq]
      exact find_sub hqp h hz
theorem ok_out (h : OkB L []) (c : Int) : OkB L [c] := by
  refine ⟨h.rise, h.ends, h.one, h.cl0, h.syl, h.form, h.loop, fun x hx => ?_⟩
  rw [prs_out] at hx
  obtain ⟨hx1, hx2⟩ := List.mem_filter.1 hx
  have ht := h.two x hx1
  refine ⟨ht.1, ?_⟩
  have hm := (List.mem_filter.1 hx1).2
  obtain ⟨m1, m2, m3, m4, m5⟩ := made_iff.1 hm
  have hp := ht.2
  unfold pairB at hp ⊢
  cases hf : L.find? (fun z => madeB L [] z && decide (z.into = [x.into.getD 0 0, x.into.getD 1 0])) with
  | none =>
    rw [hf] at hp
    simp only at hp
    rw [hp] at ht
    cases ht.1
  | some z =>
    rw [hf] at hp
    simp only [Prod.mk.injEq, and_true] at hp
    obtain ⟨z1, z2, z3⟩ := pair_row hf
    have hz : (madeB L [c] z && decide (z.into = [x.into.getD 0 0, x.into.getD 1 0])) = true := by
      simp only [Bool.and_eq_true, decide_eq_true_eq]
      refine ⟨?_, z3⟩
      rw [made_out, Bool.and_eq_true, decide_eq_true_eq]
      refine ⟨z2, ?_⟩
      rw [hp]
      simpa using hx2
    have hfs := find_sub (q := fun z => madeB L [c] z && decide (z.into = [x.into.getD 0 0, x.into.getD 1 0])) (fun y hy => by
      simp only [Bool.and_eq_true] at hy ⊢
      rw [made_out, Bool.and_eq_true] at hy
      exact ⟨hy.1.1, hy.2⟩) hf hz
    rw [hfs]
    simp only [hp]

end Go.Proofs.YtagbeioooohbgaaGreatDoor.Ba
end
section
namespace Go.Proofs.YtagbeioooohbgaaGreatDoor.Ba
open Uc Ha

/-! Plain: parted again and again. -/
variable {L : List Rw} {X : List Int}
theorem Leads.trans {r s t : Int} (h : Leads L r s) (k : Leads L s t) : Leads L r t := by
  induction h with
  | one h => exact .more h k
  | more h _ ih => exact .more h (ih k)
theorem Leads.fst {r s : Int} (h : Leads L r s) : (decB L r).2 ≠ [] := by
  cases h with
  | one h => intro e; rw [e] at h; cases h
  | more h _ => intro e; rw [e] at h; cases h
/-- Who is parted and no syllable has a row. -/
theorem row_of {r : Int} (h : OkB L X) (hp : (decB L r).2 ≠ []) (hs : isS r = false) : ∃ x ∈ L, x.fr = r := by
  unfold decB at hp
  rw [if_neg (by simp [hs])] at hp
  cases hr : rowAt L r with
  | none => rw [hr] at hp; exact absurd rfl hp
  | some x =>
    rw [hr] at hp
    obtain ⟨hx, hi⟩ := row_mem hr
    have ho := h.one x hx hp
    rw [inR_iff] at hi
    exact ⟨x, hx, by omega⟩
theorem syl_two {r s : Int} (hs : isS r = true) (h : s ∈ (decB L r).2) : s ≠ r ∧ (isS s = true → tlN r ≠ 0 ∧ s = r - tlN r) := by
  rw [syl_dec hs] at h
  have h1 := ldN_bd hs
  have h2 := vwN_bd r
  have h3 := tlN_bd r
  have h4 := of_parts (r := r)
  have h5 := (isS_iff r).1 hs
  by_cases ht : tlN r = 0
  · have e : splE r = (4352 + ldN r, 4449 + vwN r, true) := by unfold splE; rw [if_pos hs, if_pos ht]
    rw [e] at h
    simp only [List.mem_cons, List.not_mem_nil, or_false] at h
    refine ⟨by omega, fun hS => ?_⟩
    rw [isS_iff] at hS
    omega
  · have e : splE r = (r - tlN r, 4519 + tlN r, true) := by unfold splE; rw [if_pos hs, if_neg ht]
    rw [e] at h
    simp only [List.mem_cons, List.not_mem_nil, or_false] at h
    refine ⟨by omega, fun hS => ⟨ht, ?_⟩⟩
    rw [isS_iff] at hS
    omega
/-- None leads back to itself. -/
theorem no_loop (h : OkB L X) (r : Int) : ¬ Leads L r r := by
  have row : ∀ c, isS c = false → ¬ Leads L c c := fun c hc hl => by
    obtain ⟨x, hx, rfl⟩ := row_of h hl.fst hc
    exact h.loop x hx hl
  cases hs : isS r with
  | false => exact row r hs
  | true =>
    intro hl
    cases hl with
    | one h1 => exact (syl_two hs h1).1 rfl
    | @more _ s _ h1 hl =>
      cases hs2 : isS s with
      | false => exact row s hs2 (hl.trans (.one h1))
      | true =>
        obtain ⟨t1, t2⟩ := (syl_two hs h1).2 hs2
        have t3 : tlN s = 0 := by rw [t2]; exact (bare hs).2.2.2
        cases hl with
        | one h2 => exact absurd hs (by simp [show isS r = false from by
            cases h9 : isS r with
            | false => rfl
            | true => exact absurd t3 ((syl_two hs2 h2).2 h9).1])
        | @more _ u _ h2 hl =>
          cases hs3 : isS u with
          | false => exact row u hs3 ((hl.trans (.one h1)).trans (.one h2))
          | true => exact absurd t3 ((syl_two hs2 h2).2 hs3).1
def exL (L : List Rw) (l : List Int) : List Int := l.flatMap fun r => if (decB L r).2 = [] then [r] else (decB L r).2
def exN (L : List Rw) : Nat → List Int → List Int
  | 0, l => l
  | n + 1, l => exL L (exN L n l)
theorem ex_one (r : Int) : 1 ≤ (if (decB L r).2 = [] then [r] else (decB L r).2).length := by
  split
  · simp
  · rename_i h
    cases e : (decB L r).2 with
    | nil => exact absurd e h
    | cons a l => simp
theorem ex_syl {r : Int} (hs : isS r = true) : (if (decB L r).2 = [] then [r] else (decB L r).2).length = 2 := by
  rw [syl_dec hs]
  simp
theorem exL_len : ∀ (l : List Int), l.length ≤ (exL L l).length
  | [] => by simp [exL]
  | r :: l => by
    have h1 := exL_len l
    have h2 := ex_one (L := L) r
    unfold exL at *
    rw [List.flatMap_cons, List.length_append, List.length_cons]
    omega
theorem exL_syl : ∀ {l : List Int} {c : Int}, c ∈ l → isS c = true → l.length + 1 ≤ (exL L l).length
  | r :: l, c, hc, hs => by
    have h1 := exL_len (L := L) l
    have h2 := ex_one (L := L) r
    have e : exL L (r :: l) = (if (decB L r).2 = [] then [r] else (decB L r).2) ++ exL L l := by unfold exL; rw [List.flatMap_cons]
    rw [e, List.length_append, List.length_cons]
    rcases List.mem_cons.1 hc with rfl | hc
    · have h3 := ex_syl (L := L) hs
      omega
    · have h3 := exL_syl hc hs
      omega
theorem exL_mem {l : List Int} {c : Int} (hc : c ∈ exL L l) (hp : (decB L c).2 ≠ []) : ∃ d ∈ l, (decB L d).2 ≠ [] ∧ c ∈ (decB L d).2 := by
  unfold exL at hc
  obtain ⟨d, hd, h⟩ := List.mem_flatMap.1 hc
  split at h
  · rename_i hn
    simp only [List.mem_singleton] at h
    subst h
    exact absurd hn hp
  · rename_i hn
    exact ⟨d, hd, hn, h⟩
/-- How one that is still parted came: as many others, each another one. -/
theorem ex_path (h : OkB L X) (r : Int) : ∀ (n : Nat) (c : Int), c ∈ exN L n [r] → (decB L c).2 ≠ [] →
    ∃ p : List Int, p.length = n ∧ p.Nodup ∧ (∀ d ∈ p, (decB L d).2 ≠ [] ∧ Leads L d c) ∧ p.countP isS + 1 ≤ (exN L n [r]).length
  | 0, c, _, _ => ⟨[], rfl, List.nodup_nil, (fun d hd => by cases hd), by simp [exN]⟩
  | n + 1, c, hc, hp => by
    obtain ⟨d, hd, hdp, hcd⟩ := exL_mem (show c ∈ exL L (exN L n [r]) from hc) hp
    obtain ⟨p, h1, h2, h3, h4⟩ := ex_path h r n d hd hdp
    refine ⟨d :: p, by simp [h1], List.nodup_cons.2 ⟨fun hm => no_loop h d (h3 d hm).2, h2⟩, fun e he => ?_, ?_⟩
    · rcases List.mem_cons.1 he with rfl | he
      · exact ⟨hdp, .one hcd⟩
      · exact ⟨(h3 e he).1, (h3 e he).2.trans (.one hcd)⟩
    · have e : exN L (n + 1) [r] = exL L (exN L n [r]) := rfl
      rw [e, List.countP_cons]
      split
      · rename_i hs
        have := exL_syl (L := L) hd hs
        omega
      · have := exL_len (L := L) (exN L n [r])
        omega
theorem nodup_le : ∀ {l m : List Int}, l.Nodup → (∀ x ∈ l, x ∈ m) → l.length ≤ m.length
  | [], m, _, _ => Nat.zero_le _
  | x :: l, m, hn, h => by
    obtain ⟨h1, h2⟩ := List.nodup_cons.1 hn
    have hx := h x (.head _)
    have h3 := nodup_le (m := m.erase x) h2 fun y hy => (List.mem_erase_of_ne (fun e => h1 (by rw [← e]; exact hy))).2 (h y (.tail _ hy))
    have h4 := List.length_erase_of_mem hx
    have h5 := List.length_pos_of_mem hx
    rw [List.length_cons]
    omega
/-- Parted again and again it comes to an end. -/
theorem ex_ends (h : OkB L X) {r : Int} (hl : L.length ≤ 381) (hf : ∀ n, (exN L n [r]).length ≤ 18) : ∀ c ∈ exN L 399 [r], (decB L c).2 = [] := fun c hc => by
  by_cases hp : (decB L c).2 = []
  · exact hp
  · exfalso
    obtain ⟨p, h1, h2, h3, h4⟩ := ex_path h r 399 c hc hp
    have h5 := hf 399
    have hq : (p.filter fun d => !isS d).length ≤ (L.map (·.fr)).length := nodup_le (h2.sublist List.filter_sublist) fun d hd => by
      obtain ⟨d1, d2⟩ := List.mem_filter.1 hd
      obtain ⟨x, hx, e⟩ := row_of h (h3 d d1).1 (by simpa using d2)
      exact List.mem_map.2 ⟨x, hx, e⟩
    rw [List.length_map] at hq
    have hc2 : p.countP isS + p.countP (fun d => !isS d) = p.length := by
      have := List.length_eq_countP_add_countP isS (l := p)
      simp only [Bool.not_eq_true] at this
      rw [this]
      congr 1
      refine List.countP_congr fun d _ => ?_
      cases isS d <;> simp
    rw [List.countP_eq_length_filter (p := fun d => !isS d)] at hc2
    omega
/-- What is parted no more stays. -/
theorem exL_stays : ∀ {l : List Int}, (∀ c ∈ l, (decB L c).2 = []) → exL L l = l
  | [], _ => rfl
  | r :: l, h => by
    have e : exL L (r :: l) = (if (decB L r).2 = [] then [r] else (decB L r).2) ++ exL L l := by unfold exL; rw [List.flatMap_cons]
    rw [e, if_pos (h r (.head _)), exL_stays fun c hc => h c (.tail _ hc)]
    rfl

end Go.Proofs.YtagbeioooohbgaaGreatDoor.Ba
end

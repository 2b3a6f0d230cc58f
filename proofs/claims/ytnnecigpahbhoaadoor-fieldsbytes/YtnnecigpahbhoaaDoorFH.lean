import Derived.Test.YtnnecigpahbhoaaDoorFG
namespace Go.Proofs.YtnnecigpahbhoaaDoor.Fi
open Go.RowKit

/-- The bytes that pairs of digits tell, each behind the text 'a'. -/
def bytR (a : List UInt8) : Nat → List UInt8 → List UInt8 → Option (List UInt8)
  | _, out, [] => some out
  | 0, _, _ :: _ => none
  | f + 1, out, c :: l =>
    if (c :: l).length < a.length + 2 then none
    else match digs 16 2 (((c :: l).drop a.length).take 2) with
      | none => none
      | some n => if a.isPrefixOf (c :: l) then bytR a f (out ++ [n.toUInt8]) ((c :: l).drop (a.length + 2)) else none
def bytE (a l : List UInt8) : List UInt8 × Int := if l = [] then ([], 10) else match bytR a l.length [] l with
  | none => ([], 10)
  | some o => (o, 0)
theorem bytR_nil (a out : List UInt8) (f : Nat) : bytR a f out [] = some out := by cases f <;> rfl
theorem bytR_short {a out l : List UInt8} {f : Nat} (h0 : l ≠ []) (h : l.length < a.length + 2) : bytR a f out l = none := by
  cases l with
  | nil => exact absurd rfl h0
  | cons c l => cases f with
    | zero => rfl
    | succ f => rw [bytR, if_pos h]
theorem bytR_bad {a out l : List UInt8} {f : Nat} (h0 : l ≠ []) (h : digs 16 2 ((l.drop a.length).take 2) = none) : bytR a f out l = none := by
  cases l with
  | nil => exact absurd rfl h0
  | cons c l => cases f with
    | zero => rfl
    | succ f => rw [bytR]; split; rfl; rw [h]
theorem bytR_no {a out l : List UInt8} {f : Nat} (h0 : l ≠ []) (h : a.isPrefixOf l = false) : bytR a f out l = none := by
  cases l with
  | nil => exact absurd rfl h0
  | cons c l => cases f with
    | zero => rfl
    | succ f =>
      rw [bytR]
      split
      · rfl
      · split
        · rfl
        · rw [h]; rfl
theorem bytR_ok {a out l : List UInt8} {f n : Nat} (h0 : l ≠ []) (h1 : ¬ l.length < a.length + 2) (h2 : digs 16 2 ((l.drop a.length).take 2) = some n) (h : a.isPrefixOf l = true) : bytR a (f + 1) out l = bytR a f (out ++ [n.toUInt8]) (l.drop (a.length + 2)) := by
  cases l with
  | nil => exact absurd rfl h0
  | cons c l =>
    rw [bytR, if_neg h1, h2]
    simp only [h, if_true]
theorem bytR_rem {a : List UInt8} : ∀ (f : Nat) (out l : List UInt8), l.length % (a.length + 2) ≠ 0 → bytR a f out l = none
  | f, out, [], h => absurd (by simp) h
  | 0, out, c :: l, h => rfl
  | f + 1, out, c :: l, h => by
    by_cases h1 : (c :: l).length < a.length + 2
    · exact bytR_short (by simp) h1
    · cases h2 : digs 16 2 (((c :: l).drop a.length).take 2) with
      | none => exact bytR_bad (by simp) h2
      | some n =>
        cases h3 : a.isPrefixOf (c :: l) with
        | false => exact bytR_no (by simp) h3
        | true =>
          rw [bytR_ok (by simp) h1 h2 h3]
          apply bytR_rem
          rw [List.length_drop]
          intro h4
          apply h
          have : (c :: l).length = ((c :: l).length - (a.length + 2)) + (a.length + 2) := by omega
          rw [this, Nat.add_mod_right]
          exact h4
def u8v (l : List UInt8) : List Value := l.map fun x : UInt8 => .int .u8 (x.toNat : Int)
theorem u8v_app (a b : List UInt8) : u8v (a ++ b) = u8v a ++ u8v b := by simp [u8v]
theorem u8_info : (Tryd.prog.info? 5).map (fun i => (i.zero, i.size, i.bytes)) = some (some (.int .u8 0), 1, 1) := by kernel_rfl
theorem nums_str (l : List UInt8) : strOfNums (l.map fun x : UInt8 => (x.toNat : Int)) = ⟨l.toArray⟩ := by
  apply str_eq
  rw [strOfNums_data, List.map_map]
  conv => rhs; rw [lst_mk, ← List.map_id l]
  apply List.map_congr_left
  intro v _
  simp
theorem run_string_own (base : Nat) (v : Value) (n : Nat) (ys : List UInt8) (w : World) (h : w.ownsRow base 5 1 v n (u8v ys)) :
    (convert 55 9 v).run Tryd.prog w = .ok (.string ⟨ys.toArray⟩) w := by
  have hl : ys.length = n := by have := h.1; simpa [u8v] using this
  rcases h.2 with ⟨rfl, rfl⟩ | ⟨g, cap, cur, rfl, hg, hh, hn, hm, hc, ht⟩
  · have : ys = [] := List.eq_nil_of_length_eq_zero hl
    subst this
    exact run_convert_bytes_nil w 55 5 Tryd.underlying55 Tryd.underlying5 0 0 9 Tryd.underlying9
  · have := run_convert_bytes_arg w 55 5 Tryd.underlying55 Tryd.underlying5 g 0 n cap (ys.map fun x : UInt8 => (x.toNat : Int)) (by simpa using hl) (fun i hi => ?_) 9 Tryd.underlying9
    · rw [nums_str] at this
      exact this
    have hi' : i < ys.length := by omega
    have := h.cells (g := g) rfl i (.int .u8 ((ys.map fun x : UInt8 => (x.toNat : Int)).getD i 0)) (by simp [u8v, List.getD, List.getElem?_eq_getElem hi'])
    have e : (⟨g, 0, none⟩ : Addr).add i = ⟨g, 0 + i, none⟩ := by unfold Addr.add; split <;> simp_all
    rw [e] at this
    exact this
def bytV (x : List UInt8 × Int) : Value := .tuple #[.string ⟨x.1.toArray⟩, .int .i64 x.2]
theorem bytE_none {a l : List UInt8} (h : bytR a l.length [] l = none) : bytE a l = ([], 10) := by unfold bytE; split; rfl; rw [h]
theorem bytE_some {a l o : List UInt8} (h0 : l ≠ []) (h : bytR a l.length [] l = some o) : bytE a l = (o, 0) := by unfold bytE; rw [if_neg h0, h]
structure ByR (w wr : World) (a : List UInt8) (out : Value) (os : List UInt8) (f : Nat) (l : List UInt8) (tot : Option (List UInt8)) : Prop where
  bel : Below w.heap.size w wr
  own : wr.ownsRow w.heap.size 5 1 out os.length (u8v os)
  len : os.length + l.length ≤ 100000
  fl : l.length ≤ f
  tot : bytR a f os l = tot
theorem rem_no {x y : Nat} (h : x % (y + 2) = 0) : ((x : Int) % ((y : Int) + 2) != 0) = false := by
  have e : ((x : Int) % ((y : Int) + 2)) = ((x % (y + 2) : Nat) : Int) := by push_cast; rfl
  rw [e, h]; rfl
theorem rem_yes {x y : Nat} (h : ¬ x % (y + 2) = 0) : ((x : Int) % ((y : Int) + 2) != 0) = true := by
  have e : ((x : Int) % ((y : Int) + 2)) = ((x % (y + 2) : Nat) : Int) := by push_cast; rfl
  rw [e]
  generalize x % (y + 2) = z at h
  simpa using h
theorem lst_ne {s : ByteArray} (h : 0 < s.size) : s.data.toList ≠ [] := by
  intro hh
  have := lst_len s
  rw [hh] at this
  simp at this
  omega

set_option maxRecDepth 100000 in
set_option maxHeartbeats 4000000 in
theorem bytes_any (s a : ByteArray) (w : World) (hs : s.size ≤ 100000) (ha : a.size ≤ 100000) :
    Calls Tryd.prog 24 #[.string s, .string a] w fun e w' => e = .returned (bytV (bytE a.data.toList s.data.toList)) ∧ Below w.heap.size w w' := by
  by_cases h0 : s.size = 0
  · obtain rfl := emp_yes h0
    have H := Lib.hid (show bytE a.data.toList (⟨#[]⟩ : ByteArray).data.toList = ([], 10) from rfl)
    clear h0
    go_enter Tryd.func24, Tryd.ntmps24
    go_wp2_with fail
    go_ret2
    exact ⟨ret_eq (by rw [H.out]; rfl), Below.refl _ _⟩
  · have he := emp_no (s := s) (by omega)
    have hne := emp_ne (s := s) (by omega)
    by_cases h1 : s.size % (a.size + 2) = 0
    · have h2 : ((s.size : Int) % ((a.size : Int) + 2) != 0) = false := rem_no h1
      have HS := Lib.hid (lst_ne (s := s) (by omega))
      have H1 := Lib.hid h1
      obtain ⟨i0, hi0, hz0, hz1, hz2⟩ := info_parts u8_info
      have I0 := Lib.hid hi0
      have I1 := Lib.hid hz0
      have I2 := Lib.hid hz1
      have I3 := Lib.hid hz2
      clear hi0 hz0 hz1 hz2 h1
      obtain ⟨tot, ht⟩ : ∃ tot, tot = bytR a.data.toList s.data.toList.length [] s.data.toList := ⟨_, rfl⟩
      have HT := Lib.hid ht
      clear ht
      go_enter Tryd.func24, Tryd.ntmps24
      go_wp2_with fail
      clear h2 he hne h0
      go_loopg [0, 7] s.size (fun gf s0 s7 wx => ∃ t : ByteArray, s0 = .string t ∧ t.size ≤ gf ∧ Hid (t.size % (a.size + 2) = 0) ∧ ∃ os, Hid (ByR w wx a.data.toList s7 os gf t.data.toList tot))
      case atStart => exact ⟨s, rfl, by omega, H1, [], Below.refl _ _, World.ownsRow_nil _ _ _ _, by simp; omega, by simp, by rw [HT.out, lst_len]⟩
      case round =>
        obtain ⟨t, rfl, htg, HM, os, HR⟩ := hrel
        have hlen := HR.out.len
        rw [lst_len] at hlen
        have hsz := HR.out.bel.size
        have hmo : os.length + 1 ≤ maxLen := by unfold maxLen; omega
        by_cases ht0 : t.size = 0
        · obtain rfl := emp_yes ht0
          have hcv := run_string_own _ _ _ _ _ HR.out.own
          have HQ := Lib.hid (show bytE a.data.toList s.data.toList = (os, 0) from bytE_some HS.out (by rw [← HT.out, ← HR.out.tot]; exact bytR_nil _ _ _))
          have HB := Lib.hid HR.out.bel
          clear HR
          go_wp2_with fail
          go_ret2
          exact ⟨ret_eq (by rw [HQ.out]; rfl), HB.out⟩
        · have he := emp_no (s := t) (by omega)
          have hne := emp_ne (s := t) (by omega)
          have hln := lst_ne (s := t) (by omega)
          have hge : a.size + 2 ≤ t.size := Nat.le_of_dvd (by omega) (Nat.dvd_of_mod_eq_zero HM.out)
          obtain ⟨g', rfl⟩ : ∃ g', gk = g' + 1 := ⟨gk - 1, by omega⟩
          have hdl : (t.extract a.size (a.size + 2)).data.toList = (t.data.toList.drop a.data.toList.length).take 2 := by
            rw [Lib.extract_data, lst_len, show a.size + 2 - a.size = 2 by omega]
          have hdg := fun W => digits16 (t.extract a.size (a.size + 2)) 2 W (by omega) (by have := ext_size t a.size (a.size + 2); omega)
          rw [hdl] at hdg
          have HNE := Lib.hid hln
          have hp := fun W => Tryd.strings_HasPrefix t a W
          unfold Lib.hasPrefix at hp
          have c1 : (0 : Int) ≤ a.size := by omega
          have c2 : (a.size : Int) + 2 ≤ t.size := by omega
          have c3 : (a.size : Int) ≤ (a.size : Int) + 2 := by omega
          clear hdl hln ht0
          cases hd : digs 16 2 ((t.data.toList.drop a.data.toList.length).take 2) with
          | none =>
            rw [hd, ← numV_no] at hdg
            have HDG := Lib.hid hdg
            have HQ := Lib.hid (show bytE a.data.toList s.data.toList = ([], 10) from bytE_none (by rw [← HT.out, ← HR.out.tot]; exact bytR_bad HNE.out hd))
            have HB := Lib.hid HR.out.bel
            clear hdg hd HR hp
            go_wp2_with (go_at_call 37; refine (HDG.out _).mono ?_; rintro e w2 ⟨rfl, hb⟩; have B2 := Lib.hid hb; clear hb)
            go_ret2
            exact ⟨ret_eq (by rw [HQ.out]; rfl), HB.out.trans (B2.out.mono HB.out.size)⟩
          | some n =>
            have hnl : n < 256 := digs_lt (by omega) hd
            rw [hd, ← numV_yes] at hdg
            have HDG := Lib.hid hdg
            have HDD := Lib.hid hd
            clear hdg hd
            cases hpr : a.data.toList.isPrefixOf t.data.toList with
            | false =>
              rw [hpr] at hp
              have HP := Lib.hid hp
              have HQ := Lib.hid (show bytE a.data.toList s.data.toList = ([], 10) from bytE_none (by rw [← HT.out, ← HR.out.tot]; exact bytR_no HNE.out hpr))
              have HB := Lib.hid HR.out.bel
              clear hp hpr HR
              go_wp2_with (first
                | (go_at_call 37; refine (HDG.out _).mono ?_; rintro e w2 ⟨rfl, hb⟩; have B2 := Lib.hid hb; clear hb)
                | (go_at_call 43; refine (HP.out _).mono ?_; rintro e w3 ⟨rfl, rfl⟩))
              go_ret2
              exact ⟨ret_eq (by rw [HQ.out]; rfl), HB.out.trans (B2.out.mono HB.out.size)⟩
            | true =>
              rw [hpr] at hp
              have HP := Lib.hid hp
              have HQ := Lib.hid (show bytR a.data.toList g' (os ++ [n.toUInt8]) (t.data.toList.drop (a.data.toList.length + 2)) = tot from by
                rw [← HR.out.tot, bytR_ok HNE.out (by rw [lst_len, lst_len]; omega) HDD.out hpr])
              clear hp hpr
              go_wp2_with (first
                | (go_at_call 37; refine (HDG.out _).mono ?_; rintro e w2 ⟨rfl, hb⟩; have B2 := Lib.hid hb; have O2 := Lib.hid (own_below' HR.out.own hb); have z2 := hb.size; clear hb)
                | (go_at_call 43; refine (HP.out _).mono ?_; rintro e w3 ⟨rfl, rfl⟩)
                | (at_builtin; refine wpList_append_own_at _ rfl (.tmp 44) (.tmp 47) _ rfl w.heap.size 5 i0 _ 1 1 Tryd.underlying55 I0.out I1.out I2.out I3.out rfl (by omega) u7 os.length _ rfl (O2.out.alloc _) ⟨_, 0, none⟩ 1 1 [_] rfl rfl (cell_one_new _ _ _) (by simp [Value.oneCell']) hmo (by omega) (by simp; omega) ?_; intro v2 w4 ho4 hg4 hn4 ha4; have O4 := Lib.hid ho4; have G4 := Lib.hid hg4; clear ho4 hg4 hn4 ha4))
              go_roundg g'
              case measure => omega
              case rel =>
                have hq := HQ.out
                have hE : (t.extract (a.size + 2) t.size).data.toList = t.data.toList.drop (a.data.toList.length + 2) := by rw [Lib.extract_to_end, lst_len]
                have hE2 : (t.extract (a.size + 2) t.size).size = t.size - (a.size + 2) := by rw [← lst_len, Lib.extract_to_end, List.length_drop, lst_len]
                have hu : (n.toUInt8.toNat : Int) = n := by simp; omega
                refine ⟨t.extract (a.size + 2) t.size, rfl, by rw [hE2]; omega, ?_, os ++ [n.toUInt8], ?_, ?_, ?_, ?_, ?_⟩
                · show (t.extract (a.size + 2) t.size).size % (a.size + 2) = 0
                  rw [hE2, ← Nat.mod_eq_sub_mod hge]
                  exact HM.out
                · have b2 := HR.out.bel.trans (B2.out.mono HR.out.bel.size)
                  exact (b2.alloc b2.size _).grown G4.out (by have := b2.size; simp; omega) (fun q hq => (O2.out.lt q hq).1)
                · have := O4.out
                  rw [List.length_append, u8v_app]
                  have e1 : u8v [n.toUInt8] = [.int .u8 n] := by simp only [u8v, List.map_cons, List.map_nil, hu]
                  rw [e1]
                  exact this
                · rw [lst_len, hE2, List.length_append]; simp; omega
                · rw [lst_len, hE2]; omega
                · rw [hE]; exact hq
    · have H := Lib.hid (show bytE a.data.toList s.data.toList = ([], 10) from bytE_none (bytR_rem _ _ _ (by rw [lst_len, lst_len]; exact h1)))
      have h2 : ((s.size : Int) % ((a.size : Int) + 2) != 0) = true := rem_yes h1
      go_enter Tryd.func24, Tryd.ntmps24
      go_wp2_with fail
      go_ret2
      exact ⟨ret_eq (by rw [H.out]; rfl), Below.refl _ _⟩

end Go.Proofs.YtnnecigpahbhoaaDoor.Fi

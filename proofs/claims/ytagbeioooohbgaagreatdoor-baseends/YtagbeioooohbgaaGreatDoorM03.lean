import Derived.Test.YtagbeioooohbgaaGreatDoorM02
import Derived.Test.YtagbeioooohbgaaGreatDoorM09
section
namespace Go.Proofs.YtagbeioooohbgaaGreatDoor.Ba
open Uc Ha

/-! Plain: how many characters some are, parted as far as they can be. -/
inductive Cnt (L : List Rw) : List Int → Nat → Prop
  | nil : Cnt L [] 0
  | leaf {r : Int} {l : List Int} {n : Nat} : (decB L r).2 = [] → Cnt L l n → Cnt L (r :: l) (n + 1)
  | node {r : Int} {l : List Int} {m n : Nat} : (decB L r).2 ≠ [] → Cnt L (decB L r).2 m → Cnt L l n → Cnt L (r :: l) (m + n)
variable {L : List Rw} {X : List Int}
theorem Cnt.one_leaf {r : Int} (h : (decB L r).2 = []) : Cnt L [r] 1 := .leaf h .nil
theorem Cnt.one_node {r : Int} {m : Nat} (h : (decB L r).2 ≠ []) (k : Cnt L (decB L r).2 m) : Cnt L [r] m := .node h k .nil
theorem Cnt.uniq {l : List Int} {n m : Nat} (h : Cnt L l n) (k : Cnt L l m) : n = m := by
  induction h generalizing m with
  | nil => cases k; rfl
  | leaf h1 h2 ih =>
    cases k with
    | leaf k1 k2 => rw [ih k2]
    | node k1 k2 k3 => exact absurd h1 k1
  | node h1 h2 h3 ih2 ih3 =>
    cases k with
    | leaf k1 k2 => exact absurd k1 h1
    | node k1 k2 k3 => rw [ih2 k2, ih3 k3]
theorem Cnt.len {l : List Int} {n : Nat} (h : Cnt L l n) : l.length ≤ n := by
  induction h with
  | nil => exact Nat.le_refl _
  | leaf h1 h2 ih => rw [List.length_cons]; omega
  | node h1 h2 h3 ih2 ih3 =>
    have := List.length_pos_iff.2 h1
    rw [List.length_cons]
    omega
theorem Cnt.app {a b : List Int} {n m : Nat} (h : Cnt L a n) (k : Cnt L b m) : Cnt L (a ++ b) (n + m) := by
  induction h with
  | nil => rw [Nat.zero_add]; exact k
  | leaf h1 h2 ih => rw [Nat.add_right_comm]; exact .leaf h1 ih
  | node h1 h2 h3 ih2 ih3 => rw [Nat.add_assoc]; exact .node h1 h2 ih3
theorem Cnt.ex {l : List Int} {n : Nat} (h : Cnt L l n) : Cnt L (exL L l) n := by
  induction h with
  | nil => exact .nil
  | @leaf r l n h1 h2 ih =>
    have e : exL L (r :: l) = (if (decB L r).2 = [] then [r] else (decB L r).2) ++ exL L l := by unfold exL; rw [List.flatMap_cons]
    rw [e, if_pos h1]
    exact .leaf h1 ih
  | @node r l m n h1 h2 h3 ih2 ih3 =>
    have e : exL L (r :: l) = (if (decB L r).2 = [] then [r] else (decB L r).2) ++ exL L l := by unfold exL; rw [List.flatMap_cons]
    rw [e, if_neg h1]
    exact h2.app ih3
theorem Cnt.exs {l : List Int} {n : Nat} (h : Cnt L l n) : ∀ k, Cnt L (exN L k l) n
  | 0 => h
  | k + 1 => (h.exs k).ex
theorem Cnt.exlen {l : List Int} {n : Nat} (h : Cnt L l n) (k : Nat) : (exN L k l).length ≤ n := (h.exs k).len
/-- Each of counted characters comes to an end. -/
theorem Cnt.acc {l : List Int} {n : Nat} (h : Cnt L l n) : ∀ r ∈ l, Acc (fun s r => s ∈ (decB L r).2) r := by
  induction h with
  | nil => intro r hr; cases hr
  | leaf h1 h2 ih =>
    intro r hr
    rcases List.mem_cons.1 hr with rfl | hr
    · exact ⟨_, fun s hs => by rw [h1] at hs; cases hs⟩
    · exact ih r hr
  | node h1 h2 h3 ih2 ih3 =>
    intro r hr
    rcases List.mem_cons.1 hr with rfl | hr
    · exact ⟨_, fun s hs => ih2 s hs⟩
    · exact ih3 r hr
theorem acc_no {r : Int} (h : Acc (fun s r => s ∈ (decB L r).2) r) : ¬ Leads L r r := by
  induction h with
  | intro r _ ih =>
    intro hl
    cases hl with
    | one h1 => exact ih r h1 (.one h1)
    | @more _ s _ h1 hl => exact ih s h1 (hl.trans (.one h1))
theorem Cnt.no {l : List Int} {n : Nat} (h : Cnt L l n) {r : Int} (hr : r ∈ l) : ¬ Leads L r r := acc_no (h.acc r hr)
/-- A list that is counted: each of it is. -/
theorem Cnt.mem {l : List Int} {n : Nat} (h : Cnt L l n) : ∀ r ∈ l, ∃ m, Cnt L [r] m := by
  induction h with
  | nil => intro r hr; cases hr
  | leaf h1 h2 ih =>
    intro r hr
    rcases List.mem_cons.1 hr with rfl | hr
    · exact ⟨1, .one_leaf h1⟩
    · exact ih r hr
  | node h1 h2 h3 ih2 ih3 =>
    intro r hr
    rcases List.mem_cons.1 hr with rfl | hr
    · exact ⟨_, .one_node h1 h2⟩
    · exact ih3 r hr
theorem Cnt.parts {r : Int} {n : Nat} (h : Cnt L [r] n) : ∀ s ∈ (decB L r).2, ∃ m, Cnt L [s] m := by
  cases h with
  | leaf h1 h2 => rw [h1]; intro s hs; cases hs
  | node h1 h2 h3 => exact h2.mem
theorem Cnt.node_of {r : Int} {n : Nat} (h : Cnt L [r] n) (hp : (decB L r).2 ≠ []) : Cnt L (decB L r).2 n := by
  cases h with
  | leaf h1 h2 => exact absurd h1 hp
  | node h1 h2 h3 => cases h3; exact h2
theorem Cnt.pos {r : Int} {n : Nat} (h : Cnt L [r] n) : 0 < n := by
  have := h.len
  simp at this
  omega

/-- What New asks of rows and exclusions. -/
structure Good (L : List Rw) (X : List Int) : Prop where
  ok : OkB L X
  few : ∀ x ∈ L, x.into ≠ [] → ∃ n, n ≤ 18 ∧ Cnt L [x.fr] n
theorem good_out (h : Good L []) (c : Int) : Good L [c] := ⟨ok_out h.ok c, h.few⟩

end Go.Proofs.YtagbeioooohbgaaGreatDoor.Ba
end
section
namespace Go.Proofs.YtagbeioooohbgaaGreatDoor.Fi
open Go.RowKit

def blB (b : Nat) : Bool := b == 9 || b == 13 || b == 32
def isb (c : UInt8) : Bool := ([9, 13, 32] : List UInt8).contains c
set_option maxRecDepth 100000 in
theorem isb_blk (c : UInt8) : isb c = blB c.toNat := by
  have : ∀ y : Fin 256, isb (UInt8.ofNat y.val) = blB (UInt8.ofNat y.val).toNat := by decide +kernel
  have h := this ⟨c.toNat, c.toNat_lt⟩
  simpa using h
def lt (l : List UInt8) : List UInt8 := l.dropWhile isb
def rt (l : List UInt8) : List UInt8 := (l.reverse.dropWhile isb).reverse
theorem bareL_eq (l : List UInt8) : bareL l = lt (rt l) := rfl
theorem lt_yes {c : UInt8} {l : List UInt8} (h : isb c = true) : lt (c :: l) = lt l := by unfold lt; rw [List.dropWhile_cons, if_pos h]
theorem lt_no {c : UInt8} {l : List UInt8} (h : isb c = false) : lt (c :: l) = c :: l := by unfold lt; rw [List.dropWhile_cons, if_neg (by simp [h])]
theorem rt_yes {c : UInt8} {l : List UInt8} (h : isb c = true) : rt (l ++ [c]) = rt l := by unfold rt; rw [List.reverse_append]; simp [h]
theorem rt_no {c : UInt8} {l : List UInt8} (h : isb c = false) : rt (l ++ [c]) = l ++ [c] := by unfold rt; rw [List.reverse_append]; simp [h]
theorem rt_cons (c : UInt8) (l : List UInt8) : rt (c :: l) = if rt l = [] then (if isb c then [] else [c]) else c :: rt l := by
  unfold rt
  rw [List.reverse_cons, List.dropWhile_append]
  by_cases h : (l.reverse.dropWhile isb) = []
  · simp only [h, List.isEmpty_nil, if_true, List.reverse_nil]
    cases hc : isb c <;> simp [hc]
  · have h2 : (l.reverse.dropWhile isb).isEmpty = false := by simpa using h
    simp [h2, h]
theorem lt_rt : ∀ l : List UInt8, lt (rt l) = rt (lt l)
  | [] => rfl
  | c :: l => by
    cases hc : isb c with
    | true =>
      rw [lt_yes hc, ← lt_rt l, rt_cons]
      by_cases h : rt l = []
      · simp [h, hc, lt]
      · rw [if_neg h, lt_yes hc]
    | false =>
      rw [lt_no hc, rt_cons]
      by_cases h : rt l = []
      · simp [h, hc, lt]
      · rw [if_neg h, lt_no hc]
theorem bareL_rt (l : List UInt8) : bareL l = rt (lt l) := by rw [bareL_eq, lt_rt]
theorem lst_last (s : ByteArray) (n : Nat) (h : s.size = n + 1) (hn : n < s.size) : s.data.toList = (s.extract 0 n).data.toList ++ [s[n]] := by
  rw [Lib.extract_from_zero]
  have e := List.take_append_drop n s.data.toList
  rw [lst_at s n hn, lst_end s (n + 1) (by omega)] at e
  exact e.symm
theorem ext0_size (s : ByteArray) (n : Nat) (h : n ≤ s.size) : (s.extract 0 n).size = n := by
  rw [← lst_len, Lib.extract_from_zero, List.length_take, lst_len]; omega
theorem ext1_size (s : ByteArray) (n : Nat) : (s.extract n s.size).size = s.size - n := by
  rw [← lst_len, Lib.extract_to_end, List.length_drop, lst_len]
theorem take_on (s : ByteArray) (k : Nat) (h : k < s.size) : s.data.toList.take (k + 1) = s.data.toList.take k ++ [s[k]] := by
  rw [List.take_succ_eq_append_getElem (by simpa using h)]; rfl
theorem blB_blk (b : Nat) : blB b = blk b := rfl
theorem ext_one (s : ByteArray) (k : Nat) (h : k < s.size) : (s.extract k (k + 1)).data.toList = [s[k]] := by
  rw [Lib.extract_data, lst_at s k h, show k + 1 - k = 1 by omega]; rfl
theorem app_lst (s t : ByteArray) : (s ++ t).data.toList = s.data.toList ++ t.data.toList := by simp
def svs (l : List (List UInt8)) : List Value := l.map fun x => .string ⟨x.toArray⟩
theorem svs_app (a b : List (List UInt8)) : svs (a ++ b) = svs a ++ svs b := by simp [svs]
theorem s_info : (Tryz.prog.info? 9).map (fun i => (i.zero, i.size, i.bytes)) = some (some (.string ⟨#[]⟩), 1, 16) := by kernel_rfl
theorem str_mk (t : ByteArray) : (⟨t.data.toList.toArray⟩ : ByteArray) = t := rfl
def CutP (w : World) (l : List (List UInt8)) (e : Ending) (w' : World) : Prop := ∃ v, e = .returned v ∧ w'.ownsRow w.heap.size 9 1 v l.length (svs l) ∧ Below w.heap.size w w'
/-- A row of strings: its slice, and what its cells hold. -/
theorem own_svs {w : World} {b : Nat} {v : Value} {l : List (List UInt8)} (h : w.ownsRow b 9 1 v l.length (svs l)) (h0 : l ≠ []) : ∃ g cap, v = .slice (some ⟨g, 0, none⟩) l.length cap ∧ b ≤ g ∧ g < w.heap.size ∧ l.length ≤ cap ∧ ∀ (j : Nat) (hj : j < l.length), w.cell? ⟨g, j, none⟩ = some (.string ⟨(l[j]).toArray⟩) := by
  rcases h.2 with ⟨_, hn⟩ | ⟨g, cap, cur, hv, hg, hh, hn, hm, hc, ht⟩
  · exact absurd (List.eq_nil_of_length_eq_zero hn) h0
  · refine ⟨g, cap, hv, hg, (h.lt g (by rw [hv]; rfl)).2, hn, fun j hj => ?_⟩
    have := h.cells (g := g) (by rw [hv]; rfl) j (.string ⟨(l[j]).toArray⟩) (by simp [svs, List.getElem?_eq_getElem hj])
    have e : (⟨g, 0, none⟩ : Addr).add j = ⟨g, j, none⟩ := by unfold Addr.add; split <;> simp_all
    rw [e] at this
    exact this

end Go.Proofs.YtagbeioooohbgaaGreatDoor.Fi
end
section
namespace Go.Proofs.YtagbeioooohbgaaGreatDoor.Fi
open Go.RowKit

/-- A slice of numbers, in memory that is there. -/
def Ints (kd : IntKind) (w : World) (A : Option Addr) (l : List Int) : Prop :=
  ∀ i, i < l.length → ∃ b off, A = some ⟨b, off, none⟩ ∧ b < w.heap.size ∧ w.cell? ⟨b, off + i, none⟩ = some (.int kd (l.getD i 0))
theorem Ints.below {kd : IntKind} {w w' : World} {A : Option Addr} {l : List Int} (h : Ints kd w A l) (hb : Below w.heap.size w w') : Ints kd w' A l := fun i hi => by
  obtain ⟨b, off, e, hl, hc⟩ := h i hi
  exact ⟨b, off, e, Nat.lt_of_lt_of_le hl hb.size, (hb.cell (p := ⟨b, off + i, none⟩) hl).trans hc⟩
theorem take_more (l : List Int) (k : Nat) (h : k < l.length) : l.take (k + 1) = l.take k ++ [l.getD k 0] := by
  rw [List.take_succ_eq_append_getElem h]; simp [List.getD, List.getElem?_eq_getElem h]
theorem own_ints {w : World} {base : Nat} {v : Value} {l : List Int} (h : w.ownsRow base 21 1 v l.length (i32s l)) : ∃ A c, v = .slice A l.length c ∧ Ints .i32 w A l := by
  rcases h.2 with ⟨hv, hn⟩ | ⟨g, cap, cur, hv, hg, hh, hn, hm, hc, ht⟩
  · exact ⟨none, 0, by rw [hv, hn], fun i hi => by omega⟩
  · refine ⟨some ⟨g, 0, none⟩, cap, hv, fun i hi => ⟨g, 0, rfl, (h.lt g (by rw [hv]; rfl)).2, ?_⟩⟩
    have := h.cells (g := g) (by rw [hv]; rfl) i (.int .i32 (l.getD i 0)) (by simp [i32s, List.getD, List.getElem?_eq_getElem hi])
    have e : (⟨g, 0, none⟩ : Addr).add i = ⟨g, 0 + i, none⟩ := by unfold Addr.add; split <;> simp_all
    rw [e] at this
    exact this

theorem take_eq_more (l m : List Int) (k : Nat) (h : l.take k = m.take k) (hl : k < l.length) (hm : k < m.length) (he : l.getD k 0 = m.getD k 0) : l.take (k + 1) = m.take (k + 1) := by
  rw [take_more l k hl, take_more m k hm, h, he]
theorem ne_of_at (l m : List Int) (k : Nat) (he : l.getD k 0 ≠ m.getD k 0) : l ≠ m := fun h => he (by rw [h])

set_option maxRecDepth 100000 in
set_option maxHeartbeats 1000000 in
theorem eqR (A B : Option Addr) (c d : Nat) (l m : List Int) (w : World) (hl : Ints .i32 w A l) (hm : Ints .i32 w B m) (zl : l.length ≤ 100000) (_zm : m.length ≤ 100000) :
    Calls Tryz.prog 12 #[.slice A l.length c, .slice B m.length d] w fun e w' => e = .returned (.bool (decide (l = m))) ∧ Below w.heap.size w w' := by
  have HL := Lib.hid hl
  have HM := Lib.hid hm
  clear hl hm
  by_cases hn : l.length = m.length
  · have e1 : ((l.length : Int) != (m.length : Int)) = false := by rw [hn]; simp
    have HN := Lib.hid hn
    clear hn
    go_enter Tryz.func12, Tryz.ntmps12
    go_wp2_with fail
    go_loopw [5] (fun i wr => ∃ k : Nat, i = .int .i64 k ∧ k ≤ l.length ∧ Hid (l.take k = m.take k ∧ Below w.heap.size w wr)) (fun i _ => l.length - (intOf i).toNat)
    case atStart => exact ⟨0, rfl, by omega, rfl, Below.refl _ _⟩
    case round =>
      obtain ⟨k, rfl, hk, HQ⟩ := hrel
      by_cases hlt : k < l.length
      · have hlt2 : k < m.length := by rw [← HN.out]; exact hlt
        obtain ⟨b, off, rfl, hb, hc⟩ := HL.out k hlt
        obtain ⟨b2, off2, rfl, hb2, hc2⟩ := HM.out k hlt2
        have hc' : wr.cell? ⟨b, off + k, none⟩ = some (.int .i32 (l.getD k 0)) := (HQ.out.2.cell (p := ⟨b, off + k, none⟩) hb).trans hc
        have hc2' : wr.cell? ⟨b2, off2 + k, none⟩ = some (.int .i32 (m.getD k 0)) := (HQ.out.2.cell (p := ⟨b2, off2 + k, none⟩) hb2).trans hc2
        clear hc hc2
        have g1 : (k : Int) < l.length := by omega
        have g2 : (k : Int) < m.length := by omega
        generalize hx : l.getD k 0 = x at hc'
        generalize hy : m.getD k 0 = y at hc2'
        have HX := Lib.hid hx
        have HY := Lib.hid hy
        clear hx hy
        by_cases hxy : x = y
        · subst hxy
          go_wp2_with fail
          go_quiet (fail)
          go_wp2_with fail
          go_roundw
          case rel => exact ⟨k + 1, by go_num, by omega, take_eq_more l m k HQ.out.1 hlt hlt2 (by rw [HX.out, HY.out]), bel_drewN HQ.out.2 _⟩
          case measure => simp [intOf]; omega
        · have hne : (x != y) = true := by simpa using hxy
          have HE := Lib.hid (ne_of_at l m k (by rw [HX.out, HY.out]; exact hxy))
          clear hxy
          go_wp2_with fail
          go_quiet (fail)
          go_wp2_with fail
          go_ret
          exact ⟨ret_bool (by simp [HE.out]), bel_drewN HQ.out.2 _⟩
      · have g1 : ¬ (k : Int) < l.length := by omega
        have HE : Hid (l = m) := by
          have h := HQ.out.1
          have hh := HN.out
          rw [List.take_of_length_le (by omega), List.take_of_length_le (by omega)] at h
          exact h
        go_wp2
        go_ret
        exact ⟨ret_bool (by simp [HE.out]), HQ.out.2⟩
  · have e1 : ((l.length : Int) != (m.length : Int)) = true := by simp; omega
    have HE : Hid (¬ l = m) := fun h => hn (by rw [h])
    clear hn
    go_enter Tryz.func12, Tryz.ntmps12
    go_wp2
    go_ret
    exact ⟨ret_bool (by simp [HE.out]), Below.refl _ _⟩

end Go.Proofs.YtagbeioooohbgaaGreatDoor.Fi
end
section
namespace Go.Proofs.YtagbeioooohbgaaGreatDoor.Fi
open Go.RowKit

/-- Onto a row of its own, all of another row. -/
theorem wpList_append_row {P : Program} {w : World} {ops : Array Oper} {rest : List Oper} {o : Oper} {a : Act} {Q : Exit → Act → World → Prop} (hgd : o.guard = none) (s x : Operand) (t : TypeId)
    (ho : o.op = .call { callee := .builtin .append, args := #[s, x], argTypes := #[t, t] })
    (base : Nat) (e : TypeId) (i : TypeInfo) (z : Value) (size bytes : Nat) (ht : P.underlying t = some (.slice e)) (hi : P.info? e = some i) (hz : i.zero = some z)
    (hsize : i.size = size) (hby : i.bytes = bytes) (hzs : z.cells.size = size) (hsz : 0 < size)
    (v : Value) (n : Nat) (xs : List Value) (hs : a.eval s = v) (hown : w.ownsRow base e size v n xs)
    (base2 : Nat) (v2 : Value) (m : Nat) (ys : List Value) (hx : a.eval x = v2) (hown2 : w.ownsRow base2 e size v2 m ys) (h1 : ∀ u ∈ ys, u.oneCell' = true)
    (h63 : n + m ≤ maxLen) (hbytes : (n + m) * bytes ≤ 140737488355328) (hbase : base ≤ w.heap.size)
    (h : ∀ v' w', w'.ownsRow base e size v' (n + m) (xs ++ ys) → w.grownBy w' v.ownBlock → (v'.ownBlock = v.ownBlock ∨ v'.ownBlock = some w.heap.size) → wpList P ops Q rest (a.put o.dst v') w') :
    wpList P ops Q (o :: rest) a w := by
  have hl := hown2.1
  rcases hown2.2 with ⟨rfl, rfl⟩ | ⟨g, cap, cur, rfl, _⟩
  · have : ys = [] := List.eq_nil_of_length_eq_zero (by rw [hl]; simp)
    subst this
    refine wpList_append_own_none hgd s x t ho base e i size ht hi v n xs hs hown hx ?_
    exact h v w (by simpa using hown) ⟨rfl, rfl, rfl, Nat.le_refl _, fun _ _ _ => rfl⟩ (.inl rfl)
  · refine wpList_append_own_at _ hgd s x t ho base e i z size bytes ht hi hz hsize hby hzs hsz v n xs hs hown ⟨g, 0, none⟩ m cap ys hx hl (hown2.cells (g := g) rfl) h1 h63 hbytes hbase ?_
    intro v' w' h2 h3 _ h5
    exact h v' w' h2 h3 h5
theorem i32s_one (l : List Int) : ∀ u ∈ i32s l, u.oneCell' = true := by
  intro u hu
  simp only [i32s, List.mem_map] at hu
  obtain ⟨x, _, rfl⟩ := hu
  rfl

theorem wds_app : ∀ (s cur t : List UInt8), wds cur (s ++ 32 :: t) = wds cur s ++ wds [] t
  | [], cur, t => by
    rw [List.nil_append, wds, wds]
    have : blk (32 : UInt8).toNat = true := by decide
    rw [this]
    by_cases h : cur = []
    · simp [h]
    · simp [h]
  | c :: s, cur, t => by
    rw [List.cons_append, wds, wds, wds_app s [] t, wds_app s (cur ++ [c]) t]
    split
    · split <;> simp
    · rfl
theorem rnsW_acc : ∀ (x : List (List UInt8)) (acc : List Int), rnsW acc x = if (rnsW [] x).2 = 0 then (acc ++ (rnsW [] x).1, 0) else rnsW [] x
  | [], acc => by simp [rnsW]
  | y :: x, acc => by
    by_cases h : (hexE y).2 = 0
    · rw [rnsW_ok h, rnsW_ok h, rnsW_acc x (acc ++ [(hexE y).1]), rnsW_acc x ([] ++ [(hexE y).1])]
      by_cases h2 : (rnsW [] x).2 = 0
      · simp [h2]
      · simp [h2]
    · rw [rnsW_no h, rnsW_no h]
      simp [h]
theorem rnsW_app : ∀ (x y : List (List UInt8)) (acc : List Int), rnsW acc (x ++ y) = if (rnsW acc x).2 = 0 then rnsW (rnsW acc x).1 y else rnsW acc x
  | [], y, acc => by simp [rnsW]
  | z :: x, y, acc => by
    by_cases h : (hexE z).2 = 0
    · rw [List.cons_append, rnsW_ok h, rnsW_ok h]; exact rnsW_app x y _
    · rw [List.cons_append, rnsW_no h, rnsW_no h]; simp [h]
theorem rnsW_err : ∀ (x : List (List UInt8)) (acc : List Int), (rnsW acc x).2 ≠ 0 → (rnsW acc x).1 = []
  | [], acc, h => absurd rfl h
  | z :: x, acc, h => by
    by_cases h2 : (hexE z).2 = 0
    · rw [rnsW_ok h2] at *; exact rnsW_err x _ h
    · rw [rnsW_no h2]
theorem rns_join (s t : List UInt8) : rnsE (s ++ 32 :: t) = if (rnsE s).2 = 0 then (if (rnsE t).2 = 0 then ((rnsE s).1 ++ (rnsE t).1, 0) else rnsE t) else rnsE s := by
  unfold rnsE
  rw [wds_app, rnsW_app]
  split
  · rw [rnsW_acc]
  · rfl
theorem rnsW_len : ∀ (x : List (List UInt8)) (acc : List Int), (rnsW acc x).1.length ≤ acc.length + x.length
  | [], acc => by simp [rnsW]
  | z :: x, acc => by
    by_cases h : (hexE z).2 = 0
    · rw [rnsW_ok h]
      have := rnsW_len x (acc ++ [(hexE z).1])
      simp at this
      simp
      omega
    · rw [rnsW_no h]; simp
theorem rnsE_len (l : List UInt8) : (rnsE l).1.length ≤ l.length := by
  have h1 := rnsW_len (wds [] l) []
  have h2 := wds_len l []
  simp only [if_true] at h2
  unfold rnsE
  simp at h1
  omega
theorem bytR_fuel {a : List UInt8} : ∀ (f f' : Nat) (out l : List UInt8), l.length ≤ f → l.length ≤ f' → bytR a f out l = bytR a f' out l
  | f, f', out, [], _, _ => by rw [bytR_nil, bytR_nil]
  | 0, _, _, c :: l, h, _ => by simp at h
  | _, 0, _, c :: l, _, h => by simp at h
  | f + 1, f' + 1, out, c :: l, h, h' => by
    by_cases h1 : (c :: l).length < a.length + 2
    · rw [bytR_short (by simp) h1, bytR_short (by simp) h1]
    · cases h2 : digs 16 2 (((c :: l).drop a.length).take 2) with
      | none => rw [bytR_bad (by simp) h2, bytR_bad (by simp) h2]
      | some n =>
        cases h3 : a.isPrefixOf (c :: l) with
        | false => rw [bytR_no (by simp) h3, bytR_no (by simp) h3]
        | true =>
          rw [bytR_ok (by simp) h1 h2 h3, bytR_ok (by simp) h1 h2 h3]
          apply bytR_fuel <;> (rw [List.length_drop]; omega)
theorem bytR_join {a : List UInt8} : ∀ (f : Nat) (out l t o : List UInt8), l.length ≤ f → bytR a f out l = some o → ∀ f', l.length + t.length ≤ f' → bytR a f' out (l ++ t) = bytR a f' o t
  | f, out, [], t, o, _, h, f', _ => by rw [bytR_nil] at h; cases h; rfl
  | 0, _, c :: l, _, _, h, _, _, _ => by simp at h
  | f + 1, out, c :: l, t, o, hf, h, f', hf' => by
    by_cases h1 : (c :: l).length < a.length + 2
    · rw [bytR_short (by simp) h1] at h; cases h
    · cases h2 : digs 16 2 (((c :: l).drop a.length).take 2) with
      | none => rw [bytR_bad (by simp) h2] at h; cases h
      | some n =>
        cases h3 : a.isPrefixOf (c :: l) with
        | false => rw [bytR_no (by simp) h3] at h; cases h
        | true =>
          rw [bytR_ok (by simp) h1 h2 h3] at h
          obtain ⟨g, rfl⟩ : ∃ g, f' = g + 1 := ⟨f' - 1, by simp at hf'; omega⟩
          have e1 : ((c :: l) ++ t).drop a.length = (c :: l).drop a.length ++ t := List.drop_append_of_le_length (by omega)
          have e2 : ((c :: l) ++ t).drop (a.length + 2) = (c :: l).drop (a.length + 2) ++ t := List.drop_append_of_le_length (by omega)
          have e3 : (((c :: l) ++ t).drop a.length).take 2 = ((c :: l).drop a.length).take 2 := by
            rw [e1, List.take_append_of_le_length (by rw [List.length_drop]; omega)]
          have e4 : a.isPrefixOf ((c :: l) ++ t) = true := by
            rw [List.isPrefixOf_iff_prefix] at h3 ⊢
            exact h3.trans (List.prefix_append _ _)
          rw [bytR_ok (by simp) (by rw [List.length_append]; omega) (by rw [e3]; exact h2) e4, e2]
          have hl : ((c :: l).drop (a.length + 2)).length ≤ f := by rw [List.length_drop]; omega
          have hl2 : ((c :: l).drop (a.length + 2)).length + t.length ≤ g := by rw [List.length_drop]; omega
          rw [bytR_join f _ _ t o hl h g hl2]
          exact bytR_fuel _ _ _ _ (by omega) (by omega)
theorem bytR_acc {a : List UInt8} : ∀ (f : Nat) (out l : List UInt8), bytR a f out l = (bytR a f [] l).map (out ++ ·)
  | f, out, [] => by rw [bytR_nil, bytR_nil]; simp
  | 0, _, c :: l => rfl
  | f + 1, out, c :: l => by
    by_cases h1 : (c :: l).length < a.length + 2
    · rw [bytR_short (by simp) h1, bytR_short (by simp) h1]; rfl
    · cases h2 : digs 16 2 (((c :: l).drop a.length).take 2) with
      | none => rw [bytR_bad (by simp) h2, bytR_bad (by simp) h2]; rfl
      | some n =>
        cases h3 : a.isPrefixOf (c :: l) with
        | false => rw [bytR_no (by simp) h3, bytR_no (by simp) h3]; rfl
        | true =>
          rw [bytR_ok (by simp) h1 h2 h3, bytR_ok (by simp) h1 h2 h3, bytR_acc f (out ++ _), bytR_acc f ([] ++ _), Option.map_map]
          congr 1
          funext x
          simp
theorem byt_join {a s t x y : List UInt8} (h1 : bytE a s = (x, 0)) (h2 : bytE a t = (y, 0)) : bytE a (s ++ t) = (x ++ y, 0) := by
  unfold bytE at h1 h2
  split at h1
  · simp at h1
  · rename_i hs
    split at h2
    · simp at h2
    · cases e1 : bytR a s.length [] s with
      | none => rw [e1] at h1; simp at h1
      | some o =>
        cases e2 : bytR a t.length [] t with
        | none => rw [e2] at h2; simp at h2
        | some p =>
          rw [e1] at h1
          rw [e2] at h2
          simp at h1 h2
          subst h1 h2
          apply bytE_some (by simp [hs])
          rw [List.length_append, bytR_join s.length [] s t o (Nat.le_refl _) e1 _ (Nat.le_refl _), bytR_acc, bytR_fuel _ t.length _ _ (by omega) (Nat.le_refl _), e2]
          rfl
theorem bytE_cases (a l : List UInt8) : (bytE a l).2 = 0 ∨ (bytE a l).2 = 10 := by
  unfold bytE
  split
  · right; rfl
  · split
    · right; rfl
    · left; rfl
theorem bytE_len (a l : List UInt8) : (bytE a l).1.length ≤ l.length := by
  have key : ∀ (f : Nat) (out l o : List UInt8), bytR a f out l = some o → o.length ≤ out.length + l.length := by
    intro f
    induction f with
    | zero => intro out l o h; cases l with
      | nil => rw [bytR_nil] at h; cases h; simp
      | cons c l => cases h
    | succ f ih =>
      intro out l o h
      cases l with
      | nil => rw [bytR_nil] at h; cases h; simp
      | cons c l =>
        by_cases h1 : (c :: l).length < a.length + 2
        · rw [bytR_short (by simp) h1] at h; cases h
        · cases h2 : digs 16 2 (((c :: l).drop a.length).take 2) with
          | none => rw [bytR_bad (by simp) h2] at h; cases h
          | some n =>
            cases h3 : a.isPrefixOf (c :: l) with
            | false => rw [bytR_no (by simp) h3] at h; cases h
            | true =>
              rw [bytR_ok (by simp) h1 h2 h3] at h
              have := ih _ _ _ h
              rw [List.length_drop] at this
              simp at this h1
              simp
              omega
  unfold bytE
  split
  · simp
  · split
    · simp
    · rename_i o h
      have := key _ _ _ _ h
      simpa using this
def RnSl (w : World) (x : List Int × Int) (e : Ending) (w' : World) : Prop := ∃ A c, e = .returned (.tuple #[.slice A x.1.length c, .int .i64 x.2]) ∧ w'.ownsRow w.heap.size 21 1 (.slice A x.1.length c) x.1.length (i32s x.1) ∧ Ints .i32 w' A x.1 ∧ Below w.heap.size w w'
theorem runes_sl (s : ByteArray) (w : World) (hs : s.size ≤ 100000) : Calls Tryz.prog 95 #[.string s] w (RnSl w (rnsE s.data.toList)) := by
  refine (runes_any s w hs).mono ?_
  rintro e w' ⟨v, he, ho, hb⟩
  obtain ⟨A, c, rfl, hi⟩ := own_ints ho
  exact ⟨A, c, he, ho, hi, hb⟩
theorem Ints.grown {kd : IntKind} {w w' : World} {A : Option Addr} {l : List Int} {r : Option Nat} (h : Ints kd w A l) (hg : w.grownBy w' r) (hr : ∀ b off, A = some ⟨b, off, none⟩ → r ≠ some b) : Ints kd w' A l := fun i hi => by
  obtain ⟨b, off, e, hl, hc⟩ := h i hi
  refine ⟨b, off, e, Nat.lt_of_lt_of_le hl hg.size, ?_⟩
  rw [← hc]
  exact World.cell?_of_block (hg.block b hl (fun e' => hr b off e e'.symm))

end Go.Proofs.YtagbeioooohbgaaGreatDoor.Fi
end
section
namespace Go.Proofs.YtagbeioooohbgaaGreatDoor.Uc
open Go.RowKit Fi

theorem intT_ok {k s : List UInt8} {need : Bool} (h : (intT k s need).2.2 = 0) : (intT k s need).1 = k ∧ (intT k s need).2.1 = (rnsE s).1 ∧ (rnsE s).2 = 0 ∧ (need = true → (rnsE s).1 ≠ []) ∧ (rnsE s).1.length ≤ 18 := by
  unfold intT at h ⊢
  by_cases h1 : (rnsE s).2 ≠ 0
  · rw [if_pos h1] at h; exact absurd h h1
  · rw [if_neg h1] at h ⊢
    by_cases h2 : need = true ∧ (rnsE s).1 = []
    · rw [if_pos h2] at h; exact absurd h (by decide)
    · rw [if_neg h2] at h ⊢
      by_cases h3 : 18 < (rnsE s).1.length
      · rw [if_pos h3] at h; exact absurd h (by decide)
      · rw [if_neg h3]
        exact ⟨rfl, rfl, by simpa using h1, fun hn he => h2 ⟨hn, he⟩, by omega⟩
theorem intT_err {k s : List UInt8} {need : Bool} (h : (intT k s need).2.2 ≠ 0) : (intT k s need).1 = [] ∧ (intT k s need).2.1 = [] := by
  unfold intT at h ⊢
  by_cases h1 : (rnsE s).2 ≠ 0
  · rw [if_pos h1]; exact ⟨rfl, rfl⟩
  · rw [if_neg h1] at h ⊢
    by_cases h2 : need = true ∧ (rnsE s).1 = []
    · rw [if_pos h2]; exact ⟨rfl, rfl⟩
    · rw [if_neg h2] at h ⊢
      by_cases h3 : 18 < (rnsE s).1.length
      · rw [if_pos h3]; exact ⟨rfl, rfl⟩
      · rw [if_neg h3] at h; exact absurd rfl h
theorem rnsW_scal : ∀ (x : List (List UInt8)) (acc : List Int), (∀ y ∈ acc, scal y = true) → ∀ y ∈ (rnsW acc x).1, scal y = true
  | [], acc, h => by simpa [rnsW] using h
  | z :: x, acc, h => by
    by_cases h2 : (hexE z).2 = 0
    · rw [rnsW_ok h2]
      refine rnsW_scal x _ (fun y hy => ?_)
      rcases List.mem_append.1 hy with hy | hy
      · exact h y hy
      · simp at hy
        subst hy
        rcases hexE_cases z with h3 | h3
        · exact h3.2
        · omega
    · rw [rnsW_no h2]; intro y hy; cases hy
theorem rnsE_scal (l : List UInt8) : ∀ y ∈ (rnsE l).1, scal y = true := rnsW_scal _ _ (fun y hy => by cases hy)
theorem intE_ok {s : List UInt8} (h : (intE s).2.2 = 0) : ltrs (intE s).1 = true ∧ (intE s).2.1.length ≤ 18 ∧ ((intE s).2.1 = [] → (intE s).1 = []) ∧ ∀ x ∈ (intE s).2.1, scal x = true := by
  unfold intE at h ⊢
  by_cases h1 : Lib.hasPrefix s [60] = true
  · rw [if_pos h1] at h ⊢
    by_cases h2 : (Lib.cut (s.drop 1) [62]).2.2 = true ∧ (Lib.cut (s.drop 1) [62]).1 ≠ [] ∧ ltrs (Lib.cut (s.drop 1) [62]).1 = true
    · rw [if_pos h2] at h ⊢
      obtain ⟨a, b, _, d, e⟩ := intT_ok h
      rw [a, b]
      exact ⟨h2.2.2, e, fun hh => absurd hh (d rfl), rnsE_scal _⟩
    · rw [if_neg h2] at h; exact absurd h (by decide)
  · rw [if_neg h1] at h ⊢
    obtain ⟨a, b, _, _, e⟩ := intT_ok h
    rw [a, b]
    exact ⟨rfl, e, fun _ => rfl, rnsE_scal _⟩
theorem intE_err {s : List UInt8} (h : (intE s).2.2 ≠ 0) : (intE s).1 = [] ∧ (intE s).2.1 = [] := by
  unfold intE at h ⊢
  by_cases h1 : Lib.hasPrefix s [60] = true
  · rw [if_pos h1] at h ⊢
    by_cases h2 : (Lib.cut (s.drop 1) [62]).2.2 = true ∧ (Lib.cut (s.drop 1) [62]).1 ≠ [] ∧ ltrs (Lib.cut (s.drop 1) [62]).1 = true
    · rw [if_pos h2] at h ⊢; exact intT_err h
    · rw [if_neg h2]; exact ⟨rfl, rfl⟩
  · rw [if_neg h1] at h ⊢; exact intT_err h
theorem intE_len (s : List UInt8) : (intE s).2.1.length ≤ 18 := by
  by_cases h : (intE s).2.2 = 0
  · exact (intE_ok h).2.1
  · rw [(intE_err h).2]; simp
theorem intE_kd (s : List UInt8) : (intE s).1.length ≤ s.length := by
  by_cases h : (intE s).2.2 = 0
  · unfold intE at h ⊢
    by_cases h1 : Lib.hasPrefix s [60] = true
    · rw [if_pos h1] at h ⊢
      by_cases h2 : (Lib.cut (s.drop 1) [62]).2.2 = true ∧ (Lib.cut (s.drop 1) [62]).1 ≠ [] ∧ ltrs (Lib.cut (s.drop 1) [62]).1 = true
      · rw [if_pos h2] at h ⊢
        rw [(intT_ok h).1]
        have := (cut_le (s.drop 1) [62]).1
        rw [List.length_drop] at this
        omega
      · rw [if_neg h2]; simp
    · rw [if_neg h1] at h ⊢; rw [(intT_ok h).1]; simp
  · rw [(intE_err h).1]; simp
theorem nmE_bd (l : List UInt8) : 0 ≤ (nmE l).1 ∧ (nmE l).1 ≤ 99999 ∧ ((nmE l).2 = 0 ∨ (nmE l).2 = 10) := by
  unfold nmE
  cases h : digs 10 5 l with
  | none => simp
  | some n =>
    have := digs_lt (by omega) h
    simp
    omega
structure RowOk (x : Rw) : Prop where
  tt : x.tt = x.fr
  fr : scal x.fr = true
  cl0 : 0 ≤ x.cl
  cl1 : x.cl ≤ 254
  kd : ltrs x.kd = true
  into : x.into.length ≤ 18
  none : x.into = [] → x.kd = []
  sc : ∀ y ∈ x.into, scal y = true
theorem rowF_ok {f : List (List UInt8)} (h : (rowF f).2 = 0) : RowOk (rowF f).1 := by
  unfold rowF at h ⊢
  by_cases h1 : (hexE (f.getD 0 [])).2 ≠ 0
  · rw [if_pos h1] at h; exact absurd h h1
  · rw [if_neg h1] at h ⊢
    by_cases h2 : (nmE (f.getD 3 [])).2 ≠ 0
    · rw [if_pos h2] at h; exact absurd h h2
    · rw [if_neg h2] at h ⊢
      by_cases h3 : 254 < (nmE (f.getD 3 [])).1
      · rw [if_pos h3] at h; exact absurd h (by decide)
      · rw [if_neg h3] at h ⊢
        by_cases h4 : (intE (f.getD 5 [])).2.2 ≠ 0
        · rw [if_pos h4] at h; exact absurd h h4
        · rw [if_neg h4]
          obtain ⟨a, b, c, d⟩ := intE_ok (Decidable.not_not.1 h4)
          refine ⟨rfl, ?_, (nmE_bd _).1, by show (nmE (f.getD 3 [])).1 ≤ 254; omega, a, b, c, d⟩
          rcases hexE_cases (f.getD 0 []) with h5 | h5
          · exact h5.2
          · omega
theorem rowE_ok {l : List UInt8} (h : (rowE l).2 = 0) : RowOk (rowE l).1 := by
  unfold rowE at h ⊢
  by_cases h1 : (fld l).length < 6
  · rw [if_pos h1] at h; exact absurd h (by decide)
  · rw [if_neg h1] at h ⊢; exact rowF_ok h

theorem wds_blank : ∀ l : List UInt8, (∀ c ∈ l, isb c = true) → wds [] l = []
  | [], _ => rfl
  | c :: l, h => by
    have hc := h c (by simp)
    rw [isb_blk, blB_blk] at hc
    rw [wds, hc]
    simpa using wds_blank l (fun d hd => h d (by simp [hd]))
theorem wds_some : ∀ (l cur : List UInt8), (cur ≠ [] ∨ ∃ c ∈ l, isb c = false) → wds cur l ≠ []
  | [], cur, h => by
    rcases h with h | ⟨c, hc, _⟩
    · rw [wds, if_neg h]; simp
    · cases hc
  | c :: l, cur, h => by
    rw [wds]
    cases hc : blk c.toNat with
    | true =>
      simp only [if_true]
      by_cases h0 : cur = []
      · rw [if_pos h0]
        refine wds_some l [] (.inr ?_)
        rcases h with h | ⟨d, hd, hi⟩
        · exact absurd h0 h
        · rcases List.mem_cons.1 hd with rfl | hd
          · rw [isb_blk, blB_blk, hc] at hi; cases hi
          · exact ⟨d, hd, hi⟩
      · rw [if_neg h0]; simp
    | false =>
      simp only [Bool.false_eq_true, if_false]
      exact wds_some l _ (.inl (by simp))
theorem rt_nil : ∀ l : List UInt8, rt l = [] ↔ ∀ c ∈ l, isb c = true
  | [] => by simp [rt]
  | c :: l => by
    rw [rt_cons]
    have ih := rt_nil l
    by_cases h : rt l = []
    · rw [if_pos h]
      have h2 := ih.1 h
      cases hc : isb c with
      | true => simp only [if_true, true_iff]; intro d hd; rcases List.mem_cons.1 hd with rfl | hd; exact hc; exact h2 d hd
      | false => simp [hc]
    · rw [if_neg h]
      refine ⟨fun h3 => by simp at h3, fun h3 => absurd (ih.2 (fun d hd => h3 d (by simp [hd]))) h⟩
theorem lt_cases : ∀ l : List UInt8, (lt l = [] ∧ ∀ c ∈ l, isb c = true) ∨ ∃ c r, lt l = c :: r ∧ isb c = false
  | [] => .inl ⟨rfl, fun c hc => by cases hc⟩
  | c :: l => by
    cases hc : isb c with
    | false => exact .inr ⟨c, l, lt_no hc, hc⟩
    | true =>
      rw [lt_yes hc]
      rcases lt_cases l with ⟨h1, h2⟩ | h
      · exact .inl ⟨h1, fun d hd => by rcases List.mem_cons.1 hd with rfl | hd; exact hc; exact h2 d hd⟩
      · exact .inr h
theorem bareL_nil (l : List UInt8) : bareL l = [] ↔ ∀ c ∈ l, isb c = true := by
  rw [bareL_rt, rt_nil]
  rcases lt_cases l with ⟨h1, h2⟩ | ⟨d, r, h1, h2⟩
  · rw [h1]
    exact ⟨fun _ => h2, fun _ c hc => by cases hc⟩
  · rw [h1]
    refine ⟨fun h => ?_, fun h => ?_⟩
    · have := h d (by simp); rw [h2] at this; cases this
    · have hd : d ∈ l := (List.dropWhile_sublist isb).subset (by show d ∈ lt l; rw [h1]; simp)
      have := h d hd; rw [h2] at this; cases this
theorem rnsW_len2 : ∀ (x : List (List UInt8)) (acc : List Int), (rnsW acc x).2 = 0 → (rnsW acc x).1.length = acc.length + x.length
  | [], acc, _ => by simp [rnsW]
  | z :: x, acc, h => by
    by_cases h2 : (hexE z).2 = 0
    · rw [rnsW_ok h2] at h ⊢
      rw [rnsW_len2 x _ h]
      simp
      omega
    · rw [rnsW_no h2] at h; exact absurd h h2
/-- There are characters, or an error, where there is anything but blanks. -/
theorem rns_bare (l : List UInt8) : bareL l = [] ↔ rnsE l = ([], 0) := by
  rw [bareL_nil]
  constructor
  · intro h
    unfold rnsE
    rw [wds_blank l h]
    rfl
  · intro h c hc
    cases hi : isb c with
    | true => rfl
    | false =>
      exfalso
      have h2 := wds_some l [] (.inr ⟨c, hc, hi⟩)
      have h3 := rnsW_len2 (wds [] l) [] (by show (rnsE l).2 = 0; rw [h])
      have h4 : (rnsW [] (wds [] l)).1 = [] := by show (rnsE l).1 = []; rw [h]
      rw [h4] at h3
      simp at h3
      exact h2 (List.eq_nil_of_length_eq_zero h3.symm)

theorem fld_len (l : List UInt8) : (fld l).length = l.count 59 + 1 := by unfold fld; rw [List.length_map, spl_len]
theorem run_cons {rs : List Rw} {op : Nat} {x : Nat × List UInt8} {r : List (Nat × List UInt8)} (h : (stp rs op x.1 x.2).2.2 = 0) : run rs op (x :: r) = run (stp rs op x.1 x.2).1 (stp rs op x.1 x.2).2.1 r := by rw [run, if_neg (by simpa using h)]
theorem run_wrong {rs : List Rw} {op : Nat} {x : Nat × List UInt8} {r : List (Nat × List UInt8)} (h : (stp rs op x.1 x.2).2.2 ≠ 0) : run rs op (x :: r) = ((stp rs op x.1 x.2).1, (stp rs op x.1 x.2).2.1, x.1, (stp rs op x.1 x.2).2.2) := by rw [run, if_pos h]

end Go.Proofs.YtagbeioooohbgaaGreatDoor.Uc
end
section
namespace Go.Proofs.YtagbeioooohbgaaGreatDoor.Uc
open Go.RowKit Fi

theorem stp_err {rs : List Rw} {op no : Nat} {t : List UInt8} (h : (rowE t).2 ≠ 0) : stp rs op no t = (rs, op, (rowE t).2) := by unfold stp; rw [if_pos h]
theorem stp_bad {rs : List Rw} {op no : Nat} {t : List UInt8} (h : (rowE t).2 = 0) (h2 : (rgN (rowE t).1.nm lastE).isSome = true ∨ op ≠ 0) (h3 : op = 0 ∨ endB (rowE t).1 (lastR rs) = false) : stp rs op no t = (rs, op, 10) := by
  unfold stp; rw [if_neg (by simpa using h), if_pos h2, if_pos h3]
theorem stp_last {rs : List Rw} {op no : Nat} {t : List UInt8} (h : (rowE t).2 = 0) (h2 : (rgN (rowE t).1.nm lastE).isSome = true ∨ op ≠ 0) (h3 : ¬ (op = 0 ∨ endB (rowE t).1 (lastR rs) = false)) : stp rs op no t = (putTo rs (rowE t).1.tt, 0, 0) := by
  unfold stp; rw [if_neg (by simpa using h), if_pos h2, if_neg h3]
theorem stp_there {rs : List Rw} {op no : Nat} {t : List UInt8} (h : (rowE t).2 = 0) (h2 : ¬ ((rgN (rowE t).1.nm lastE).isSome = true ∨ op ≠ 0)) (h3 : rs ≠ [] ∧ (rowE t).1.fr ≤ (lastR rs).tt) : stp rs op no t = (rs, op, 12) := by
  unfold stp; rw [if_neg (by simpa using h), if_neg h2, if_pos h3]
theorem stp_first {rs : List Rw} {op no : Nat} {t n : List UInt8} (h : (rowE t).2 = 0) (h2 : ¬ ((rgN (rowE t).1.nm lastE).isSome = true ∨ op ≠ 0)) (h3 : ¬ (rs ≠ [] ∧ (rowE t).1.fr ≤ (lastR rs).tt)) (h4 : rgN (rowE t).1.nm firstE = some n) : stp rs op no t = (rs ++ [{ (rowE t).1 with nm := n }], no, 0) := by
  unfold stp; rw [if_neg (by simpa using h), if_neg h2, if_neg h3, h4]
theorem stp_one {rs : List Rw} {op no : Nat} {t : List UInt8} (h : (rowE t).2 = 0) (h2 : ¬ ((rgN (rowE t).1.nm lastE).isSome = true ∨ op ≠ 0)) (h3 : ¬ (rs ≠ [] ∧ (rowE t).1.fr ≤ (lastR rs).tt)) (h4 : rgN (rowE t).1.nm firstE = none) : stp rs op no t = (rs ++ [(rowE t).1], op, 0) := by
  unfold stp; rw [if_neg (by simpa using h), if_neg h2, if_neg h3, h4]

theorem lastR_snoc (l : List Rw) (y : Rw) : lastR (l ++ [y]) = y := by simp [lastR]
theorem putTo_snoc (l : List Rw) (y : Rw) (t : Int) : putTo (l ++ [y]) t = l ++ [{ y with tt := t }] := by simp [putTo, lastR_snoc]
theorem snoc_of {l : List Rw} (h : l ≠ []) : ∃ m y, l = m ++ [y] := ⟨l.dropLast, l.getLast h, (List.dropLast_concat_getLast h).symm⟩

structure Fin (x : Rw) : Prop where
  fr : scal x.fr = true
  tt : scal x.tt = true
  le : x.fr ≤ x.tt
  cl0 : 0 ≤ x.cl
  cl1 : x.cl ≤ 254
  kd : ltrs x.kd = true
  into : x.into.length ≤ 18
  none : x.into = [] → x.kd = []
  sc : ∀ y ∈ x.into, scal y = true
  rg : x.fr ≠ x.tt → x.into = []
theorem RowOk.fin {x : Rw} (h : RowOk x) : Fin x := ⟨h.fr, by rw [h.tt]; exact h.fr, by rw [h.tt]; exact Int.le_refl _, h.cl0, h.cl1, h.kd, h.into, h.none, h.sc, fun hn => absurd h.tt.symm hn⟩
theorem RowOk.fin2 {x : Rw} (h : RowOk x) (n : List UInt8) : Fin { x with nm := n } := ⟨h.fr, by show scal x.tt = true; rw [h.tt]; exact h.fr, by show x.fr ≤ x.tt; rw [h.tt]; exact Int.le_refl _, h.cl0, h.cl1, h.kd, h.into, h.none, h.sc, fun hn => absurd h.tt.symm hn⟩
def Rise (l : List Rw) : Prop := ∀ i (h : i + 1 < l.length), (l[i]'(by omega)).tt < (l[i + 1]).fr
theorem rise_snoc {l : List Rw} {y : Rw} : Rise (l ++ [y]) ↔ Rise l ∧ (l ≠ [] → (lastR l).tt < y.fr) := by
  constructor
  · intro h
    refine ⟨fun i hi => ?_, fun hl => ?_⟩
    · have := h i (by simp; omega)
      rwa [List.getElem_append_left (by omega), List.getElem_append_left (by omega)] at this
    · obtain ⟨m, z, rfl⟩ := snoc_of hl
      rw [lastR_snoc]
      have := h m.length (by simp)
      simpa using this
  · rintro ⟨h1, h2⟩ i hi
    rw [List.length_append] at hi
    simp at hi
    by_cases hlt : i + 1 < l.length
    · rw [List.getElem_append_left (by omega), List.getElem_append_left (by omega)]
      exact h1 i hlt
    · have h4 : i + 1 = l.length := by omega
      have hl : l ≠ [] := by rintro rfl; simp at h4
      have h3 := h2 hl
      obtain ⟨m, z, rfl⟩ := snoc_of hl
      rw [lastR_snoc] at h3
      have him : i = m.length := by simpa using h4
      subst him
      simpa using h3
theorem rise_nil : Rise [] := fun i h => by simp at h
structure Inv (rs : List Rw) (op : Nat) : Prop where
  fin : ∀ x ∈ rs, Fin x
  rise : Rise rs
  ne : op ≠ 0 → rs ≠ []
theorem Inv.nil : Inv [] 0 := ⟨fun x hx => (by cases hx), rise_nil, fun h => absurd rfl h⟩
theorem endB_yes {x y : Rw} (h : endB x y = true) : ∃ n, rgN x.nm lastE = some n ∧ n = y.nm ∧ x.ct = y.ct ∧ x.cl = y.cl ∧ x.into = [] ∧ y.into = [] ∧ y.fr ≤ x.fr := by
  unfold endB at h
  cases hr : rgN x.nm lastE with
  | none => rw [hr] at h; cases h
  | some n =>
    rw [hr] at h
    simp only [Bool.and_eq_true, decide_eq_true_eq] at h
    obtain ⟨h1, h2, h3, h4, h5, h6⟩ := h
    exact ⟨n, rfl, h1, h2, h3, List.eq_nil_of_length_eq_zero h4, List.eq_nil_of_length_eq_zero h5, h6⟩
theorem app_inv {rs : List Rw} {op op' : Nat} {x : Rw} (h : Inv rs op) (hx : Fin x) (h3 : ¬ (rs ≠ [] ∧ x.fr ≤ (lastR rs).tt)) : Inv (rs ++ [x]) op' := by
  refine ⟨fun y hy => ?_, rise_snoc.2 ⟨h.rise, fun hne => ?_⟩, fun _ => by simp⟩
  · rcases List.mem_append.1 hy with hy | hy
    · exact h.fin y hy
    · simp at hy; subst hy; exact hx
  · by_cases hl : (lastR rs).tt < x.fr
    · exact hl
    · exact absurd ⟨hne, by omega⟩ h3
theorem stp_inv {rs : List Rw} {op no : Nat} {t : List UInt8} (h : Inv rs op) : Inv (stp rs op no t).1 (stp rs op no t).2.1 := by
  by_cases h1 : (rowE t).2 = 0
  · have hok := rowE_ok h1
    by_cases h2 : (rgN (rowE t).1.nm lastE).isSome = true ∨ op ≠ 0
    · by_cases h3 : op = 0 ∨ endB (rowE t).1 (lastR rs) = false
      · rw [stp_bad h1 h2 h3]; exact h
      · rw [stp_last h1 h2 h3]
        have hop : op ≠ 0 := fun e => h3 (.inl e)
        have hen : endB (rowE t).1 (lastR rs) = true := by cases he : endB (rowE t).1 (lastR rs) with | true => rfl | false => exact absurd (.inr he) h3
        obtain ⟨m, y, rfl⟩ := snoc_of (h.ne hop)
        rw [lastR_snoc] at hen
        obtain ⟨n, _, _, _, _, hxi, hyi, hle⟩ := endB_yes hen
        rw [putTo_snoc]
        have hy := h.fin y (by simp)
        obtain ⟨hr1, hr2⟩ := rise_snoc.1 h.rise
        refine ⟨fun z hz => ?_, rise_snoc.2 ⟨hr1, hr2⟩, fun h => absurd rfl h⟩
        rcases List.mem_append.1 hz with hz | hz
        · exact h.fin z (by simp [hz])
        · simp at hz
          subst hz
          refine ⟨hy.fr, by show scal (rowE t).1.tt = true; rw [hok.tt]; exact hok.fr, by show y.fr ≤ (rowE t).1.tt; rw [hok.tt]; exact hle, hy.cl0, hy.cl1, hy.kd, hy.into, hy.none, hy.sc, fun _ => hyi⟩
    · by_cases h3 : rs ≠ [] ∧ (rowE t).1.fr ≤ (lastR rs).tt
      · rw [stp_there h1 h2 h3]; exact h
      · cases h4 : rgN (rowE t).1.nm firstE with
        | some n => rw [stp_first h1 h2 h3 h4]; exact app_inv h (hok.fin2 n) h3
        | none => rw [stp_one h1 h2 h3 h4]; exact app_inv h hok.fin h3
  · rw [stp_err h1]; exact h
theorem stp_len {rs : List Rw} {op no : Nat} {t : List UInt8} : (stp rs op no t).1.length ≤ rs.length + 1 ∧ ((stp rs op no t).2.1 = op ∨ (stp rs op no t).2.1 = no ∨ (stp rs op no t).2.1 = 0) := by
  by_cases h1 : (rowE t).2 = 0
  · by_cases h2 : (rgN (rowE t).1.nm lastE).isSome = true ∨ op ≠ 0
    · by_cases h3 : op = 0 ∨ endB (rowE t).1 (lastR rs) = false
      · rw [stp_bad h1 h2 h3]; simp
      · rw [stp_last h1 h2 h3]; simp [putTo]
    · by_cases h3 : rs ≠ [] ∧ (rowE t).1.fr ≤ (lastR rs).tt
      · rw [stp_there h1 h2 h3]; simp
      · cases h4 : rgN (rowE t).1.nm firstE with
        | some n => rw [stp_first h1 h2 h3 h4]; simp
        | none => rw [stp_one h1 h2 h3 h4]; simp
  · rw [stp_err h1]; simp
theorem run_inv : ∀ (l : List (Nat × List UInt8)) (rs : List Rw) (op : Nat), Inv rs op → Inv (run rs op l).1 (run rs op l).2.1
  | [], rs, op, h => h
  | x :: l, rs, op, h => by
    by_cases h1 : (stp rs op x.1 x.2).2.2 = 0
    · rw [run_cons h1]; exact run_inv l _ _ (stp_inv h)
    · rw [run_wrong h1]; exact stp_inv h

/-- The lines that tell something, with their numbers. -/
def tl : Nat → List (List UInt8) → List (Nat × List UInt8)
  | _, [] => []
  | no, x :: r => if toldL x = [] then tl (no + 1) r else (no, toldL x) :: tl (no + 1) r
theorem lnsW_tl : ∀ (x : List (List UInt8)) (no : Nat) (acc : List (Nat × List UInt8)), lnsW no acc x = if (x.any fun y => decide (512 < y.length)) = true then ([], 10) else (acc ++ tl no x, 0)
  | [], no, acc => by simp [lnsW, tl]
  | y :: x, no, acc => by
    by_cases h : 512 < y.length
    · rw [lnsW_long h]; simp [h]
    · by_cases h2 : toldL y = []
      · rw [lnsW_mute h h2, lnsW_tl x, tl, if_pos h2]; simp [h]
      · rw [lnsW_told h h2, lnsW_tl x, tl, if_neg h2]; simp [h]
theorem tl_pos : ∀ (x : List (List UInt8)) (no : Nat), ∀ y ∈ tl no x, no ≤ y.1
  | [], _, _, h => by cases h
  | z :: x, no, y, h => by
    rw [tl] at h
    split at h
    · have := tl_pos x (no + 1) y h; omega
    · rcases List.mem_cons.1 h with rfl | h
      · exact Nat.le_refl _
      · have := tl_pos x (no + 1) y h; omega
theorem linE_cases (l : List UInt8) : linE l = ([], 14) ∨ linE l = ([], 10) ∨ linE l = (tl 1 (spl 10 [] l), 0) := by
  unfold linE
  split
  · exact .inl rfl
  · rw [lnsW_tl]
    split
    · exact .inr (.inl rfl)
    · exact .inr (.inr (by simp))
theorem run_no : ∀ (l : List (Nat × List UInt8)) (rs : List Rw) (op : Nat), (∀ y ∈ l, 1 ≤ y.1) → (run rs op l).2.2.2 ≠ 0 → 1 ≤ (run rs op l).2.2.1
  | [], rs, op, _, h => absurd rfl h
  | x :: l, rs, op, hp, h => by
    by_cases h1 : (stp rs op x.1 x.2).2.2 = 0
    · rw [run_cons h1] at h ⊢; exact run_no l _ _ (fun y hy => hp y (by simp [hy])) h
    · rw [run_wrong h1]; exact hp x (by simp)
/-- What the rows of a file are, and its error's number. -/
theorem rws_sure (s : List UInt8) : (∀ x ∈ (rwsE s).1, Fin x) ∧ Rise (rwsE s).1 ∧ ((rwsE s).2.2 ≠ 0 → (rwsE s).1 = []) ∧ ((rwsE s).2.2 = 0 → (rwsE s).2.1 = 0) ∧ ((rwsE s).2.2 ≠ 0 → (rwsE s).2.1 ≠ 0 ∨ (rwsE s).2.2 = 14 ∨ (rwsE s).2.2 = 10) := by
  have hn : (∀ x ∈ ([] : List Rw), Fin x) := fun x hx => by cases hx
  unfold rwsE
  rcases linE_cases s with h | h | h
  · rw [h]; exact ⟨hn, rise_nil, fun _ => rfl, fun h => by simp at h, fun _ => .inr (.inl rfl)⟩
  · rw [h]; exact ⟨hn, rise_nil, fun _ => rfl, fun h => by simp at h, fun _ => .inr (.inr rfl)⟩
  · rw [h, if_neg (by simp)]
    have hi := run_inv (tl 1 (spl 10 [] s)) [] 0 Inv.nil
    by_cases h1 : (run [] 0 (tl 1 (spl 10 [] s))).2.2.2 ≠ 0
    · simp only [if_pos h1]
      have := run_no (tl 1 (spl 10 [] s)) [] 0 (tl_pos _ 1) h1
      exact ⟨hn, rise_nil, fun _ => trivial, fun h => absurd h h1, fun _ => .inl (by show (run [] 0 (tl 1 (spl 10 [] s))).2.2.1 ≠ 0; omega)⟩
    · simp only [if_neg h1]
      by_cases h2 : (run [] 0 (tl 1 (spl 10 [] s))).2.1 ≠ 0
      · simp only [if_pos h2]
        exact ⟨hn, rise_nil, fun _ => trivial, fun h => by simp at h, fun _ => .inr (.inr trivial)⟩
      · simp only [if_neg h2]
        exact ⟨hi.fin, hi.rise, fun h => by simp at h, fun _ => trivial, fun h => by simp at h⟩

end Go.Proofs.YtagbeioooohbgaaGreatDoor.Uc
end
section
namespace Go.Proofs.YtagbeioooohbgaaGreatDoor.Ba
open Uc Ha Fi

/-! Plain: what rows of a file are, and what New goes through. -/
structure Frm (L : List Rw) : Prop where
  pw : L.Pairwise fun x y => x.tt < y.fr
  fin : ∀ x ∈ L, Uc.Fin x
theorem rise_pair {L : List Rw} (hf : ∀ x ∈ L, Uc.Fin x) (hr : Rise L) : L.Pairwise fun x y => x.tt < y.fr := by
  have key : ∀ d i (h : i + d + 1 < L.length), (L[i]'(by omega)).tt < (L[i + d + 1]).fr := by
    intro d
    induction d with
    | zero => intro i h; exact hr i h
    | succ d ih =>
      intro i h
      have h1 := ih i (by omega)
      have h2 := hr (i + d + 1) (by omega)
      have h3 := (hf _ (List.getElem_mem (show i + d + 1 < L.length by omega))).le
      have e : i + (d + 1) + 1 = i + d + 1 + 1 := by omega
      simp only [e]
      omega
  rw [List.pairwise_iff_getElem]
  intro i j hi hj hij
  have h1 := key (j - i - 1) i (by omega)
  have e : i + (j - i - 1) + 1 = j := by omega
  simp only [e] at h1
  exact h1
theorem frm_rws (s : List UInt8) : Frm (rwsE s).1 := ⟨rise_pair (rws_sure s).1 (rws_sure s).2.1, (rws_sure s).1⟩
theorem frm_nil : Frm [] := ⟨List.Pairwise.nil, fun x hx => by cases hx⟩
variable {L : List Rw} {X : List Int}
theorem Frm.bd (h : Frm L) {x : Rw} (hx : x ∈ L) : 0 ≤ x.fr ∧ x.fr ≤ x.tt ∧ x.tt ≤ 1114111 := ⟨(scal_bd (h.fin x hx).fr).1, (h.fin x hx).le, (scal_bd (h.fin x hx).tt).2⟩
theorem Frm.one (h : Frm L) {x : Rw} (hx : x ∈ L) (hp : x.into ≠ []) : x.tt = x.fr := by
  by_cases e : x.fr = x.tt
  · exact e.symm
  · exact absurd ((h.fin x hx).rg e) hp
theorem Frm.ends (h : Frm L) : ∀ x ∈ L, x.fr ≤ x.tt := fun x hx => (h.fin x hx).le
theorem Frm.row (h : Frm L) {x : Rw} (hx : x ∈ L) {r : Int} (hr : inR x r = true) : rowAt L r = some x := row_at h.pw h.ends hx hr
theorem Frm.uniq (h : Frm L) {x y : Rw} (hx : x ∈ L) (hy : y ∈ L) (e : x.fr = y.fr) : x = y := by
  have h1 := h.row hx (r := x.fr) (inR_iff.2 ⟨Int.le_refl _, h.ends x hx⟩)
  have h2 := h.row hy (r := x.fr) (inR_iff.2 ⟨by omega, by have := h.ends y hy; omega⟩)
  rw [h1] at h2
  exact Option.some.inj h2

/-! classes -/
theorem cls_out (h : Frm L) {r : Int} (hr : ¬ (0 ≤ r ∧ r ≤ 1114111)) : clsB L r = 0 := by
  unfold clsB
  cases ha : rowAt L r with
  | none => rfl
  | some x =>
    obtain ⟨hx, hi⟩ := row_mem ha
    rw [inR_iff] at hi
    have := h.bd hx
    omega
theorem cls_bd (h : Frm L) (r : Int) : 0 ≤ clsB L r ∧ clsB L r ≤ 254 := by
  unfold clsB
  cases ha : rowAt L r with
  | none => simp
  | some x =>
    obtain ⟨hx, hi⟩ := row_mem ha
    exact ⟨(h.fin x hx).cl0, (h.fin x hx).cl1⟩
theorem cls_at (h : Frm L) {x : Rw} (hx : x ∈ L) : clsB L x.fr = x.cl := by
  unfold clsB
  rw [h.row hx (r := x.fr) (inR_iff.2 ⟨Int.le_refl _, h.ends x hx⟩)]
theorem ok_row (h : Frm L) {x : Rw} (hx : x ∈ L) : Tr.okS (x.fr, x.tt, x.cl) = true := by
  have := h.bd hx
  simp only [Tr.okS, Bool.not_eq_true', Bool.or_eq_false_iff, decide_eq_false_iff_not]
  omega
theorem Frm.take (h : Frm L) (k : Nat) : Frm (L.take k) := ⟨h.pw.sublist (List.take_sublist _ _), fun x hx => h.fin x (List.mem_of_mem_take hx)⟩
theorem cls_more (h : Frm L) {k : Nat} (hk : k < L.length) : Tr.updS (clsB (L.take k)) (L[k].fr, L[k].tt, L[k].cl) = clsB (L.take (k + 1)) := by
  have hm := List.getElem_mem hk
  funext r
  unfold Tr.updS
  rw [if_pos (ok_row h hm), List.take_succ_eq_append_getElem hk]
  unfold clsB rowAt
  rw [List.find?_append]
  by_cases hr : inR L[k] r = true
  · have hn : (L.take k).find? (fun x => inR x r) = none := by
      rw [List.find?_eq_none]
      intro y hy hi
      obtain ⟨j, hj, rfl⟩ := List.mem_iff_getElem.1 hy
      rw [List.length_take] at hj
      rw [List.getElem_take] at hi
      have h1 := List.pairwise_iff_getElem.1 h.pw j k (by omega) hk (by omega)
      rw [inR_iff] at hi hr
      omega
    rw [hn, Option.none_or, List.find?_singleton, if_pos hr]
    have hs : Tr.inS (L[k].fr, L[k].tt, L[k].cl) r = true := hr
    rw [if_pos hs]
  · have hs : ¬ Tr.inS (L[k].fr, L[k].tt, L[k].cl) r = true := hr
    rw [if_neg hs, List.find?_singleton, if_neg hr, Option.or_none]

/-! what rows part -/
def prR (L : List Rw) : List Rw := L.filter fun x => decide (x.into ≠ [])
def parA (L : List Rw) (r : Int) : Option Rw := (prR L).find? fun x => decide (x.fr = r)
theorem mem_prR {x : Rw} : x ∈ prR L ↔ x ∈ L ∧ x.into ≠ [] := by simp [prR]
theorem knw_eq : knwB L = (prR L).map (·.fr) := rfl
theorem parA_some {r : Int} {x : Rw} (h : parA L r = some x) : x ∈ L ∧ x.into ≠ [] ∧ x.fr = r := by
  have h1 := mem_prR.1 (List.mem_of_find?_eq_some h)
  exact ⟨h1.1, h1.2, by simpa using List.find?_some h⟩
theorem parA_of (h : Frm L) {x : Rw} (hx : x ∈ L) (hp : x.into ≠ []) : parA L x.fr = some x := by
  cases e : parA L x.fr with
  | none =>
    have := (List.find?_eq_none.1 e) x (mem_prR.2 ⟨hx, hp⟩)
    simp at this
  | some y =>
    obtain ⟨h1, h2, h3⟩ := parA_some e
    rw [h.uniq h1 hx h3]
theorem parA_none {r : Int} (e : parA L r = none) {x : Rw} (hx : x ∈ L) (hp : x.into ≠ []) : x.fr ≠ r := by
  have := (List.find?_eq_none.1 e) x (mem_prR.2 ⟨hx, hp⟩)
  simpa using this
theorem knw_mem {r : Int} : r ∈ knwB L ↔ (parA L r).isSome = true := by
  rw [knw_eq, List.mem_map]
  constructor
  · rintro ⟨x, hx, rfl⟩
    unfold parA
    rw [List.find?_isSome]
    exact ⟨x, hx, by simp⟩
  · intro h
    obtain ⟨x, hx⟩ := Option.isSome_iff_exists.1 h
    obtain ⟨h1, h2, h3⟩ := parA_some hx
    exact ⟨x, mem_prR.2 ⟨h1, h2⟩, h3⟩
theorem knw_rise (h : Frm L) : (knwB L).Pairwise (· < ·) := by
  rw [knw_eq, List.pairwise_map]
  refine List.Pairwise.imp_of_mem ?_ (h.pw.sublist (List.filter_sublist (p := fun x : Rw => decide (x.into ≠ []))))
  intro a b ha _ hab
  have := h.ends a (mem_prR.1 ha).1
  omega
theorem knw_nodup (h : Frm L) : (knwB L).Nodup := (knw_rise h).imp fun hab => by omega
theorem dec_par (h : Frm L) {r : Int} (hs : isS r = false) : decB L r = match parA L r with | some x => (x.kd, x.into) | none => ([], []) := by
  unfold decB
  rw [if_neg (by simp [hs])]
  cases ha : rowAt L r with
  | none =>
    cases e : parA L r with
    | none => rfl
    | some x =>
      obtain ⟨h1, h2, h3⟩ := parA_some e
      have := h.row h1 (r := r) (inR_iff.2 ⟨by omega, by have := h.ends x h1; omega⟩)
      rw [this] at ha
      cases ha
  | some x =>
    obtain ⟨hx, hi⟩ := row_mem ha
    by_cases hp : x.into = []
    · cases e : parA L r with
      | none => simp only [hp, (h.fin x hx).none hp]
      | some y =>
        obtain ⟨h1, h2, h3⟩ := parA_some e
        have := h.row h1 (r := r) (inR_iff.2 ⟨by omega, by have := h.ends y h1; omega⟩)
        rw [ha] at this
        cases this
        exact absurd hp h2
    · have ho := h.one hx hp
      rw [inR_iff] at hi
      have e2 : x.fr = r := by omega
      have := parA_of h hx hp
      rw [e2] at this
      rw [this]
theorem dec_some (h : Frm L) {r : Int} (hs : isS r = false) {x : Rw} (e : parA L r = some x) : decB L r = (x.kd, x.into) := by rw [dec_par h hs, e]
theorem dec_none (h : Frm L) {r : Int} (hs : isS r = false) (e : parA L r = none) : decB L r = ([], []) := by rw [dec_par h hs, e]

/-! what New asks, one by one -/
def S1 (L : List Rw) : Prop := ∀ x ∈ L, 0 < x.cl ∨ x.into ≠ [] → ¬ (x.fr ≤ 55203 ∧ 44032 ≤ x.tt)
def S2 (L : List Rw) : Prop := ∀ x ∈ L, x.kd = [] → x.into.length ≤ 2
def S3 (L : List Rw) : Prop := ∀ r ∈ knwB L, ∃ n, n ≤ 18 ∧ Cnt L [r] n
def S4 (L : List Rw) (X : List Int) : Prop := ∀ x ∈ prsB L X, (joinE (x.into.getD 0 0) (x.into.getD 1 0)).2 = false ∧ pairB L X (x.into.getD 0 0) (x.into.getD 1 0) = (x.fr, true)
def Acs (L : List Rw) (r : Int) : Prop := Acc (fun s r => s ∈ (decB L r).2) r
theorem acs_all (h : Frm L) (h3 : S3 L) (r : Int) : Acs L r := by
  have h1 : ∀ s, isS s = false → Acs L s := fun s hs => by
    cases e : parA L s with
    | none => exact ⟨_, fun t ht => by rw [dec_none h hs e] at ht; cases ht⟩
    | some x =>
      obtain ⟨n, _, hc⟩ := h3 s (knw_mem.2 (by rw [e]; rfl))
      exact hc.acc s (.head _)
  have h2 : ∀ s, isS s = true → tlN s = 0 → Acs L s := fun s hs ht => ⟨_, fun t hm => by
    refine h1 t ?_
    cases h9 : isS t with
    | false => rfl
    | true => exact absurd ht ((syl_two hs hm).2 h9).1⟩
  cases hs : isS r with
  | false => exact h1 r hs
  | true =>
    refine ⟨_, fun t hm => ?_⟩
    cases h9 : isS t with
    | false => exact h1 t h9
    | true =>
      obtain ⟨_, e⟩ := (syl_two hs hm).2 h9
      exact h2 t h9 (by rw [e]; exact (bare hs).2.2.2)
theorem no_leads (h : Frm L) (h3 : S3 L) (r : Int) : ¬ Leads L r r := acc_no (acs_all h h3 r)
theorem good_of (h : Frm L) (h1 : S1 L) (h2 : S2 L) (h3 : S3 L) (h4 : S4 L X) : Good L X :=
  ⟨⟨h.pw, h.ends, (fun x hx hp => h.one hx hp), (fun x hx => (h.fin x hx).cl0), h1, h2, (fun x _ => no_leads h h3 x.fr), h4⟩,
   fun x hx hp => h3 x.fr (knw_mem.2 (by rw [parA_of h hx hp]; rfl))⟩
theorem Good.s1 (g : Good L X) : S1 L := g.ok.syl
theorem Good.s2 (g : Good L X) : S2 L := g.ok.form
theorem Good.s3 (g : Good L X) : S3 L := fun r hr => by
  obtain ⟨x, hx⟩ := Option.isSome_iff_exists.1 (knw_mem.1 hr)
  obtain ⟨a, b, c⟩ := parA_some hx
  have := g.few x a b
  rwa [c] at this
theorem Good.s4 (g : Good L X) : S4 L X := g.ok.two
/-- One more: all is counted. -/
theorem cnt_ex (h : Frm L) (h3 : S3 L) : ∀ r, ∃ n, Cnt L [r] n := fun r => by
  have key : ∀ l : List Int, (∀ s ∈ l, ∃ n, Cnt L [s] n) → ∃ n, Cnt L l n := by
    intro l
    induction l with
    | nil => intro _; exact ⟨0, .nil⟩
    | cons a l ih =>
      intro hs
      obtain ⟨n, hn⟩ := hs a (.head _)
      obtain ⟨m, hm⟩ := ih fun s hx => hs s (.tail _ hx)
      exact ⟨n + m, hn.app hm⟩
  have ha : Acs L r := acs_all h h3 r
  induction ha with
  | intro r _ ih =>
    by_cases e : (decB L r).2 = []
    · exact ⟨1, .one_leaf e⟩
    · obtain ⟨m, hm⟩ := key (decB L r).2 fun s hs => ih s hs
      exact ⟨m, .one_node e hm⟩

end Go.Proofs.YtagbeioooohbgaaGreatDoor.Ba
end

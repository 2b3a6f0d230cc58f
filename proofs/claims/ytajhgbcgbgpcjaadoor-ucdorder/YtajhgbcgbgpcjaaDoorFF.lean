import Derived.Test.YtajhgbcgbgpcjaaDoorFE
namespace Go.Proofs.YtajhgbcgbgpcjaaDoor.Fi
open Go.RowKit

/-- The words between rows of blanks; ahead: what the word under way has so far. -/
def wds : List UInt8 → List UInt8 → List (List UInt8)
  | cur, [] => if cur = [] then [] else [cur]
  | cur, c :: l => if blk c.toNat then (if cur = [] then wds [] l else cur :: wds [] l) else wds (cur ++ [c]) l
theorem wds_run : ∀ (x cur l : List UInt8), (∀ c ∈ x, blk c.toNat = false) → wds cur (x ++ l) = wds (cur ++ x) l
  | [], cur, l, _ => by simp
  | c :: x, cur, l, h => by
    rw [List.cons_append, wds, h c (by simp)]
    simp only [Bool.false_eq_true, if_false]
    rw [wds_run x (cur ++ [c]) l (fun d hd => h d (by simp [hd])), List.append_assoc]
    rfl
theorem get_at (s : ByteArray) (k : Nat) (h : k < s.size) : s.get! k = s[k] := by
  simp [ByteArray.get!, getElem!_pos, h]; rfl
/-- What a range over a string steps over. -/
theorem chunk (s : ByteArray) (pos : Nat) (h : pos < s.size) : 1 ≤ (Utf8.decode s pos).2 ∧ pos + (Utf8.decode s pos).2 ≤ s.size ∧
    (((Utf8.decode s pos).2 = 1 ∧ (Utf8.decode s pos).1 = s[pos].toNat ∧ s[pos].toNat < 128) ∨ (128 ≤ (Utf8.decode s pos).1 ∧ ∀ j, j < (Utf8.decode s pos).2 → ∀ hh : pos + j < s.size, 128 ≤ s[pos + j].toNat)) := by
  have hw := Lib.width_pos s pos
  have hn : pos + (Utf8.decode s pos).2 ≤ s.size := by
    have := Lib.decodeN_le_n' (s.size - pos) (s.get! pos).toNat (s.get! (pos + 1)).toNat (s.get! (pos + 2)).toNat (s.get! (pos + 3)).toNat (by omega)
    rw [← Lib.decode_at] at this
    omega
  refine ⟨hw, hn, ?_⟩
  have e0 := get_at s pos h
  by_cases ha : s[pos].toNat < 128
  · left
    have := Lib.decodeN_ascii (s.size - pos) (s.get! pos).toNat (s.get! (pos + 1)).toNat (s.get! (pos + 2)).toNat (s.get! (pos + 3)).toNat (by rw [e0]; exact ha)
    rw [← Lib.decode_at] at this
    rw [this, e0]
    exact ⟨rfl, rfl, ha⟩
  · right
    refine ⟨high_rune s pos h (by omega), ?_⟩
    have hd := Lib.decode_at s pos
    rcases Lib.decodeN_shape (s.size - pos) (s.get! pos).toNat (s.get! (pos + 1)).toNat (s.get! (pos + 2)).toNat (s.get! (pos + 3)).toNat with ⟨h1, _⟩ | ⟨_, _, b1, _, he⟩ | ⟨_, _, b1, b2, _, _, he⟩ | ⟨_, _, b1, b2, b3, _, _, he⟩ | he
    · rw [e0] at h1; omega
    all_goals
      rw [he] at hd
      rw [hd]
      intro j hj hh
      have hj4 : j = 0 ∨ j = 1 ∨ j = 2 ∨ j = 3 := by simp at hj; omega
      rcases hj4 with rfl | rfl | rfl | rfl
    all_goals first
      | (simp at hj; done)
      | (show 128 ≤ s[pos].toNat; omega)
      | (rw [← get_at s _ hh]; omega)
theorem lst_get (s : ByteArray) (k : Nat) (h : k < s.size) : s.data.toList[k]? = some s[k] := by
  rw [List.getElem?_eq_getElem (by simpa using h)]; rfl
def curOf (s : ByteArray) (st : Option Nat) (pos : Nat) : List UInt8 := match st with
  | none => []
  | some a => (s.data.toList.drop a).take (pos - a)
theorem cur_ne (s : ByteArray) (a pos : Nat) (h : a < pos) (hp : pos ≤ s.size) : curOf s (some a) pos ≠ [] := by
  unfold curOf
  intro hh
  have := congrArg List.length hh
  simp [List.length_take] at this
  omega
theorem cur_on (s : ByteArray) (a pos K : Nat) (h : a ≤ pos) : curOf s (some a) pos ++ (s.data.toList.drop pos).take K = curOf s (some a) (pos + K) := by
  show (s.data.toList.drop a).take (pos - a) ++ (s.data.toList.drop pos).take K = (s.data.toList.drop a).take (pos + K - a)
  rw [show pos + K - a = (pos - a) + K by omega, List.take_add, List.drop_drop, show a + (pos - a) = pos by omega]
theorem spans_wds (s : ByteArray) : ∀ (f pos : Nat) (st : Option Nat) (acc : List (Nat × Nat)), s.size ≤ pos + f → pos ≤ s.size → (∀ a, st = some a → a < pos) →
    (Lib.closeSpans s (Lib.spansFromP blk s f pos st acc)).map (fun x => (s.extract x.1 x.2).data.toList) = acc.map (fun x => (s.extract x.1 x.2).data.toList) ++ wds (curOf s st pos) (s.data.toList.drop pos) := by
  intro f
  induction f with
  | zero =>
    intro pos st acc h1 h2 h3
    have hp : pos = s.size := by omega
    rw [Lib.spansFromP_end blk s 0 pos st acc (by omega), lst_end s pos (by omega)]
    cases st with
    | none => simp [Lib.closeSpans, curOf, wds]
    | some a =>
      have hne := cur_ne s a pos (h3 a rfl) h2
      simp only [Lib.closeSpans, wds, hne, if_false, List.map_append, List.map_cons, List.map_nil]
      rw [Lib.extract_data]
      unfold curOf
      rw [hp]
  | succ f ih =>
    intro pos st acc h1 h2 h3
    by_cases hlt : pos < s.size
    · obtain ⟨k1, k2, k3⟩ := chunk s pos hlt
      simp only [Lib.spansFromP, hlt, if_true]
      generalize hK : (Utf8.decode s pos).2 = K at *
      generalize hR : (Utf8.decode s pos).1 = R at *
      cases hb : blk R with
      | true =>
        have hR3 : R < 128 := by
          by_cases hh : R < 128
          · exact hh
          · rw [blk_high (by omega)] at hb; cases hb
        rcases k3 with ⟨rfl, hr, hs⟩ | ⟨hh, _⟩
        · have hbc : blk s[pos].toNat = true := by rw [← hr]; exact hb
          simp only [if_true]
          cases st with
          | none =>
            simp only
            rw [ih (pos + 1) none acc (by omega) (by omega) (fun a h => by cases h), lst_at s pos hlt]
            show _ = _ ++ wds [] (s[pos] :: _)
            rw [wds]
            simp [hbc, curOf]
          | some a =>
            simp only
            rw [ih (pos + 1) none _ (by omega) (by omega) (fun a h => by cases h), lst_at s pos hlt]
            have hne := cur_ne s a pos (h3 a rfl) h2
            rw [wds]
            simp only [hbc, if_true, hne, if_false, List.map_append, List.map_cons, List.map_nil, List.append_assoc]
            rw [Lib.extract_data]
            rfl
        · omega
      | false =>
        have hx : ∀ c ∈ (s.data.toList.drop pos).take K, blk c.toNat = false := by
          intro c hc
          obtain ⟨j, hj⟩ := List.mem_iff_getElem?.1 hc
          rw [List.getElem?_take] at hj
          split at hj
          · rename_i hjK
            rw [List.getElem?_drop, lst_get s (pos + j) (by omega)] at hj
            have hj' := Option.some.inj hj
            subst hj'
            rcases k3 with ⟨rfl, hr, hs⟩ | ⟨hh, hall⟩
            · have : j = 0 := by omega
              subst this
              show blk s[pos].toNat = false
              rw [← hr]; exact hb
            · exact blk_high (hall j hjK (by omega))
          · cases hj
        have hsp : s.data.toList.drop pos = (s.data.toList.drop pos).take K ++ s.data.toList.drop (pos + K) := by
          rw [← List.drop_drop]; exact (List.take_append_drop K _).symm
        simp only [Bool.false_eq_true, if_false]
        cases st with
        | none =>
          simp only
          rw [ih (pos + K) (some pos) acc (by omega) k2 (fun a h => by cases h; omega), hsp, wds_run _ _ _ hx]
          congr 2
          unfold curOf
          simp [show pos + K - pos = K by omega]
        | some a =>
          simp only
          have := h3 a rfl
          rw [ih (pos + K) (some a) acc (by omega) k2 (fun b h => by cases h; omega), hsp, wds_run _ _ _ hx, cur_on s a pos K (by omega)]
    · rw [Lib.spansFromP_end blk s _ pos st acc hlt, lst_end s pos (by omega)]
      cases st with
      | none => simp [Lib.closeSpans, curOf, wds]
      | some a =>
        have hne := cur_ne s a pos (h3 a rfl) h2
        simp only [Lib.closeSpans, wds, hne, if_false, List.map_append, List.map_cons, List.map_nil]
        rw [Lib.extract_data]
        unfold curOf
        rw [show pos = s.size by omega]
theorem fields_wds (s : ByteArray) : (Lib.goFieldsP blk s).map (fun x => x.data.toList) = wds [] s.data.toList := by
  have := spans_wds s s.size 0 none [] (by omega) (by omega) (fun a h => by cases h)
  unfold Lib.goFieldsP Lib.spansOfP
  rw [List.map_map]
  exact this

/-- Of words the characters, or the first error. -/
def rnsW : List Int → List (List UInt8) → List Int × Int
  | acc, [] => (acc, 0)
  | acc, x :: r => if (hexE x).2 = 0 then rnsW (acc ++ [(hexE x).1]) r else ([], (hexE x).2)
def rnsE (l : List UInt8) : List Int × Int := rnsW [] (wds [] l)
def i32s (l : List Int) : List Value := l.map fun x => .int .i32 x
theorem i32s_app (a b : List Int) : i32s (a ++ b) = i32s a ++ i32s b := by simp [i32s]
theorem r_info : (Tryd.prog.info? 21).map (fun i => (i.zero, i.size, i.bytes)) = some (some (.int .i32 0), 1, 4) := by kernel_rfl
def RnsP (w : World) (x : List Int × Int) (e : Ending) (w' : World) : Prop := ∃ v, e = .returned (.tuple #[v, .int .i64 x.2]) ∧ w'.ownsRow w.heap.size 21 1 v x.1.length (i32s x.1) ∧ Below w.heap.size w w'
theorem own_below' {w w' : World} {b : Nat} {e : TypeId} {z n : Nat} {v : Value} {xs : List Value} (h : w.ownsRow b e z v n xs) (hb : Below w.heap.size w w') : w'.ownsRow b e z v n xs := Go.Proofs.own_below h hb

end Go.Proofs.YtajhgbcgbgpcjaaDoor.Fi

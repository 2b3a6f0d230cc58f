import Derived.Test.YtagbeioooohbgaaGreatDoorM03
namespace Go.Proofs.YtagbeioooohbgaaGreatDoor.Fi
open Go.RowKit

/-- A digit, small. -/
def sml (c : UInt8) : UInt8 := if 65 ≤ c.toNat ∧ c.toNat ≤ 70 then c + 32 else c
set_option maxRecDepth 100000 in
theorem sml_dv (c : UInt8) : dv (sml c).toNat = dv c.toNat ∧ blk (sml c).toNat = blk c.toNat := by
  have : ∀ y : Fin 256, dv (sml (UInt8.ofNat y.val)).toNat = dv (UInt8.ofNat y.val).toNat ∧ blk (sml (UInt8.ofNat y.val)).toNat = blk (UInt8.ofNat y.val).toNat := by decide +kernel
  have h := this ⟨c.toNat, c.toNat_lt⟩
  simpa using h
theorem wds_sml : ∀ (l cur : List UInt8), wds (cur.map sml) (l.map sml) = (wds cur l).map (fun x => x.map sml)
  | [], cur => by
    unfold wds
    by_cases h : cur = []
    · simp [h]
    · simp [h]
  | c :: l, cur => by
    rw [List.map_cons, wds, wds, (sml_dv c).2]
    have i1 := wds_sml l []
    have i2 := wds_sml l (cur ++ [c])
    rw [List.map_append] at i2
    simp only [List.map_nil] at i1
    simp only [List.map_cons, List.map_nil] at i2
    cases blk c.toNat with
    | true =>
      by_cases h : cur = []
      · simp [h, i1]
      · simp [h, i1]
    | false => simp [i2]
theorem dgs_sml (b : Nat) : ∀ (l : List UInt8) (n : Nat), dgs b n (l.map sml) = dgs b n l
  | [], n => rfl
  | c :: l, n => by
    rw [List.map_cons, dgs, dgs, (sml_dv c).1, dgs_sml b l]
theorem hexE_sml (l : List UInt8) : hexE (l.map sml) = hexE l := by
  have : digs 16 6 (l.map sml) = digs 16 6 l := by unfold digs; rw [List.length_map, dgs_sml]
  unfold hexE
  rw [this]
theorem rnsW_sml : ∀ (x : List (List UInt8)) (acc : List Int), rnsW acc (x.map (fun y => y.map sml)) = rnsW acc x
  | [], acc => rfl
  | y :: x, acc => by
    rw [List.map_cons, rnsW, rnsW, hexE_sml, rnsW_sml x]
theorem rnsE_sml (l : List UInt8) : rnsE (l.map sml) = rnsE l := by
  unfold rnsE
  have := wds_sml l []
  rw [List.map_nil] at this
  rw [this, rnsW_sml]
/-- With more blanks behind each blank. -/
def wid : List UInt8 → List UInt8
  | [] => []
  | c :: l => if blk c.toNat then c :: 32 :: 9 :: wid l else c :: wid l
theorem wid_app : ∀ (a b : List UInt8), wid (a ++ b) = wid a ++ wid b
  | [], b => rfl
  | c :: a, b => by
    rw [List.cons_append, wid, wid, wid_app a b]
    split <;> simp
theorem wds_wid : ∀ (l cur : List UInt8), wds cur (wid l ++ [9]) = wds cur l
  | [], cur => by
    have h9 : blk (9 : UInt8).toNat = true := by decide
    rw [wid, List.nil_append]
    conv => lhs; rw [wds, h9]
    by_cases h : cur = []
    · simp [h, wds]
    · simp [h, wds]
  | c :: l, cur => by
    have h9 : blk (9 : UInt8).toNat = true := by decide
    have h32 : blk (32 : UInt8).toNat = true := by decide
    rw [wid]
    cases hb : blk c.toNat with
    | true =>
      simp only [if_true, List.cons_append]
      conv => lhs; rw [wds, hb]
      conv => rhs; rw [wds, hb]
      have e : wds [] (32 :: 9 :: (wid l ++ [9])) = wds [] l := by
        rw [wds, h32]
        simp only [if_true]
        rw [wds, h9]
        simp only [if_true]
        exact wds_wid l []
      simp only [if_true, e]
    | false =>
      simp only [Bool.false_eq_true, if_false, List.cons_append]
      conv => lhs; rw [wds, hb]
      conv => rhs; rw [wds, hb]
      simp only [Bool.false_eq_true, if_false]
      exact wds_wid l _
theorem rnsE_wid (l : List UInt8) : rnsE (32 :: (wid l ++ [9])) = rnsE l := by
  unfold rnsE
  have h32 : blk (32 : UInt8).toNat = true := by decide
  rw [wds, h32]
  simp only [if_true]
  rw [wds_wid]
theorem wid_len : ∀ l : List UInt8, (wid l).length ≤ 3 * l.length
  | [] => by simp [wid]
  | c :: l => by
    have := wid_len l
    rw [wid]
    split <;> simp <;> omega
theorem spl_none : ∀ (l cur : List UInt8), (∀ c ∈ l, c ≠ 10) → spl 10 cur l = [cur ++ l]
  | [], cur, _ => by simp [spl]
  | c :: l, cur, h => by
    rw [spl, if_neg (h c (by simp)), spl_none l (cur ++ [c]) (fun d hd => h d (by simp [hd]))]
    simp
theorem lin_one {l : List UInt8} (h : ∀ c ∈ l, c ≠ 10) (hl : l.length ≤ 512) : linE l = (if toldL l = [] then [] else [(1, toldL l)], 0) := by
  unfold linE
  rw [spl_none l [] h, List.nil_append, if_neg (by simp)]
  by_cases h2 : toldL l = []
  · rw [lnsW_mute (by omega) h2, if_pos h2]; rfl
  · rw [lnsW_told (by omega) h2, if_neg h2]; rfl
theorem cut_rem (c : UInt8) : ∀ (l r : List UInt8), (Lib.cut (l ++ c :: r) [c]).1 = (Lib.cut l [c]).1
  | [], r => by rw [List.nil_append, cut_hit (by rw [pre_one]; simp), cut_nil (by simp)]
  | b :: l, r => by
    rw [List.cons_append]
    by_cases h : b = c
    · rw [cut_hit (by rw [pre_one]; simpa using h), cut_hit (by rw [pre_one]; simpa using h)]
    · rw [cut_skip (by rw [pre_one]; simpa using h), cut_skip (by rw [pre_one]; simpa using h)]
      have ih := cut_rem c l r
      have ht : (Lib.cut (l ++ c :: r) [c]).2.2 = true := by
        have : ∀ (l : List UInt8), (Lib.cut (l ++ c :: r) [c]).2.2 = true := by
          intro l
          induction l with
          | nil => rw [List.nil_append, cut_hit (by rw [pre_one]; simp)]
          | cons b l ih =>
            rw [List.cons_append]
            by_cases h : b = c
            · rw [cut_hit (by rw [pre_one]; simpa using h)]
            · rw [cut_skip (by rw [pre_one]; simpa using h), ih]; rfl
        exact this l
      rw [ht, if_pos rfl, ih]
      cases h2 : (Lib.cut l [c]).2.2 with
      | true => rfl
      | false => rw [(cut_miss h2).1]; rfl
theorem told_rem (l r : List UInt8) : toldL (l ++ 35 :: r) = toldL l := by unfold toldL; rw [cut_rem]

end Go.Proofs.YtagbeioooohbgaaGreatDoor.Fi

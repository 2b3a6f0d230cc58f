import Derived.Test.YtajhgbcgbgpcjaaGreatDoorFXe
import Derived.Test.YtajhgbcgbgpcjaaGreatDoorFN
import Derived.Test.YtajhgbcgbgpcjaaGreatDoorFP
namespace Go.Proofs.YtajhgbcgbgpcjaaGreatDoor.Fi
open Go.RowKit

theorem dgs_snoc (b : Nat) : ∀ (l : List UInt8) (n m : Nat) (c : UInt8), dgs b n l = some m → dv c.toNat < b → dgs b n (l ++ [c]) = some (m * b + dv c.toNat)
  | [], n, m, c, h, hc => by cases h; simp [dgs, hc]
  | d :: l, n, m, c, h, hc => by
    rw [dgs] at h
    rw [List.cons_append, dgs]
    split at h
    · rename_i hd
      rw [if_pos hd]
      exact dgs_snoc b l _ m c h hc
    · cases h
theorem dgs_fwu : ∀ k n, n < 16 ^ k → dgs 16 0 (fwu k n) = some n
  | 0, n, h => by simp at h; subst h; rfl
  | k + 1, n, h => by
    have hd := dv_ud ⟨n % 16, Nat.mod_lt _ (by omega)⟩
    simp only at hd
    rw [fwu, dgs_snoc 16 _ 0 (n / 16) _ (dgs_fwu k (n / 16) ?_) (by rw [hd]; exact Nat.mod_lt _ (by omega)), hd]
    · congr 1; omega
    · rw [Nat.pow_succ] at h; omega
theorem hexE_hx4 {n : Nat} (h : scal (n : Int) = true) : hexE (hx4 n) = ((n : Int), 0) := by
  have hb := scal_bd h
  have hw : wd n ≤ 6 := by unfold wd; repeat (first | omega | split)
  have hw4 := (wd_bd n).1
  refine hexE_yes ?_ h
  unfold hx4
  rw [digs_in (by rw [fwu_len]; omega), dgs_fwu _ _ (wd_lt (by omega))]
set_option maxRecDepth 100000 in
theorem ud_plain : ∀ d : Fin 16, isb (ud d.val) = false ∧ ud d.val ≠ 46 ∧ blk (ud d.val).toNat = false := by decide +kernel
theorem fwu_plain : ∀ k n, ∀ c ∈ fwu k n, isb c = false ∧ c ≠ 46 ∧ blk c.toNat = false
  | 0, _, c, h => by simp [fwu] at h
  | k + 1, n, c, h => by
    rw [fwu] at h
    rcases List.mem_append.1 h with h | h
    · exact fwu_plain k _ c h
    · simp at h
      subst h
      exact ud_plain ⟨n % 16, Nat.mod_lt _ (by omega)⟩
theorem hx4_plain (n : Nat) : ∀ c ∈ hx4 n, isb c = false ∧ c ≠ 46 ∧ blk c.toNat = false := fwu_plain _ _
theorem hx4_ne (n : Nat) : hx4 n ≠ [] := by
  intro h
  have := congrArg List.length h
  rw [hx4, fwu_len] at this
  have := (wd_bd n).1
  simp at *
  omega
theorem pre_dots {b : UInt8} {l : List UInt8} (h : b ≠ 46) : ([46, 46] : List UInt8).isPrefixOf (b :: l) = false := by
  simp [List.isPrefixOf]
  intro h2
  exact absurd h2.symm h
theorem cut_none : ∀ (l : List UInt8), (∀ c ∈ l, c ≠ 46) → (Lib.cut l [46, 46]).2.2 = false
  | [], _ => by rw [cut_nil (by simp)]
  | b :: l, h => by
    rw [cut_skip (pre_dots (h b (by simp))), cut_none l (fun c hc => h c (by simp [hc]))]
    rfl
theorem cut_dots (t : List UInt8) : ∀ (l : List UInt8), (∀ c ∈ l, c ≠ 46) → Lib.cut (l ++ 46 :: 46 :: t) [46, 46] = (l, t, true)
  | [], _ => by rw [List.nil_append, cut_hit (by simp)]; rfl
  | b :: l, h => by
    rw [List.cons_append, cut_skip (pre_dots (h b (by simp))), cut_dots t l (fun c hc => h c (by simp [hc]))]
    rfl
theorem rt_all : ∀ (l : List UInt8), (∀ c ∈ l, isb c = false) → rt l = l := by
  intro l h
  rcases List.eq_nil_or_concat l with rfl | ⟨l', c, rfl⟩
  · rfl
  · rw [List.concat_eq_append]
    exact rt_no (h c (by simp))
theorem lt_all (l : List UInt8) (h : ∀ c ∈ l, isb c = false) : lt l = l := by
  cases l with
  | nil => rfl
  | cons c l => exact lt_no (h c (by simp))
theorem isb32 : isb 32 = true := by decide
theorem bare_ahead (l : List UInt8) (h : ∀ c ∈ l, isb c = false) : bareL (32 :: l) = l := by
  rw [bareL_rt, lt_yes isb32, lt_all l h, rt_all l h]
theorem bare_behind (l : List UInt8) (h : ∀ c ∈ l, isb c = false) : bareL (l ++ [32]) = l := by
  rw [bareL_eq, rt_yes isb32, rt_all l h, lt_all l h]
theorem rng_one {n : Nat} (h : scal (n : Int) = true) : rngE (hx4 n) = ((n : Int), (n : Int), 0) := by
  unfold rngE
  rw [cut_none _ (fun c hc => (hx4_plain n c hc).2.1)]
  simp [hexE_hx4 h]
theorem rng_two {n : Nat} (h : scal (n : Int) = true) : rngE (hx4 0 ++ 32 :: 46 :: 46 :: 32 :: hx4 n) = (0, (n : Int), 0) := by
  have h0 : scal ((0 : Nat) : Int) = true := by decide
  have e : hx4 0 ++ 32 :: 46 :: 46 :: 32 :: hx4 n = (hx4 0 ++ [32]) ++ 46 :: 46 :: (32 :: hx4 n) := by simp
  unfold rngE
  rw [e, cut_dots _ _ (fun c hc => by
    rcases List.mem_append.1 hc with h | h
    · exact (hx4_plain 0 c h).2.1
    · simp at h; subst h; decide)]
  simp only [if_true]
  rw [bare_ahead _ (fun c hc => (hx4_plain n c hc).1), bare_behind _ (fun c hc => (hx4_plain 0 c hc).1), hexE_hx4 h, hexE_hx4 h0]
  simp
theorem wds_one (x : List UInt8) (h : ∀ c ∈ x, blk c.toNat = false) (h0 : x ≠ []) : wds [] x = [x] := by
  have := wds_run x [] [] h
  rw [List.append_nil, List.nil_append] at this
  rw [this, wds, if_neg h0]
theorem wds_join : ∀ (l : List (List UInt8)), (∀ x ∈ l, x ≠ [] ∧ ∀ c ∈ x, blk c.toNat = false) → wds [] (Lib.join l [32]) = l
  | [], _ => rfl
  | [x], h => by
    have := h x (by simp)
    have e : Lib.join [x] [32] = x := by simp [Lib.join]
    rw [e, wds_one x this.2 this.1]
  | x :: y :: l, h => by
    have hx := h x (by simp)
    have ih := wds_join (y :: l) (fun z hz => h z (by simp [hz]))
    have e : Lib.join (x :: y :: l) [32] = x ++ 32 :: Lib.join (y :: l) [32] := by simp [Lib.join]
    rw [e, wds_app, wds_one x hx.2 hx.1, ih]
    rfl
theorem rnsW_hx : ∀ (l acc : List Int), (∀ x ∈ l, scal x = true) → rnsW acc (l.map fun r => hx4 r.toNat) = (acc ++ l, 0)
  | [], acc, _ => by simp [rnsW]
  | x :: l, acc, h => by
    have hx := h x (by simp)
    have hb := scal_bd hx
    have e : ((x.toNat : Nat) : Int) = x := by omega
    have hh := hexE_hx4 (n := x.toNat) (by rw [e]; exact hx)
    rw [List.map_cons, rnsW_ok (by rw [hh]), hh, e, rnsW_hx l _ (fun y hy => h y (by simp [hy]))]
    simp
theorem rns_text (l : List Int) (h : ∀ x ∈ l, scal x = true) : rnsE (txE l) = (l, 0) := by
  unfold rnsE txE
  rw [wds_join _ (fun x hx => by
    obtain ⟨r, _, rfl⟩ := List.mem_map.1 hx
    exact ⟨hx4_ne _, fun c hc => (hx4_plain _ c hc).2.2⟩), rnsW_hx l [] h]
  rfl
theorem cell_new0 (w : World) (v : Value) (t : TypeId) : (w.alloc (.cells #[v] t)).cell? ⟨w.heap.size, 0, none⟩ = some v := by
  simp
/-- Text of one number that lies in a row of its own. -/
theorem text_one (x : Int) (g : Nat) (W : World) (hc : W.cell? ⟨g, 0, none⟩ = some (.int .i32 x)) (hT : W.cell? ⟨6, 15, none⟩ = some (.int .u8 4)) (h1 : -2147483648 ≤ x) (h2 : x ≤ 2147483647) :
    Calls Tryz.prog 36 #[.slice (some ⟨g, 0, none⟩) 1 1] W fun e w' => e = .returned (.string ⟨(hx4 x.toNat).toArray⟩) ∧ Below W.heap.size W w' := by
  have h := text_any (some ⟨g, 0, none⟩) 1 [x] W (fun i hi => by
    obtain rfl : i = 0 := by simp at hi; exact hi
    exact ⟨g, 0, rfl, World.block_lt_of_cell? W _ hc, hc⟩) (fun y hy => by simp at hy; subst hy; exact ⟨h1, h2⟩) (by simp) hT
  rw [txE_one] at h
  exact h

end Go.Proofs.YtajhgbcgbgpcjaaGreatDoor.Fi

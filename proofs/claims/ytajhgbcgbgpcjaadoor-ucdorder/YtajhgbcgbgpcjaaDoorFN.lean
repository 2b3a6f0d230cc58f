import Derived.Test.YtajhgbcgbgpcjaaDoorFL
namespace Go.Proofs.YtajhgbcgbgpcjaaDoor.Fi
open Go.RowKit

/-- Onto a row of its own, all of another row. -/
theorem wpList_append_row {P : Program} {w : World} {ops : Array Oper} {rest : List Oper} {o : Oper} {a : Act} {Q : Exit → Act → World → Prop} (hgd : o.guard = none) (s x : Operand) (t : TypeId)
    (ho : o.op = .call { callee := .builtin .append, args := #[s, x], argTypes := #[t, t] })
    (base : Nat) (e : TypeId) (i : TypeInfo) (z : Value) (size bytes : Nat) (ht : P.underlying t = some (.slice e)) (hi : P.info? e = some i) (hz : i.zero = some z)
    (hsize : i.size = size) (hby : i.bytes = bytes) (hzs : z.cells.size = size) (hsz : 0 < size)
    (v : Value) (n : Nat) (xs : List Value) (hs : a.eval s = v) (hown : w.ownsRow base e size v n xs)
    (base2 : Nat) (v2 : Value) (m : Nat) (ys : List Value) (hx : a.eval x = v2) (hown2 : w.ownsRow base2 e size v2 m ys) (h1 : ∀ u ∈ ys, u.oneCell' = true)
    (h63 : n + m ≤ maxLen) (hbytes : (n + m) * bytes ≤ 140737488355328) (hbase : base ≤ w.heap.size)
    (h : ∀ v' w', w'.ownsRow base e size v' (n + m) (xs ++ ys) → w.grownBy w' v.ownBlock → (v'.ownBlock = v.ownBlock ∨ v'.ownBlock = some w.heap.size) → wpList P ops Q rest (a.put o.dst v') w') :
    wpList P ops Q (o :: rest) a w := by
  have hl := hown2.1
  rcases hown2.2 with ⟨rfl, rfl⟩ | ⟨g, cap, cur, rfl, _⟩
  · have : ys = [] := List.eq_nil_of_length_eq_zero (by rw [hl]; simp)
    subst this
    refine wpList_append_own_none hgd s x t ho base e i size ht hi v n xs hs hown hx ?_
    exact h v w (by simpa using hown) ⟨rfl, rfl, rfl, Nat.le_refl _, fun _ _ _ => rfl⟩ (.inl rfl)
  · refine wpList_append_own_at _ hgd s x t ho base e i z size bytes ht hi hz hsize hby hzs hsz v n xs hs hown ⟨g, 0, none⟩ m cap ys hx hl (hown2.cells (g := g) rfl) h1 h63 hbytes hbase ?_
    intro v' w' h2 h3 _ h5
    exact h v' w' h2 h3 h5
theorem i32s_one (l : List Int) : ∀ u ∈ i32s l, u.oneCell' = true := by
  intro u hu
  simp only [i32s, List.mem_map] at hu
  obtain ⟨x, _, rfl⟩ := hu
  rfl

theorem wds_app : ∀ (s cur t : List UInt8), wds cur (s ++ 32 :: t) = wds cur s ++ wds [] t
  | [], cur, t => by
    rw [List.nil_append, wds, wds]
    have : blk (32 : UInt8).toNat = true := by decide
    rw [this]
    by_cases h : cur = []
    · simp [h]
    · simp [h]
  | c :: s, cur, t => by
    rw [List.cons_append, wds, wds, wds_app s [] t, wds_app s (cur ++ [c]) t]
    split
    · split <;> simp
    · rfl
theorem rnsW_acc : ∀ (x : List (List UInt8)) (acc : List Int), rnsW acc x = if (rnsW [] x).2 = 0 then (acc ++ (rnsW [] x).1, 0) else rnsW [] x
  | [], acc => by simp [rnsW]
  | y :: x, acc => by
    by_cases h : (hexE y).2 = 0
    · rw [rnsW_ok h, rnsW_ok h, rnsW_acc x (acc ++ [(hexE y).1]), rnsW_acc x ([] ++ [(hexE y).1])]
      by_cases h2 : (rnsW [] x).2 = 0
      · simp [h2]
      · simp [h2]
    · rw [rnsW_no h, rnsW_no h]
      simp [h]
theorem rnsW_app : ∀ (x y : List (List UInt8)) (acc : List Int), rnsW acc (x ++ y) = if (rnsW acc x).2 = 0 then rnsW (rnsW acc x).1 y else rnsW acc x
  | [], y, acc => by simp [rnsW]
  | z :: x, y, acc => by
    by_cases h : (hexE z).2 = 0
    · rw [List.cons_append, rnsW_ok h, rnsW_ok h]; exact rnsW_app x y _
    · rw [List.cons_append, rnsW_no h, rnsW_no h]; simp [h]
theorem rnsW_err : ∀ (x : List (List UInt8)) (acc : List Int), (rnsW acc x).2 ≠ 0 → (rnsW acc x).1 = []
  | [], acc, h => absurd rfl h
  | z :: x, acc, h => by
    by_cases h2 : (hexE z).2 = 0
    · rw [rnsW_ok h2] at *; exact rnsW_err x _ h
    · rw [rnsW_no h2]
theorem rns_join (s t : List UInt8) : rnsE (s ++ 32 :: t) = if (rnsE s).2 = 0 then (if (rnsE t).2 = 0 then ((rnsE s).1 ++ (rnsE t).1, 0) else rnsE t) else rnsE s := by
  unfold rnsE
  rw [wds_app, rnsW_app]
  split
  · rw [rnsW_acc]
  · rfl
theorem rnsW_len : ∀ (x : List (List UInt8)) (acc : List Int), (rnsW acc x).1.length ≤ acc.length + x.length
  | [], acc => by simp [rnsW]
  | z :: x, acc => by
    by_cases h : (hexE z).2 = 0
    · rw [rnsW_ok h]
      have := rnsW_len x (acc ++ [(hexE z).1])
      simp at this
      simp
      omega
    · rw [rnsW_no h]; simp
theorem rnsE_len (l : List UInt8) : (rnsE l).1.length ≤ l.length := by
  have h1 := rnsW_len (wds [] l) []
  have h2 := wds_len l []
  simp only [if_true] at h2
  unfold rnsE
  simp at h1
  omega
theorem bytR_fuel {a : List UInt8} : ∀ (f f' : Nat) (out l : List UInt8), l.length ≤ f → l.length ≤ f' → bytR a f out l = bytR a f' out l
  | f, f', out, [], _, _ => by rw [bytR_nil, bytR_nil]
  | 0, _, _, c :: l, h, _ => by simp at h
  | _, 0, _, c :: l, _, h => by simp at h
  | f + 1, f' + 1, out, c :: l, h, h' => by
    by_cases h1 : (c :: l).length < a.length + 2
    · rw [bytR_short (by simp) h1, bytR_short (by simp) h1]
    · cases h2 : digs 16 2 (((c :: l).drop a.length).take 2) with
      | none => rw [bytR_bad (by simp) h2, bytR_bad (by simp) h2]
      | some n =>
        cases h3 : a.isPrefixOf (c :: l) with
        | false => rw [bytR_no (by simp) h3, bytR_no (by simp) h3]
        | true =>
          rw [bytR_ok (by simp) h1 h2 h3, bytR_ok (by simp) h1 h2 h3]
          apply bytR_fuel <;> (rw [List.length_drop]; omega)
theorem bytR_join {a : List UInt8} : ∀ (f : Nat) (out l t o : List UInt8), l.length ≤ f → bytR a f out l = some o → ∀ f', l.length + t.length ≤ f' → bytR a f' out (l ++ t) = bytR a f' o t
  | f, out, [], t, o, _, h, f', _ => by rw [bytR_nil] at h; cases h; rfl
  | 0, _, c :: l, _, _, h, _, _, _ => by simp at h
  | f + 1, out, c :: l, t, o, hf, h, f', hf' => by
    by_cases h1 : (c :: l).length < a.length + 2
    · rw [bytR_short (by simp) h1] at h; cases h
    · cases h2 : digs 16 2 (((c :: l).drop a.length).take 2) with
      | none => rw [bytR_bad (by simp) h2] at h; cases h
      | some n =>
        cases h3 : a.isPrefixOf (c :: l) with
        | false => rw [bytR_no (by simp) h3] at h; cases h
        | true =>
          rw [bytR_ok (by simp) h1 h2 h3] at h
          obtain ⟨g, rfl⟩ : ∃ g, f' = g + 1 := ⟨f' - 1, by simp at hf'; omega⟩
          have e1 : ((c :: l) ++ t).drop a.length = (c :: l).drop a.length ++ t := List.drop_append_of_le_length (by omega)
          have e2 : ((c :: l) ++ t).drop (a.length + 2) = (c :: l).drop (a.length + 2) ++ t := List.drop_append_of_le_length (by omega)
          have e3 : (((c :: l) ++ t).drop a.length).take 2 = ((c :: l).drop a.length).take 2 := by
            rw [e1, List.take_append_of_le_length (by rw [List.length_drop]; omega)]
          have e4 : a.isPrefixOf ((c :: l) ++ t) = true := by
            rw [List.isPrefixOf_iff_prefix] at h3 ⊢
            exact h3.trans (List.prefix_append _ _)
          rw [bytR_ok (by simp) (by rw [List.length_append]; omega) (by rw [e3]; exact h2) e4, e2]
          have hl : ((c :: l).drop (a.length + 2)).length ≤ f := by rw [List.length_drop]; omega
          have hl2 : ((c :: l).drop (a.length + 2)).length + t.length ≤ g := by rw [List.length_drop]; omega
          rw [bytR_join f _ _ t o hl h g hl2]
          exact bytR_fuel _ _ _ _ (by omega) (by omega)
theorem bytR_acc {a : List UInt8} : ∀ (f : Nat) (out l : List UInt8), bytR a f out l = (bytR a f [] l).map (out ++ ·)
  | f, out, [] => by rw [bytR_nil, bytR_nil]; simp
  | 0, _, c :: l => rfl
  | f + 1, out, c :: l => by
    by_cases h1 : (c :: l).length < a.length + 2
    · rw [bytR_short (by simp) h1, bytR_short (by simp) h1]; rfl
    · cases h2 : digs 16 2 (((c :: l).drop a.length).take 2) with
      | none => rw [bytR_bad (by simp) h2, bytR_bad (by simp) h2]; rfl
      | some n =>
        cases h3 : a.isPrefixOf (c :: l) with
        | false => rw [bytR_no (by simp) h3, bytR_no (by simp) h3]; rfl
        | true =>
          rw [bytR_ok (by simp) h1 h2 h3, bytR_ok (by simp) h1 h2 h3, bytR_acc f (out ++ _), bytR_acc f ([] ++ _), Option.map_map]
          congr 1
          funext x
          simp
theorem byt_join {a s t x y : List UInt8} (h1 : bytE a s = (x, 0)) (h2 : bytE a t = (y, 0)) : bytE a (s ++ t) = (x ++ y, 0) := by
  unfold bytE at h1 h2
  split at h1
  · simp at h1
  · rename_i hs
    split at h2
    · simp at h2
    · cases e1 : bytR a s.length [] s with
      | none => rw [e1] at h1; simp at h1
      | some o =>
        cases e2 : bytR a t.length [] t with
        | none => rw [e2] at h2; simp at h2
        | some p =>
          rw [e1] at h1
          rw [e2] at h2
          simp at h1 h2
          subst h1 h2
          apply bytE_some (by simp [hs])
          rw [List.length_append, bytR_join s.length [] s t o (Nat.le_refl _) e1 _ (Nat.le_refl _), bytR_acc, bytR_fuel _ t.length _ _ (by omega) (Nat.le_refl _), e2]
          rfl
theorem bytE_cases (a l : List UInt8) : (bytE a l).2 = 0 ∨ (bytE a l).2 = 10 := by
  unfold bytE
  split
  · right; rfl
  · split
    · right; rfl
    · left; rfl
theorem bytE_len (a l : List UInt8) : (bytE a l).1.length ≤ l.length := by
  have key : ∀ (f : Nat) (out l o : List UInt8), bytR a f out l = some o → o.length ≤ out.length + l.length := by
    intro f
    induction f with
    | zero => intro out l o h; cases l with
      | nil => rw [bytR_nil] at h; cases h; simp
      | cons c l => cases h
    | succ f ih =>
      intro out l o h
      cases l with
      | nil => rw [bytR_nil] at h; cases h; simp
      | cons c l =>
        by_cases h1 : (c :: l).length < a.length + 2
        · rw [bytR_short (by simp) h1] at h; cases h
        · cases h2 : digs 16 2 (((c :: l).drop a.length).take 2) with
          | none => rw [bytR_bad (by simp) h2] at h; cases h
          | some n =>
            cases h3 : a.isPrefixOf (c :: l) with
            | false => rw [bytR_no (by simp) h3] at h; cases h
            | true =>
              rw [bytR_ok (by simp) h1 h2 h3] at h
              have := ih _ _ _ h
              rw [List.length_drop] at this
              simp at this h1
              simp
              omega
  unfold bytE
  split
  · simp
  · split
    · simp
    · rename_i o h
      have := key _ _ _ _ h
      simpa using this
def RnSl (w : World) (x : List Int × Int) (e : Ending) (w' : World) : Prop := ∃ A c, e = .returned (.tuple #[.slice A x.1.length c, .int .i64 x.2]) ∧ w'.ownsRow w.heap.size 21 1 (.slice A x.1.length c) x.1.length (i32s x.1) ∧ Ints .i32 w' A x.1 ∧ Below w.heap.size w w'
theorem runes_sl (s : ByteArray) (w : World) (hs : s.size ≤ 100000) : Calls Tryd.prog 63 #[.string s] w (RnSl w (rnsE s.data.toList)) := by
  refine (runes_any s w hs).mono ?_
  rintro e w' ⟨v, he, ho, hb⟩
  obtain ⟨A, c, rfl, hi⟩ := own_ints ho
  exact ⟨A, c, he, ho, hi, hb⟩
theorem Ints.grown {kd : IntKind} {w w' : World} {A : Option Addr} {l : List Int} {r : Option Nat} (h : Ints kd w A l) (hg : w.grownBy w' r) (hr : ∀ b off, A = some ⟨b, off, none⟩ → r ≠ some b) : Ints kd w' A l := fun i hi => by
  obtain ⟨b, off, e, hl, hc⟩ := h i hi
  refine ⟨b, off, e, Nat.lt_of_lt_of_le hl hg.size, ?_⟩
  rw [← hc]
  exact World.cell?_of_block (hg.block b hl (fun e' => hr b off e e'.symm))

end Go.Proofs.YtajhgbcgbgpcjaaDoor.Fi

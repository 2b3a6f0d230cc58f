import Derived.Test.YtagbeioooohbgaaGreatDoorM04
import Derived.Test.YtagbeioooohbgaaGreatDoorM12
import Derived.Test.YtagbeioooohbgaaGreatDoorM03
import Derived.Test.YtagbeioooohbgaaGreatDoorM09
import Derived.WideKeyPair
import Derived.Maps.OwnSet
namespace Go.Proofs.YtagbeioooohbgaaGreatDoor.Ba
open Go.RowKit Go.Maps Uc Ha
open Fi (scal scal_bd)
open Tr (law21 own_keep own_one wf32 isKey_int int_ne)

/-! What a base of the program is in memory. -/
abbrev wfR (r : Int) : Prop := (Lit.int .i32 r).wf = true
theorem wfR_of {r : Int} (h0 : -2147483648 ≤ r) (h1 : r ≤ 2147483647) : wfR r := wf32 h0 h1
theorem wfR_scal {r : Int} (h : scal r = true) : wfR r := by have := scal_bd h; exact wfR_of (by omega) (by omega)
theorem keyR {r : Int} (h : wfR r) : keyOf Tryz.prog 21 (.int .i32 r) = some (.int .i32 r) := keyOf_int_mk Tryz.underlying21 h
theorem arr2 : Go.WideMaps.ArrKey Tryz.prog 67 21 2 := ⟨Tryz.underlying67, by kernel_rfl, by kernel_rfl, by kernel_rfl⟩
theorem law2 : Keyed Tryz.prog 67 := Keyed.of_law arr2.law
def kl2 (a b : Int) : Lit := .string (keyBytes [.int .i32 a, .int .i32 b])
theorem types1 : ∃ m, Tryz.prog.types.size = m + 1 := ⟨Tryz.prog.types.size - 1, by
  have h : (0 < Tryz.prog.types.size) := of_decide_eq_true (by kernel_rfl)
  omega⟩
theorem key2 {a b : Int} (ha : wfR a) (hb : wfR b) : keyOf Tryz.prog 67 (.agg #[.int .i32 a, .int .i32 b]) = some (kl2 a b) :=
  Go.WideMaps.keyOf_pair arr2 Tryz.underlying21 types1 ha hb
theorem kl2_ne {a b c d : Int} (ha : wfR a) (hb : wfR b) (hc : wfR c) (hd : wfR d) (h : ¬ (a = c ∧ b = d)) : kl2 a b ≠ kl2 c d := fun e => by
  have h1 := key2 ha hb
  rw [e] at h1
  have h2 := law2.inj h1 (key2 hc hd)
  simp only [Value.agg.injEq, Array.mk.injEq, List.cons.injEq, Value.int.injEq, true_and, and_true] at h2
  exact h h2
theorem isKey2 (a b : Int) : WideAt.IsKeyLit (kl2 a b) := by trivial

/-! how a parting reads -/
def adrD : Option Addr → Option (DataW Unit)
  | none => some .nil
  | some ⟨b, o, none⟩ => some (.agg [.lit (.int .i64 b), .lit (.int .i64 o)])
  | some ⟨_, _, some _⟩ => none
theorem adrD_inj {A B : Option Addr} {d : DataW Unit} (h : adrD A = some d) (k : adrD B = some d) : A = B := by
  unfold adrD at h k
  split at h <;> split at k
  · rfl
  · cases h; cases k
  · cases k
  · cases h; cases k
  · cases h
    simp only [Option.some.injEq, DataW.agg.injEq, List.cons.injEq, DataW.lit.injEq, Lit.int.injEq, true_and, and_true] at k
    obtain ⟨k1, k2⟩ := k
    have e1 := Int.ofNat.inj k1
    have e2 := Int.ofNat.inj k2
    subst e1
    subst e2
    rfl
  · cases k
  · cases h
  · cases h
  · cases h
def parE (v : Value) : Option (DataW Unit × List MemPlace) :=
  match v with
  | .agg ⟨[.string s, .slice A n c]⟩ => (adrD A).map fun d => (.agg [.lit (.string s.data.toList), d, .lit (.int .i64 n), .lit (.int .i64 c)], [])
  | _ => none
def parV (kd : List UInt8) (A : Option Addr) (n c : Nat) : Value := .agg #[.string ⟨kd.toArray⟩, .slice A n c]
def parD (kd : List UInt8) (a : DataW Unit) (n c : Nat) : DataW Unit := .agg [.lit (.string kd), a, .lit (.int .i64 n), .lit (.int .i64 c)]
theorem parE_V {kd : List UInt8} {A : Option Addr} {n c : Nat} {a : DataW Unit} (h : adrD A = some a) : parE (parV kd A n c) = some (parD kd a n c, []) := by
  simp [parE, parV, parD, h]
theorem parE_inv {v : Value} {kd : List UInt8} {A : Option Addr} {n c : Nat} {a : DataW Unit} {ps : List MemPlace} (ha : adrD A = some a) (h : parE v = some (parD kd a n c, ps)) : v = parV kd A n c := by
  unfold parE at h
  split at h
  · rename_i s B m e
    rw [Option.map_eq_some_iff] at h
    obtain ⟨d, hd, h⟩ := h
    simp only [parD, Prod.mk.injEq, DataW.agg.injEq, List.cons.injEq, DataW.lit.injEq, Lit.string.injEq, Lit.int.injEq, true_and, and_true] at h
    obtain ⟨⟨h1, h2, h3, h4⟩, _⟩ := h
    have e3 := Int.ofNat.inj h3
    have e4 := Int.ofNat.inj h4
    subst h2 e3 e4
    have := adrD_inj hd ha
    subst this
    unfold parV
    congr 4
    rw [← h1]
  · cases h
/-- Nothing is parted so. -/
def zd : DataW Unit := parD [] .nil 0 0
theorem zd_E : parE (parV [] none 0 0) = some (zd, []) := parE_V rfl
theorem zdV_inv {v : Value} {ps : List MemPlace} (h : parE v = some (zd, ps)) : v = parV [] none 0 0 := parE_inv (A := none) rfl h

/-- The map of what rows part. -/
structure ParIs (w : World) (D : DataW Unit) (K : List Rw) : Prop where
  has : ∀ r, Maps.has D (.int .i32 r) = K.any fun x => decide (x.fr = r)
  at_ : ∀ x ∈ K, ∃ b o c, D.atKey (.int .i32 x.fr) zd = parD x.kd (.agg [.lit (.int .i64 (b : Nat)), .lit (.int .i64 (o : Nat))]) x.into.length c ∧ Ints .i32 w (some ⟨b, o, none⟩) x.into
  no : ∀ r, (∀ x ∈ K, x.fr ≠ r) → D.atKey (.int .i32 r) zd = zd
theorem ParIs.below {w w' : World} {D : DataW Unit} {K : List Rw} (h : ParIs w D K) (hb : Below w.heap.size w w') : ParIs w' D K :=
  ⟨h.has, fun x hx => by obtain ⟨b, o, c, h1, h2⟩ := h.at_ x hx; exact ⟨b, o, c, h1, h2.below hb⟩, h.no⟩
theorem ParIs.nil (w : World) : ParIs w (.map []) [] := ⟨fun _ => rfl, (fun x hx => by cases hx), fun _ _ => rfl⟩
theorem ParIs.put {w w' : World} {D : DataW Unit} {K : List Rw} (h : ParIs w D K) (hD : IsMap D) {x : Rw} (hn : ∀ y ∈ K, y.fr ≠ x.fr) {b o c : Nat} (hk : ∀ y ∈ K, ∀ A, Ints .i32 w A y.into → Ints .i32 w' A y.into) (hi : Ints .i32 w' (some ⟨b, o, none⟩) x.into) :
    ParIs w' (D.put (.int .i32 x.fr) (parD x.kd (.agg [.lit (.int .i64 b), .lit (.int .i64 o)]) x.into.length c)) (K ++ [x]) := by
  refine ⟨fun r => ?_, fun y hy => ?_, fun r hr => ?_⟩
  · by_cases e : r = x.fr
    · subst e; rw [has_put_same hD (isKey_int _)]; simp
    · rw [has_put_other (int_ne e), h.has r]
      have : decide (x.fr = r) = false := by simpa using fun h => e h.symm
      simp [this]
  · rcases List.mem_append.1 hy with hy | hy
    · obtain ⟨b', o', c', h1, h2⟩ := h.at_ y hy
      exact ⟨b', o', c', by rw [atKey_put_other (int_ne (hn y hy)), h1], hk y hy _ h2⟩
    · simp only [List.mem_singleton] at hy
      subst hy
      exact ⟨b, o, c, by rw [atKey_put_same hD (isKey_int _)], hi⟩
  · have h1 : x.fr ≠ r := hr x (by simp)
    rw [atKey_put_other (int_ne fun e => h1 e.symm)]
    exact h.no r fun y hy => hr y (by simp [hy])
/-- The map of what two make. -/
structure MadIs (D : DataW Unit) (mk : List Rw) : Prop where
  has : ∀ a b, wfR a → wfR b → Maps.has D (kl2 a b) = (lkM mk a b).isSome
  at_ : ∀ a b, wfR a → wfR b → D.atKey (kl2 a b) (.lit (.int .i32 0)) = .lit (.int .i32 ((lkM mk a b).getD 0))
theorem MadIs.nil : MadIs (.map []) [] := ⟨fun _ _ _ _ => rfl, fun _ _ _ _ => rfl⟩
theorem MadIs.put {D : DataW Unit} {mk : List Rw} (h : MadIs D mk) (hD : IsMap D) {z : Rw} (hn : ∀ y ∈ mk, y.into ≠ z.into) {a b : Int} (e : z.into = [a, b]) (ha : wfR a) (hb : wfR b) : MadIs (D.put (kl2 a b) (.lit (.int .i32 z.fr))) (mk ++ [z]) := by
  refine ⟨fun c d hc hd => ?_, fun c d hc hd => ?_⟩
  · rw [lk_snoc hn]
    by_cases h1 : c = a ∧ d = b
    · obtain ⟨rfl, rfl⟩ := h1
      rw [has_put_same hD (isKey2 _ _), if_pos e]; rfl
    · rw [has_put_other (kl2_ne hc hd ha hb h1), h.has c d hc hd, if_neg]
      rw [e]
      simp only [List.cons.injEq, and_true]
      exact fun h2 => h1 ⟨h2.1.symm, h2.2.symm⟩
  · rw [lk_snoc hn]
    by_cases h1 : c = a ∧ d = b
    · obtain ⟨rfl, rfl⟩ := h1
      rw [atKey_put_same hD (isKey2 _ _), if_pos e]; rfl
    · rw [atKey_put_other (kl2_ne hc hd ha hb h1), h.at_ c d hc hd, if_neg]
      rw [e]
      simp only [List.cons.injEq, and_true]
      exact fun h2 => h1 ⟨h2.1.symm, h2.2.symm⟩
/-- The set of second ones. -/
def SecIs (D : DataW Unit) (mk : List Rw) : Prop := ∀ r, Maps.has D (.int .i32 r) = mk.any fun z => decide (z.into.getD 1 0 = r)
theorem SecIs.nil : SecIs (.map []) [] := fun _ => rfl
theorem SecIs.put {D : DataW Unit} {mk : List Rw} (h : SecIs D mk) (hD : IsMap D) (z : Rw) (d : DataW Unit) : SecIs (D.put (.int .i32 (z.into.getD 1 0)) d) (mk ++ [z]) := fun r => by
  rw [sec_snoc]
  by_cases e : r = z.into.getD 1 0
  · subst e; rw [has_put_same hD (isKey_int _)]; simp
  · rw [has_put_other (int_ne e), h r]
    have : decide (z.into.getD 1 0 = r) = false := by simpa using fun h => e h.symm
    rw [this, Bool.or_false]

/-- A map of the program, of at most n entries. -/
def Mp (w : World) (k : TypeId) (R : Value → Option (DataW Unit × List MemPlace)) (b m : Nat) (Q : DataW Unit → Prop) : Prop := ∃ n D, n ≤ m ∧ w.ownsMap Tryz.prog k R b n D ∧ Q D
theorem Mp.lt {w : World} {k : TypeId} {R : Value → Option (DataW Unit × List MemPlace)} {b m : Nat} {Q : DataW Unit → Prop} (h : Mp w k R b m Q) : b < w.heap.size := by
  obtain ⟨n, D, _, h1, _⟩ := h
  exact h1.lt
theorem own_at {w w' : World} {k : TypeId} {R : Value → Option (DataW Unit × List MemPlace)} {b n : Nat} {D : DataW Unit} (h : w.ownsMap Tryz.prog k R b n D) (hk : w'.heap[b]? = w.heap[b]?) : w'.ownsMap Tryz.prog k R b n D := by
  obtain ⟨es, clock, hb, r⟩ := h
  exact ⟨es, clock, hk.trans hb, r⟩
theorem Mp.on {w w' : World} {k : TypeId} {R : Value → Option (DataW Unit × List MemPlace)} {b m : Nat} {Q Q' : DataW Unit → Prop} (h : Mp w k R b m Q) (hk : w'.heap[b]? = w.heap[b]?) (hQ : ∀ D, Q D → Q' D) : Mp w' k R b m Q' := by
  obtain ⟨n, D, h0, h1, h2⟩ := h
  exact ⟨n, D, h0, own_at h1 hk, hQ D h2⟩
theorem Mp.not_cells {w : World} {k : TypeId} {R : Value → Option (DataW Unit × List MemPlace)} {b m : Nat} {Q : DataW Unit → Prop} (h : Mp w k R b m Q) {c : Nat} {cs : List Value} {t : TypeId} (hB : Tr.Bk w c cs t) : c ≠ b := fun e => by
  subst e
  obtain ⟨n, D, _, ⟨es, clock, hb2, _⟩, _⟩ := h
  have := hb2.symm.trans hB.blk
  cases this

/-- A base of the program. -/
structure Bs (w : World) (base X T P M S : Nat) (L mk : List Rw) : Prop where
  lo : base ≤ X
  loM : base ≤ M
  loS : base ≤ S
  blk : Tr.Bk w X [.pointer (some ⟨T, 0, none⟩), .map (some P), .map (some M), .map (some S)] 66
  tab : Tr.Tab w base T 0 (clsB L)
  par : Mp w 21 parE P 4096 fun D => ParIs w D (prR L)
  mad : Mp w 67 (plainElem Tryz.prog 21) M mk.length fun D => MadIs D mk
  sec : Mp w 21 unitElem S mk.length fun D => SecIs D mk
  fpM : ¬ Tr.fpT w T M
  fpS : ¬ Tr.fpT w T S
  pm : P ≠ M
  ps : P ≠ S
  ms : M ≠ S
theorem Bs.below {w w' : World} {base X T P M S : Nat} {L mk : List Rw} (h : Bs w base X T P M S L mk) (hb : Below w.heap.size w w') : Bs w' base X T P M S L mk :=
  ⟨h.lo, h.loM, h.loS, h.blk.below hb, h.tab.below hb, h.par.on (hb.block P h.par.lt) (fun _ k => k.below hb), h.mad.on (hb.block M h.mad.lt) (fun _ k => k), h.sec.on (hb.block S h.sec.lt) (fun _ k => k),
   (fun k => h.fpM ((h.tab.fpon (fun j hj _ => hb.block j hj) M).1 k)), (fun k => h.fpS ((h.tab.fpon (fun j hj _ => hb.block j hj) S).1 k)), h.pm, h.ps, h.ms⟩
/-- The value of a base: nil, or where one lies. -/
def BV (w : World) (v : Value) (L mk : List Rw) : Prop := (v = .pointer none ∧ L = [] ∧ mk = []) ∨ ∃ base X T P M S, v = .pointer (some ⟨X, 0, none⟩) ∧ Bs w base X T P M S L mk
theorem BV.below {w w' : World} {v : Value} {L mk : List Rw} (h : BV w v L mk) (hb : Below w.heap.size w w') : BV w' v L mk := by
  rcases h with h | ⟨base, X, T, P, M, S, e, h⟩
  · exact .inl h
  · exact .inr ⟨base, X, T, P, M, S, e, h.below hb⟩

end Go.Proofs.YtagbeioooohbgaaGreatDoor.Ba

import Derived.Test.YtagbeioooohbgaaGreatDoorM12
import Derived.Test.YtagbeioooohbgaaGreatDoorCr
import Derived.Sort.MapsRangeIn
import Derived.RangeFuncStops
import Derived.Maps.OwnIn
import Derived.RangeFuncBox
import Derived.RangeFuncFrom
import Derived.OwnWalkIn
section
namespace Go.Proofs.YtagbeioooohbgaaGreatDoor.Tr
open Go.RowKit Go.Maps Go.Shelf

attribute [local go_sem] Oper.semAt_some

/-- The keys that have come. -/
def Coll (D : DataW Unit) (left : Lit → Bool) (ss : List Int) : Prop := ss.Nodup ∧ ∀ x : Int, x ∈ ss ↔ (Maps.has D (.int .i32 x) = true ∧ left (.int .i32 x) = false)
theorem Coll.start (D : DataW Unit) : Coll D (Maps.has D) [] := ⟨List.nodup_nil, fun x => by
  constructor
  · intro h; cases h
  · rintro ⟨h1, h2⟩; rw [h1] at h2; cases h2⟩
theorem Coll.step {D : DataW Unit} {left : Lit → Bool} {ss : List Int} {x : Int} (h : Coll D left ss) (hl : left (.int .i32 x) = true) (hd : Maps.has D (.int .i32 x) = true) :
    Coll D (fun z => left z && !z.sameKey (.int .i32 x)) (ss ++ [x]) := by
  have hn : x ∉ ss := fun e => by have := ((h.2 x).1 e).2; rw [hl] at this; cases this
  refine ⟨List.nodup_append.2 ⟨h.1, by simp, fun a ha b hb e => ?_⟩, fun y => ?_⟩
  · simp only [List.mem_singleton] at hb
    subst hb; subst e
    exact hn ha
  · rw [List.mem_append, List.mem_singleton, h.2 y]
    by_cases e : y = x
    · subst e
      simp [hd, WideAt.sameKey_self (isKey_int _)]
    · have hk := sameKey_ne (int_ne e)
      simp [e, hk]
def encZ (x : Int) : Value := .int .i32 x
theorem encZ_one (x : Int) : (encZ x).oneCell' = true := rfl
/-- What maps.Keys gives. -/
def AllKeys (D : DataW Unit) (ss : List Int) : Prop := ss.Nodup ∧ ∀ x : Int, x ∈ ss ↔ Maps.has D (.int .i32 x) = true

end Go.Proofs.YtagbeioooohbgaaGreatDoor.Tr
end
section
namespace Go.Proofs.YtagbeioooohbgaaGreatDoor.Tr
open Go.RowKit Go.Maps Go.Shelf

attribute [local go_sem] Oper.semAt_some

theorem info21 : (Tryz.prog.info? 21).map (fun i => (i.zero, i.size, i.bytes)) = some (some (.int .i32 0), 1, 4) := by kernel_rfl
set_option maxHeartbeats 4000000 in
set_option maxRecDepth 100000 in
theorem appendSeq_any (G : Nat) (lb : Array Value) (eG : ∀ args w, (callFunc G args).run Tryz.prog w = .ok (.enter G args) w) (S Sp : List Int → Prop) (N : Nat) (hN : N ≤ 100000) (w : World)
    (hs : ∀ W, Below w.heap.size w W → SeqStops Fence.wide 4 Tryz.prog G lb encZ S Sp N W) :
    Calls Tryz.prog 87 #[.slice none 0 0, .func (.func G) #[] lb] w fun e w' => ∃ v ss, e = .returned v ∧ S ss ∧ w'.ownsRow w.heap.size 21 1 v ss.length (ss.map encZ) ∧ (v = .slice none 0 0 ↔ ss = []) ∧ Below w.heap.size w w' := by
  obtain ⟨i0, hi0, hz0, hz1, hz2⟩ := info_parts info21
  have I0 := Lib.hid hi0
  have I1 := Lib.hid hz0
  have I2 := Lib.hid hz1
  have I3 := Lib.hid hz2
  clear hi0 hz0 hz1 hz2
  refine calls_marks Tryz.func87 rfl ?_
  simp only [Tryz.ntmps87, List.size_toArray, List.length_cons, List.length_nil, Nat.reduceAdd, Nat.reduceSub, Array.replicate_succ, Array.replicate_zero, List.push_toArray, List.append_toArray, List.nil_append, List.cons_append]
  go_wp2_with fail
  obtain ⟨W0, hW0⟩ : ∃ W0, W0 = w.alloc (.cells #[.slice none 0 0] 32) := ⟨_, rfl⟩
  rw [← hW0]
  have hB0 : Boxed W0 w.heap.size 32 (.slice none 0 0) := by rw [hW0]; exact Boxed.new w 32 _
  have D0 : Below w.heap.size w W0 := by rw [hW0]; exact (Below.refl _ w).alloc (Nat.le_refl _) _
  have hz0 : W0.heap.size = w.heap.size + 1 := by rw [hW0]; simp
  clear hW0
  refine wp_of_wide (wpIn_rangeFunc_ownF (α := Int) (encs := fun x => #[encZ x]) (Kp := KeepsWalks) rfl (by omega) (gf := G) (lb := lb) rfl trivial eG (hs W0 D0) walksK_t walksK_b (Below.refl _ _) (fun _ => rfl)
    (fun pre W => (∃ v, Boxed W w.heap.size 32 v ∧ W.ownsRow w.heap.size 21 1 v pre.length (pre.map encZ) ∧ (v = .slice none 0 0 ↔ pre = [])) ∧ Below w.heap.size w W)
    (fun _ _ _ => False)
    (OwnFrom.and (Own.from (holdsRow_own w.heap.size w.heap.size 32 21 1 (fun pre : List Int => pre.length) (fun pre => pre.map encZ) (fun pre v => v = .slice none 0 0 ↔ pre = [])) _) (ownFrom_below (Nat.le_refl _) (by omega)))
    (fun _ _ _ _ _ hs _ _ => hs)
    ⟨⟨_, hB0, World.ownsRow_nil _ _ _ _, by simp⟩, D0⟩
    ?a1 ?assign ?body ?done ?stop)
  case a1 => exact fun x => { tmps := #[.slice none 0 0, .func (.func G) #[] lb, .pointer (some ⟨w.heap.size, 0, none⟩), undef, .slice none 0 0, encZ x, .func (.func G) #[] lb, encZ x, undef, undef, undef, undef, undef], defers := [] }
  case assign =>
    intro l x W K hK
    unfold encZ at hK ⊢
    gi_wp2
    exact hK
  case stop =>
    rintro D c pre W _ _ h _
    exact h.elim
  case body =>
    rintro l pre x W ⟨⟨v, hv, hrow, hnil⟩, hB⟩ hlen
    have hvc := hv.cell
    have hle := hB.size
    obtain ⟨A, c, rfl, _⟩ := own_slice hrow
    have HN := Lib.hid hnil
    clear hnil
    unfold encZ
    gi_wp2_with (gi_at_builtin; refine wpListIn_append_own _ rfl _ _ 32 rfl w.heap.size 21 i0 (.int .i32 0) 1 4 Tryz.underlying32 I0.out I1.out I2.out I3.out rfl (by decide) _ _ _ rfl (hrow.alloc _) ⟨W.heap.size, 0, none⟩ 1 1 [.int .i32 x] rfl rfl (cell_one_new _ _ _) (by simp [Value.oneCell']) (by unfold maxLen; omega) (by omega) (by simp; omega) ?_; intro v' w1 hown' hgrow _; obtain ⟨g', cap', rfl⟩ := ownsRow_succ hown'; obtain ⟨hv1, hv2, hr2, hk2, hb2⟩ := hv.appended (by decide) hrow hB.size (Nat.le_refl _) hown' hgrow; have hc1 := hv1.cell; have hf1 := hv1.frozen)
    refine ⟨hk2, hk2.walks, ⟨_, hv2, ?_, by simp⟩, hB.trans hb2⟩
    rw [List.map_append, List.length_append]
    exact hr2
  case done =>
    rintro D ys W hD hS ⟨⟨v, hv, hrow, hnil⟩, hB⟩ hK
    have hvc := hv.cell
    have HK := Lib.hid hK
    have HB := Lib.hid hB
    have HR := Lib.hid hrow
    have HN := Lib.hid hnil
    clear hK hB hrow hnil
    go_wp2_with fail
    refine leave_mark HK.out (leave_nil (results_tmp rfl _ _ _) ⟨v, ys, rfl, hS, ?_, HN.out, ?_⟩)
    · exact ownsRow_putObj HR.out _ HK.out rfl
    · exact below_put HB.out (by omega)

end Go.Proofs.YtagbeioooohbgaaGreatDoor.Tr
end

import Derived.Test.YtfjckdjnnbpcnaaYK
import Derived.RangeFuncBox
import Derived.RangeFuncFrom
import Derived.OwnWalkIn
namespace Go.Proofs.Ytfjckdjnnbpcnaa.Tr
open Go.RowKit Go.Maps Go.Shelf

attribute [local go_sem] Oper.semAt_some

theorem info21 : (Try.prog.info? 21).map (fun i => (i.zero, i.size, i.bytes)) = some (some (.int .i32 0), 1, 4) := by kernel_rfl
set_option maxHeartbeats 4000000 in
set_option maxRecDepth 100000 in
theorem appendSeq_any (G : Nat) (lb : Array Value) (eG : ∀ args w, (callFunc G args).run Try.prog w = .ok (.enter G args) w) (S Sp : List Int → Prop) (N : Nat) (hN : N ≤ 100000) (w : World)
    (hs : ∀ W, Below w.heap.size w W → SeqStops Fence.wide 4 Try.prog G lb encZ S Sp N W) :
    Calls Try.prog 59 #[.slice none 0 0, .func (.func G) #[] lb] w fun e w' => ∃ v ss, e = .returned v ∧ S ss ∧ w'.ownsRow w.heap.size 21 1 v ss.length (ss.map encZ) ∧ (v = .slice none 0 0 ↔ ss = []) ∧ Below w.heap.size w w' := by
  obtain ⟨i0, hi0, hz0, hz1, hz2⟩ := info_parts info21
  have I0 := Lib.hid hi0
  have I1 := Lib.hid hz0
  have I2 := Lib.hid hz1
  have I3 := Lib.hid hz2
  clear hi0 hz0 hz1 hz2
  refine calls_marks Try.func59 rfl ?_
  simp only [Try.ntmps59, List.size_toArray, List.length_cons, List.length_nil, Nat.reduceAdd, Nat.reduceSub, Array.replicate_succ, Array.replicate_zero, List.push_toArray, List.append_toArray, List.nil_append, List.cons_append]
  go_wp2_with fail
  obtain ⟨W0, hW0⟩ : ∃ W0, W0 = w.alloc (.cells #[.slice none 0 0] 100) := ⟨_, rfl⟩
  rw [← hW0]
  have hB0 : Boxed W0 w.heap.size 100 (.slice none 0 0) := by rw [hW0]; exact Boxed.new w 100 _
  have D0 : Below w.heap.size w W0 := by rw [hW0]; exact (Below.refl _ w).alloc (Nat.le_refl _) _
  have hz0 : W0.heap.size = w.heap.size + 1 := by rw [hW0]; simp
  clear hW0
  refine wp_of_wide (wpIn_rangeFunc_ownF (α := Int) (encs := fun x => #[encZ x]) (Kp := KeepsWalks) rfl (by omega) (gf := G) (lb := lb) rfl trivial eG (hs W0 D0) walksK_t walksK_b (Below.refl _ _) (fun _ => rfl)
    (fun pre W => (∃ v, Boxed W w.heap.size 100 v ∧ W.ownsRow w.heap.size 21 1 v pre.length (pre.map encZ) ∧ (v = .slice none 0 0 ↔ pre = [])) ∧ Below w.heap.size w W)
    (fun _ _ _ => False)
    (OwnFrom.and (Own.from (holdsRow_own w.heap.size w.heap.size 100 21 1 (fun pre : List Int => pre.length) (fun pre => pre.map encZ) (fun pre v => v = .slice none 0 0 ↔ pre = [])) _) (ownFrom_below (Nat.le_refl _) (by omega)))
    (fun _ _ _ _ _ hs _ _ => hs)
    ⟨⟨_, hB0, World.ownsRow_nil _ _ _ _, by simp⟩, D0⟩
    ?a1 ?assign ?body ?done ?stop)
  case a1 => exact fun x => { tmps := #[.slice none 0 0, .func (.func G) #[] lb, .pointer (some ⟨w.heap.size, 0, none⟩), undef, .slice none 0 0, encZ x, .func (.func G) #[] lb, encZ x, undef, undef, undef, undef, undef], defers := [] }
  case assign =>
    intro l x W K hK
    unfold encZ at hK ⊢
    gi_wp2
    exact hK
  case stop =>
    rintro D c pre W _ _ h _
    exact h.elim
  case body =>
    rintro l pre x W ⟨⟨v, hv, hrow, hnil⟩, hB⟩ hlen
    have hvc := hv.cell
    have hle := hB.size
    obtain ⟨A, c, rfl, _⟩ := own_slice hrow
    have HN := Lib.hid hnil
    clear hnil
    unfold encZ
    gi_wp2_with (gi_at_builtin; refine wpListIn_append_own _ rfl _ _ 100 rfl w.heap.size 21 i0 (.int .i32 0) 1 4 Try.underlying100 I0.out I1.out I2.out I3.out rfl (by decide) _ _ _ rfl (hrow.alloc _) ⟨W.heap.size, 0, none⟩ 1 1 [.int .i32 x] rfl rfl (cell_one_new _ _ _) (by simp [Value.oneCell']) (by unfold maxLen; omega) (by omega) (by simp; omega) ?_; intro v' w1 hown' hgrow _; obtain ⟨g', cap', rfl⟩ := ownsRow_succ hown'; obtain ⟨hv1, hv2, hr2, hk2, hb2⟩ := hv.appended (by decide) hrow hB.size (Nat.le_refl _) hown' hgrow; have hc1 := hv1.cell; have hf1 := hv1.frozen)
    refine ⟨hk2, hk2.walks, ⟨_, hv2, ?_, by simp⟩, hB.trans hb2⟩
    rw [List.map_append, List.length_append]
    exact hr2
  case done =>
    rintro D ys W hD hS ⟨⟨v, hv, hrow, hnil⟩, hB⟩ hK
    have hvc := hv.cell
    have HK := Lib.hid hK
    have HB := Lib.hid hB
    have HR := Lib.hid hrow
    have HN := Lib.hid hnil
    clear hK hB hrow hnil
    go_wp2_with fail
    refine leave_mark HK.out (leave_nil (results_tmp rfl _ _ _) ⟨v, ys, rfl, hS, ?_, HN.out, ?_⟩)
    · exact ownsRow_putObj HR.out _ HK.out rfl
    · exact below_put HB.out (by omega)

end Go.Proofs.Ytfjckdjnnbpcnaa.Tr

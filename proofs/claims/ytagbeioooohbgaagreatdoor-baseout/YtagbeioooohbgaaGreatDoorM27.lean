import Derived.Test.YtagbeioooohbgaaGreatDoorM17
import Derived.Test.YtagbeioooohbgaaGreatDoorM26
import Derived.Test.YtagbeioooohbgaaGreatDoorCr
import Derived.Sort.MapsRangeIn
import Derived.RangeFuncStops
import Derived.Maps.OwnIn
import Derived.Test.YtagbeioooohbgaaGreatDoorM05
import Derived.Test.YtagbeioooohbgaaGreatDoorM29
section
namespace Go.Proofs.YtagbeioooohbgaaGreatDoor.Ba
open Go.RowKit Go.Maps Go.Shelf Uc Ha
open Fi (scal scal_bd)
open Tr (law21 own_keep own_one wf32 isKey_int int_ne Coll encZ AllKeys own_slice key_inv)

attribute [local go_sem] Oper.semAt_some

/-! Known: the keys of the map of partings, in order -/
theorem keys_call (w : World) (M : Nat) : Calls Tryz.prog 37 #[.map (some M)] w fun e w' => e = .returned (.func (.func 65) #[] #[.pointer (some ⟨w.heap.size, 0, none⟩)]) ∧ w' = w.alloc (.cells #[.map (some M)] 62) := by
  go_enter Tryz.func37, Tryz.ntmps37
  go_wp2_with fail
  go_ret
  exact ⟨rfl, rfl⟩
set_option maxRecDepth 100000 in
set_option maxHeartbeats 1000000 in
theorem keys_iter (n Bm M nn : Nat) (D : DataW Unit) (R : Value → Option (DataW Unit × List MemPlace)) (w : World) (hBm : Bm < w.heap.size) (hm : w.cell? ⟨Bm, 0, none⟩ = some (.map (some M))) (hown : w.ownsMap Tryz.prog 21 R M nn D) :
    SeqStops Fence.wide n Tryz.prog 65 #[.pointer (some ⟨Bm, 0, none⟩)] encZ (AllKeys D) (fun _ => True) (Maps.size D) w := fun l J Jx W hW hJ _ hY h0 => by
  have hm' := (hW.cell (p := ⟨Bm, 0, none⟩) hBm).trans hm
  have hown' := own_keep hown (hW.block M hown.lt)
  have HO := Lib.hid hown'
  clear hown hm hown'
  refine callsIn_of_wp Tryz.func65 rfl trivial ?_ rfl
  simp only [Tryz.ntmps65, List.size_toArray, List.length_cons, List.length_nil, Nat.reduceAdd, Nat.reduceSub, Array.replicate_succ, Array.replicate_zero, List.push_toArray, List.append_toArray, List.nil_append, List.cons_append]
  gi_wp2_with (gi_at_range; refine wpListIn_range_own _ rfl _ 62 rfl 21 75 law21 Tryz.underlying62 R M nn D rfl HO.out ?_; intro w0 hrg0 hg0 hs0)
  go_frame
  gi_loopw [3] (fun _ wr => ∃ (left : Lit → Bool) (cnt : Nat) (ss : List Int), wr.ranges Tryz.prog 21 R M W.heap.size nn D left cnt ∧ ss.length + cnt ≤ Maps.size D ∧ Coll D left ss ∧ J ss wr) (fun _ wr => wr.rangeLeft M W.heap.size)
  case atStart => exact ⟨_, _, [], hrg0, by simp, Coll.start D, hJ [] W w0 none h0 hg0 (fun r e => by cases e)⟩
  case round =>
    obtain ⟨left, cnt, ss, hrg, hcs, hC, hJs⟩ := hrel
    gi_wp2_with (gi_at_next; refine wpListIn_next_ranges _ rfl _ rfl 21 law21 R (Value.int .i32) id key_inv (fun v _ _ => ⟨v, rfl⟩) M W.heap.size nn D left cnt rfl hrg ?_ ?_)
    · intro hc0 hl0
      gi_wp2
      go_end0
      exact ⟨⟨_, rfl⟩, .inl ⟨ss, ⟨hC.1, fun x => by rw [hC.2 x, hl0]; simp⟩, hJs⟩⟩
    · intro x c kl yd yp w2 cnt2 hkey hlk hv hat hrg2 hlt hg2 hs2 hen
      obtain ⟨x', ex, rfl, _⟩ := Maps.keyOf_int_inv Tryz.underlying21 hkey
      cases ex
      have hJ2 : J ss w2 := hJ ss wr w2 (some W.heap.size) hJs hg2 (fun r e => by cases e; exact ⟨Nat.le_refl _, hrg.iter_walk⟩)
      obtain ⟨fn, tmps, assign, body, hy, hR⟩ := hY ss x w2 hJ2 (by omega)
      have hC2 := hC.step hlk (has_true_of_atKey hat)
      have HC2 := Lib.hid hC2
      clear hs2 hC2
      unfold encZ at hy
      gi_wp2
      refine ⟨fun h => (by cases h), hR.mono ?_⟩
      rintro e W3 (⟨rfl, hJ3, hk3⟩ | ⟨rfl, hJx3⟩)
      · gi_wp2
        have hrg3 := hrg2.of_walks hk3
        go_roundw
        case rel => exact ⟨_, cnt2, ss ++ [x], hrg3, by simp; omega, HC2.out, hJ3⟩
        case measure => rw [hrg3.left_eq, hrg.left_eq]; exact hlt
      · gi_wp2
        refine bodyPost_ret (results_none rfl _ _ _) rfl ?_
        exact ⟨⟨_, rfl⟩, .inr ⟨ss ++ [x], trivial, hJx3⟩⟩

/-- The keys are those that rows part. -/
theorem keys_perm {D : DataW Unit} {w : World} {L : List Rw} (hF : Frm L) (hp : ParIs w D (prR L)) {ss : List Int} (h : AllKeys D ss) : ss.Perm (knwB L) := by
  refine (List.perm_ext_iff_of_nodup h.1 (knw_nodup hF)).2 fun x => ?_
  rw [h.2 x, hp.has x, knw_eq, List.any_eq_true, List.mem_map]
  exact ⟨fun ⟨y, hy, e⟩ => ⟨y, hy, by simpa using e⟩, fun ⟨y, hy, e⟩ => ⟨y, hy, by simpa using e⟩⟩
theorem keys_sorted {L : List Rw} (hF : Frm L) {ss ks : List Int} (h : ss.Perm (knwB L)) (hp : ks.Perm ss) (hs : ks.Pairwise (· ≤ ·)) : ks = knwB L :=
  List.Perm.eq_of_pairwise (le := (· ≤ ·)) (fun a b _ _ h1 h2 => Int.le_antisymm h1 h2) hs ((knw_rise hF).imp fun h => by omega) (hp.trans h)
/-- What a round over a base's characters keeps: the rows of numbers but those of its own, and the boxes of bases and of functions. -/
structure KpO (O : World → Nat → Prop) (W W' : World) : Prop where
  size : W.heap.size ≤ W'.heap.size
  row : ∀ k cs t, Tr.Bk W k cs t → (t = 21 ∨ t = 26 ∨ t = 72) → ¬ O W k → W'.heap[k]? = W.heap[k]?
  own : ∀ k, O W' k → O W k ∨ W.heap.size ≤ k
theorem KpO.trans {O : World → Nat → Prop} {a b c : World} (h : KpO O a b) (k : KpO O b c) : KpO O a c :=
  ⟨Nat.le_trans h.size k.size, fun i cs t hB ht hO => by
    have h1 := h.row i cs t hB ht hO
    exact (k.row i cs t (hB.on h1) ht (fun hb => (h.own i hb).elim hO (fun h2 => by have := hB.lt; omega))).trans h1,
   fun i hi => (k.own i hi).elim (h.own i) (fun h2 => .inr (Nat.le_trans h.size h2))⟩
/-- What is said of the blocks that a round may turn. -/
structure OwnO (O : World → Nat → Prop) (w : World) : Prop where
  lt : ∀ k, O w k → k < w.heap.size
  on : ∀ W W' : World, (∀ k, k < w.heap.size → W'.heap[k]? = W.heap[k]?) → ∀ k, O W' k → O W k
theorem OwnO.none (w : World) : OwnO (fun _ _ => False) w := ⟨fun _ h => h.elim, fun _ _ _ _ h => h⟩
theorem krow_at {w : World} {b n k c : Nat} {A : Option Addr} {K : List Int} (h : w.ownsRow b 21 1 (.slice A n c) n (K.map encZ)) (hk : k < K.length) :
    ∃ G, A = some ⟨G, 0, none⟩ ∧ w.cell? ⟨G, k, none⟩ = some (.int .i32 K[k]) := by
  have hl := h.1
  simp only [List.length_map, Nat.mul_one] at hl
  rcases h.2 with ⟨h1, h2⟩ | ⟨g, cap, cur, h1, h2, h3, h4, h5, h6, h7⟩
  · omega
  · cases h1
    refine ⟨g, rfl, ?_⟩
    have h8 : cur.toList[k]? = some (.int .i32 K[k]) := by
      have h9 := congrArg (fun l : List Value => l[k]?) h7
      simp only [Nat.mul_one] at h9
      rw [List.getElem?_take_of_lt (by omega)] at h9
      rw [h9]
      simp [encZ, hk]
    simp only [World.cell?, h3]
    simpa using h8
theorem row_kept {O : World → Nat → Prop} {w w' : World} {b n : Nat} {v : Value} {xs : List Value} (h : w.ownsRow b 21 1 v n xs) (hk : KpO O w w') (hO : ∀ g, v.ownBlock = some g → ¬ O w g) : w'.ownsRow b 21 1 v n xs := by
  refine ⟨h.1, ?_⟩
  rcases h.2 with h1 | ⟨g, cap, cur, h1, h2, h3, h4⟩
  · exact .inl h1
  · exact .inr ⟨g, cap, cur, h1, h2, (hk.row g cur.toList 21 ⟨by simpa using h3⟩ (.inl rfl) (hO g (by rw [h1]; rfl))).trans h3, h4⟩
theorem not_more {O : World → Nat → Prop} {w w' : World} {b n : Nat} {e : TypeId} {v : Value} {xs : List Value} (h : w.ownsRow b e 1 v n xs) (hk : KpO O w w') (hO : ∀ g, v.ownBlock = some g → ¬ O w g) : ∀ g, v.ownBlock = some g → ¬ O w' g := fun g hg h2 => by
  rcases hk.own g h2 with h3 | h3
  · exact hO g hg h3
  · have := (h.lt g hg).2
    omega
theorem known_call (w : World) (bv : Value) (hv : bv.oneCell' = true) : Calls Tryz.prog 16 #[bv] w fun e w' => e = .returned (.func (.func 35) #[] #[.pointer (some ⟨w.heap.size, 0, none⟩)]) ∧ w' = w.alloc (.cells #[bv] 26) := by
  go_enter Tryz.func16, Tryz.ntmps16
  go_wp2_with fail
  go_ret
  exact ⟨rfl, rfl⟩
abbrev Kn (L : List Rw) : Type := { r : Int // r ∈ knwB L }
def encK {L : List Rw} (x : Kn L) : Array Value := #[.int .i32 x.1]
theorem bv_one {w : World} {bv : Value} {L mk : List Rw} (h : BV w bv L mk) : bv.oneCell' = true := by
  rcases h with ⟨rfl, _⟩ | ⟨_, _, _, _, _, _, rfl, _⟩ <;> rfl

end Go.Proofs.YtagbeioooohbgaaGreatDoor.Ba
end
section
namespace Go.Proofs.YtagbeioooohbgaaGreatDoor.Ba
open Go.RowKit Go.Maps Go.Shelf Uc Ha
open Fi (scal scal_bd)
open Tr (law21 own_keep own_one wf32 isKey_int int_ne Coll encZ AllKeys key_inv)

attribute [local go_sem] Oper.semAt_some

theorem take_attach {K : List Int} {k : Nat} (hk : k < K.length) : K.attach.take (k + 1) = K.attach.take k ++ [⟨K[k], List.getElem_mem hk⟩] := by
  rw [List.take_succ_eq_append_getElem (by simpa using hk)]
  simp
set_option maxRecDepth 100000 in
set_option maxHeartbeats 4000000 in
theorem known_iter (O : World → Nat → Prop) (n Bt : Nat) (bv : Value) (L mk : List Rw) (w : World) (hF : Frm L) (hl : (knwB L).length ≤ 100000) (hB : BV w bv L mk) (hbx : Tr.Bk w Bt [bv] 26) (hO : OwnO O w) :
    SeqStopsK Fence.wide n Tryz.prog 35 #[.pointer (some ⟨Bt, 0, none⟩)] (encK (L := L)) (KpO O) (fun ys => ys = (knwB L).attach) (fun pre => pre <+: (knwB L).attach) (knwB L).length w := fun l J Jx W hW hJ _ hY h0 => by
  have hbW := hbx.below hW
  have cB := hbW.c (i := 0) rfl
  rcases hB with ⟨rfl, rfl, rfl⟩ | ⟨base, X, T, P, M, S, rfl, hB⟩
  · refine callsIn_of_wp Tryz.func35 rfl trivial ?_ rfl
    simp only [Tryz.ntmps35, List.size_toArray, List.length_cons, List.length_nil, Nat.reduceAdd, Nat.reduceSub, Array.replicate_succ, Array.replicate_zero, List.push_toArray, List.append_toArray, List.nil_append, List.cons_append]
    clear hbW hbx hF hO hl
    gi_wp2
    refine bodyPost_ret (results_none rfl _ _ _) rfl ?_
    exact ⟨⟨_, rfl⟩, .inl ⟨[], rfl, h0⟩⟩
  · have hBW := hB.below hW
    obtain ⟨nn, D, hnn, ho, hp⟩ := hBW.par
    have cX := hBW.blk.c (i := 1) rfl
    obtain ⟨K, hK⟩ : ∃ K, K = knwB L := ⟨_, rfl⟩
    obtain ⟨WA, hWA⟩ : ∃ x, x = W.alloc (.cells #[.map (some P)] 62) := ⟨_, rfl⟩
    have hbA : Below W.heap.size W WA := by rw [hWA]; exact (Below.refl _ W).alloc (Nat.le_refl _) _
    have hkA : Tr.Bk WA W.heap.size [.map (some P)] 62 := by rw [hWA]; exact ⟨heap_alloc_new W _⟩
    have HPerm := Lib.hid (fun ss (h : AllKeys D ss) => keys_perm hF hp h)
    have HSort := Lib.hid (fun (ss ks : List Int) (h : ss.Perm (knwB L)) (hp : ks.Perm ss) (hs : ks.Pairwise (· ≤ ·)) => keys_sorted hF h hp hs)
    have HS := Lib.hid (So.sorted_any 65 #[.pointer (some ⟨W.heap.size, 0, none⟩)] (enters_of Tryz.func65 (by kernel_rfl) rfl) (AllKeys D) (fun _ => True) (Maps.size D) (by have := ho.size_le; omega) WA
      (fun W2 hb2 => keys_iter 4 W.heap.size P nn D parE W2 (Nat.lt_of_lt_of_le hkA.lt hb2.size) ((hkA.below hb2).c (i := 0) rfl) (own_at (own_at ho (hbA.block P ho.lt)) (hb2.block P (Nat.lt_of_lt_of_le ho.lt hbA.size))))
      (fun ss hss => by rw [(HPerm.out ss hss).length_eq]; exact hl))
    have HOW := Lib.hid hO
    have HWW := Lib.hid hW
    have HBA := Lib.hid hbA
    have HKK := Lib.hid hK
    have hKl : K.length ≤ 100000 := by rw [hK]; exact hl
    obtain ⟨KA, hKA⟩ : ∃ KA, KA = (knwB L).attach := ⟨_, rfl⟩
    rw [← hKA]
    have HKA := Lib.hid hKA
    have hlen : K.length = KA.length := by rw [hKA, HKK.out]; simp
    have HLen := Lib.hid hlen
    have HYY := Lib.hid hY
    have HTK : Hid (∀ k (hk : k < K.length), ∃ x : Kn L, x.1 = K[k] ∧ KA.take (k + 1) = KA.take k ++ [x]) := Lib.hid fun k hk => by
      have e := HKK.out
      subst e
      exact ⟨⟨(knwB L)[k], List.getElem_mem hk⟩, rfl, by rw [HKA.out]; exact take_attach hk⟩
    clear hB hBW hbW hbx hF hO hl hnn ho hp hbA hkA hW hK hlen hKA hY
    refine callsIn_of_wp Tryz.func35 rfl trivial ?_ rfl
    simp only [Tryz.ntmps35, List.size_toArray, List.length_cons, List.length_nil, Nat.reduceAdd, Nat.reduceSub, Array.replicate_succ, Array.replicate_zero, List.push_toArray, List.append_toArray, List.nil_append, List.cons_append]
    gi_wp2
    refine ⟨trivial, fun h => (by cases h), (callsIn_wide.2 (keys_call _ _)).mono ?_⟩
    rintro e w1 ⟨rfl, rfl⟩
    gi_wp2
    rw [← hWA]
    refine ⟨trivial, fun h => (by cases h), (callsIn_wide.2 HS.out).mono ?_⟩
    rintro e w2 ⟨v, ss, ks, rfl, hss, hks, hkp, hrow, hbl⟩
    obtain rfl := HSort.out ss ks (HPerm.out ss hss) hks hkp
    rw [← HKK.out] at hrow
    obtain ⟨A, c, rfl, _⟩ := Tr.own_slice hrow
    have B2 := Lib.hid (HBA.out.trans (hbl.mono HBA.out.size))
    have R2 := Lib.hid hrow
    have hno : ∀ g, (Value.slice A K.length c).ownBlock = some g → ¬ O w2 g := fun g hg h2 => by
      have h3 := HOW.out.on W w2 (fun k hk => (HBA.out.trans (hbl.mono HBA.out.size)).block k (Nat.lt_of_lt_of_le hk HWW.out.size)) g h2
      have h4 := HOW.out.on w W HWW.out.block g h3
      have h5 := HOW.out.lt g h4
      have h6 := (R2.out.lt g hg).1
      have h7 := HBA.out.size
      have h8 := HWW.out.size
      omega
    have N2 := Lib.hid hno
    clear hss hks hkp hrow hbl hno
    have HJ2 : J [] w2 := hJ [] W w2 none h0 ⟨B2.out.os, B2.out.tape, B2.out.output, B2.out.size, fun i hi _ => B2.out.block i hi⟩ (fun r e => by cases e)
    obtain ⟨bs, hbs⟩ : ∃ bs, bs = WA.heap.size := ⟨_, rfl⟩
    rw [← hbs] at R2
    clear hbs hWA HS HBA B2 cB cX HPerm HSort HOW h0
    gi_wp2
    gi_loopw [14] (fun vk wr => ∃ k : Nat, vk = .int .i64 k ∧ k ≤ K.length ∧ Hid (wr.ownsRow bs 21 1 (.slice A K.length c) K.length (K.map encZ) ∧ ∀ g, (Value.slice A K.length c).ownBlock = some g → ¬ O wr g) ∧ J (KA.take k) wr) (fun vk _ => K.length - (intOf vk).toNat)
    case atStart => exact ⟨0, rfl, Nat.zero_le _, Lib.hid ⟨R2.out, N2.out⟩, HJ2⟩
    case round =>
      obtain ⟨k, rfl, hk, HR, hJr⟩ := hrel
      by_cases hlt : k < K.length
      · have hltI : (k : Int) < K.length := by omega
        obtain ⟨GB, rfl, hcr⟩ := krow_at HR.out.1 hlt
        obtain ⟨x, hx, hnx⟩ := HTK.out k hlt
        rw [← hx] at hcr
        have HNX := Lib.hid hnx
        have hxx := x.1
        have hkl : (KA.take k).length < (knwB L).length := by
          rw [List.length_take, ← HLen.out, ← HKK.out]; omega
        obtain ⟨fn, tmps, assign, body, hy, hR⟩ := HYY.out _ x wr hJr hkl
        clear hkl hnx hx
        unfold encK at hy
        gi_wp2
        refine ⟨fun h => (by cases h), hR.mono ?_⟩
        rintro e W3 (⟨rfl, hJ3, hk3⟩ | ⟨rfl, hJx3⟩)
        · have HK3 := Lib.hid hk3
          clear hk3
          gi_wp2
          go_roundw
          case rel => exact ⟨k + 1, by go_num, by omega, Lib.hid ⟨row_kept HR.out.1 HK3.out HR.out.2, not_more HR.out.1 HK3.out HR.out.2⟩, by rw [HNX.out]; exact hJ3⟩
          case measure => simp [intOf]; omega
        · gi_wp2
          refine bodyPost_ret (results_none rfl _ _ _) rfl ?_
          exact ⟨⟨_, rfl⟩, .inr ⟨_, by rw [← HNX.out]; exact List.take_prefix _ _, hJx3⟩⟩
      · have hltI : ¬ (k : Int) < K.length := by omega
        have hke : k = KA.length := by have := HLen.out; omega
        rw [hke, List.take_length] at hJr
        gi_wp2
        go_end0
        exact ⟨⟨_, rfl⟩, .inl hJr⟩

end Go.Proofs.YtagbeioooohbgaaGreatDoor.Ba
end
section
namespace Go.Proofs.YtagbeioooohbgaaGreatDoor.Ba
open Go.RowKit Go.Maps Go.Shelf Uc Ha
open Fi (scal scal_bd)
open Tr (law21 own_keep own_one wf32 isKey_int int_ne encZ)

attribute [local go_sem] Oper.semAt_some

/-! Ranges over a base's characters -/
/-- A range over a function whose variables lie in no block: the frame of a round told from the frame that stands. -/
theorem rangeG {α : Type} {g : Operand} {ps : Array Tmp} {assign body : Code} {Q : Exit → Act → World → Prop} {a : Act} {w w0 : World} {G : Nat} {lb : Array Value} (hg : a.eval g = .func (.func G) #[] lb)
    (eg : ∀ args W, (callFunc G args).run Tryz.prog W = .ok (.enter G args) W) {encs : α → Array Value} {Kp : World → World → Prop} {S Sp : List α → Prop} {N : Nat} (hseq : SeqStopsK Fence.wide 4 Tryz.prog G lb encs Kp S Sp N w0)
    (hKt : ∀ {A B C : World}, Kp A B → Kp B C → Kp A C) (hKb : ∀ (W : World) (l : Nat) (o o' : Obj), w.heap.size ≤ l → W.heap[l]? = some o → o.isCells = false → o.isWalk = false → Kp W (W.putObj l o')) (hb0 : Below w0.heap.size w0 w) (hps : ∀ x, (encs x).size = ps.size)
    (I : List α → World → Prop) (Ix : Code → List α → World → Prop) (hI : OwnFrom w.heap.size I) (hIx : ∀ c, OwnFrom w.heap.size (Ix c)) (h0 : I [] w) (upd : Array Value → α → Array Value)
    (hassign : ∀ (l : Nat) (x : α) (W : World) (K : Act → World → Prop), K { tmps := upd a.tmps x, defers := [] } W →
      assign.wpIn (Fence.wide.inRound l) 3 Tryz.prog (Exit.then K (fun _ _ _ => False)) { tmps := (ps.zip (encs x)).foldl (fun t (p, v) => t.setIfInBounds p v) a.tmps, defers := [] } W)
    (hbody : ∀ (l : Nat) (pre : List α) (x : α) (W : World), I pre W → pre.length < N → body.wpIn (Fence.wide.inRound l) 3 Tryz.prog (ownPostG w.heap.size Kp I Ix (pre ++ [x]) W) { tmps := upd a.tmps x, defers := [] } W)
    (hdone : ∀ (D : Nat) (xs : List α) (W : World), w.heap.size ≤ D → S xs → I xs W → W.heap[D]? = some (.deferred (some [])) → Q .normal { a with defers := { target := .collected D, args := #[] } :: a.defers } W)
    (hstop : ∀ (D : Nat) (c : Code) (pre : List α) (W : World), w.heap.size ≤ D → Sp pre → Ix c pre W → W.heap[D]? = some (.deferred (some [])) → c.wpIn Fence.wide 5 Tryz.prog Q { a with defers := { target := .collected D, args := #[] } :: a.defers } W) :
    (Code.rangeFunc g ps assign body).wp Tryz.prog Q a w :=
  wp_of_wide (wpIn_rangeFunc_ownG rfl (by omega) (gf := G) (lb := lb) hg trivial eg hseq hKt hKb hb0 hps I Ix hI hIx h0 (fun x => { tmps := upd a.tmps x, defers := [] }) hassign hbody hdone hstop)
theorem kpF_put (W : World) (l : Nat) (o o' : Obj) (h : W.heap[l]? = some o) (ho : o.isCells = false) : KpO (fun _ _ => False) W (W.putObj l o') :=
  ⟨by simp [World.putObj], (fun k cs t hB _ _ => by
    simp only [World.putObj]
    rw [Array.getElem?_setIfInBounds_ne]
    intro e
    subst e
    rw [hB.blk] at h
    cases h
    cases ho), (fun _ h => h.elim)⟩
/-- What lies below, or is cells, lies as it lay. -/
theorem from_keeps {B : Nat} {W W' : World} {row : Option Nat} (hg : W.grownBy W' row) (hr : ∀ r, row = some r → B ≤ r ∧ ∃ o : Obj, W.heap[r]? = some o ∧ o.isCells = false) {k : Nat} (hk : k < W.heap.size) (h : k < B ∨ ∃ c t fr, W.heap[k]? = some (.cells c t fr)) : W'.heap[k]? = W.heap[k]? :=
  hg.block k hk fun e => by
    obtain ⟨h1, o, h2, h3⟩ := hr k e.symm
    rcases h with h | ⟨c, t, fr, h⟩
    · omega
    · rw [h] at h2; cases h2; cases h3
theorem from_bk {B : Nat} {W W' : World} {row : Option Nat} (hg : W.grownBy W' row) (hr : ∀ r, row = some r → B ≤ r ∧ ∃ o : Obj, W.heap[r]? = some o ∧ o.isCells = false) {X : Nat} {cs : List Value} {t : TypeId} (h : Tr.Bk W X cs t) : Tr.Bk W' X cs t :=
  h.on (from_keeps hg hr h.lt (.inr ⟨_, _, _, h.blk⟩))

theorem kpF_ob {O : Nat} {W W' : World} (h : OB O W W') (hO : ∀ c fr t, W.heap[O]? ≠ some (.cells c fr t)) : KpO (fun _ _ => False) W W' :=
  ⟨h.size, (fun k cs t hB _ _ => h.keep k hB.lt (fun e => by subst e; exact hO _ _ _ hB.blk)), (fun _ h => h.elim)⟩
theorem kpF_set {W : World} {X : Nat} {cs : List Value} {t : TypeId} (h : Tr.Bk W X cs t) (ht : t ≠ 21 ∧ t ≠ 26 ∧ t ≠ 72) (i : Nat) (v : Value) : KpO (fun _ _ => False) W (W.setCell ⟨X, i, none⟩ v) :=
  ⟨by simp [World.setCell], (fun k cs' t' hB ht' _ => Below.heap_setCell _ _ _ _ (fun e => by
    have e' : k = X := e
    subst e'
    have := (Tr.bk_inj h hB).2
    subst this
    rcases ht' with h1 | h1 | h1
    · exact ht.1 h1
    · exact ht.2.1 h1
    · exact ht.2.2 h1)), (fun _ h => h.elim)⟩
theorem kf_ob {O B : Nat} {W W' : World} (h : OB O W W') (hO : O < B) : KeepsFrom B W W' :=
  ⟨h.size, fun k o hk ho _ => (h.keep k (Array.getElem?_eq_some_iff.1 ho).1 (by omega)).trans ho⟩
theorem kf_set {B : Nat} {W : World} {X : Nat} (hX : X < B) (v : Value) : KeepsFrom B W (W.setCell ⟨X, 0, none⟩ v) := KeepsFrom.of_grownBy (grownBy_setCell' W X v) (fun j e => by cases e; exact hX)
theorem s3_no {L : List Rw} {x : Kn L} (h : ∀ n, ¬ Cnt L [x.1] n) : ¬ S3 L := fun h3 => by
  obtain ⟨n, _, h2⟩ := h3 x.1 x.2
  exact h n h2
theorem s3_big {L : List Rw} {x : Kn L} {n : Nat} (h : Cnt L [x.1] n) (hn : 18 < n) : ¬ S3 L := fun h3 => by
  obtain ⟨m, hm, h2⟩ := h3 x.1 x.2
  have := h.uniq h2
  omega
theorem s3_all {L : List Rw} (h1 : ∀ x ∈ (knwB L).attach, ∃ n, Cnt L [x.1] n) (h2 : ¬ ∃ x ∈ (knwB L).attach, ∃ n, Cnt L [x.1] n ∧ 18 < n) : S3 L := fun r hr => by
  obtain ⟨n, hn⟩ := h1 ⟨r, hr⟩ (List.mem_attach _ _)
  refine ⟨n, Nat.le_of_not_lt fun h => h2 ⟨⟨r, hr⟩, List.mem_attach _ _, n, hn, h⟩, hn⟩

/-! checkParted -/
/-- What stands between the rounds. -/
structure CkI (w : World) (O Ret Lb Bl : Nat) (bv : Value) (U : List Int) (L : List Rw) (pre : List (Kn L)) (W : World) : Prop where
  bel : Below w.heap.size w W
  mst : ∃ m, (∀ k, m k ≠ some 0) ∧ Mst W O U L 0 m
  ret : Tr.Bk W Ret [.int .i64 0] 27
  box : Tr.Bk W Lb [bv, .map (some O)] 111
  long : ∃ f, Tr.Bk W Bl [.bool f] 4 ∧ (f = true ↔ ∃ x ∈ pre, ∃ n, Cnt L [x.1] n ∧ 18 < n)
  all : ∀ x ∈ pre, ∃ n, Cnt L [x.1] n
theorem ckI_from {w : World} {O Ret Lb Bl B : Nat} {bv : Value} {U : List Int} {L : List Rw} (hO : O < B) (hw : w.heap.size ≤ B) : OwnFrom B (fun (pre : List (Kn L)) W => CkI w O Ret Lb Bl bv U L pre W) := fun s W W' row hs hg hr => by
  obtain ⟨f, h1, h2⟩ := hs.long
  obtain ⟨m, hm0, hm⟩ := hs.mst
  exact ⟨hs.bel.grown hg hs.bel.size (fun k e => by have := (hr k e).1; omega), ⟨m, hm0, hm.on (from_keeps hg hr hm.lt (.inl hO))⟩, from_bk hg hr hs.ret, from_bk hg hr hs.box, ⟨f, from_bk hg hr h1, h2⟩, hs.all⟩
theorem ckI_more {w : World} {O Ret Lb Bl : Nat} {bv : Value} {U : List Int} {L : List Rw} {pre : List (Kn L)} {x : Kn L} {W3 : World} {m : Int → Option Nat} {f g : Bool} {n : Nat} (hd : Below w.heap.size w W3) (hm : (∀ k, m k ≠ some 0) ∧ Mst W3 O U L 0 m) (hr : Tr.Bk W3 Ret [.int .i64 0] 27) (hx : Tr.Bk W3 Lb [bv, .map (some O)] 111)
    (hl : Tr.Bk W3 Bl [.bool f] 4) (hf : f = true ↔ ∃ x ∈ pre, ∃ n, Cnt L [x.1] n ∧ 18 < n) (ha : ∀ x ∈ pre, ∃ n, Cnt L [x.1] n) (hn : Cnt L [x.1] n) (hg : g = true ↔ (f = true ∨ 18 < n)) (q : w.heap.size ≤ Bl) (q1 : Bl ≠ O) (q2 : Bl ≠ Ret) (q3 : Bl ≠ Lb) :
    CkI w O Ret Lb Bl bv U L (pre ++ [x]) (W3.setCell ⟨Bl, 0, none⟩ (.bool g)) := by
  have ho : ∀ k, k ≠ Bl → (W3.setCell ⟨Bl, 0, none⟩ (.bool g)).heap[k]? = W3.heap[k]? := fun k hk => Below.heap_setCell W3 ⟨Bl, 0, none⟩ (.bool g) k hk
  refine ⟨hd.setCell q _, ⟨m, hm.1, hm.2.on (ho O q1.symm)⟩, hr.on (ho Ret q2.symm), hx.on (ho Lb q3.symm), ⟨g, hl.set 0 _, ?_⟩, fun y hy => ?_⟩
  · rw [hg, hf]
    constructor
    · rintro (⟨y, hy, h⟩ | h)
      · exact ⟨y, by simp [hy], h⟩
      · exact ⟨x, by simp, n, hn, h⟩
    · rintro ⟨y, hy, k, h1, h2⟩
      rcases List.mem_append.1 hy with hy | hy
      · exact .inl ⟨y, hy, k, h1, h2⟩
      · simp only [List.mem_singleton] at hy
        subst hy
        exact .inr (by have := hn.uniq h1; omega)
  · rcases List.mem_append.1 hy with hy | hy
    · exact ha y hy
    · simp only [List.mem_singleton] at hy
      subst hy
      exact ⟨n, hn⟩
/-- What stands where a character leads back. -/
structure CkX (w : World) (Ret : Nat) (L : List Rw) (pre : List (Kn L)) (W : World) : Prop where
  bel : Below w.heap.size w W
  ret : Tr.Bk W Ret [.int .i64 15] 27
  no : ∃ x ∈ pre, ∀ n, ¬ Cnt L [x.1] n
theorem ckX_from {w : World} {Ret B : Nat} {L : List Rw} (hw : w.heap.size ≤ B) : OwnFrom B (fun (pre : List (Kn L)) W => CkX w Ret L pre W) := fun s W W' row hs hg hr =>
  ⟨hs.bel.grown hg hs.bel.size (fun k e => by have := (hr k e).1; omega), from_bk hg hr hs.ret, hs.no⟩
/-- What checkParted answers: nothing is wrong just where all is counted, and is few. -/
def CkP (w : World) (L : List Rw) (e : Ending) (w' : World) : Prop := ∃ er : Int, e = .returned (.int .i64 er) ∧ (er = 0 ↔ S3 L) ∧ Below w.heap.size w w'
theorem ck_start (w : World) (a : Addr) (U : List Int) (L : List Rw) :
    CkI w (w.heap.size + 1) w.heap.size (w.heap.size + 1 + 1) (w.heap.size + 1 + 1 + 1) (.pointer (some a)) U L [] (((((w.alloc (.cells #[.int .i64 0] 27)).alloc (.map #[] 0)).alloc (.cells #[.pointer (some a), .map (some (w.heap.size + 1))] 111)).alloc (.cells #[.bool false] 4)).alloc (.cells #[.pointer (some a)] 26)) ∧
    Tr.Bk (((((w.alloc (.cells #[.int .i64 0] 27)).alloc (.map #[] 0)).alloc (.cells #[.pointer (some a), .map (some (w.heap.size + 1))] 111)).alloc (.cells #[.bool false] 4)).alloc (.cells #[.pointer (some a)] 26)) (w.heap.size + 1 + 1 + 1 + 1) [.pointer (some a)] 26 ∧
    (((((w.alloc (.cells #[.int .i64 0] 27)).alloc (.map #[] 0)).alloc (.cells #[.pointer (some a), .map (some (w.heap.size + 1))] 111)).alloc (.cells #[.bool false] 4)).alloc (.cells #[.pointer (some a)] 26)).heap.size = w.heap.size + 5 := by
  obtain ⟨w1, h1⟩ : ∃ x, x = w.alloc (.cells #[.int .i64 0] 27) := ⟨_, rfl⟩
  rw [← h1]
  obtain ⟨w2, h2⟩ : ∃ x, x = w1.alloc (.map #[] 0) := ⟨_, rfl⟩
  rw [← h2]
  obtain ⟨w3, h3⟩ : ∃ x, x = w2.alloc (.cells #[.pointer (some a), .map (some (w.heap.size + 1))] 111) := ⟨_, rfl⟩
  rw [← h3]
  obtain ⟨w4, h4⟩ : ∃ x, x = w3.alloc (.cells #[.bool false] 4) := ⟨_, rfl⟩
  rw [← h4]
  obtain ⟨w5, h5⟩ : ∃ x, x = w4.alloc (.cells #[.pointer (some a)] 26) := ⟨_, rfl⟩
  rw [← h5]
  have z1 : w1.heap.size = w.heap.size + 1 := by rw [h1]; simp
  have z2 : w2.heap.size = w.heap.size + 1 + 1 := by rw [h2]; simp [z1]
  have z3 : w3.heap.size = w.heap.size + 1 + 1 + 1 := by rw [h3]; simp [z2]
  have z4 : w4.heap.size = w.heap.size + 1 + 1 + 1 + 1 := by rw [h4]; simp [z3]
  have z5 : w5.heap.size = w.heap.size + 5 := by rw [h5]; simp [z4]
  have b1 : Below w.heap.size w w1 := by rw [h1]; exact (Below.refl _ _).alloc (Nat.le_refl _) _
  have b2 : Below w1.heap.size w1 w2 := by rw [h2]; exact (Below.refl _ _).alloc (Nat.le_refl _) _
  have b3 : Below w2.heap.size w2 w3 := by rw [h3]; exact (Below.refl _ _).alloc (Nat.le_refl _) _
  have b4 : Below w3.heap.size w3 w4 := by rw [h4]; exact (Below.refl _ _).alloc (Nat.le_refl _) _
  have b5 : Below w4.heap.size w4 w5 := by rw [h5]; exact (Below.refl _ _).alloc (Nat.le_refl _) _
  have b45 : Below w3.heap.size w3 w5 := b4.trans (b5.mono b4.size)
  have b35 : Below w2.heap.size w2 w5 := b3.trans (b45.mono b3.size)
  have b25 : Below w1.heap.size w1 w5 := b2.trans (b35.mono b2.size)
  have b15 : Below w.heap.size w w5 := b1.trans (b25.mono b1.size)
  have k1 : Tr.Bk w1 w.heap.size [.int .i64 0] 27 := by rw [h1]; exact ⟨heap_alloc_new w _⟩
  have k3 : Tr.Bk w3 (w.heap.size + 1 + 1) [.pointer (some a), .map (some (w.heap.size + 1))] 111 := by rw [h3, ← z2]; exact ⟨heap_alloc_new w2 _⟩
  have k4 : Tr.Bk w4 (w.heap.size + 1 + 1 + 1) [.bool false] 4 := by rw [h4, ← z3]; exact ⟨heap_alloc_new w3 _⟩
  have k5 : Tr.Bk w5 (w.heap.size + 1 + 1 + 1 + 1) [.pointer (some a)] 26 := by rw [h5, ← z4]; exact ⟨heap_alloc_new w4 _⟩
  refine ⟨⟨b15, ⟨fun _ => none, (fun k h => by cases h), 0, .map [], own_at (by rw [h2, ← z1]; exact World.ownsMap_made w1 _ _ _) (b35.block _ (by omega)), MoIs.nil, ?_, fun k v h => by cases h⟩, k1.below b25, k3.below b45, ⟨false, k4.below b5, by simp⟩, fun x hx => by cases hx⟩, k5, z5⟩
  have : left U (fun _ => none) ≤ U.length := List.countP_le_length
  omega
set_option maxRecDepth 100000 in
set_option maxHeartbeats 16000000 in
theorem parted_any (a : Addr) (L mk : List Rw) (U : List Int) (w : World) (hF : Frm L) (hl : (knwB L).length ≤ 4096) (hB : BV w (.pointer (some a)) L mk) (hT : Tab w) (hU : ∀ k, (decB L k).2 ≠ [] → k ∈ U) (hUl : U.length ≤ 100000) :
    Calls Tryz.prog 26 #[.pointer (some a)] w (CkP w L) := by
  have hmm := @run_makeMap Tryz.prog
  have HF := Lib.hid hF
  have HB := Lib.hid hB
  have HT := Lib.hid hT
  have HU := Lib.hid hU
  clear hF hB hT hU
  refine calls_marks Tryz.func26 rfl ?_
  simp only [Tryz.ntmps26, List.size_toArray, List.length_cons, List.length_nil, Nat.reduceAdd, Nat.reduceSub, Array.replicate_succ, Array.replicate_zero, List.push_toArray, List.append_toArray, List.nil_append, List.cons_append]
  go_wp2_with fail
  refine (known_call _ (.pointer (some a)) rfl).mono ?_
  rintro e w1 ⟨rfl, rfl⟩
  go_wp2_with fail
  obtain ⟨s1, s2, s3⟩ := ck_start w a U L
  obtain ⟨W0, hW0⟩ : ∃ x, x = ((((w.alloc (.cells #[.int .i64 0] 27)).alloc (.map #[] 0)).alloc (.cells #[.pointer (some a), .map (some (w.heap.size + 1))] 111)).alloc (.cells #[.bool false] 4)).alloc (.cells #[.pointer (some a)] 26) := ⟨_, rfl⟩
  rw [← hW0] at s1 s2 s3
  rw [← hW0]
  obtain ⟨Ret, hRet⟩ : ∃ x, x = w.heap.size := ⟨_, rfl⟩
  obtain ⟨O, hO⟩ : ∃ x, x = Ret + 1 := ⟨_, rfl⟩
  obtain ⟨Lb, hLb⟩ : ∃ x, x = O + 1 := ⟨_, rfl⟩
  obtain ⟨Bl, hBl⟩ : ∃ x, x = Lb + 1 := ⟨_, rfl⟩
  obtain ⟨Bt, hBt⟩ : ∃ x, x = Bl + 1 := ⟨_, rfl⟩
  rw [← hRet, ← hO, ← hLb, ← hBl] at s1
  rw [← hRet, ← hO, ← hLb, ← hBl, ← hBt] at s2
  rw [← hRet, ← hO, ← hLb, ← hBl, ← hBt]
  have S1 := Lib.hid s1
  have S2 := Lib.hid s2
  have hsz : W0.heap.size = Ret + 5 := by rw [hRet]; exact s3
  have q1 : O < W0.heap.size := by omega
  have q2 : w.heap.size ≤ W0.heap.size := by omega
  have q3 : w.heap.size ≤ O := by omega
  have q4 : w.heap.size ≤ Ret := by omega
  have q5 : w.heap.size ≤ Bl := by omega
  have q6 : Bl ≠ O ∧ Bl ≠ Ret ∧ Bl ≠ Lb ∧ Ret ≠ O ∧ Ret < W0.heap.size ∧ Bl < W0.heap.size ∧ Lb ≠ O := by omega
  have Q6 := Lib.hid q6
  clear s1 s2 s3 hW0 hmm hRet hO hLb hBl hBt hsz q6
  refine rangeG (α := Kn L) (G := 35) (lb := #[.pointer (some ⟨Bt, 0, none⟩)]) rfl (enters_of Tryz.func35 (by kernel_rfl) rfl) (known_iter (fun _ _ => False) 4 Bt (.pointer (some a)) L mk W0 HF.out (by omega) (HB.out.below S1.out.bel) S2.out (OwnO.none _))
    (fun h k => h.trans k) (fun W l o o' _ h ho _ => kpF_put W l o o' h ho) (Below.refl _ _) (fun _ => rfl)
    (CkI w O Ret Lb Bl (.pointer (some a)) U L) (fun c pre W => c = .ret ∧ CkX w Ret L pre W) (ckI_from q1 q2) (fun c s A B row hs hg hr => ⟨hs.1, ckX_from q2 s A B row hs.2 hg hr⟩) S1.out
    (fun tm x => (tm.setIfInBounds 12 (.int .i32 x.1)).setIfInBounds 5 (.int .i32 x.1)) ?assign ?body ?done ?stop
  case assign =>
    intro l x W K hK
    unfold encK
    gi_wp2
    exact hK
  case stop =>
    rintro D c pre W hD hp ⟨rfl, hx⟩ hK
    have HX := Lib.hid hx
    have HK := Lib.hid hK
    clear hx hK
    have hre : D ≠ Ret := by have := Q6.out; omega
    have hcr := cell_put (o := .deferred none) (HX.out.ret.c (i := 0) rfl) (D := D) (fun e => hre e.symm)
    gi_wp2
    refine leave_mark HK.out (leave_nil (v := .int .i64 15) (by simp [results, Tryz.results26, go_sem, hcr]) ⟨15, rfl, ?_, below_put HX.out.bel (by omega)⟩)
    obtain ⟨x, _, hn⟩ := HX.out.no
    exact ⟨fun h => by simp at h, fun h => absurd h (s3_no hn)⟩
  case done =>
    rintro D ys W hD rfl hI hK
    obtain ⟨f, hf1, hf2⟩ := hI.long
    have HI := Lib.hid hI
    have HK := Lib.hid hK
    have hcl := hf1.c (i := 0) rfl
    have hrc := hI.ret.c (i := 0) rfl
    have hrf := hI.ret.fr 0
    have HF2 := Lib.hid hf2
    clear hI hK hf1 hf2
    have hre : D ≠ Ret := by have := Q6.out; omega
    have HKS := Lib.hid (fun v => (Below.heap_setCell W ⟨Ret, 0, none⟩ v D hre).trans HK.out)
    have HRS := Lib.hid (fun v => cell_put (o := .deferred none) ((HI.out.ret.set 0 v).c (i := 0) rfl) (D := D) (fun e => hre e.symm))
    have HBS := Lib.hid (fun v => below_put (o := .deferred none) (HI.out.bel.setCell (p := ⟨Ret, 0, none⟩) q4 v) (D := D) (by omega))
    clear hre
    cases f with
    | true =>
      have HE : Hid (¬ S3 L) := Lib.hid (by
        obtain ⟨x, _, n, h1, h2⟩ := HF2.out.1 rfl
        exact s3_big h1 h2)
      go_wp2_with fail
      have hcr := HRS.out (.int .i64 14)
      exact leave_mark (HKS.out _) (leave_nil (v := .int .i64 14) (by simp [results, Tryz.results26, go_sem, hcr]) ⟨14, rfl, ⟨fun h => by simp at h, fun h => absurd h HE.out⟩, HBS.out _⟩)
    | false =>
      have HE : Hid (S3 L) := Lib.hid (s3_all HI.out.all (fun h => by have := HF2.out.2 h; cases this))
      go_wp2_with fail
      have hcr := HRS.out (.int .i64 0)
      exact leave_mark (HKS.out _) (leave_nil (v := .int .i64 0) (by simp [results, Tryz.results26, go_sem, hcr]) ⟨0, rfl, ⟨fun _ => HE.out, fun _ => rfl⟩, HBS.out _⟩)
  case body =>
    intro l pre x W hI hlen
    have HI := Lib.hid hI
    obtain ⟨m, hm0, hm⟩ := hI.mst
    have b0 := hI.box.c (i := 0) rfl
    have b1 := hI.box.c (i := 1) rfl
    have hwf : wfR x.1 := by
      obtain ⟨y, hy⟩ := Option.isSome_iff_exists.1 (knw_mem.1 x.2)
      obtain ⟨h1, h2, h3⟩ := parA_some hy
      rw [← h3]
      exact wfR_scal (HF.out.fin y h1).fr
    have HC := Lib.hid (reckon_any w (.pointer (some a)) O U L mk (left U m + 1) 0 m x.1 W (by omega) ⟨HF.out, HB.out, HT.out, hI.bel, q3, hwf, HU.out, hUl, hm, fun k hk => absurd hk (hm0 k)⟩)
    have HM0 := Lib.hid hm0
    have HM := Lib.hid hm
    clear hI hm hm0 hwf
    gi_wp2
    refine ⟨trivial, CallsIn.inRound l (callsIn_wide.2 (HC.out.mono ?_))⟩
    rintro e W3 ⟨v, rfl, hob, hres⟩
    have R3 := Lib.hid (hob.bk HI.out.ret Q6.out.2.2.2.1)
    have K3 := Lib.hid (kpF_ob hob HM.out.no)
    have F3 := Lib.hid (kf_ob hob q1)
    have D3 := Lib.hid (HI.out.bel.trans (hob.below HI.out.bel.size q3))
    have X3 := Lib.hid (hob.bk HI.out.box Q6.out.2.2.2.2.2.2)
    have L3 : Hid (∃ f, Tr.Bk W3 Bl [.bool f] 4 ∧ (f = true ↔ ∃ x ∈ pre, ∃ n, Cnt L [x.1] n ∧ 18 < n)) := Lib.hid (by
      obtain ⟨f, h1, h2⟩ := HI.out.long
      exact ⟨f, hob.bk h1 Q6.out.1, h2⟩)
    clear hob
    rcases hres with ⟨rfl, hno⟩ | ⟨hv0, hcn, m', hx', hm'⟩
    · have HN := Lib.hid hno
      have r0 := R3.out.c (i := 0) rfl
      have rf := R3.out.fr 0
      clear hno
      gi_wp2
      exact ⟨F3.out.trans (kf_set Q6.out.2.2.2.2.1 _), rfl, D3.out.setCell (p := ⟨Ret, 0, none⟩) q4 _, R3.out.set 0 _, x, by simp, HN.out⟩
    · obtain ⟨n, hn1, hn2⟩ := hcn
      have HN := Lib.hid hn1
      obtain ⟨f, hf1, hf2⟩ := L3.out
      have l0 := hf1.c (i := 0) rfl
      have lf := hf1.fr 0
      have hvne : ((v : Int) == 0) = false := by simp; omega
      have HF1 := Lib.hid hf1
      have HF2 := Lib.hid hf2
      have hm0' : ∀ k, m' k ≠ some 0 := fun k hk => HM0.out k (hx'.2 k hk)
      have HM' := Lib.hid (And.intro hm0' hm')
      have H0 := Lib.hid hv0
      clear hn1 hf1 hf2 hx' hm' hv0 hm0'
      have HS := Lib.hid (fun (g : Bool) (hg : g = true ↔ (f = true ∨ 18 < n)) => ckI_more D3.out HM'.out R3.out X3.out HF1.out HF2.out HI.out.all HN.out hg q5 Q6.out.1 Q6.out.2.1 Q6.out.2.2.1)
      have HKF := Lib.hid (fun (v : Value) => F3.out.trans (kf_set (W := W3) Q6.out.2.2.2.2.2.1 v))
      have HKP := Lib.hid (fun (v : Value) => K3.out.trans (kpF_set HF1.out (by decide) 0 v))
      have HN2 := Lib.hid hn2
      clear hn2
      cases f with
      | true =>
        gi_wp2
        exact ⟨HKF.out _, HKP.out _, HS.out _ (by simp)⟩
      | false =>
        gi_wp2
        refine ⟨HKF.out _, HKP.out _, HS.out _ ?_⟩
        rw [decide_eq_true_iff]
        have := HN2.out
        constructor
        · intro h; exact .inr (by omega)
        · rintro (h | h)
          · cases h
          · omega

end Go.Proofs.YtagbeioooohbgaaGreatDoor.Ba
end
section
namespace Go.Proofs.YtagbeioooohbgaaGreatDoor.Ba
open Go.RowKit Go.Maps Go.Shelf Uc Ha
open Fi (scal scal_bd)
open Tr (law21 own_keep own_one wf32 isKey_int int_ne encZ)

/-! join: what stands between the rounds -/
theorem ints_cells {W W' : World} (hs : W.heap.size ≤ W'.heap.size) (hk : ∀ k, k < W.heap.size → (∃ c t fr, W.heap[k]? = some (.cells c t fr)) → W'.heap[k]? = W.heap[k]?) {A : Option Addr} {l : List Int} (h : Ints .i32 W A l) : Ints .i32 W' A l := fun i hi => by
  obtain ⟨b, o, e, hb, hc⟩ := h i hi
  have hcl : ∃ c t fr, W.heap[b]? = some (.cells c t fr) := by
    unfold World.cell? at hc
    cases hh : W.heap[b]? with
    | none => rw [hh] at hc; cases hc
    | some ob =>
      cases ob with
      | cells c t fr => exact ⟨c, t, fr, rfl⟩
      | _ => rw [hh] at hc; cases hc
  refine ⟨b, o, e, Nat.lt_of_lt_of_le hb hs, ?_⟩
  rw [← hc]
  unfold World.cell?
  simp only [hk b hb hcl]
theorem bs_kept {W W' : World} {base X T P M S : Nat} {L mk : List Rw} (h : Bs W base X T P M S L mk) (hs : W.heap.size ≤ W'.heap.size)
    (hk : ∀ k, k < W.heap.size → (Tr.fpT W T k ∨ k = P ∨ k = M ∨ k = S ∨ ∃ c t fr, W.heap[k]? = some (.cells c t fr)) → W'.heap[k]? = W.heap[k]?) : Bs W' base X T P M S L mk := by
  have hc := fun k h1 h2 => hk k h1 (.inr (.inr (.inr (.inr h2))))
  have hf := fun k => h.tab.fpon (fun j hj h2 => hk j hj (.inl h2)) k
  exact ⟨h.lo, h.loM, h.loS, h.blk.on (hc X h.blk.lt ⟨_, _, _, h.blk.blk⟩), h.tab.on (fun j hj h2 => hk j hj (.inl h2)), h.par.on (hk P h.par.lt (.inr (.inl rfl))) (fun D k => ⟨k.has, (fun x hx => by obtain ⟨b, o, c, h1, h2⟩ := k.at_ x hx; exact ⟨b, o, c, h1, ints_cells hs hc h2⟩), k.no⟩),
    h.mad.on (hk M h.mad.lt (.inr (.inr (.inl rfl)))) (fun _ k => k), h.sec.on (hk S h.sec.lt (.inr (.inr (.inr (.inl rfl))))) (fun _ k => k), (fun k => h.fpM ((hf M).1 k)), (fun k => h.fpS ((hf S).1 k)), h.pm, h.ps, h.ms⟩
theorem bs_more {W W' : World} {base X T P M S n n' : Nat} {L mk : List Rw} {D D' : DataW Unit} {z : Rw} {a b : Int} {d : DataW Unit} (h : Bs W base X T P M S L mk) (hs : W.heap.size ≤ W'.heap.size) (hk : ∀ k, k < W.heap.size → k ≠ M → k ≠ S → W'.heap[k]? = W.heap[k]?)
    (hn : n ≤ mk.length) (hn' : n' ≤ mk.length) (hD : IsMap D) (hD' : IsMap D') (h1 : MadIs D mk) (h2 : SecIs D' mk) (hm : W'.ownsMap Tryz.prog 67 (plainElem Tryz.prog 21) M (n + 1) (D.put (kl2 a b) (.lit (.int .i32 z.fr)))) (hs' : W'.ownsMap Tryz.prog 21 unitElem S (n' + 1) (D'.put (.int .i32 b) d))
    (he : z.into = [a, b]) (ha : wfR a) (hb : wfR b) (hnew : ∀ y ∈ mk, y.into ≠ z.into) : Bs W' base X T P M S L (mk ++ [z]) := by
  have hcM : ∀ k, (∃ c t fr, W.heap[k]? = some (.cells c t fr)) → k ≠ M ∧ k ≠ S := fun k ⟨c, t, fr, hh⟩ => by
    refine ⟨fun e => ?_, fun e => ?_⟩
    · subst e; obtain ⟨_, _, _, ho, _⟩ := h.mad; exact map_no_cells ho _ _ _ hh
    · subst e; obtain ⟨_, _, _, ho, _⟩ := h.sec; exact map_no_cells ho _ _ _ hh
  have hc := fun k (h1 : k < W.heap.size) h2 => hk k h1 (hcM k h2).1 (hcM k h2).2
  have hfk : ∀ k, k < W.heap.size → Tr.fpT W T k → W'.heap[k]? = W.heap[k]? := fun k h1 h2 => hk k h1 (fun e => h.fpM (by rw [← e]; exact h2)) (fun e => h.fpS (by rw [← e]; exact h2))
  have hf := fun k => h.tab.fpon hfk k
  have e1 : z.into.getD 1 0 = b := by rw [he]; rfl
  refine ⟨h.lo, h.loM, h.loS, h.blk.on (hc X h.blk.lt ⟨_, _, _, h.blk.blk⟩), h.tab.on hfk, h.par.on (hk P h.par.lt h.pm h.ps) (fun D k => ⟨k.has, (fun x hx => by obtain ⟨b, o, c, h1, h2⟩ := k.at_ x hx; exact ⟨b, o, c, h1, ints_cells hs hc h2⟩), k.no⟩),
    ⟨n + 1, _, by rw [List.length_append]; simp; omega, hm, h1.put hD hnew he ha hb⟩, ⟨n' + 1, _, by rw [List.length_append]; simp; omega, hs', by rw [← e1]; exact h2.put hD' z d⟩, (fun k => h.fpM ((hf M).1 k)), (fun k => h.fpS ((hf S).1 k)), h.pm, h.ps, h.ms⟩
structure JnI (w0 : World) (n0 base X T P M S Ret Bb Be : Nat) (A9 : Option Addr) (c9 : Nat) (L : List Rw) (Xx : List Int) (pre : List (Kn L)) (W : World) : Prop where
  bel : Below base w0 W
  bs : Bs W base X T P M S L (mkR L Xx (pre.map (·.1)))
  dist : Dist (mkR L Xx (pre.map (·.1)))
  ret : Tr.Bk W Ret [.int .i64 0] 27
  bb : Tr.Bk W Bb [.pointer (some ⟨X, 0, none⟩)] 26
  be : Tr.Bk W Be [.slice A9 Xx.length c9] 32
  ints : Ints .i32 W A9 Xx
  fp : ∀ k, Tr.fpT W T k → k < n0
theorem jnI_from {w0 : World} {n0 base X T P M S Ret Bb Be B c9 : Nat} {A9 : Option Addr} {L : List Rw} {Xx : List Int} (hn : n0 ≤ B) (hb : base ≤ w0.heap.size) (hb2 : base ≤ B) (hP : P < n0) (hM : M < n0) (hS : S < n0) :
    OwnFrom B (fun (pre : List (Kn L)) W => JnI w0 n0 base X T P M S Ret Bb Be A9 c9 L Xx pre W) := fun s W W' row hs hg hr => by
  have hkk : ∀ k, k < W.heap.size → (k < n0 ∨ ∃ c t fr, W.heap[k]? = some (.cells c t fr)) → W'.heap[k]? = W.heap[k]? := fun k h1 h2 => from_keeps hg hr h1 (h2.imp (fun h => by omega) id)
  have hc := fun k h1 h2 => hkk k h1 (.inr h2)
  have hbs := bs_kept hs.bs hg.size fun k h1 h2 => hkk k h1 (by
    rcases h2 with h2 | rfl | rfl | rfl | h2
    · exact .inl (hs.fp k h2)
    · exact .inl hP
    · exact .inl hM
    · exact .inl hS
    · exact .inr h2)
  exact ⟨hs.bel.grown hg (Nat.le_trans hb hs.bel.size) (fun k e => by have := (hr k e).1; omega), hbs, hs.dist, from_bk hg hr hs.ret, from_bk hg hr hs.bb, from_bk hg hr hs.be, ints_cells hg.size hc hs.ints,
    fun k hk => hs.fp k ((hs.bs.tab.fpon (fun j hj h2 => hkk j hj (.inl (hs.fp j h2))) k).1 hk)⟩
theorem JnI.below {w0 W W' : World} {n0 base X T P M S Ret Bb Be c9 : Nat} {A9 : Option Addr} {L : List Rw} {Xx : List Int} {pre : List (Kn L)} (h : JnI w0 n0 base X T P M S Ret Bb Be A9 c9 L Xx pre W) (hb : Below W.heap.size W W') (hB : base ≤ w0.heap.size) : JnI w0 n0 base X T P M S Ret Bb Be A9 c9 L Xx pre W' :=
  ⟨h.bel.trans (hb.mono (Nat.le_trans hB h.bel.size)), h.bs.below hb, h.dist, h.ret.below hb, h.bb.below hb, h.be.below hb, h.ints.below hb, fun k hk => h.fp k ((h.bs.tab.fpon (fun j hj _ => hb.block j hj) k).1 hk)⟩
theorem JnI.skip {w0 W : World} {n0 base X T P M S Ret Bb Be c9 : Nat} {A9 : Option Addr} {L : List Rw} {Xx : List Int} {pre : List (Kn L)} {x : Kn L} (h : JnI w0 n0 base X T P M S Ret Bb Be A9 c9 L Xx pre W) (hx : mdR L Xx x.1 = none) : JnI w0 n0 base X T P M S Ret Bb Be A9 c9 L Xx (pre ++ [x]) W := by
  have e : mkR L Xx ((pre ++ [x]).map (·.1)) = mkR L Xx (pre.map (·.1)) := by rw [List.map_append, List.map_cons, List.map_nil, mkR_snoc, hx]; simp
  exact ⟨h.bel, by rw [e]; exact h.bs, by rw [e]; exact h.dist, h.ret, h.bb, h.be, h.ints, h.fp⟩
theorem kpF_below {W W' : World} (h : Below W.heap.size W W') : KpO (fun _ _ => False) W W' := ⟨h.size, (fun k _ _ hB _ _ => h.block k hB.lt), (fun _ h => h.elim)⟩
theorem kf_below {B : Nat} {W W' : World} (h : Below W.heap.size W W') : KeepsFrom B W W' := ⟨h.size, fun k _ _ ho _ => (h.block k (Array.getElem?_eq_some_iff.1 ho).1).trans ho⟩
theorem kpF_grown {W W' : World} {M : Nat} (h : W.grownBy W' (some M)) (hM : ∀ c fr t, W.heap[M]? ≠ some (.cells c fr t)) : KpO (fun _ _ => False) W W' :=
  ⟨h.size, (fun k cs t hB _ _ => h.block k hB.lt (by intro e; cases e; exact hM _ _ _ hB.blk)), (fun _ h => h.elim)⟩
theorem made_no {L : List Rw} {Xx : List Int} {r : Int} {y : Rw} (h : parA L r = some y) (hn : madeB L Xx y = false) : mdR L Xx r = none := by
  unfold mdR
  rw [h]
  simp [Option.filter, hn]
theorem made_yes {L : List Rw} {Xx : List Int} {r : Int} {y : Rw} (h : parA L r = some y) (hn : madeB L Xx y = true) : mdR L Xx r = some y := by
  unfold mdR
  rw [h]
  simp [Option.filter, hn]
/-- What join answers. -/
def JnP (w0 : World) (_ : Nat) (base X T P M S : Nat) (L : List Rw) (Xx : List Int) (e : Ending) (w' : World) : Prop :=
  ∃ er : Int, e = .returned (.int .i64 er) ∧ (er = 0 ↔ S4 L Xx) ∧ Below base w0 w' ∧ (er = 0 → Bs w' base X T P M S L (prsB L Xx))

end Go.Proofs.YtagbeioooohbgaaGreatDoor.Ba
end

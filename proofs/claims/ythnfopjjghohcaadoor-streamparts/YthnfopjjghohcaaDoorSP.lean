import Derived.Test.YthnfopjjghohcaaDoorSN
namespace Go.Proofs.YthnfopjjghohcaaDoor.St
open Go.RowKit

theorem Fed.other {w w' : World} {base B k : Nat} {fv fv' : Value} {pol : Int} {g : Bool} {L : List Nat} (h : Fed w base B fv k pol g L) (hs : Stp B w fv w' fv') {base2 B2 : Nat} {p2 : Nat} {wt2 : ByteArray} {fl2 : List (Nat × Nat)} {k2 : Nat} {pol2 : Int} {gs2 ov2 : Bool}
    (h2 : Dc w base2 B2 (.slice none 0 0) p2 wt2 fl2 k2 pol2 gs2 ov2) (hB : B2 ≠ B) : Dc w' base2 B2 (.slice none 0 0) p2 wt2 fl2 k2 pol2 gs2 ov2 := by
  obtain ⟨_, _, _, h3⟩ := h
  exact h3.other hs h2 hB (.inl rfl)
/-- A row that was there before another one was made lies elsewhere. -/
theorem own_old {w w1 : World} {b b' e e' z z' n n' : Nat} {v v' : Value} {xs xs' : List Value} (h : w1.ownsRow b' e' z' v' n' xs') (h' : w.ownsRow b e z v n xs) (hb : w1.heap.size ≤ b) : v'.ownBlock = none ∨ v'.ownBlock ≠ v.ownBlock := by
  cases hv : v'.ownBlock with
  | none => exact .inl rfl
  | some g =>
    right
    intro he
    have h1 := (h.lt g hv).2
    have h2 := (h'.lt g he.symm).1
    omega
/-- What a step of another decoder, begun later, leaves. -/
theorem Dc.later {w w' wc : World} {base B : Nat} {fv fv' : Value} {p : Nat} {wt : ByteArray} {fl : List (Nat × Nat)} {k : Nat} {pol : Int} {gs ov : Bool} (h : Dc w base B fv p wt fl k pol gs ov) (hs : Stp B w fv w' fv') {base2 B2 : Nat} {fv2 : Value} {p2 : Nat} {wt2 : ByteArray} {fl2 : List (Nat × Nat)} {k2 : Nat} {pol2 : Int} {gs2 ov2 : Bool}
    (h2 : Dc w base2 B2 fv2 p2 wt2 fl2 k2 pol2 gs2 ov2) (hB : B2 ≠ B) (hc : ∀ g, fv2.ownBlock = some g → g < wc.heap.size) (hn : ∀ g, fv.ownBlock = some g → wc.heap.size ≤ g) : Dc w' base2 B2 fv2 p2 wt2 fl2 k2 pol2 gs2 ov2 := by
  refine h.other hs h2 hB ?_
  cases hv : fv2.ownBlock with
  | none => exact .inl rfl
  | some g =>
    right
    intro he
    have h1 := hc g hv
    have h3 := hn g he.symm
    omega
theorem over_whole (k : Nat) (pol : Int) (g : Bool) (L : List Nat) (h : (Dg.sure k pol g L).2.2 = 17) : Dg.whole k pol g L = Dg.sure k pol g L ∧ Dg.knd k g L = Dg.sureK k g L := by
  have hn : (Dg.sure k pol g L).2.2 ≠ 0 := by rw [h]; decide
  have hu : ¬ (g && Dg.und L) = true := by
    intro hu
    apply hn
    unfold Dg.sure
    rw [if_pos hu]
  constructor
  · rw [(Dg.close_step k pol g L).1, Dg.cat_bad17 _ _ hn]
  · unfold Dg.sureK
    rw [if_neg hu]
theorem take_byte (s : ByteArray) (j : Nat) (h : j < s.size) : (bs s).take (j + 1) = (bs s).take j ++ bs (s.extract j (j + 1)) := by
  rw [bs_ext, show j + 1 - j = 1 by omega]
  rw [List.take_succ_eq_append_getElem (by rw [bs_len]; exact h), bs_cut s j h]
  simp [bs_at s j h]
/-- A decoder that goes on, or was wrong. -/
def AS (w : World) (base B : Nat) (fv : Value) (k : Nat) (q : Int) (g : Bool) (L : List Nat) : Prop :=
  ((Dg.sure k q g L).2.2 = 0 ∧ Fed w base B fv k q g L) ∨ ((Dg.sure k q g L).2.2 = 17 ∧ ∃ p gs, Dc w base B fv p ⟨#[]⟩ (Dg.sure k q g L).2.1 (Dg.sureK k g L) q gs true)
/-- What the loops know of the first decoder, fed byte by byte, and of the second one, not yet fed. -/
def PA (w3 wr : World) (b1 b2 Ba Bb : Nat) (k : Nat) (q : Int) (g : Bool) (L : List Nat) (x : Value) : Prop :=
  ∃ fva, Below b1 w3 wr ∧ Dc wr b2 Bb (.slice none 0 0) 0 ⟨#[]⟩ [] k q g false ∧ wr.ownsRow b1 21 1 x (Dg.sure k q g L).1.length (i32s (Dg.sure k q g L).1) ∧ AS wr b1 Ba fva k q g L
theorem AS.start {w : World} {base B k : Nat} {q : Int} {g : Bool} (h : Dc w base B (.slice none 0 0) 0 ⟨#[]⟩ [] k q g false) : AS w base B (.slice none 0 0) k q g [] := .inl ⟨by rw [(Dg.sure_nil k q g).1], Fed.start h⟩
theorem Fed.later {w w' wc : World} {base B k0 : Nat} {fv fv' : Value} {q : Int} {g : Bool} {L : List Nat} (h : Fed w base B fv k0 q g L) (hs : Stp B w fv w' fv') {base2 B2 : Nat} {fv2 : Value} {p2 : Nat} {wt2 : ByteArray} {fl2 : List (Nat × Nat)} {k2 : Nat} {pol2 : Int} {gs2 ov2 : Bool}
    (h2 : Dc w base2 B2 fv2 p2 wt2 fl2 k2 pol2 gs2 ov2) (hB : B2 ≠ B) (hc : ∀ g, fv2.ownBlock = some g → g < wc.heap.size) (hn : ∀ g, fv.ownBlock = some g → wc.heap.size ≤ g) : Dc w' base2 B2 fv2 p2 wt2 fl2 k2 pol2 gs2 ov2 := by
  obtain ⟨_, _, _, h3⟩ := h
  exact h3.later hs h2 hB hc hn
theorem ints_own {w : World} {base : Nat} {A : Option Addr} {c : Nat} {l : List Int} (h : w.ownsRow base 21 1 (.slice A l.length c) l.length (i32s l)) : Ints .i32 w A l := by
  obtain ⟨A', c', hv, hI⟩ := own_ints h
  injection hv with h1 _ _
  rw [h1]
  exact hI
set_option maxRecDepth 100000 in
set_option maxHeartbeats 1000000 in
theorem feed_empty (base B : Nat) (fv : Value) (p : Nat) (wt : ByteArray) (fl : List (Nat × Nat)) (k : Nat) (pol : Int) (gs : Bool) (A : Option Addr) (c : Nat) (w : World) (h : Dc w base B fv p wt fl k pol gs false) :
    Calls Tryd.prog 17 #[.pointer (some ⟨B, 0, none⟩), .slice A 0 c] w fun e w' => e = .returned (.tuple #[.slice none 0 0, .int .i64 0]) ∧ w = w' := by
  have HRF := Lib.hid (refuses_ok base B fv p wt fl k pol gs w h)
  clear h
  go_enter Tryd.func17, Tryd.ntmps17
  go_wp2_with (go_at_call 28; refine HRF.out.mono ?_; rintro e w' ⟨rfl, rfl⟩)
  go_loopw [7, 19] (fun out i wr => out = .slice none 0 0 ∧ i = .int .i64 0 ∧ w = wr) (fun _ _ _ => 0)
  case atStart => exact ⟨rfl, rfl, rfl⟩
  case round =>
    obtain ⟨rfl, rfl, rfl⟩ := hrel
    go_wp2
    go_ret2
    exact ⟨rfl, rfl⟩
/-- Feed of all parts to a decoder just made. -/
theorem feed_all (base B : Nat) (k : Nat) (pol : Int) (g : Bool) (A : Option Addr) (c : Nat) (xs : List ByteArray) (w : World) (h : Dc w base B (.slice none 0 0) 0 ⟨#[]⟩ [] k pol g false) (hT : Tabs w) (hp : 0 + 1 + 1 ≤ base) (h1 : 1 ≤ k) (h5 : k ≤ 5) (hq : pol = 1 ∨ pol = 2 ∨ pol = 3)
    (hx : Strs w A c xs) (hA : xs ≠ [] → ∀ a, A = some a → a.block ≠ B) (hn : xs.length ≤ 100000) (hz : (bs (catB xs)).length ≤ 90000) :
    Calls Tryd.prog 17 #[.pointer (some ⟨B, 0, none⟩), .slice A xs.length c] w (FeedP w base B (.slice none 0 0) k pol g [] (xs.length = 1) (bs (catB xs))) := by
  by_cases h0 : xs = []
  · subst h0
    have hs := Dg.sure_nil k pol g
    refine (feed_empty base B _ 0 ⟨#[]⟩ [] k pol g A c w h).mono ?_
    rintro e w' ⟨rfl, rfl⟩
    refine ⟨.slice none 0 0, .slice none 0 0, [], ?_, World.ownsRow_nil _ _ _ _, ?_, Stp.refl _ _ _, .inl ⟨?_, ?_⟩⟩
    · rw [show bs (catB []) = [] from rfl, hs.1]
    · rw [show bs (catB []) = [] from rfl, hs.1]; rfl
    · rw [show bs (catB []) = [] from rfl, hs.1]
    · exact Fed.start h
  · have key := feed_any base B (.slice none 0 0) k pol g [] A c xs w (Fed.start h) hT hp h1 h5 hq hx (fun a ha => ⟨hA h0 a ha, fun e => by cases e⟩) hn (by simpa using hz)
    rw [List.nil_append] at key
    exact key
end Go.Proofs.YthnfopjjghohcaaDoor.St

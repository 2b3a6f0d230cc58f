import Derived.Defers
import Derived.Lib.BufferMore
import Derived.Test.YthnfopjjghohcaaDoorSJ
namespace Go.Proofs.YthnfopjjghohcaaDoor.St
open Go.RowKit

theorem close_any (base B : Nat) (fv : Value) (p : Nat) (wt : ByteArray) (fl : List (Nat × Nat)) (k : Nat) (pol : Int) (gs : Bool) (w : World) (h : Dc w base B fv p wt fl k pol gs false) (hT : Tabs w) (hp : 0 + 1 + 1 ≤ base) (h1 : 1 ≤ k) (h5 : k ≤ 5) (hq : pol = 1 ∨ pol = 2 ∨ pol = 3) (hw : wt.size ≤ p) (hpp : p ≤ 100000) (hfl : fl.length ≤ 100000) :
    Calls Tryd.prog 22 #[.pointer (some ⟨B, 0, none⟩)] w (RdP w base B fv p ⟨#[]⟩ (fl ++ shL (p - wt.size) (Dg.whole k pol gs (bs wt)).2.1) (Dg.knd k gs (bs wt)) pol false true (Dg.whole k pol gs (bs wt))) := by
  have hbl := Dg.beg_le gs (bs wt)
  rw [bs_len] at hbl
  have hsz : (wt.extract (Dg.beg gs (bs wt)) wt.size).size = wt.size - Dg.beg gs (bs wt) := ext_from _ _
  have hbs : bs (wt.extract (Dg.beg gs (bs wt)) wt.size) = (bs wt).drop (Dg.beg gs (bs wt)) := bs_from _ _
  have hkb := Dg.knd_bd k gs (bs wt) h1 h5
  have key := close0 base B fv p wt fl k pol gs w h hT hp h1 h5 hq hw hpp hfl _ rfl (by rw [hsz]; omega) _ hkb.1 hkb.2 rfl
  rw [hsz, hbs, fl_shf p wt.size _ fl _ hbl hw, ← whole_dec k pol gs (bs wt)] at key
  refine key.mono ?_
  rintro e w' ⟨fv', v1, he, ho, hd, hs⟩
  have e1 : (Dg.whole k pol gs (bs wt)).1 = (Dg.dec (Dg.nx5 (Dg.knd k gs (bs wt))) pol 0 ((bs wt).drop (Dg.beg gs (bs wt)))).1 := by rw [whole_dec]; rfl
  have e2 : (Dg.whole k pol gs (bs wt)).2.2 = (Dg.dec (Dg.nx5 (Dg.knd k gs (bs wt))) pol 0 ((bs wt).drop (Dg.beg gs (bs wt)))).2.2 := by rw [whole_dec]; rfl
  refine ⟨fv', v1, by rw [e2]; exact he, ?_, hd, hs⟩
  rw [e1]
  exact ho
set_option maxRecDepth 100000 in
set_option maxHeartbeats 1000000 in
theorem close_over (base B : Nat) (fv : Value) (p : Nat) (wt : ByteArray) (fl : List (Nat × Nat)) (k : Nat) (pol : Int) (gs : Bool) (w : World) (h : Dc w base B fv p wt fl k pol gs true) :
    Calls Tryd.prog 22 #[.pointer (some ⟨B, 0, none⟩)] w fun e w' => e = .returned (.tuple #[.slice none 0 0, .int .i64 21]) ∧ w = w' := by
  have HRF := Lib.hid (refuses_over base B fv p wt fl k pol gs w h)
  clear h
  go_enter_defers Tryd.func22, Tryd.ntmps22
  go_wp2_with (go_at_call 28; refine HRF.out.mono ?_; rintro e w' ⟨rfl, rfl⟩)
  exact ⟨_, results_tmp2 rfl _ _ _, rfl, rfl⟩
set_option maxRecDepth 100000 in
set_option maxHeartbeats 1000000 in
theorem close_nil (w : World) : Calls Tryd.prog 22 #[.pointer none] w fun e w' => e = .returned (.tuple #[.slice none 0 0, .int .i64 2]) ∧ w = w' := by
  have HRF := Lib.hid (refuses_nil w)
  go_enter_defers Tryd.func22, Tryd.ntmps22
  go_wp2_with (go_at_call 28; refine HRF.out.mono ?_; rintro e w' ⟨rfl, rfl⟩)
  exact ⟨_, results_tmp2 rfl _ _ _, rfl, rfl⟩
set_option maxRecDepth 100000 in
set_option maxHeartbeats 1000000 in
theorem feed_over (base B : Nat) (fv : Value) (p : Nat) (wt : ByteArray) (fl : List (Nat × Nat)) (k : Nat) (pol : Int) (gs : Bool) (v : Value) (w : World) (h : Dc w base B fv p wt fl k pol gs true) :
    Calls Tryd.prog 17 #[.pointer (some ⟨B, 0, none⟩), v] w fun e w' => e = .returned (.tuple #[.slice none 0 0, .int .i64 21]) ∧ w = w' := by
  have HRF := Lib.hid (refuses_over base B fv p wt fl k pol gs w h)
  clear h
  go_enter Tryd.func17, Tryd.ntmps17
  go_wp2_with (go_at_call 28; refine HRF.out.mono ?_; rintro e w' ⟨rfl, rfl⟩)
  go_ret2
  exact ⟨rfl, rfl⟩
set_option maxRecDepth 100000 in
set_option maxHeartbeats 1000000 in
theorem feed_nil (v : Value) (w : World) : Calls Tryd.prog 17 #[.pointer none, v] w fun e w' => e = .returned (.tuple #[.slice none 0 0, .int .i64 2]) ∧ w = w' := by
  have HRF := Lib.hid (refuses_nil w)
  go_enter Tryd.func17, Tryd.ntmps17
  go_wp2_with (go_at_call 28; refine HRF.out.mono ?_; rintro e w' ⟨rfl, rfl⟩)
  go_ret2
  exact ⟨rfl, rfl⟩
set_option maxRecDepth 100000 in
set_option maxHeartbeats 1000000 in
theorem sclone_any (b : Nat) (v : Value) (l : List (Nat × Nat)) (w : World) (h : w.ownsRow b 50 2 v l.length (flts l)) (hl : l.length ≤ 300000) :
    Calls Tryd.prog 32 #[v] w fun e w' => ∃ v', e = .returned v' ∧ w'.ownsRow w.heap.size 50 2 v' l.length (flts l) ∧ Below w.heap.size w w' := by
  obtain ⟨j0, hj0, hz0, hz1, hz2⟩ := info_parts f_info
  have J0 := Lib.hid hj0
  have J1 := Lib.hid hz0
  have J2 := Lib.hid hz1
  have J3 := Lib.hid hz2
  clear hj0 hz0 hz1 hz2
  have HO := Lib.hid h
  obtain ⟨A, c, rfl, hF⟩ := own_flts h
  rcases HO.out.2 with ⟨hv, hn⟩ | ⟨g, cap, cur, hv, hg, hh, hn, hm, hc, ht⟩
  · injection hv with e1 e2 e3
    subst e1
    subst e3
    have hl0 : l = [] := List.eq_nil_of_length_eq_zero hn
    subst hl0
    have hnil : ∀ W, (binOp .eql 26 (.slice none 0 0) (.slice none 0 0)).run Tryd.prog W = .ok (.bool true) W := fun W => Lib.run_eql_slice_nil_nil W _ _ Tryd.underlying26
    clear hF HO h hn e2
    go_enter Tryd.func32, Tryd.ntmps32
    go_wp2
    go_ret
    exact ⟨_, rfl, World.ownsRow_nil _ _ _ _, Below.refl _ _⟩
  · injection hv with e1 e2 e3
    subst e1
    subst e3
    have hmx : 0 + l.length ≤ maxLen := by unfold maxLen; omega
    have hnil : ∀ W, (binOp .eql 26 (.slice (some ⟨g, 0, none⟩) l.length c) (.slice none 0 0)).run Tryd.prog W = .ok (.bool false) W := fun W => Lib.run_eql_slice_some_nil W _ _ _ Tryd.underlying26
    have HM := Lib.hid (World.ownsRow_made (base := w.heap.size) (e := 50) (size := 2) w #[] 0 (Nat.le_refl _) (Nat.zero_le _) rfl)
    clear hF h ht hc hm hh hg e2
    go_enter Tryd.func32, Tryd.ntmps32
    go_wp2_with (at_builtin; refine wpList_append_row rfl (.tmp 5) (.tmp 6) _ rfl w.heap.size 50 j0 _ 2 16 Tryd.underlying26 J0.out J1.out J2.out J3.out rfl (by omega) (.slice (some ⟨w.heap.size, 0, none⟩) 0 0) 0 [] rfl HM.out b _ l.length (flts l) rfl (HO.out.alloc _) (flts_one l) hmx (by omega) (by simp) ?_; intro v2 w2 ho2 hg2 ha2; have O2 := Lib.hid ho2; have B2 := Lib.hid (((Below.refl w.heap.size w).alloc (Nat.le_refl _) _).grown hg2 (by simp) (fun q hq => by simp [Value.ownBlock] at hq; omega)); clear ho2 hg2 ha2)
    go_ret
    exact ⟨v2, rfl, by simpa using O2.out, B2.out⟩
set_option maxRecDepth 100000 in
set_option maxHeartbeats 1000000 in
theorem faults_got (base B : Nat) (fv : Value) (p : Nat) (wt : ByteArray) (fl : List (Nat × Nat)) (k : Nat) (pol : Int) (gs ov : Bool) (w : World) (h : Dc w base B fv p wt fl k pol gs ov) (hl : fl.length ≤ 300000) :
    Calls Tryd.prog 18 #[.pointer (some ⟨B, 0, none⟩)] w fun e w' => ∃ v', e = .returned v' ∧ w'.ownsRow w.heap.size 50 2 v' fl.length (flts fl) ∧ Below w.heap.size w w' := by
  have c2 := h.d.c2
  have HC := Lib.hid (sclone_any base fv fl w h.f hl)
  clear h
  go_enter Tryd.func18, Tryd.ntmps18
  go_wp2_with (go_at_call 32; refine HC.out.mono ?_; rintro e w1 ⟨v1, rfl, ho, hb⟩; have O1 := Lib.hid ho; have B1 := Lib.hid hb; clear ho hb)
  go_ret
  exact ⟨v1, rfl, O1.out, B1.out⟩
theorem faults_nil (w : World) : Calls Tryd.prog 18 #[.pointer none] w fun e w' => e = .returned (.slice none 0 0) ∧ w = w' := by
  go_enter Tryd.func18, Tryd.ntmps18
  go_wp2
  go_ret
  exact ⟨rfl, rfl⟩
end Go.Proofs.YthnfopjjghohcaaDoor.St

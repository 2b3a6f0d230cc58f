import Derived.Test.YtajhgbcgbgpcjaaGreatDoorFXc
import Derived.Test.YtajhgbcgbgpcjaaGreatDoorFS
import Derived.Deep.OwnRows
namespace Go.Proofs.YtajhgbcgbgpcjaaGreatDoor.Fi
open Go.RowKit

/-- Characters, told one by one. -/
def txE (l : List Int) : List UInt8 := Lib.join (l.map fun r => hx4 r.toNat) [32]
/-- The row of words that is filled from its beginning. -/
def wrs (l : List Int) (k : Nat) : List Value := svs ((l.take k).map fun r => hx4 r.toNat) ++ List.replicate (l.length - k) (.string ⟨#[]⟩)
theorem wrs_len (l : List Int) (k : Nat) (h : k ≤ l.length) : (wrs l k).length = l.length := by simp [wrs, svs, List.length_take]; omega
theorem wrs_zero (l : List Int) : wrs l 0 = List.replicate l.length (.string ⟨#[]⟩) := by simp [wrs, svs]
theorem wrs_at (l : List Int) (k : Nat) (h : k < l.length) : (wrs l k)[k]? = some (.string ⟨#[]⟩) := by
  unfold wrs
  have hl : (svs ((l.take k).map fun r => hx4 r.toNat)).length = k := by simp [svs, List.length_take]; omega
  rw [List.getElem?_append_right (by omega), hl, List.getElem?_replicate, if_pos (by omega)]
theorem wrs_set (l : List Int) (k : Nat) (h : k < l.length) : (wrs l k).set k (.string ⟨(hx4 (l.getD k 0).toNat).toArray⟩) = wrs l (k + 1) := by
  unfold wrs
  have hl : (svs ((l.take k).map fun r => hx4 r.toNat)).length = k := by simp [svs, List.length_take]; omega
  rw [List.set_append_right _ _ (by omega), hl, Nat.sub_self, take_more l k h, List.map_append, svs_app, List.append_assoc, show l.length - k = (l.length - (k + 1)) + 1 by omega, List.replicate_succ, List.set_cons_zero]
  rfl
theorem wrs_end (l : List Int) : wrs l l.length = svs (l.map fun r => hx4 r.toNat) := by simp [wrs]
structure TxR (w wr : World) (g : Nat) (l : List Int) (k : Nat) : Prop where
  bel : Below w.heap.size w wr
  rw : Rw wr g (wrs l k)
theorem hx4_len (n : Nat) : (hx4 n).length ≤ 8 := by unfold hx4; rw [fwu_len]; exact (wd_bd n).2
theorem join_len : ∀ (l : List (List UInt8)), (∀ x ∈ l, x.length ≤ 8) → (Lib.join l [32]).length ≤ 9 * l.length
  | [], _ => by simp [Lib.join]
  | [x], h => by have := h x (by simp); simp [Lib.join]; omega
  | x :: y :: l, h => by
    have h1 := h x (by simp)
    have h2 := join_len (y :: l) (fun z hz => h z (by simp [hz]))
    simp [Lib.join] at h2 ⊢
    omega

set_option maxRecDepth 100000 in
set_option maxHeartbeats 2000000 in
theorem text_any (A : Option Addr) (c : Nat) (l : List Int) (w : World) (hl : Ints .i32 w A l) (hi : ∀ x ∈ l, -2147483648 ≤ x ∧ x ≤ 2147483647) (hz : l.length ≤ 100000) (hT : Tz w) :
    Calls Tryz.prog 36 #[.slice A l.length c] w fun e w' => e = .returned (.string ⟨(txE l).toArray⟩) ∧ Below w.heap.size w w' := by
  have HL := Lib.hid hl
  have HI := Lib.hid hi
  have HT := Lib.hid hT
  clear hl hi hT
  have hmk := run_make_row' (P := Tryz.prog) 70 9 (.string ⟨#[]⟩) 16 Tryz.underlying70 s_info rfl .i64 .i64 l.length (by omega) (by omega) w
  have hR0 : Rw (w.alloc (.cells (madeCells #[.string ⟨#[]⟩] l.length) 9)) w.heap.size (wrs l 0) := ⟨by rw [wrs_zero, ← toList_madeCells_one]; exact heap_alloc_new w _⟩
  have hB0 : Below w.heap.size w (w.alloc (.cells (madeCells #[.string ⟨#[]⟩] l.length) 9)) := (Below.refl _ w).alloc (Nat.le_refl _) _
  obtain ⟨W0, hW0⟩ : ∃ W0, W0 = w.alloc (.cells (madeCells #[.string ⟨#[]⟩] l.length) 9) := ⟨_, rfl⟩
  rw [← hW0] at hmk hR0 hB0
  have HB0 := Lib.hid hB0
  have HR0 := Lib.hid hR0
  clear hW0 hB0 hR0
  go_enter Tryz.func36, Tryz.ntmps36
  go_wp2_with fail
  clear hmk
  go_loopw [11] (fun i wr => ∃ k : Nat, i = .int .i64 k ∧ k ≤ l.length ∧ Hid (TxR w wr w.heap.size l k)) (fun i _ => l.length - (intOf i).toNat)
  case atStart => exact ⟨0, rfl, by omega, HB0.out, HR0.out⟩
  case round =>
    obtain ⟨k, rfl, hk, HR⟩ := hrel
    have hsz := HR.out.bel.size
    have hlg := HR.out.rw.lt
    by_cases hlt : k < l.length
    · have g1 : (k : Int) < l.length := by omega
      obtain ⟨b, off, rfl, hb, hc⟩ := HL.out k hlt
      have hc' := (HR.out.bel.cell (p := ⟨b, off + k, none⟩) hb).trans hc
      have hx := HI.out (l.getD k 0) (by rw [List.getD_eq_getElem?_getD, List.getElem?_eq_getElem hlt]; exact List.getElem_mem hlt)
      have HS := Lib.hid (wrs_set l k hlt)
      generalize l.getD k 0 = x at hc' hx HS
      clear hc
      have HX := Lib.hid (hexOf_any x wr hx.1 hx.2 (tz_bel HT.out HR.out.bel (tz_pos HT.out)))
      have HC := Lib.hid (fun w2 (h : Below wr.heap.size wr w2) => (HR.out.rw.below h).cell (wrs_at l k hlt))
      have HF := Lib.hid (fun w2 (h : Below wr.heap.size wr w2) => (HR.out.rw.below h).fr k)
      obtain ⟨S, hS⟩ : ∃ S : ByteArray, S = ⟨(hx4 x.toNat).toArray⟩ := ⟨_, rfl⟩
      rw [← hS] at HX HS
      clear hS hx
      go_wp2_with (go_at_call 54; refine HX.out.mono ?_; rintro e w2 ⟨rfl, hb⟩; have B2 := Lib.hid hb; have hc2 := HC.out w2 hb; have hf2 := HF.out w2 hb; clear hb)
      go_roundw
      case rel =>
        refine ⟨k + 1, by go_num, by omega, ?_, ?_⟩
        · exact (HR.out.bel.trans (B2.out.mono HR.out.bel.size)).setCell (Nat.le_refl _) _
        · rw [← HS.out]
          exact (HR.out.rw.below B2.out).set k _
      case measure => simp [intOf] <;> omega
    · have g1 : ¬ (k : Int) < l.length := by omega
      obtain rfl : k = l.length := by omega
      have hw := HR.out.rw
      rw [wrs_end] at hw
      have hj := Tryz.strings_Join w.heap.size 0 l.length (l.map fun r => (⟨(hx4 r.toNat).toArray⟩ : ByteArray)) ⟨#[32]⟩ wr (fun j x hx => by
        have := hw.cell (k := j) (v := .string x) (by
          rw [List.getElem?_map] at hx
          rw [svs, List.map_map, List.getElem?_map]
          cases h : l[j]? with
          | none => rw [h] at hx; cases hx
          | some r => rw [h] at hx; cases hx; rfl)
        rw [Nat.zero_add]
        exact this) hlg (by rw [List.length_map]; omega) (by rw [List.length_map]; omega) (by
        rw [List.map_map]
        have := join_len (l.map fun r => hx4 r.toNat) (fun x hx => by
          obtain ⟨r, _, rfl⟩ := List.mem_map.1 hx
          exact hx4_len _)
        rw [List.length_map] at this
        exact Nat.le_trans this (by omega))
      rw [List.length_map, List.map_map] at hj
      have HJ := Lib.hid (show Calls Tryz.prog 38 #[.slice (some ⟨w.heap.size, 0, none⟩) l.length l.length, .string ⟨#[32]⟩] wr fun e w' => e = .returned (.string ⟨(txE l).toArray⟩) ∧ Below wr.heap.size wr w' from hj)
      clear hj hw
      go_wp2_with (go_at_call 38; refine HJ.out.mono ?_; rintro e w2 ⟨rfl, hb⟩; have B2 := Lib.hid hb; clear hb)
      go_ret
      exact ⟨rfl, HR.out.bel.trans (B2.out.mono HR.out.bel.size)⟩

end Go.Proofs.YtajhgbcgbgpcjaaGreatDoor.Fi

import Derived.Test.YtajhgbcgbgpcjaaDoorFSa
import Derived.Test.YtajhgbcgbgpcjaaDoorFRe
namespace Go.Proofs.YtajhgbcgbgpcjaaDoor.Fi
open Go.RowKit

/-- A row of texts that may have room behind it. -/
structure Rc (w : World) (g cap : Nat) (vs : List Value) : Prop where
  blk : ∃ cur : Array Value, w.heap[g]? = some (.cells cur 9 (0, 0)) ∧ cur.size = cap ∧ cur.toList.take vs.length = vs ∧ vs.length ≤ cap ∧ cap ≤ maxLen
theorem Rc.of {w : World} {b : Nat} {v : Value} {n : Nat} {vs : List Value} (h : w.ownsRow b 9 1 v n vs) (h0 : n ≠ 0) : ∃ g cap, v = .slice (some ⟨g, 0, none⟩) n cap ∧ b ≤ g ∧ n ≤ cap ∧ vs.length = n ∧ Rc w g cap vs := by
  have hl : vs.length = n := by have := h.1; omega
  rcases h.2 with ⟨_, hn⟩ | ⟨g, cap, cur, hv, hg, hh, hn, hm, hc, ht⟩
  · exact absurd hn h0
  · rw [Nat.mul_one] at hc ht
    exact ⟨g, cap, hv, hg, hn, hl, ⟨cur, hh, hc, by rw [hl]; exact ht, by omega, hm⟩⟩
theorem Rc.lt {w : World} {g cap : Nat} {vs : List Value} (h : Rc w g cap vs) : g < w.heap.size := by
  obtain ⟨cur, hh, _⟩ := h.blk
  exact (Array.getElem?_eq_some_iff.1 hh).1
theorem Rc.cell {w : World} {g cap : Nat} {vs : List Value} (h : Rc w g cap vs) {k : Nat} {v : Value} (hv : vs[k]? = some v) : w.cell? ⟨g, k, none⟩ = some v := by
  obtain ⟨cur, hh, hc, ht, hl, _⟩ := h.blk
  have hk : k < vs.length := (List.getElem?_eq_some_iff.1 hv).1
  have h2 : cur[k]? = some v := by
    rw [← Array.getElem?_toList, ← hv]
    conv => rhs; rw [← ht]
    rw [List.getElem?_take, if_pos hk]
  simp [World.cell?, hh, h2]
theorem Rc.fr {w : World} {g cap : Nat} {vs : List Value} (h : Rc w g cap vs) (k : Nat) : w.frozen? ⟨g, k, none⟩ = false := by
  obtain ⟨cur, hh, _⟩ := h.blk
  simp [World.frozen?, hh]
theorem Rc.below {w w' : World} {g cap : Nat} {vs : List Value} (h : Rc w g cap vs) (hb : Below w.heap.size w w') : Rc w' g cap vs := by
  obtain ⟨cur, hh, h2⟩ := h.blk
  exact ⟨cur, (hb.block g h.lt).trans hh, h2⟩
theorem Rc.set {w : World} {g cap : Nat} {vs : List Value} (h : Rc w g cap vs) (k : Nat) (v : Value) (_hk : k < vs.length) : Rc (w.setCell ⟨g, k, none⟩ v) g cap (vs.set k v) := by
  obtain ⟨cur, hh, hc, ht, hl, hm⟩ := h.blk
  refine ⟨cur.setIfInBounds k v, by simp [World.setCell, Array.getElem?_modify, hh], by simpa using hc, ?_, by simpa using hl, hm⟩
  rw [List.length_set, Array.toList_setIfInBounds, List.take_set, ht]
theorem Rc.own {w : World} {g cap b n : Nat} {vs : List Value} (h : Rc w g cap vs) (hb : b ≤ g) (hn : vs.length = n) : w.ownsRow b 9 1 (.slice (some ⟨g, 0, none⟩) n cap) n vs := by
  obtain ⟨cur, hh, hc, ht, hl, hm⟩ := h.blk
  exact ⟨by omega, .inr ⟨g, cap, cur, rfl, hb, hh, by omega, hm, by omega, by rw [Nat.mul_one, ← hn]; exact ht⟩⟩
structure RsR (w wr : World) (g cap : Nat) (ls : List (List UInt8)) (k : Nat) : Prop where
  bel : Below w.heap.size w wr
  rc : Rc wr g cap (brs ls k)

set_option maxRecDepth 100000 in
set_option maxHeartbeats 4000000 in
theorem rsplit_any (s : ByteArray) (c : UInt8) (w : World) (hs : s.size ≤ 100000) :
    Calls Tryd.prog 32 #[.string s, .int .u8 c.toNat] w (CutP w ((spl c [] s.data.toList).map bareL)) := by
  have HSp := Lib.hid (rcut_any s c w hs)
  have hlen := spl_len c s.data.toList []
  have hcn : s.data.toList.count c ≤ s.size := by have := List.count_le_length (a := c) (l := s.data.toList); rw [lst_len] at this; exact this
  have HMem := Lib.hid (spl_mem c s.data.toList [])
  obtain ⟨ls, hls⟩ : ∃ ls, ls = spl c [] s.data.toList := ⟨_, rfl⟩
  rw [← hls] at HSp hlen HMem ⊢
  have hll : ls.length ≤ 100001 := by omega
  have hl0 : ls.length ≠ 0 := by omega
  clear hls hlen hcn
  go_enter Tryd.func32, Tryd.ntmps32
  go_wp2_with (go_at_call 41; refine HSp.out.mono ?_; rintro e w1 ⟨v, rfl, ho, hb⟩; obtain ⟨g, cap, rfl, hg, hcap, hvl, hrc⟩ := Rc.of ho hl0; have R1 := Lib.hid hrc; have B1 := Lib.hid hb; clear ho hb hrc hvl)
  go_loopw [6] (fun i wr => ∃ k : Nat, i = .int .i64 k ∧ k ≤ ls.length ∧ Hid (RsR w wr g cap ls k)) (fun i _ => ls.length - (intOf i).toNat)
  case atStart => exact ⟨0, rfl, by omega, B1.out, by rw [brs_zero]; exact R1.out⟩
  case round =>
    obtain ⟨k, rfl, hk, HR⟩ := hrel
    have hsz := HR.out.bel.size
    have hlg := HR.out.rc.lt
    by_cases hlt : k < ls.length
    · have g1 : (k : Int) < ls.length := by omega
      have hc := HR.out.rc.cell (brs_at ls k hlt)
      have hf := HR.out.rc.fr k
      obtain ⟨x, hx⟩ : ∃ x : ByteArray, x = ⟨(ls[k]).toArray⟩ := ⟨_, rfl⟩
      rw [← hx] at hc
      have hxz : x.size ≤ s.size := by rw [hx, size_mk]; have := HMem.out ls[k] (List.getElem_mem hlt); rw [lst_len] at this; simpa using this
      have hBa := fun W => rbare_any x W (by omega)
      rw [show x.data.toList = ls[k] by rw [hx]] at hBa
      obtain ⟨q, hq⟩ : ∃ q : ByteArray, q = ⟨(bareL ls[k]).toArray⟩ := ⟨_, rfl⟩
      rw [← hq] at hBa
      have HBa := Lib.hid hBa
      have HQ := Lib.hid hq
      clear hBa hx hq
      go_wp2_with (go_at_call 42; refine (HBa.out _).mono ?_; rintro e w3 ⟨rfl, rfl⟩)
      go_roundw
      case rel =>
        refine ⟨k + 1, by go_num, by omega, ?_, ?_⟩
        · exact HR.out.bel.setCell hg _
        · rw [← brs_set ls k hlt, ← HQ.out]
          exact HR.out.rc.set k _ (by rw [brs_len]; exact hlt)
      case measure => simp [intOf] <;> omega
    · have g1 : ¬ (k : Int) < ls.length := by omega
      obtain rfl : k = ls.length := by omega
      go_wp2_with fail
      go_ret
      have h5 := HR.out.rc
      rw [brs_end] at h5
      refine ⟨_, rfl, ?_, HR.out.bel⟩
      rw [List.length_map]
      exact h5.own hg (by simp [svs])

end Go.Proofs.YtajhgbcgbgpcjaaDoor.Fi

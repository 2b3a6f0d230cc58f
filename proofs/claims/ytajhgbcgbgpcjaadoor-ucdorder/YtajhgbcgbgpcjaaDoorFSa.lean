import Derived.Test.YtajhgbcgbgpcjaaDoorFS
namespace Go.Proofs.YtajhgbcgbgpcjaaDoor.Fi
open Go.RowKit

theorem one_str (c : UInt8) (w : World) : (convert 80 9 (.slice (some ⟨w.heap.size, 0, none⟩) 1 1)).run Tryd.prog (w.alloc (.cells #[.int .u8 (c.toNat : Int)] 5)) = .ok (.string ⟨#[c]⟩) (w.alloc (.cells #[.int .u8 (c.toNat : Int)] 5)) := by
  have h : (w.alloc (.cells #[.int .u8 (c.toNat : Int)] 5)).ownsRow w.heap.size 5 1 (.slice (some ⟨w.heap.size, 0, none⟩) 1 1) 1 (u8v [c]) :=
    ⟨rfl, .inr ⟨w.heap.size, 1, #[.int .u8 (c.toNat : Int)], rfl, Nat.le_refl _, heap_alloc_new w _, Nat.le_refl _, by unfold maxLen; omega, rfl, rfl⟩⟩
  exact run_string_own _ _ _ _ _ h
theorem split_any (s : ByteArray) (c : UInt8) (w : World) (hM : Ml w) (hs : s.size ≤ 100000) :
    Calls Tryd.prog 49 #[.string s, .string ⟨#[c]⟩] w fun e w' => e = .returned (.slice (some ⟨w.heap.size, 0, none⟩) (spl c [] s.data.toList).length (spl c [] s.data.toList).length) ∧ w' = w.alloc (.cells (svs (spl c [] s.data.toList)).toArray 9) := by
  obtain ⟨m, hm⟩ := hM
  have h := Tryd.strings_Split s ⟨#[c]⟩ m w (by omega) hm (Nat.le_refl 1)
  have e1 : (Lib.splitB ⟨#[c]⟩ 0 (Lib.countB s ⟨#[c]⟩) s).map Value.string = svs (spl c [] s.data.toList) := by
    rw [← split_spl, svs, List.map_map]
    rfl
  rw [e1, countB_one, ← spl_len c s.data.toList []] at h
  exact h

structure SpR (w wr : World) (g : Nat) (ls : List (List UInt8)) (k : Nat) : Prop where
  bel : Below w.heap.size w wr
  rw : Rw wr g (brs ls k)
theorem spl_mem (c : UInt8) : ∀ (l cur : List UInt8), ∀ x ∈ spl c cur l, x.length ≤ cur.length + l.length
  | [], cur, x, h => by simp [spl] at h; subst h; simp
  | b :: l, cur, x, h => by
    rw [spl] at h
    split at h
    · rcases List.mem_cons.1 h with rfl | h
      · simp
      · have := spl_mem c l [] x h
        simp at this
        simp
        omega
    · have := spl_mem c l _ x h
      simp at this
      simp
      omega

set_option maxRecDepth 100000 in
set_option maxHeartbeats 4000000 in
theorem fsplit_any (s : ByteArray) (c : UInt8) (w : World) (hL : Ml w) (hs : s.size ≤ 100000) :
    Calls Tryd.prog 27 #[.string s, .int .u8 c.toNat] w (CutP w ((spl c [] s.data.toList).map bareL)) := by
  have hcv := one_str c w
  have hb1 : Below w.heap.size w (w.alloc (.cells #[.int .u8 (c.toNat : Int)] 5)) := (Below.refl _ w).alloc (Nat.le_refl _) _
  have HSp := Lib.hid ((split_any s c _ (hL.on hb1) hs).mono fun e w' h => (show e = _ ∧ _ = w' from ⟨h.1, h.2.symm⟩))
  have hlen := spl_len c s.data.toList []
  have hcn : s.data.toList.count c ≤ s.size := by have := List.count_le_length (a := c) (l := s.data.toList); rw [lst_len] at this; exact this
  have HMem := Lib.hid (spl_mem c s.data.toList [])
  obtain ⟨ls, hls⟩ : ∃ ls, ls = spl c [] s.data.toList := ⟨_, rfl⟩
  rw [← hls] at HSp hlen HMem ⊢
  have hll : ls.length ≤ 100001 := by omega
  clear hls hL hlen hcn
  have hR0 : Rw ((w.alloc (.cells #[.int .u8 (c.toNat : Int)] 5)).alloc (.cells (svs ls).toArray 9)) (w.heap.size + 1) (brs ls 0) := ⟨by rw [brs_zero]; have := heap_alloc_new (w.alloc (.cells #[.int .u8 (c.toNat : Int)] 5)) (.cells (svs ls).toArray 9); simpa using this⟩
  have HB2 := Lib.hid (hb1.alloc hb1.size (.cells (svs ls).toArray 9))
  have HR0 := Lib.hid hR0
  clear hb1 hR0
  have hz : (w.alloc (.cells #[.int .u8 (c.toNat : Int)] 5)).heap.size = w.heap.size + 1 := by simp
  rw [hz] at HSp
  clear hz
  go_enter Tryd.func27, Tryd.ntmps27
  go_wp2_with (go_at_call 49; refine HSp.out.mono ?_; rintro e w2 ⟨rfl, rfl⟩)
  go_loopw [15] (fun i wr => ∃ k : Nat, i = .int .i64 k ∧ k ≤ ls.length ∧ Hid (SpR w wr (w.heap.size + 1) ls k)) (fun i _ => ls.length - (intOf i).toNat)
  case atStart => exact ⟨0, rfl, by omega, HB2.out, HR0.out⟩
  case round =>
    obtain ⟨k, rfl, hk, HR⟩ := hrel
    have hsz := HR.out.bel.size
    have hlg := HR.out.rw.lt
    by_cases hlt : k < ls.length
    · have g1 : (k : Int) < ls.length := by omega
      have hc := HR.out.rw.cell (brs_at ls k hlt)
      have hf := HR.out.rw.fr k
      obtain ⟨x, hx⟩ : ∃ x : ByteArray, x = ⟨(ls[k]).toArray⟩ := ⟨_, rfl⟩
      rw [← hx] at hc
      have hxz : x.size ≤ s.size := by rw [hx, size_mk]; have := HMem.out ls[k] (List.getElem_mem hlt); rw [lst_len] at this; simpa using this
      have hBa := fun W => bare_any x W (by omega)
      rw [show x.data.toList = ls[k] by rw [hx]] at hBa
      obtain ⟨q, hq⟩ : ∃ q : ByteArray, q = ⟨(bareL ls[k]).toArray⟩ := ⟨_, rfl⟩
      rw [← hq] at hBa
      have hqz : q.size ≤ s.size := by rw [hq, size_mk]; have := bareL_le ls[k]; rw [hx, size_mk] at hxz; omega
      have HBa := Lib.hid hBa
      have HOw := Lib.hid (fun W => own_any q W (by omega))
      have HQ := Lib.hid hq
      clear hBa hx hq
      go_wp2_with (first
        | (go_at_call 48; refine (HBa.out _).mono ?_; rintro e w3 ⟨rfl, hb⟩; have B3 := Lib.hid hb; clear hb)
        | (go_at_call 50; refine (HOw.out _).mono ?_; rintro e w4 ⟨rfl, hb⟩; have B4 := Lib.hid hb; have hc4 := ((HR.out.rw.below B3.out).below hb).cell (brs_at ls k hlt); have hf4 := ((HR.out.rw.below B3.out).below hb).fr k; clear hb))
      go_roundw
      case rel =>
        refine ⟨k + 1, by go_num, by omega, ?_, ?_⟩
        · have b3 := HR.out.bel.trans (B3.out.mono HR.out.bel.size)
          have b4 := b3.trans (B4.out.mono b3.size)
          exact b4.setCell (by simp) _
        · rw [← brs_set ls k hlt, ← HQ.out]
          exact ((HR.out.rw.below B3.out).below B4.out).set k _
      case measure => simp [intOf] <;> omega
    · have g1 : ¬ (k : Int) < ls.length := by omega
      obtain rfl : k = ls.length := by omega
      go_wp2_with fail
      go_ret
      have h5 := HR.out.rw
      rw [brs_end] at h5
      refine ⟨_, rfl, ?_, HR.out.bel⟩
      rw [List.length_map]
      exact h5.own (by omega) (by simp [svs]) (by unfold maxLen; omega)

end Go.Proofs.YtajhgbcgbgpcjaaDoor.Fi

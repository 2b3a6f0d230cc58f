import Derived.Test.YtajhgbcgbgpcjaaGreatDoorFXa
namespace Go.Proofs.YtajhgbcgbgpcjaaGreatDoor.Fi
open Go.RowKit

/-- The array of bytes that is filled from its end. -/
def fbC (j n : Nat) : List Value := List.replicate (65 - j) (.int .u8 0) ++ u8v (fwl j n)
structure FbR (w wr : World) (j n : Nat) : Prop where
  bel : Below w.heap.size w wr
  blk : wr.heap[w.heap.size]? = some (.cells (fbC j n).toArray 145 (0, 0))
theorem fbC_len {j n : Nat} (h : j ≤ 65) : (fbC j n).length = 65 := by simp [fbC, u8v, fwl_len]; omega
theorem fbC_set {j n k : Nat} (hk : k + 1 + j = 65) : (fbC j n).set k (.int .u8 ((ld (n / 16 ^ j % 16)).toNat : Int)) = fbC (j + 1) n := by
  unfold fbC
  rw [fwl_head, show 65 - j = k + 1 by omega, show 65 - (j + 1) = k by omega, List.replicate_succ', List.append_assoc, List.set_append_right _ _ (by simp)]
  simp [u8v]
theorem fb_cell {w wr : World} {j n k : Nat} (h : FbR w wr j n) (hk : k + 1 + j = 65) : wr.cell? ⟨w.heap.size, k, none⟩ = some (.int .u8 0) := by
  simp [World.cell?, h.blk, fbC]
  rw [List.getElem?_append_left (by simp; omega), List.getElem?_replicate, if_pos (by omega)]
theorem fb_fr {w wr : World} {j n k : Nat} (h : FbR w wr j n) : wr.frozen? ⟨w.heap.size, k, none⟩ = false := by simp [World.frozen?, h.blk]
theorem fb_set {w wr : World} {j n k : Nat} (h : FbR w wr j n) (hk : k + 1 + j = 65) : FbR w (wr.setCell ⟨w.heap.size, k, none⟩ (.int .u8 ((ld (n / 16 ^ j % 16)).toNat : Int))) (j + 1) n :=
  ⟨h.bel.setCell (Nat.le_refl _) _, by rw [← fbC_set hk]; simp [World.setCell, Array.getElem?_modify, h.blk]⟩
theorem fb_str {w wr : World} {j n k : Nat} (h : FbR w wr j n) (hk : k + j = 65) (cap : Nat) : (convert 47 9 (.slice (some ⟨w.heap.size, k, none⟩) j cap)).run Tryz.prog wr = .ok (.string ⟨(fwl j n).toArray⟩) wr := by
  have := run_convert_bytes_arg wr 47 5 Tryz.underlying47 Tryz.underlying5 w.heap.size k j cap ((fwl j n).map fun x : UInt8 => (x.toNat : Int)) (by simp [fwl_len]) (fun i hi => ?_) 9 Tryz.underlying9
  · rw [nums_str] at this
    exact this
  · have hi' : i < (fwl j n).length := by rw [fwl_len]; exact hi
    simp [World.cell?, h.blk, fbC]
    rw [List.getElem?_append_right (by simp; omega)]
    simp only [List.length_replicate, show k + i - (65 - j) = i by omega]
    simp [u8v, List.getElem?_eq_getElem hi']
theorem zero65 : Tryz.zeroCells145 = (fbC 0 0).toArray := by kernel_rfl
theorem fbC0 (n : Nat) : fbC 0 n = fbC 0 0 := rfl
def digS : ByteArray := ⟨#[48, 49, 50, 51, 52, 53, 54, 55, 56, 57, 97, 98, 99, 100, 101, 102, 103, 104, 105, 106, 107, 108, 109, 110, 111, 112, 113, 114, 115, 116, 117, 118, 119, 120, 121, 122]⟩
theorem dig_at (d : Nat) (h : d < 16) (w : World) : (Instr.index 9 (.string ⟨#[48, 49, 50, 51, 52, 53, 54, 55, 56, 57, 97, 98, 99, 100, 101, 102, 103, 104, 105, 106, 107, 108, 109, 110, 111, 112, 113, 114, 115, 116, 117, 118, 119, 120, 121, 122]⟩) (.int .u64 d)).run Tryz.prog w = .ok (.int .u8 ((ld d).toNat : Int)) w := by
  obtain rfl | rfl | rfl | rfl | rfl | rfl | rfl | rfl | rfl | rfl | rfl | rfl | rfl | rfl | rfl | rfl : d = 0 ∨ d = 1 ∨ d = 2 ∨ d = 3 ∨ d = 4 ∨ d = 5 ∨ d = 6 ∨ d = 7 ∨ d = 8 ∨ d = 9 ∨ d = 10 ∨ d = 11 ∨ d = 12 ∨ d = 13 ∨ d = 14 ∨ d = 15 := by omega
  all_goals kernel_rfl
theorem sl65 (g k : Nat) (W : World) (h : k < 65) : (Instr.sliceAt 145 (.pointer (some ⟨g, 0, none⟩)) (some (.int .i64 k)) none none).run Tryz.prog W = .ok (.slice (some ⟨g, k, none⟩) (65 - k) (65 - k)) W := by
  have hl : Tryz.prog.arrayLen 145 = 65 := by kernel_rfl
  have he : Tryz.prog.elem 145 = 5 := by kernel_rfl
  have z5 := Tryz.sizeOf5
  rw [run_sliceAt_array_l W 145 _ (by kernel_rfl) .i64 k (by omega) (by rw [hl]; omega), hl, he]
  simp [slicedAt, go_sem, z5, show ¬ 65 = k by omega]
/-- What FormatInt answers at base 16. -/
def FmtP (n : Nat) (mk : ByteArray → Value) (w : World) (e : Ending) (w' : World) : Prop := ∃ k, 1 ≤ k ∧ n < 16 ^ k ∧ (k = 1 ∨ 16 ^ (k - 1) ≤ n) ∧ e = .returned (mk ⟨(fwl k n).toArray⟩) ∧ Below w.heap.size w w'
theorem tz_bel {w w' : World} {B : Nat} (h : Tz w) (hb : Below B w w') (hB : 6 < B) : Tz w' := (hb.cell (p := ⟨6, 15, none⟩) hB).trans h
theorem tz_pos {w : World} (h : Tz w) : 6 < w.heap.size := World.block_lt_of_cell? w _ h
theorem tz_on {w w' : World} (h : Tz w) (hb : Below w.heap.size w w') : Tz w' := tz_bel h hb (tz_pos h)

set_option maxRecDepth 100000 in
set_option maxHeartbeats 4000000 in
theorem fbits_any (n : Nat) (w : World) (hn : n < 2147483648) (hT : Tz w) :
    Calls Tryz.prog 95 #[.slice none 0 0, .int .u64 n, .int .i64 16, .bool false, .bool false] w (FmtP n (fun s => .tuple #[.slice none 0 0, .string s]) w) := by
  have HT := Lib.hid (tz_on hT ((Below.refl _ w).alloc (Nat.le_refl _) (.cells Tryz.zeroCells145 145)))
  have HB := Lib.hid ((Below.refl _ w).alloc (Nat.le_refl _) (.cells Tryz.zeroCells145 145))
  have HK := Lib.hid (show (w.alloc (.cells Tryz.zeroCells145 145)).heap[w.heap.size]? = some (.cells (fbC 0 n).toArray 145 (0, 0)) by rw [fbC0, ← zero65]; exact heap_alloc_new w _)
  clear hT
  go_enter Tryz.func95, Tryz.ntmps95
  go_wp2_with (first
    | (go_at_call 118; refine (pow2_any _).mono ?_; rintro e w' ⟨rfl, rfl⟩)
    | (go_at_call 119; refine (tz_any _ HT.out).mono ?_; rintro e w' ⟨rfl, rfl⟩))
  go_loopw [1, 13] (fun uv iv wr => ∃ j u k : Nat, uv = .int .u64 u ∧ iv = .int .i64 k ∧ 58 ≤ k ∧ k ≤ 65 ∧ u < 2147483648 ∧ Hid (k + j = 65 ∧ u = n / 16 ^ j ∧ (j = 0 ∨ 16 ^ j ≤ n) ∧ FbR w wr j n)) (fun uv _ _ => (intOf uv).toNat)
  case atStart => exact ⟨0, n, 65, rfl, rfl, by omega, by omega, hn, rfl, by simp, .inl rfl, HB.out, HK.out⟩
  case round =>
    obtain ⟨j, u, k, rfl, rfl, hk1, hk2, hu, HR⟩ := hrel
    obtain ⟨k, rfl⟩ : ∃ k', k = k' + 1 := ⟨k - 1, by omega⟩
    have hc := fb_cell HR.out.2.2.2 HR.out.1
    have hf := fb_fr HR.out.2.2.2 (k := k)
    by_cases h16 : 16 ≤ u
    · have g16 : (16 : Int) ≤ u := by omega
      have hq : bits .and .u64 (u : Int) 15 = ((u % 16 : Nat) : Int) := by
        rw [← nat_mask4]
        exact u64_and_nat u 15 (by omega) (by omega)
      have hd : u % 16 < 16 := Nat.mod_lt _ (by omega)
      have HD := Lib.hid (show u % 16 = n / 16 ^ j % 16 by rw [← HR.out.2.1])
      obtain ⟨d, hdd⟩ : ∃ d, d = u % 16 := ⟨_, rfl⟩
      rw [← hdd] at hq hd HD
      have hix := fun W => dig_at d hd W
      have HQ := Lib.hid (fb_set HR.out.2.2.2 HR.out.1)
      rw [← HD.out] at HQ
      have hcl := UInt8.toNat_lt (ld d)
      have HP := Lib.hid (show 16 ^ (j + 1) ≤ n by
        have := HR.out.2.1
        rw [Nat.pow_succ]
        have h2 : 16 * 16 ^ j ≤ n / 16 ^ j * 16 ^ j := Nat.mul_le_mul_right _ (by omega)
        have h3 := Nat.div_mul_le_self n (16 ^ j)
        omega)
      have HU := Lib.hid (show u / 16 = n / 16 ^ (j + 1) by rw [HR.out.2.1, Nat.div_div_eq_div_mul, ← Nat.pow_succ])
      have HJ := Lib.hid (show k + (j + 1) = 65 by have := HR.out.1; omega)
      have hj : 58 ≤ k := by
        have h1 := HP.out
        have h2 := HJ.out
        rcases Nat.lt_or_ge k 58 with h | h
        · exfalso
          have : 16 ^ 8 ≤ 16 ^ (j + 1) := Nat.pow_le_pow_right (by omega) (by omega)
          omega
        · exact h
      clear hdd
      go_wp2_with fail
      go_roundw
      case rel => exact ⟨j + 1, u / 16, k, by go_num, by go_num, by omega, by omega, by omega, HJ.out, HU.out, .inr HP.out, HQ.out⟩
      case measure => simp [intOf]; omega
    · have g16 : ¬ (16 : Int) ≤ u := by omega
      have hix := fun W => dig_at u (by omega) W
      have HD := Lib.hid (show u = n / 16 ^ j % 16 by rw [← HR.out.2.1, Nat.mod_eq_of_lt (by omega)])
      have HQ := Lib.hid (fb_set HR.out.2.2.2 HR.out.1)
      rw [← HD.out] at HQ
      have HJ := Lib.hid (show k + (j + 1) = 65 by have := HR.out.1; omega)
      have hcl := UInt8.toNat_lt (ld u)
      have HS := fb_str HQ.out HJ.out (j + 1)
      have hsl := fun W => sl65 w.heap.size k W (by omega)
      rw [show j + 1 = 65 - k by have := HJ.out; omega] at HS
      have HE := Lib.hid (show fwl (65 - k) n = fwl (j + 1) n by rw [show 65 - k = j + 1 by have := HJ.out; omega])
      have HP := Lib.hid (show n < 16 ^ (j + 1) by
        have h1 := HR.out.2.1
        rw [Nat.pow_succ]
        have h2 := Nat.div_lt_iff_lt_mul (x := n) (y := 16) (k := 16 ^ j) (Nat.pow_pos (by omega))
        rw [← h1] at h2
        rw [Nat.mul_comm]
        exact h2.1 (by omega))
      go_wp2_with fail
      refine bodyPost_ret (v := .tuple #[.slice none 0 0, .string ⟨(fwl (j + 1) n).toArray⟩]) (by simp [results, Tryz.results95, go_sem, HE.out]) rfl ⟨j + 1, by omega, HP.out, ?_, rfl, HQ.out.bel⟩
      rcases HR.out.2.2.1 with rfl | h
      · exact .inl rfl
      · exact .inr (by simpa using h)

end Go.Proofs.YtajhgbcgbgpcjaaGreatDoor.Fi

import Derived.Test.YtajhgbcgbgpcjaaGreatDoorFXd
import Derived.Test.YtajhgbcgbgpcjaaGreatDoorFSa
namespace Go.Proofs.YtajhgbcgbgpcjaaGreatDoor.Fi
open Go.RowKit

def szOf : Value → Nat
  | .string t => t.size
  | _ => 0
structure DgR (w wr : World) (n j u : Nat) (t : ByteArray) : Prop where
  bel : Below w.heap.size w wr
  txt : t.data.toList = fwu j n
  num : u = n / 16 ^ j
  low : j ≤ 4 ∨ 16 ^ (j - 1) ≤ n
theorem DgR.size {w wr : World} {n j u : Nat} {t : ByteArray} (h : DgR w wr n j u t) : t.size = j := by rw [← lst_len, h.txt, fwu_len]
theorem ud_lo {d : Nat} (h : d < 10) : ((48 : Int) + d) = ((ud d).toNat : Int) := by
  unfold ud; rw [if_pos h]; simp; omega
theorem ud_hi {d : Nat} (h : ¬ d < 10) (h2 : d < 16) : ((65 : Int) + d - 10) = ((ud d).toNat : Int) := by
  unfold ud; rw [if_neg h]; simp; omega
theorem DgR.more {w wr w' : World} {n j u : Nat} {t : ByteArray} (h : DgR w wr n j u t) (hb : Below wr.heap.size wr w') (hn : n < 2147483648) (h2 : 0 < u ∨ j < 4) : DgR w w' n (j + 1) (u / 16) (⟨#[ud (u % 16)]⟩ ++ t) ∧ j + 1 ≤ 8 := by
  have hp : 0 < u → 16 ^ j ≤ n := fun h0 => by
    rcases Nat.lt_or_ge n (16 ^ j) with h3 | h3
    · have := h.num
      rw [Nat.div_eq_of_lt h3] at this
      omega
    · exact h3
  refine ⟨⟨h.bel.trans (hb.mono h.bel.size), ?_, ?_, ?_⟩, ?_⟩
  · rw [fwu_head, ← h.num, ← h.txt]; simp
  · rw [h.num, Nat.div_div_eq_div_mul, ← Nat.pow_succ]
  · rcases Nat.lt_or_ge j 4 with h3 | h3
    · exact .inl (by omega)
    · exact .inr (by simpa using hp (by omega))
  · rcases Nat.lt_or_ge j 4 with h3 | h3
    · omega
    · have := hp (by omega)
      rcases Nat.lt_or_ge j 8 with h4 | h4
      · omega
      · have : 16 ^ 8 ≤ 16 ^ j := Nat.pow_le_pow_right (by omega) h4
        omega
theorem DgR.fin {w wr : World} {n j u : Nat} {t : ByteArray} (h : DgR w wr n j u t) (hn : n < 2147483648) (h1 : u = 0) (h2 : 4 ≤ j) : t = ⟨(hx4 n).toArray⟩ := by
  apply str_eq
  rw [h.txt, lst_mk, hx4, ← wd_of hn (k := j) ?_ ?_]
  · rcases Nat.lt_or_ge n (16 ^ j) with h3 | h3
    · exact h3
    · have := h.num
      have h4 := Nat.div_pos h3 (Nat.pow_pos (by omega))
      omega
  · rcases h.low with h3 | h3
    · exact .inl (by omega)
    · rcases Nat.lt_or_ge 4 j with h4 | h4
      · exact .inr ⟨h2, h3⟩
      · exact .inl (by omega)

set_option maxRecDepth 100000 in
set_option maxHeartbeats 2000000 in
theorem rdigits_any (r : Int) (w : World) (h1 : -2147483648 ≤ r) (h2 : r ≤ 2147483647) : Calls Tryz.prog 57 #[.int .i32 r] w fun e w' => e = .returned (.string ⟨(hx4 r.toNat).toArray⟩) ∧ Below w.heap.size w w' := by
  obtain ⟨n, hn⟩ : ∃ n, n = r.toNat := ⟨_, rfl⟩
  have hm : (max 0 r : Int) = n := by omega
  have hl : n < 2147483648 := by omega
  rw [← hn]
  clear hn
  go_enter Tryz.func57, Tryz.ntmps57
  go_wp2_with fail
  clear hm
  go_loopw [3, 4] (fun nv sv wr => ∃ (j u : Nat) (t : ByteArray), nv = .int .i64 u ∧ sv = .string t ∧ t.size ≤ 8 ∧ u < 2147483648 ∧ Hid (DgR w wr n j u t)) (fun nv sv _ => 2 * (intOf nv).toNat + (4 - szOf sv))
  case atStart => exact ⟨0, n, ⟨#[]⟩, rfl, rfl, by decide, hl, Below.refl _ _, rfl, by simp, .inl (by omega)⟩
  case round =>
    obtain ⟨j, u, t, rfl, rfl, ht, hu, HR⟩ := hrel
    have HJ := Lib.hid HR.out.size
    by_cases hgo : 0 < u ∨ j < 4
    · have hd : u % 16 < 16 := Nat.mod_lt _ (by omega)
      have HM := fun w' hb => HR.out.more (w' := w') hb hl hgo
      obtain ⟨d, hdd⟩ : ∃ d, d = u % 16 := ⟨_, rfl⟩
      have hdm : (u : Int) % 16 = (d : Int) := by omega
      rw [← hdd] at HM hd
      clear hdd
      have hcv := fun W => one_str (ud d) W
      have HM2 := Lib.hid HM
      have HB := Lib.hid ((Below.refl _ wr).alloc (Nat.le_refl _) (.cells #[.int .u8 ((ud d).toNat : Int)] 5))
      clear HM
      have hud := UInt8.toNat_lt (ud d)
      have HZ := Lib.hid (show (⟨#[ud d]⟩ : ByteArray).size = 1 from rfl)
      by_cases h10 : d < 10
      · have hq := ud_lo h10
        have g10 : ¬ (9 : Int) < d := by omega
        by_cases hu0 : 0 < u
        · have g0 : (0 : Int) < u := by omega
          go_wp2_with fail
          go_roundw
          case rel =>
            obtain ⟨h1, h2⟩ := HM2.out _ HB.out
            exact ⟨j + 1, u / 16, _, by go_num, rfl, by rw [h1.size]; exact h2, by omega, h1⟩
          case measure => simp [intOf, szOf, ByteArray.size_append, HZ.out]; omega
        · have g0 : ¬ (0 : Int) < u := by omega
          have gs : (t.size : Int) < 4 := by have := HJ.out; omega
          go_wp2_with fail
          go_roundw
          case rel =>
            obtain ⟨h1, h2⟩ := HM2.out _ HB.out
            exact ⟨j + 1, u / 16, _, by go_num, rfl, by rw [h1.size]; exact h2, by omega, h1⟩
          case measure => simp [intOf, szOf, ByteArray.size_append, HZ.out]; omega
      · have hq := ud_hi h10 hd
        have g10 : (9 : Int) < d := by omega
        by_cases hu0 : 0 < u
        · have g0 : (0 : Int) < u := by omega
          go_wp2_with fail
          go_roundw
          case rel =>
            obtain ⟨h1, h2⟩ := HM2.out _ HB.out
            exact ⟨j + 1, u / 16, _, by go_num, rfl, by rw [h1.size]; exact h2, by omega, h1⟩
          case measure => simp [intOf, szOf, ByteArray.size_append, HZ.out]; omega
        · exfalso
          omega
    · have g0 : ¬ (0 : Int) < u := by omega
      have gs : ¬ (t.size : Int) < 4 := by have := HJ.out; omega
      have HE := Lib.hid (HR.out.fin hl (by omega) (by omega))
      go_wp2_with fail
      go_ret
      exact ⟨ret_eq (by rw [← HE.out]; rfl), HR.out.bel⟩

theorem join_snoc (x : List UInt8) : ∀ (l : List (List UInt8)), l ≠ [] → Lib.join (l ++ [x]) [32] = Lib.join l [32] ++ 32 :: x
  | [], h => absurd rfl h
  | [y], _ => by simp [Lib.join]
  | y :: z :: l, _ => by
    have := join_snoc x (z :: l) (by simp)
    simp [Lib.join] at this ⊢
    exact this
theorem txE_one (x : Int) : txE [x] = hx4 x.toNat := by simp [txE, Lib.join]
theorem txE_more (l : List Int) (x : Int) (h : l ≠ []) : txE (l ++ [x]) = txE l ++ 32 :: hx4 x.toNat := by
  unfold txE
  rw [List.map_append, List.map_singleton, join_snoc _ _ (by simpa using h)]
theorem txE_len (l : List Int) : (txE l).length ≤ 9 * l.length := by
  have := join_len (l.map fun r => hx4 r.toNat) (fun x hx => by
    obtain ⟨r, _, rfl⟩ := List.mem_map.1 hx
    exact hx4_len _)
  rw [List.length_map] at this
  exact this

set_option maxRecDepth 100000 in
set_option maxHeartbeats 2000000 in
theorem rtext_any (A : Option Addr) (c : Nat) (l : List Int) (w : World) (hl : Ints .i32 w A l) (hi : ∀ x ∈ l, -2147483648 ≤ x ∧ x ≤ 2147483647) (hz : l.length ≤ 100000) :
    Calls Tryz.prog 39 #[.slice A l.length c] w fun e w' => e = .returned (.string ⟨(txE l).toArray⟩) ∧ Below w.heap.size w w' := by
  have HL := Lib.hid hl
  have HI := Lib.hid hi
  clear hl hi
  go_enter Tryz.func39, Tryz.ntmps39
  go_wp2_with fail
  go_loopw [3, 4] (fun sv i wr => ∃ (k : Nat) (t : ByteArray), i = .int .i64 k ∧ sv = .string t ∧ k ≤ l.length ∧ t.size ≤ 900000 ∧ Hid (t = ⟨(txE (l.take k)).toArray⟩ ∧ Below w.heap.size w wr)) (fun _ i _ => l.length - (intOf i).toNat)
  case atStart => exact ⟨0, ⟨#[]⟩, rfl, rfl, by omega, by decide, rfl, Below.refl _ _⟩
  case round =>
    obtain ⟨k, t, rfl, rfl, hk, ht, HR⟩ := hrel
    by_cases hlt : k < l.length
    · have g1 : (k : Int) < l.length := by omega
      obtain ⟨b, off, rfl, hb, hc⟩ := HL.out k hlt
      have hc' := (HR.out.2.cell (p := ⟨b, off + k, none⟩) hb).trans hc
      have hx := HI.out (l.getD k 0) (by rw [List.getD_eq_getElem?_getD, List.getElem?_eq_getElem hlt]; exact List.getElem_mem hlt)
      have HS := Lib.hid (take_more l k hlt)
      generalize l.getD k 0 = x at hc' hx HS
      clear hc
      have HX := Lib.hid (fun W => rdigits_any x W hx.1 hx.2)
      obtain ⟨S, hS⟩ : ∃ S : ByteArray, S = ⟨(hx4 x.toNat).toArray⟩ := ⟨_, rfl⟩
      have hSz : S.size ≤ 8 := by rw [hS, size_mk]; exact hx4_len _
      rw [← hS] at HX
      have HSS := Lib.hid hS
      clear hS hx
      have HTL := Lib.hid (show (⟨(txE (l.take (k + 1))).toArray⟩ : ByteArray).size ≤ 900000 by
        rw [size_mk]
        have := txE_len (l.take (k + 1))
        have h2 : (l.take (k + 1)).length ≤ l.length := List.length_take_le' _ _
        omega)
      by_cases h0 : k = 0
      · subst h0
        rw [Nat.add_zero] at hc'
        have HQ := Lib.hid (show t ++ S = ⟨(txE (l.take (0 + 1))).toArray⟩ from str_eq (by rw [HS.out, HR.out.1, HSS.out]; simp [txE_one]; rfl))
        go_wp2_with (go_at_call 57; refine (HX.out _).mono ?_; rintro e w2 ⟨rfl, hb⟩; have B2 := Lib.hid hb; clear hb)
        go_roundw
        case rel => exact ⟨1, _, rfl, rfl, by omega, by rw [HQ.out]; exact HTL.out, HQ.out, HR.out.2.trans (B2.out.mono HR.out.2.size)⟩
        case measure => simp [intOf] <;> omega
      · have g2 : (0 : Int) < k := by omega
        have HQ := Lib.hid (show t ++ ⟨#[32]⟩ ++ S = ⟨(txE (l.take (k + 1))).toArray⟩ from str_eq (by rw [HS.out, HR.out.1, HSS.out, lst_mk, txE_more _ _ (by intro h; have := congrArg List.length h; rw [List.length_take, List.length_nil] at this; omega)]; simp))
        go_wp2_with (go_at_call 57; refine (HX.out _).mono ?_; rintro e w2 ⟨rfl, hb⟩; have B2 := Lib.hid hb; clear hb)
        go_roundw
        case rel => exact ⟨k + 1, _, by go_num, rfl, by omega, by rw [HQ.out]; exact HTL.out, HQ.out, HR.out.2.trans (B2.out.mono HR.out.2.size)⟩
        case measure => simp [intOf] <;> omega
    · have g1 : ¬ (k : Int) < l.length := by omega
      obtain rfl : k = l.length := by omega
      go_wp2_with fail
      go_ret
      exact ⟨ret_eq (by have := HR.out.1; rw [List.take_length] at this; rw [← this]; rfl), HR.out.2⟩

end Go.Proofs.YtajhgbcgbgpcjaaGreatDoor.Fi

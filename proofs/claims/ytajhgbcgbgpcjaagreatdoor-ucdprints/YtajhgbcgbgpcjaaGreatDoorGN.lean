import Derived.Test.YtajhgbcgbgpcjaaGreatDoorGM
import Derived.Test.YtajhgbcgbgpcjaaGreatDoorFY
namespace Go.Proofs.YtajhgbcgbgpcjaaGreatDoor.Uc
open Go.RowKit Fi

theorem spl_no (c : UInt8) : ∀ (l cur t : List UInt8), (∀ b ∈ l, b ≠ c) → spl c cur (l ++ c :: t) = (cur ++ l) :: spl c [] t
  | [], cur, t, _ => by simp [spl]
  | b :: l, cur, t, h => by
    rw [List.cons_append, spl, if_neg (h b (by simp)), spl_no c l (cur ++ [b]) t (fun d hd => h d (by simp [hd])), List.append_assoc]
    rfl
theorem spl_one (c : UInt8) : ∀ (l cur : List UInt8), (∀ b ∈ l, b ≠ c) → spl c cur l = [cur ++ l]
  | [], cur, _ => by simp [spl]
  | b :: l, cur, h => by
    rw [spl, if_neg (h b (by simp)), spl_one c l (cur ++ [b]) (fun d hd => h d (by simp [hd])), List.append_assoc]
    rfl
/-- A line without its end. -/
def bodyE (c : Int) (n g : List UInt8) (cl : Int) (k : List UInt8) (l : List Int) : List UInt8 := hx4 c.toNat ++ 59 :: (n ++ 59 :: (g ++ 59 :: (Lib.itoa cl ++ 59 :: ([] ++ 59 :: inP k l))))
theorem lnE_body (c : Int) (n g : List UInt8) (cl : Int) (k : List UInt8) (l : List Int) : lnE c n g cl k l = bodyE c n g cl k l ++ [10] := by
  unfold lnE bodyE
  simp [Lib.join, List.intercalate, List.intersperse]
theorem dig_ok : ∀ v : _root_.Fin 255, (∀ c ∈ Lib.decDigits v.val, 48 ≤ c.toNat ∧ c.toNat ≤ 57) ∧ Lib.decDigits v.val ≠ [] ∧ nmE (Lib.decDigits v.val) = ((v.val : Int), 0) := by decide +kernel
theorem itoa_ok {cl : Int} (h0 : 0 ≤ cl) (h1 : cl ≤ 254) : (∀ c ∈ Lib.itoa cl, 48 ≤ c.toNat ∧ c.toNat ≤ 57) ∧ Lib.itoa cl ≠ [] ∧ nmE (Lib.itoa cl) = (cl, 0) := by
  obtain ⟨a, b, c⟩ := dig_ok ⟨cl.toNat, by omega⟩
  unfold Lib.itoa
  rw [if_neg (by omega)]
  refine ⟨a, b, ?_⟩
  rw [c]
  simp
  omega
/-- Bytes that neither part fields nor end a text. -/
def tame (c : UInt8) : Prop := c ≠ 10 ∧ c ≠ 35 ∧ c ≠ 59
theorem ud_tame : ∀ d : _root_.Fin 16, (ud d.val ≠ 10 ∧ ud d.val ≠ 35 ∧ ud d.val ≠ 59) ∧ ud d.val ≠ 60 := by decide +kernel
theorem fwu_tame : ∀ k n, ∀ c ∈ fwu k n, tame c ∧ c ≠ 60
  | 0, n, c, h => by simp [fwu] at h
  | k + 1, n, c, h => by
    rw [fwu_head] at h
    rcases List.mem_cons.1 h with rfl | h
    · exact ud_tame ⟨n / 16 ^ k % 16, by omega⟩
    · exact fwu_tame k n c h
theorem hx4_tame (n : Nat) : ∀ c ∈ hx4 n, tame c ∧ c ≠ 60 := fwu_tame _ _
theorem join_mem {P : UInt8 → Prop} (h32 : P 32) : ∀ (l : List (List UInt8)), (∀ x ∈ l, ∀ c ∈ x, P c) → ∀ c ∈ Lib.join l [32], P c
  | [], _, c, hc => by simp [Lib.join, List.intercalate] at hc
  | [x], h, c, hc => by simp [Lib.join, List.intercalate] at hc; exact h x (by simp) c hc
  | x :: y :: l, h, c, hc => by
    have e : Lib.join (x :: y :: l) [32] = x ++ 32 :: Lib.join (y :: l) [32] := by simp [Lib.join, List.intercalate, List.intersperse]
    rw [e] at hc
    rcases List.mem_append.1 hc with hc | hc
    · exact h x (by simp) c hc
    · rcases List.mem_cons.1 hc with rfl | hc
      · exact h32
      · exact join_mem h32 (y :: l) (fun z hz => h z (by simp [hz])) c hc
theorem txE_tame (l : List Int) : ∀ c ∈ txE l, tame c := by
  unfold txE
  refine join_mem (P := tame) ⟨by decide, by decide, by decide⟩ _ (fun x hx c hc => ?_)
  obtain ⟨r, _, rfl⟩ := List.mem_map.1 hx
  exact (hx4_tame _ c hc).1
theorem ltr_tame {c : UInt8} (h : ltr c.toNat = true) : tame c ∧ c ≠ 62 := by
  simp [ltr] at h
  refine ⟨⟨?_, ?_, ?_⟩, ?_⟩ <;> (rintro rfl; simp at h)
theorem inP_tame {k : List UInt8} {l : List Int} (hk : ltrs k = true) : ∀ c ∈ inP k l, tame c := by
  unfold inP
  split
  · exact txE_tame l
  · intro c hc
    have hk' := List.all_eq_true.1 hk
    rcases List.mem_cons.1 hc with rfl | hc
    · exact ⟨by decide, by decide, by decide⟩
    · rcases List.mem_append.1 hc with hc | hc
      · exact (ltr_tame (hk' c hc)).1
      · rcases List.mem_cons.1 hc with rfl | hc
        · exact ⟨by decide, by decide, by decide⟩
        · rcases List.mem_cons.1 hc with rfl | hc
          · exact ⟨by decide, by decide, by decide⟩
          · exact txE_tame l c hc
theorem okC_tame {c : UInt8} (h : okC c.toNat = true) : tame c ∧ isb c = decide (c = 32) := by
  have : ∀ y : _root_.Fin 256, okC (UInt8.ofNat y.val).toNat = true → ((UInt8.ofNat y.val) ≠ 10 ∧ (UInt8.ofNat y.val) ≠ 35 ∧ (UInt8.ofNat y.val) ≠ 59) ∧ isb (UInt8.ofNat y.val) = decide ((UInt8.ofNat y.val) = 32) := by decide +kernel
  have h2 := this ⟨c.toNat, c.toNat_lt⟩
  simp only [UInt8.ofNat_toNat] at h2
  exact h2 h
theorem plB_tame {l : List UInt8} (h : plB l = true) : ∀ c ∈ l, tame c := by
  unfold plB at h
  simp only [Bool.and_eq_true, List.all_eq_true] at h
  exact fun c hc => (okC_tame (h.1 c hc)).1
/-- Bare already: no blank at an end. -/
theorem bare_of {l : List UInt8} (h1 : ∀ c r, l = c :: r → isb c = false) (h2 : ∀ r c, l = r ++ [c] → isb c = false) : bareL l = l := by
  rw [bareL_eq]
  have hr : rt l = l := by
    rcases List.eq_nil_or_concat l with rfl | ⟨r, c, hrc⟩
    · rfl
    · have e : l = r ++ [c] := by rw [hrc]; simp
      rw [e, rt_no (h2 r c e)]
  rw [hr]
  cases l with
  | nil => rfl
  | cons c r => exact lt_no (h1 c r rfl)
theorem plB_bare {l : List UInt8} (h : plB l = true) : bareL l = l := by
  unfold plB at h
  simp only [Bool.and_eq_true, List.all_eq_true, Bool.not_eq_true'] at h
  obtain ⟨ha, _, hp, hs⟩ := h
  refine bare_of (fun c r e => ?_) (fun r c e => ?_)
  · rw [(okC_tame (ha c (by rw [e]; simp))).2]
    subst e
    unfold Lib.hasPrefix at hp
    rw [pre_one] at hp
    exact hp
  · rw [(okC_tame (ha c (by rw [e]; simp))).2]
    subst e
    cases hd : decide (c = 32) with
    | false => rfl
    | true =>
      simp at hd
      subst hd
      unfold Lib.hasSuffix at hs
      rw [show ([32] : List UInt8).isSuffixOf (r ++ [32]) = true from List.isSuffixOf_iff_suffix.2 ⟨r, rfl⟩] at hs
      cases hs

end Go.Proofs.YtajhgbcgbgpcjaaGreatDoor.Uc

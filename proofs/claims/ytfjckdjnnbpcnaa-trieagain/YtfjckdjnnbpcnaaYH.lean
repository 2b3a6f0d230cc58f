import Derived.Test.YtfjckdjnnbpcnaaYG
namespace Go.Proofs.Ytfjckdjnnbpcnaa.Tr
open Go.RowKit Go.Maps

theorem set_no {g : Int → Int} {s : Sp} (h : okS s = false) : updS g s = g ∧ setE s = 11 := by unfold updS setE; rw [h]; exact ⟨rfl, rfl⟩
set_option maxHeartbeats 8000000 in
set_option maxRecDepth 100000 in
theorem set_any (w : World) (base X : Nat) (nn : Int) (g : Int → Int) (f t v : Int) (h : Tab w base X nn g) :
    Calls Try.prog 12 #[.pointer (some ⟨X, 0, none⟩), .int .i32 f, .int .i32 t, .int .i64 v] w
      fun e w' => e = .returned (.int .i64 (setE (f, t, v))) ∧ Tab w' base X nn (updS g (f, t, v)) ∧ Mv (fpT w X) (fpT w' X) w w' := by
  have HT := Lib.hid h
  have HF := Lib.hid (number_any f w)
  have HO := Lib.hid (number_any t w)
  have c0 : w.cell? ⟨X, 0, none⟩ = some (.int .i64 nn) := by obtain ⟨M, D, bm, h1, _⟩ := h; exact h1.blk.c (i := 0) rfl
  clear h
  cases hok : okS (f, t, v) with
  | false =>
    have HN := Lib.hid (set_no (g := g) hok)
    have done : Hid (∀ e, e = Ending.returned (.int .i64 11) → e = .returned (.int .i64 (setE (f, t, v))) ∧ Tab w base X nn (updS g (f, t, v)) ∧ Mv (fpT w X) (fpT w X) w w) := by
      have h1 : ∀ e, e = Ending.returned (.int .i64 11) → e = .returned (.int .i64 (setE (f, t, v))) ∧ Tab w base X nn (updS g (f, t, v)) ∧ Mv (fpT w X) (fpT w X) w w := fun e he => by
        rw [HN.out.1, HN.out.2]
        exact ⟨he, HT.out, Mv.refl _ _⟩
      exact Lib.hid h1
    simp only [okS, Bool.not_eq_false', Bool.or_eq_true, decide_eq_true_eq] at hok
    cases hf : numB f with
    | false =>
      rw [hf] at HF
      clear hf
      go_enter Try.func12, Try.ntmps12
      go_wp2_with (go_at_call 26; refine HF.out.mono ?_; rintro e w' ⟨rfl, rfl⟩)
      go_ret
      exact done.out _ rfl
    | true =>
      rw [hf] at HF
      have hf2 : 0 ≤ f ∧ f ≤ 1114111 := by simpa [numB] using hf
      clear hf
      cases ht : numB t with
      | false =>
        rw [ht] at HO
        clear ht
        go_enter Try.func12, Try.ntmps12
        go_wp2_with fail
        refine HF.out.mono ?_
        rintro e w' ⟨rfl, rfl⟩
        go_wp2_with fail
        refine HO.out.mono ?_
        rintro e w' ⟨rfl, rfl⟩
        go_wp2_with fail
        go_ret
        exact done.out _ rfl
      | true =>
        rw [ht] at HO
        have ht2 : 0 ≤ t ∧ t ≤ 1114111 := by simpa [numB] using ht
        have htf : t < f := by omega
        have htf2 : decide (t < f) = true := by simpa using htf
        clear ht
        go_enter Try.func12, Try.ntmps12
        go_wp2_with fail
        refine HF.out.mono ?_
        rintro e w' ⟨rfl, rfl⟩
        go_wp2_with fail
        refine HO.out.mono ?_
        rintro e w' ⟨rfl, rfl⟩
        go_wp2_with fail
        go_ret
        exact done.out _ rfl
  | true =>
    have HE : Hid (setE (f, t, v) = 0) := by have : setE (f, t, v) = 0 := by unfold setE; rw [if_pos hok]
                                             exact Lib.hid this
    simp only [okS, Bool.not_eq_true', Bool.or_eq_false_iff, decide_eq_false_iff_not] at hok
    obtain ⟨h1, h2, h3⟩ := hok
    have hf : numB f = true := by simp [numB]; omega
    have ht : numB t = true := by simp [numB]; omega
    have htf : decide (t < f) = false := by simpa using h3
    rw [hf] at HF
    rw [ht] at HO
    clear hf ht
    have HS := Lib.hid (sameV_any v nn w)
    by_cases hv : v = nn
    · subst hv
      rw [show (v == v) = true from beq_self_eq_true v] at HS
      have HG := Lib.hid (forget_any w base X v g f t HT.out (by omega) (by omega) (by omega))
      go_enter Try.func12, Try.ntmps12
      go_wp2_with fail
      refine HF.out.mono ?_
      rintro e w' ⟨rfl, rfl⟩
      go_wp2_with fail
      refine HO.out.mono ?_
      rintro e w' ⟨rfl, rfl⟩
      go_wp2_with fail
      refine HS.out.mono ?_
      rintro e w' ⟨rfl, rfl⟩
      go_wp2_with fail
      refine HG.out.mono ?_
      rintro e w2 ⟨rfl, ht2, hm2⟩
      have Q := Lib.hid (And.intro ht2 hm2)
      clear ht2 hm2
      go_wp2_with fail
      go_ret
      exact ⟨by rw [HE.out]; rfl, Q.out⟩
    · rw [show (v == nn) = false from by simpa using hv] at HS
      have HG := Lib.hid (tell_any w base X nn g f t v HT.out (by omega) (by omega) (by omega) hv)
      clear hv
      go_enter Try.func12, Try.ntmps12
      go_wp2_with fail
      refine HF.out.mono ?_
      rintro e w' ⟨rfl, rfl⟩
      go_wp2_with fail
      refine HO.out.mono ?_
      rintro e w' ⟨rfl, rfl⟩
      go_wp2_with fail
      refine HS.out.mono ?_
      rintro e w' ⟨rfl, rfl⟩
      go_wp2_with fail
      refine HG.out.mono ?_
      rintro e w2 ⟨rfl, ht2, hm2⟩
      have Q := Lib.hid (And.intro ht2 hm2)
      clear ht2 hm2
      go_wp2_with fail
      go_ret
      exact ⟨by rw [HE.out]; rfl, Q.out⟩

/-- New is a table of no value but none. -/
theorem nz_const (nn : Int) (i : Nat) : nzB (fun _ => nn) nn i = false := by
  unfold nzB
  rw [List.any_eq_false]
  intro j _
  simp
theorem tab_new (w : World) (nn : Int) : Tab ((w.alloc (.map #[] 0)).alloc (.cells #[.int .i64 nn, .map (some w.heap.size)] 58)) w.heap.size (w.heap.size + 1) nn (fun _ => nn) := by
  refine ⟨w.heap.size, .map [], fun _ => none, ⟨by omega, Nat.le_refl _, ⟨?_⟩, mapIs_empty, (fun _ _ _ e => by cases e), (fun _ _ _ _ _ e => by cases e)⟩, (fun i _ => by rw [nz_const]; rfl), own_tight ((World.ownsMap_made w Try.prog 21 ptrE).alloc _)⟩
  have h := heap_alloc_new (w.alloc (.map #[] 0)) (.cells #[.int .i64 nn, .map (some w.heap.size)] 58)
  rwa [World.size_alloc] at h
theorem newT_any (w : World) (nn : Int) : Calls Try.prog 9 #[.int .i64 nn] w fun e w' => ∃ X, e = .returned (.pointer (some ⟨X, 0, none⟩)) ∧ Tab w' w.heap.size X nn (fun _ => nn) ∧ Below w.heap.size w w' := by
  refine (new_any w nn).mono ?_
  rintro e w' ⟨rfl, rfl⟩
  exact ⟨_, rfl, tab_new w nn, ((Below.refl _ w).alloc (Nat.le_refl _) _).alloc (by simp) _⟩

end Go.Proofs.Ytfjckdjnnbpcnaa.Tr

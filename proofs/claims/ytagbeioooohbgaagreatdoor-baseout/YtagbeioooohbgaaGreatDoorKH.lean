import Derived.Test.YtagbeioooohbgaaGreatDoorKC
import Derived.Test.YtagbeioooohbgaaGreatDoorKG
namespace Go.Proofs.YtagbeioooohbgaaGreatDoor.Ba
open Go.RowKit Go.Maps Go.Shelf Uc Ha
open Fi (scal scal_bd Ml)

attribute [local go_sem] Oper.semAt_some

/-! BaseOut: the early ways -/
theorem out_start (w : World) (d o : ByteArray) (c : Int) : Below w.heap.size w (((w.alloc (.cells #[.string d, .string o] 23)).alloc (.cells #[.int .i32 c] 21)).alloc (.cells #[.bool false] 4)) ∧
    (((w.alloc (.cells #[.string d, .string o] 23)).alloc (.cells #[.int .i32 c] 21)).alloc (.cells #[.bool false] 4)).heap.size = w.heap.size + 3 ∧
    Tr.Bk (((w.alloc (.cells #[.string d, .string o] 23)).alloc (.cells #[.int .i32 c] 21)).alloc (.cells #[.bool false] 4)) w.heap.size [.string d, .string o] 23 ∧
    Tr.Bk (((w.alloc (.cells #[.string d, .string o] 23)).alloc (.cells #[.int .i32 c] 21)).alloc (.cells #[.bool false] 4)) (w.heap.size + 1) [.int .i32 c] 21 ∧
    Tr.Bk (((w.alloc (.cells #[.string d, .string o] 23)).alloc (.cells #[.int .i32 c] 21)).alloc (.cells #[.bool false] 4)) (w.heap.size + 1 + 1) [.bool false] 4 := by
  obtain ⟨w1, h1⟩ : ∃ x, x = w.alloc (.cells #[.string d, .string o] 23) := ⟨_, rfl⟩
  rw [← h1]
  obtain ⟨w2, h2⟩ : ∃ x, x = w1.alloc (.cells #[.int .i32 c] 21) := ⟨_, rfl⟩
  rw [← h2]
  obtain ⟨w3, h3⟩ : ∃ x, x = w2.alloc (.cells #[.bool false] 4) := ⟨_, rfl⟩
  rw [← h3]
  have z1 : w1.heap.size = w.heap.size + 1 := by rw [h1]; simp
  have z2 : w2.heap.size = w.heap.size + 1 + 1 := by rw [h2]; simp [z1]
  have z3 : w3.heap.size = w.heap.size + 3 := by rw [h3]; simp [z2]
  have b1 : Below w.heap.size w w1 := by rw [h1]; exact (Below.refl _ _).alloc (Nat.le_refl _) _
  have b2 : Below w1.heap.size w1 w2 := by rw [h2]; exact (Below.refl _ _).alloc (Nat.le_refl _) _
  have b3 : Below w2.heap.size w2 w3 := by rw [h3]; exact (Below.refl _ _).alloc (Nat.le_refl _) _
  have b23 : Below w1.heap.size w1 w3 := b2.trans (b3.mono b2.size)
  have k1 : Tr.Bk w1 w.heap.size [.string d, .string o] 23 := by rw [h1]; exact ⟨heap_alloc_new w _⟩
  have k2 : Tr.Bk w2 (w.heap.size + 1) [.int .i32 c] 21 := by rw [h2, ← z1]; exact ⟨heap_alloc_new w1 _⟩
  have k3 : Tr.Bk w3 (w.heap.size + 1 + 1) [.bool false] 4 := by rw [h3, ← z2]; exact ⟨heap_alloc_new w2 _⟩
  exact ⟨b1.trans (b23.mono b1.size), z3, k1.below b23, k2.below b3, k3⟩
set_option maxRecDepth 100000 in
set_option maxHeartbeats 8000000 in
theorem out_many (d o : ByteArray) (c r : Int) (w : World) (hM : Ml w) (hT : Ha.Tab w) (hd : d.size ≤ 9223372036854775807) (ho : o.size ≤ 9223372036854775807) (hf : ((decide (d.size ≤ 3000) && decide (o.size ≤ 500)) && (decide (16 ≤ c ∧ c ≤ 65535) && scal c)) = false) :
    Calls Tryz.prog 6 #[.agg #[.string d, .string o], .int .i32 c, .int .i32 r] w fun e w' => e = .returned (.bool true) ∧ Below w.heap.size w w' := by
  obtain ⟨f, hff⟩ : ∃ f, (decide (d.size ≤ 3000) && decide (o.size ≤ 500)) = f := ⟨_, rfl⟩
  have HFew := Lib.hid (fun W => few_any d o W f hff hd ho)
  have HT := Lib.hid hT.all
  have HM := Lib.hid (fun w1 (h : Below w.heap.size w w1) => hM.on h)
  rw [hff] at hf
  have HSc := Lib.hid (fun W => Fi.scalar_any c W)
  have HW : Hid (f = false ∨ (f = true ∧ c < 16) ∨ (f = true ∧ ¬ c < 16 ∧ 65535 < c) ∨ (f = true ∧ ¬ c < 16 ∧ ¬ 65535 < c ∧ scal c = false)) := Lib.hid (by
    cases f with
    | false => exact .inl rfl
    | true =>
      by_cases h1 : c < 16
      · exact .inr (.inl ⟨rfl, h1⟩)
      · by_cases h2 : 65535 < c
        · exact .inr (.inr (.inl ⟨rfl, h1, h2⟩))
        · refine .inr (.inr (.inr ⟨rfl, h1, h2, ?_⟩))
          rw [decide_eq_true (show 16 ≤ c ∧ c ≤ 65535 by omega)] at hf
          simpa using hf)
  clear hM hT hd ho hf hff
  obtain ⟨s1, s0, s2, s4, s3⟩ := out_start w d o c
  obtain ⟨W0, hW0⟩ : ∃ x, x = ((w.alloc (.cells #[.string d, .string o] 23)).alloc (.cells #[.int .i32 c] 21)).alloc (.cells #[.bool false] 4) := ⟨_, rfl⟩
  rw [← hW0] at s1 s2 s3 s4
  have c0 := s2.c (i := 0) rfl
  have c1 := s2.c (i := 1) rfl
  have S3 := Lib.hid s3
  have S4 := Lib.hid s4
  have D0 := Lib.hid s1
  clear s0 s1 s2 s3 s4
  go_enter Tryz.func6, Tryz.ntmps6
  go_wp2_with fail
  rw [← hW0]
  clear hW0
  refine (HFew.out W0).mono ?_
  rintro e w1 ⟨rfl, hb1⟩
  have D1 := Lib.hid (D0.out.trans (hb1.mono D0.out.size))
  have R1 := Lib.hid (S3.out.below hb1)
  have q1 := (S4.out.below hb1).c (i := 0) rfl
  clear hb1 c0 c1 S3 S4 HFew
  have HA := Lib.hid (awake_any w1 (HM.out w1 D1.out) (HT.out w1 D1.out))
  rcases HW.out with rfl | ⟨rfl, h1⟩ | ⟨rfl, h1, h2⟩ | ⟨rfl, h1, h2, h3⟩
  case' inr.inr.inr =>
    rw [h3] at HSc
    go_wp2_with (go_at_call 20; refine (HSc.out _).mono ?_; rintro e w' ⟨rfl, rfl⟩)
  all_goals
    go_wp2_with fail
    refine HA.out.mono ?_
    rintro e w2 ⟨rfl, hb2⟩
    have D2 := Lib.hid (D1.out.trans (hb2.mono D1.out.size))
    have R2 := Lib.hid (R1.out.below hb2)
    have r2 := R2.out.c (i := 0) rfl
    have rf2 := R2.out.fr 0
    clear hb2 HA R1
    have r3 := (R2.out.set 0 (.bool true)).c (i := 0) rfl
    go_wp2_with fail
    refine bodyPost_ret (v := .bool true) (by simp [results, Tryz.results6, go_sem, r3]) rfl ⟨rfl, D2.out.setCell (p := ⟨w.heap.size + 1 + 1, 0, none⟩) (by simp only; omega) _⟩
set_option maxRecDepth 100000 in
set_option maxHeartbeats 8000000 in
theorem out_bad (d o : ByteArray) (c r : Int) (w : World) (hM : Ml w) (hT : Ha.Tab w) (hd : d.size ≤ 3000) (ho : o.size ≤ 500) (hc : 16 ≤ c ∧ c ≤ 65535) (hs : scal c = true) (hk : ¬ NwOk d.data.toList (⟨#[]⟩ : ByteArray).data.toList) :
    Calls Tryz.prog 6 #[.agg #[.string d, .string o], .int .i32 c, .int .i32 r] w fun e w' => e = .returned (.bool true) ∧ Below w.heap.size w w' := by
  have HFew := Lib.hid (fun W => few_any d o W true (by simp [hd, ho]) (by omega) (by omega))
  have HT := Lib.hid hT.all
  have HM := Lib.hid (fun w1 (h : Below w.heap.size w w1) => hM.on h)
  have HN := Lib.hid (fun w1 (h : Below w.heap.size w w1) => new_any d ⟨#[]⟩ w1 (hM.on h) (hT.on h) (by omega) (by decide))
  have HSc := Lib.hid (fun W => Fi.scalar_any c W)
  rw [hs] at HSc
  have HK := Lib.hid hk
  have h1 : ¬ c < 16 := by omega
  have h2 : ¬ 65535 < c := by omega
  clear hM hT hd ho hk hs hc
  obtain ⟨s1, s0, s2, s4, s3⟩ := out_start w d o c
  obtain ⟨W0, hW0⟩ : ∃ x, x = ((w.alloc (.cells #[.string d, .string o] 23)).alloc (.cells #[.int .i32 c] 21)).alloc (.cells #[.bool false] 4) := ⟨_, rfl⟩
  rw [← hW0] at s1 s2 s3 s4
  have c0 := s2.c (i := 0) rfl
  have c1 := s2.c (i := 1) rfl
  have S2 := Lib.hid s2
  have S3 := Lib.hid s3
  have S4 := Lib.hid s4
  have D0 := Lib.hid s1
  clear s0 s1 s2 s3 s4
  go_enter Tryz.func6, Tryz.ntmps6
  go_wp2_with fail
  rw [← hW0]
  clear hW0
  refine (HFew.out W0).mono ?_
  rintro e w1 ⟨rfl, hb1⟩
  have D1 := Lib.hid (D0.out.trans (hb1.mono D0.out.size))
  have R1 := Lib.hid (S3.out.below hb1)
  have q1 := (S4.out.below hb1).c (i := 0) rfl
  have t1 := (S2.out.below hb1).c (i := 0) rfl
  clear hb1 c0 c1 S3 S4 S2 HFew
  go_wp2_with (go_at_call 20; refine (HSc.out _).mono ?_; rintro e w' ⟨rfl, rfl⟩)
  refine (HN.out w1 D1.out).mono ?_
  rintro e w2 ⟨v, er, rfl, hb2, hio, hv, _⟩
  have hne : er ≠ 0 := fun e => HK.out (hio.1 e)
  obtain rfl := hv hne
  have hq : (er != 0) = true := by simpa using hne
  have D2 := Lib.hid (D1.out.trans (hb2.mono D1.out.size))
  have R2 := Lib.hid (R1.out.below hb2)
  clear hb2 hio hv hne q1 t1 R1 HN
  have HA := Lib.hid (awake_any w2 (HM.out _ D2.out) (HT.out _ D2.out))
  go_wp2_with fail
  refine HA.out.mono ?_
  rintro e w4 ⟨rfl, hb4⟩
  have D4 := Lib.hid (D2.out.trans (hb4.mono D2.out.size))
  have R4 := Lib.hid (R2.out.below hb4)
  have r4 := R4.out.c (i := 0) rfl
  have rf4 := R4.out.fr 0
  clear hb4 HA R2 D2
  have r5 := (R4.out.set 0 (.bool true)).c (i := 0) rfl
  go_wp2_with fail
  refine bodyPost_ret (v := .bool true) (by simp [results, Tryz.results6, go_sem, r5]) rfl ⟨rfl, D4.out.setCell (p := ⟨w.heap.size + 1 + 1, 0, none⟩) (by simp only; omega) _⟩

end Go.Proofs.YtagbeioooohbgaaGreatDoor.Ba

import Derived.Test.YtagbeioooohbgaaGreatDoorKC
namespace Go.Proofs.YtagbeioooohbgaaGreatDoor.Ba
open Go.RowKit Go.Maps Go.Shelf Uc Ha
open Fi (scal scal_bd Ml)

attribute [local go_sem] Oper.semAt_some

/-! BasePairs: the early ways -/
theorem law_start (w : World) (d o : ByteArray) : Below w.heap.size w ((w.alloc (.cells #[.string d, .string o] 23)).alloc (.cells #[.bool false] 4)) ∧
    Tr.Bk ((w.alloc (.cells #[.string d, .string o] 23)).alloc (.cells #[.bool false] 4)) w.heap.size [.string d, .string o] 23 ∧
    Tr.Bk ((w.alloc (.cells #[.string d, .string o] 23)).alloc (.cells #[.bool false] 4)) (w.heap.size + 1) [.bool false] 4 := by
  obtain ⟨w1, h1⟩ : ∃ x, x = w.alloc (.cells #[.string d, .string o] 23) := ⟨_, rfl⟩
  rw [← h1]
  obtain ⟨w2, h2⟩ : ∃ x, x = w1.alloc (.cells #[.bool false] 4) := ⟨_, rfl⟩
  rw [← h2]
  have z1 : w1.heap.size = w.heap.size + 1 := by rw [h1]; simp
  have b1 : Below w.heap.size w w1 := by rw [h1]; exact (Below.refl _ _).alloc (Nat.le_refl _) _
  have b2 : Below w1.heap.size w1 w2 := by rw [h2]; exact (Below.refl _ _).alloc (Nat.le_refl _) _
  have k1 : Tr.Bk w1 w.heap.size [.string d, .string o] 23 := by rw [h1]; exact ⟨heap_alloc_new w _⟩
  have k2 : Tr.Bk w2 (w.heap.size + 1) [.bool false] 4 := by rw [h2, ← z1]; exact ⟨heap_alloc_new w1 _⟩
  exact ⟨b1.trans (b2.mono b1.size), k1.below b2, k2⟩
set_option maxRecDepth 100000 in
set_option maxHeartbeats 8000000 in
theorem pairs_many (d o : ByteArray) (x y : Int) (w : World) (hM : Ml w) (hT : Ha.Tab w) (hd : d.size ≤ 9223372036854775807) (ho : o.size ≤ 9223372036854775807) (hf : (decide (d.size ≤ 3000) && decide (o.size ≤ 500)) = false) :
    Calls Tryz.prog 3 #[.agg #[.string d, .string o], .int .i32 x, .int .i32 y] w fun e w' => e = .returned (.bool true) ∧ Below w.heap.size w w' := by
  have HFew := Lib.hid (fun W => few_any d o W false hf hd ho)
  have HT := Lib.hid hT.all
  have HM := Lib.hid (fun w1 (h : Below w.heap.size w w1) => hM.on h)
  clear hM hT hd ho hf
  obtain ⟨s1, s2, s3⟩ := law_start w d o
  obtain ⟨W0, hW0⟩ : ∃ x, x = (w.alloc (.cells #[.string d, .string o] 23)).alloc (.cells #[.bool false] 4) := ⟨_, rfl⟩
  rw [← hW0] at s1 s2 s3
  have c0 := s2.c (i := 0) rfl
  have c1 := s2.c (i := 1) rfl
  have S3 := Lib.hid s3
  have D0 := Lib.hid s1
  clear s1 s2 s3
  go_enter Tryz.func3, Tryz.ntmps3
  go_wp2_with fail
  rw [← hW0]
  clear hW0
  refine (HFew.out W0).mono ?_
  rintro e w1 ⟨rfl, hb1⟩
  have D1 := Lib.hid (D0.out.trans (hb1.mono D0.out.size))
  have R1 := Lib.hid (S3.out.below hb1)
  clear hb1 c0 c1 S3 HFew
  have HA := Lib.hid (awake_any w1 (HM.out w1 D1.out) (HT.out w1 D1.out))
  go_wp2_with fail
  refine HA.out.mono ?_
  rintro e w2 ⟨rfl, hb2⟩
  have D2 := Lib.hid (D1.out.trans (hb2.mono D1.out.size))
  have R2 := Lib.hid (R1.out.below hb2)
  have r2 := R2.out.c (i := 0) rfl
  have rf2 := R2.out.fr 0
  clear hb2 HA R1
  have r3 := (R2.out.set 0 (.bool true)).c (i := 0) rfl
  go_wp2_with fail
  refine bodyPost_ret (v := .bool true) (by simp [results, Tryz.results3, go_sem, r3]) rfl ⟨rfl, D2.out.setCell (p := ⟨w.heap.size + 1, 0, none⟩) (by simp) _⟩
set_option maxRecDepth 100000 in
set_option maxHeartbeats 8000000 in
theorem pairs_bad (d o : ByteArray) (x y : Int) (w : World) (hM : Ml w) (hT : Ha.Tab w) (hd : d.size ≤ 3000) (ho : o.size ≤ 500) (hk : ¬ NwOk d.data.toList o.data.toList) :
    Calls Tryz.prog 3 #[.agg #[.string d, .string o], .int .i32 x, .int .i32 y] w fun e w' => e = .returned (.bool true) ∧ Below w.heap.size w w' := by
  have HFew := Lib.hid (fun W => few_any d o W true (by simp [hd, ho]) (by omega) (by omega))
  have HT := Lib.hid hT.all
  have HM := Lib.hid (fun w1 (h : Below w.heap.size w w1) => hM.on h)
  have HN := Lib.hid (fun w1 (h : Below w.heap.size w w1) => new_any d o w1 (hM.on h) (hT.on h) (by omega) (by omega))
  have HK := Lib.hid hk
  clear hM hT hd ho hk
  obtain ⟨s1, s2, s3⟩ := law_start w d o
  obtain ⟨W0, hW0⟩ : ∃ x, x = (w.alloc (.cells #[.string d, .string o] 23)).alloc (.cells #[.bool false] 4) := ⟨_, rfl⟩
  rw [← hW0] at s1 s2 s3
  have c0 := s2.c (i := 0) rfl
  have c1 := s2.c (i := 1) rfl
  have S2 := Lib.hid s2
  have S3 := Lib.hid s3
  have D0 := Lib.hid s1
  clear s1 s2 s3
  go_enter Tryz.func3, Tryz.ntmps3
  go_wp2_with fail
  rw [← hW0]
  clear hW0
  refine (HFew.out W0).mono ?_
  rintro e w1 ⟨rfl, hb1⟩
  have D1 := Lib.hid (D0.out.trans (hb1.mono D0.out.size))
  have R1 := Lib.hid (S3.out.below hb1)
  have S1 := Lib.hid (S2.out.below hb1)
  clear hb1 c0 c1 S2 S3 HFew
  have c0 := S1.out.c (i := 0) rfl
  have c1 := S1.out.c (i := 1) rfl
  go_wp2_with fail
  refine (HN.out w1 D1.out).mono ?_
  rintro e w2 ⟨v, er, rfl, hb2, hio, hv, _⟩
  have hne : er ≠ 0 := fun e => HK.out (hio.1 e)
  obtain rfl := hv hne
  have hq : (er != 0) = true := by simpa using hne
  have D2 := Lib.hid (D1.out.trans (hb2.mono D1.out.size))
  have R2 := Lib.hid (R1.out.below hb2)
  clear hb2 hio hv hne c0 c1 R1 S1 HN
  have HA := Lib.hid (awake_any (w2.alloc (.cells #[.pointer none] 26)) (HM.out _ (D2.out.alloc D2.out.size _)) (HT.out _ (D2.out.alloc D2.out.size _)))
  have D3 := Lib.hid (D2.out.alloc D2.out.size (.cells #[.pointer none] 26))
  have R3 := Lib.hid (R2.out.below ((Below.refl _ w2).alloc (Nat.le_refl _) (.cells #[.pointer none] 26)))
  go_wp2_with fail
  refine HA.out.mono ?_
  rintro e w4 ⟨rfl, hb4⟩
  have D4 := Lib.hid (D3.out.trans (hb4.mono D3.out.size))
  have R4 := Lib.hid (R3.out.below hb4)
  have r4 := R4.out.c (i := 0) rfl
  have rf4 := R4.out.fr 0
  clear hb4 HA R3 R2 D3 D2
  have r5 := (R4.out.set 0 (.bool true)).c (i := 0) rfl
  go_wp2_with fail
  refine bodyPost_ret (v := .bool true) (by simp [results, Tryz.results3, go_sem, r5]) rfl ⟨rfl, D4.out.setCell (p := ⟨w.heap.size + 1, 0, none⟩) (by simp) _⟩

end Go.Proofs.YtagbeioooohbgaaGreatDoor.Ba

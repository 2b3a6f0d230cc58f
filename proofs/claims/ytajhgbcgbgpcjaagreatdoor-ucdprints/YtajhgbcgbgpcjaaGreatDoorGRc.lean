import Derived.Test.YtajhgbcgbgpcjaaGreatDoorGRb
namespace Go.Proofs.YtajhgbcgbgpcjaaGreatDoor.Uc
open Go.RowKit Fi

set_option maxRecDepth 100000 in
set_option maxHeartbeats 8000000 in
theorem rline_any (c f t cl : Int) (nm n g k : ByteArray) (A : Option Addr) (p : Nat) (l : List Int) (w : World) (hl : Ints .i32 w A l) (hc : scal c = true) (hsc : ∀ x ∈ l, scal x = true) (h18 : l.length ≤ 18) (h0 : 0 ≤ cl) (h1 : cl ≤ 254) (hnm : nm.size ≤ 1000) (hg : g.size ≤ 1000) (hk : k.size ≤ 1000) :
    Calls Tryz.prog 23 #[.int .i32 c, .string nm, .agg #[.int .i32 f, .int .i32 t, .string n, .string g, .int .i64 cl, .string k, .slice A l.length p]] w fun e w' => e = .returned (.string ⟨(lnE c nm.data.toList g.data.toList cl k.data.toList l).toArray⟩) ∧ Below w.heap.size w w' := by
  have hI := fun W (h : Below w.heap.size w W) => rtext_any A p l W (hl.below h) (fun x hx => by have := scal_bd (hsc x hx); omega) (by omega)
  have hX := fun W b (hi : W.cell? ⟨b, 0, none⟩ = some (.int .i32 c)) => rtext_any (some ⟨b, 0, none⟩) 1 [c] W (fun i hi' => by
    have : i = 0 := by simp at hi'; omega
    subst this
    exact ⟨b, 0, rfl, World.block_lt_of_cell? W _ hi, hi⟩) (fun x hx => by simp at hx; subst hx; have := scal_bd hc; omega) (by simp)
  rw [txE_one] at hX
  have hZ := fun W => decimals_any cl.toNat W (by omega)
  rw [show ((cl.toNat : Nat) : Int) = cl by omega] at hZ
  have hzl := dec_small cl.toNat (by omega)
  have hxl := hx4_len c.toNat
  have htl := txE_len l
  obtain ⟨xb, hxb⟩ : ∃ xb : ByteArray, xb = ⟨(hx4 c.toNat).toArray⟩ := ⟨_, rfl⟩
  obtain ⟨zb, hzb⟩ : ∃ zb : ByteArray, zb = ⟨(Lib.decDigits cl.toNat).toArray⟩ := ⟨_, rfl⟩
  obtain ⟨tb, htb⟩ : ∃ tb : ByteArray, tb = ⟨(txE l).toArray⟩ := ⟨_, rfl⟩
  rw [← hxb] at hX
  rw [← hzb] at hZ
  rw [← htb] at hI
  have hX : ∀ W b, W.cell? ⟨b, 0, none⟩ = some (.int .i32 c) → Calls Tryz.prog 39 #[.slice (some ⟨b, 0, none⟩) 1 1] W fun e w' => e = .returned (.string xb) ∧ Below W.heap.size W w' := hX
  have xz : xb.size ≤ 8 := by rw [hxb, size_mk]; exact hxl
  have zz0 : zb.size ≤ 3 := by rw [hzb, size_mk]; exact hzl
  have tz : tb.size ≤ 1000 := by rw [htb, size_mk]; omega
  obtain ⟨hd, hhd⟩ : ∃ hd : ByteArray, hd = xb ++ ⟨#[59]⟩ ++ nm ++ ⟨#[59]⟩ ++ g ++ ⟨#[59]⟩ ++ zb ++ ⟨#[59, 59]⟩ := ⟨_, rfl⟩
  have hdz : hd.size ≤ 4000 := by
    have e1 : (⟨#[59]⟩ : ByteArray).size = 1 := rfl
    have e2 : (⟨#[59, 59]⟩ : ByteArray).size = 2 := rfl
    rw [hhd]
    simp only [ByteArray.size_append, e1, e2]
    omega
  have HRes := Lib.hid (show ∀ kk : ByteArray, kk.data.toList = (if k.data.toList = [] then [] else 60 :: (k.data.toList ++ [62, 32])) → (⟨(lnE c nm.data.toList g.data.toList cl k.data.toList l).toArray⟩ : ByteArray) = hd ++ kk ++ tb ++ ⟨#[10]⟩ by
    intro kk hkk
    apply str_eq
    rw [hhd, hxb, hzb, htb, lnE_body]
    unfold bodyE inP Lib.itoa
    rw [if_neg (by omega)]
    simp only [app_lst, hkk]
    split <;> simp)
  have HHD := Lib.hid hhd
  have HI := Lib.hid hI
  have HX := Lib.hid hX
  have HZ := Lib.hid hZ
  clear hI hX hZ hl hsc hxb hzb htb hzl hxl htl hc hhd
  have D0 := Lib.hid ((Below.refl w.heap.size w).alloc (Nat.le_refl _) (.cells #[.int .i32 f, .int .i32 t, .string n, .string g, .int .i64 cl, .string k, .slice A l.length p] 28))
  have BK := Lib.hid (show Bk (w.alloc (.cells #[.int .i32 f, .int .i32 t, .string n, .string g, .int .i64 cl, .string k, .slice A l.length p] 28)) w.heap.size [.int .i32 f, .int .i32 t, .string n, .string g, .int .i64 cl, .string k, .slice A l.length p] 28 from ⟨heap_alloc_new w _⟩)
  obtain ⟨w2, hw2⟩ : ∃ w2, w2 = w.alloc (.cells #[.int .i32 f, .int .i32 t, .string n, .string g, .int .i64 cl, .string k, .slice A l.length p] 28) := ⟨_, rfl⟩
  go_enter Tryz.func23, Tryz.ntmps23
  go_upto_region 1 with fail
  rw [← hw2]
  rw [← hw2] at BK D0
  clear hw2
  have zz : w.heap.size < w2.heap.size := BK.out.lt
  have a3 := BK.out.c (i := 3) rfl
  have a4 := BK.out.c (i := 4) rfl
  have HCl := Lib.hid (show ∀ W, Below w2.heap.size w2 W → W.cell? ⟨w.heap.size, 3, none⟩ = some (.string g) ∧ W.cell? ⟨w.heap.size, 4, none⟩ = some (.int .i64 cl) from fun W h9 => ⟨(h9.cell (p := ⟨w.heap.size, 3, none⟩) zz).trans a3, (h9.cell (p := ⟨w.heap.size, 4, none⟩) zz).trans a4⟩)
  have d1 : ¬ 9223372036854775806 < xb.size := by omega
  have d2 : ¬ 9223372036854775807 < xb.size + 1 + nm.size := by omega
  have d3 : ¬ 9223372036854775806 < xb.size + 1 + nm.size := by omega
  have d4 : ¬ 9223372036854775807 < xb.size + 1 + nm.size + 1 + g.size := by omega
  have d5 : ¬ 9223372036854775806 < xb.size + 1 + nm.size + 1 + g.size := by omega
  have d6 : ¬ 9223372036854775807 < xb.size + 1 + nm.size + 1 + g.size + 1 + zb.size := by omega
  have d7 : ¬ 9223372036854775805 < xb.size + 1 + nm.size + 1 + g.size + 1 + zb.size := by omega
  have e1 : ¬ 9223372036854775807 ≤ xb.size := by omega
  have e2 : xb.size < 9223372036854775807 := by omega
  have e3 : ¬ 9223372036854775807 ≤ xb.size + 1 + nm.size := by omega
  have e4 : xb.size + 1 + nm.size < 9223372036854775807 := by omega
  have e5 : ¬ 9223372036854775807 ≤ xb.size + 1 + nm.size + 1 + g.size := by omega
  have e6 : xb.size + 1 + nm.size + 1 + g.size < 9223372036854775807 := by omega
  have e7 : ¬ 9223372036854775807 < xb.size + 1 := by omega
  have e8 : ¬ 9223372036854775807 < xb.size + 1 + nm.size + 1 := by omega
  have e9 : ¬ 9223372036854775807 < xb.size + 1 + nm.size + 1 + g.size + 1 := by omega
  have e10 : ¬ 9223372036854775807 < xb.size + 1 + nm.size + 1 + g.size + 1 + zb.size + 2 := by omega
  go_region_held3 (fun W => W.cell? ⟨w.heap.size, 3, none⟩ = some (.string g) ∧ W.cell? ⟨w.heap.size, 4, none⟩ = some (.int .i64 cl))
    (first
      | go_keep
      | exact HCl.out _ F7.out
      | exact HCl.out _ F8.out)
    (first
      | (go_at_call 39; refine (HX.out _ _ (by first | (simp; done) | (rw [hb8.cell (p := ⟨_, 0, none⟩) (by first | omega | (simp; omega) | (simp; done))]; simp; done))).mono ?_; rintro e w7 ⟨rfl, hb7⟩; have F7 := Lib.hid (show Below w2.heap.size w2 w7 from Below.trans (by repeat (first | exact Below.refl _ _ | exact F7.out | exact F8.out | refine Below.drew ?_ | refine Below.alloc ?_ (by first | omega | (simp; omega) | (simp; done)) _)) (hb7.mono (by first | omega | (simp; omega) | (simp; done)))); have z7 := F7.out.size)
      | (go_at_call 40; refine (HZ.out _).mono ?_; rintro e w8 ⟨rfl, hb8⟩; have F8 := Lib.hid (show Below w2.heap.size w2 w8 from Below.trans (by repeat (first | exact Below.refl _ _ | exact F7.out | exact F8.out | refine Below.drew ?_ | refine Below.alloc ?_ (by first | omega | (simp; omega) | (simp; done)) _)) (hb8.mono (by first | omega | (simp; omega) | (simp; done)))); have z8 := F8.out.size))
  rw [← HHD.out]
  have D8 := Lib.hid (D0.out.trans (F8.out.mono D0.out.size))
  have a5 := (F8.out.cell (p := ⟨w.heap.size, 5, none⟩) zz).trans (BK.out.c (i := 5) rfl)
  have a6 := (F8.out.cell (p := ⟨w.heap.size, 6, none⟩) zz).trans (BK.out.c (i := 6) rfl)
  have HT := Lib.hid (HI.out _ D8.out)
  clear d1 d2 d3 d4 d5 d6 d7 e1 e2 e3 e4 e5 e6 e7 e8 e9 e10 a3 a4 HX HZ HI HCl hb7 hb8
  have key : k.size = 0 ∨ 0 < k.size := by omega
  rcases key with hk0 | hk0
  · obtain rfl := emp_yes hk0
    have HR := Lib.hid (show (⟨(lnE c nm.data.toList g.data.toList cl (⟨#[]⟩ : ByteArray).data.toList l).toArray⟩ : ByteArray) = hd ++ tb ++ ⟨#[10]⟩ by rw [HRes.out ⟨#[]⟩ (by simp)]; apply str_eq; simp)
    have f1 : ¬ 9223372036854775807 < hd.size + tb.size := by omega
    have f2 : ¬ 9223372036854775806 < hd.size + tb.size := by omega
    have f3 : ¬ 9223372036854775807 ≤ hd.size + tb.size := by omega
    have f4 : hd.size + tb.size < 9223372036854775807 := by omega
    go_wp2_with (go_at_call 39; refine HT.out.mono ?_; rintro e w9 ⟨rfl, hb9⟩; have D9 := Lib.hid (D8.out.trans (hb9.mono D8.out.size)); clear hb9)
    go_ret
    exact ⟨ret_eq (by rw [HR.out]; rfl), D9.out⟩
  · have he := emp_no hk0
    have hne := emp_ne hk0
    have HR := Lib.hid (show (⟨(lnE c nm.data.toList g.data.toList cl k.data.toList l).toArray⟩ : ByteArray) = hd ++ ⟨#[60]⟩ ++ k ++ ⟨#[62, 32]⟩ ++ tb ++ ⟨#[10]⟩ by rw [HRes.out (⟨#[60]⟩ ++ k ++ ⟨#[62, 32]⟩) (by rw [if_neg (lst_ne hk0)]; simp)]; apply str_eq; simp)
    have f1 : ¬ 9223372036854775806 < hd.size := by omega
    have f2 : ¬ 9223372036854775807 ≤ hd.size := by omega
    have f3 : hd.size < 9223372036854775807 := by omega
    have f4 : ¬ 9223372036854775807 < hd.size + 1 + k.size := by omega
    have f5 : ¬ 9223372036854775805 < hd.size + 1 + k.size := by omega
    have f6 : ¬ 9223372036854775807 < hd.size + 1 + k.size + 2 + tb.size := by omega
    have f7 : ¬ 9223372036854775806 < hd.size + 1 + k.size + 2 + tb.size := by omega
    have f8 : hd.size + 1 + k.size + 2 + tb.size < 9223372036854775807 := by omega
    go_wp2_with (go_at_call 39; refine HT.out.mono ?_; rintro e w9 ⟨rfl, hb9⟩; have D9 := Lib.hid (D8.out.trans (hb9.mono D8.out.size)); clear hb9)
    go_ret
    exact ⟨ret_eq (by rw [HR.out]; rfl), D9.out⟩

end Go.Proofs.YtajhgbcgbgpcjaaGreatDoor.Uc

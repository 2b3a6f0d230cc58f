import Derived.Test.YtajhgbcgbgpcjaaGreatDoorGK
import Derived.Test.YtajhgbcgbgpcjaaGreatDoorGQ
import Derived.Test.YtajhgbcgbgpcjaaGreatDoorFXe
import Derived.Lib.ItoaNum
import Derived.Lib.LaidTab
import Derived.Lib.AppendIntMem
namespace Go.Proofs.YtajhgbcgbgpcjaaGreatDoor.Uc
open Go.RowKit Fi

/-- The library's table of powers, as its text lays it. -/
def Pw (w : World) : Prop := Lib.TabIs Tryz.prog w "internal/strconv.uint64pow10" .u64 Lib.pow10Tab
theorem pw_on {w w' : World} (h : Pw w) (hb : Below w.heap.size w w') : Pw w' := by
  unfold Pw Lib.TabIs World.var? at *
  cases hg : Tryz.prog.globalNamed "internal/strconv.uint64pow10" with
  | none => simp [hg] at h
  | some g =>
    simp only [hg, Option.bind_some] at h ⊢
    have hlt : g < w.heap.size := by
      rcases Nat.lt_or_ge g w.heap.size with h' | h'
      · exact h'
      · rw [Array.getElem?_eq_none h'] at h; simp at h
    rw [hb.block g hlt]
    exact h
def inP (k : List UInt8) (l : List Int) : List UInt8 := if k = [] then txE l else 60 :: (k ++ 62 :: 32 :: txE l)
/-- A line: the character, the name that it has there, and the rest of its row. -/
def lnE (c : Int) (n : List UInt8) (g : List UInt8) (cl : Int) (k : List UInt8) (l : List Int) : List UInt8 := Lib.join [hx4 c.toNat, n, g, Lib.itoa cl, [], inP k l] [59] ++ [10]

theorem dec_small (u : Nat) (h : u ≤ 254) : (Lib.decDigits u).length ≤ 3 := by
  have key : ∀ v : _root_.Fin 255, (Lib.decDigits v.val).length ≤ 3 := by decide +kernel
  exact key ⟨u, by omega⟩
theorem itoa_small {c : Int} (h0 : 0 ≤ c) (h1 : c ≤ 254) : (Lib.itoa c).length ≤ 3 := by
  unfold Lib.itoa
  rw [if_neg (by omega)]
  exact dec_small _ (by omega)
theorem inP_len (k : List UInt8) (l : List Int) : (inP k l).length ≤ k.length + 9 * l.length + 3 := by
  have := txE_len l
  unfold inP
  split
  · omega
  · simp; omega
theorem grow_below (w : World) (k : Nat) (os : Array Obj) : Below w.heap.size w (Go.Sort.grow (w.drewN k) os) := Lib.below_grow _ w (Nat.le_refl _) k os
set_option maxRecDepth 100000 in
set_option maxHeartbeats 8000000 in
theorem lineOf_any (c f t cl : Int) (nm n g k : ByteArray) (A : Option Addr) (p : Nat) (l : List Int) (w : World) (hl : Ints .i32 w A l) (hc : scal c = true) (hsc : ∀ x ∈ l, scal x = true) (h18 : l.length ≤ 18) (h0 : 0 ≤ cl) (h1 : cl ≤ 254) (hnm : nm.size ≤ 1000) (hg : g.size ≤ 1000) (hk : k.size ≤ 1000) (hT : Tz w) (hP : Pw w) :
    Calls Tryz.prog 21 #[.int .i32 c, .string nm, .agg #[.int .i32 f, .int .i32 t, .string n, .string g, .int .i64 cl, .string k, .slice A l.length p]] w fun e w' => e = .returned (.string ⟨(lnE c nm.data.toList g.data.toList cl k.data.toList l).toArray⟩) ∧ Below w.heap.size w w' := by
  have hI := fun W (h : Below w.heap.size w W) => text_any A p l W (hl.below h) (fun x hx => by have := scal_bd (hsc x hx); omega) (by omega) (tz_on hT h)
  have hX := fun W b (h : Below w.heap.size w W) (hi : W.cell? ⟨b, 0, none⟩ = some (.int .i32 c)) => text_any (some ⟨b, 0, none⟩) 1 [c] W (fun i hi' => by
    have : i = 0 := by simp at hi'; omega
    subst this
    exact ⟨b, 0, rfl, World.block_lt_of_cell? W _ hi, hi⟩) (fun x hx => by simp at hx; subst hx; have := scal_bd hc; omega) (by simp) (tz_on hT h)
  rw [txE_one] at hX
  have hZ := fun W (h : Below w.heap.size w W) => (Tryz.strconv_Itoa cl (by omega) (by omega) W (pw_on hP h)).mono fun e w' ⟨he, k, os, hw⟩ => (show _ ∧ Below W.heap.size W w' from ⟨he, hw ▸ grow_below W k os⟩)
  have hzl := itoa_small h0 h1
  have hxl := hx4_len c.toNat
  have hpl := inP_len k.data.toList l
  have htl := txE_len l
  rw [lst_len] at hpl
  obtain ⟨xb, hxb⟩ : ∃ xb : ByteArray, xb = ⟨(hx4 c.toNat).toArray⟩ := ⟨_, rfl⟩
  obtain ⟨zb, hzb⟩ : ∃ zb : ByteArray, zb = ⟨(Lib.itoa cl).toArray⟩ := ⟨_, rfl⟩
  obtain ⟨tb, htb⟩ : ∃ tb : ByteArray, tb = ⟨(txE l).toArray⟩ := ⟨_, rfl⟩
  obtain ⟨ib, hib⟩ : ∃ ib : ByteArray, ib = ⟨(inP k.data.toList l).toArray⟩ := ⟨_, rfl⟩
  have hJ := fun W bk (h9 : bk < W.heap.size) (q0 : W.cell? ⟨bk, 0, none⟩ = some (.string xb)) (q1 : W.cell? ⟨bk, 1, none⟩ = some (.string nm)) (q2 : W.cell? ⟨bk, 2, none⟩ = some (.string g)) (q3 : W.cell? ⟨bk, 3, none⟩ = some (.string zb)) (q4 : W.cell? ⟨bk, 4, none⟩ = some (.string ⟨#[]⟩)) (q5 : W.cell? ⟨bk, 5, none⟩ = some (.string ib)) =>
    Tryz.strings_Join bk 0 6 [xb, nm, g, zb, ⟨#[]⟩, ib] ⟨#[59]⟩ W (fun j x hx => by
      match j, hx with
      | 0, hx => cases hx; exact q0
      | 1, hx => cases hx; exact q1
      | 2, hx => cases hx; exact q2
      | 3, hx => cases hx; exact q3
      | 4, hx => cases hx; exact q4
      | 5, hx => cases hx; exact q5
      | j + 6, hx => simp at hx) h9 (by simp) (by simp) (by
        simp only [List.map_cons, List.map_nil, hxb, hzb, hib, Lib.join, List.intercalate]
        simp
        omega)
  obtain ⟨lb, hlb⟩ : ∃ lb : ByteArray, lb = ⟨(Lib.join ([xb, nm, g, zb, ⟨#[]⟩, ib].map (·.data.toList)) (⟨#[59]⟩ : ByteArray).data.toList).toArray⟩ := ⟨_, rfl⟩
  rw [← hlb] at hJ
  rw [← hxb] at hX
  have hX : ∀ W b, Below w.heap.size w W → W.cell? ⟨b, 0, none⟩ = some (.int .i32 c) → Calls Tryz.prog 36 #[.slice (some ⟨b, 0, none⟩) 1 1] W fun e w' => e = .returned (.string xb) ∧ Below W.heap.size W w' := hX
  have hJ : ∀ W bk, bk < W.heap.size → W.cell? ⟨bk, 0, none⟩ = some (.string xb) → W.cell? ⟨bk, 1, none⟩ = some (.string nm) → W.cell? ⟨bk, 2, none⟩ = some (.string g) → W.cell? ⟨bk, 3, none⟩ = some (.string zb) → W.cell? ⟨bk, 4, none⟩ = some (.string ⟨#[]⟩) → W.cell? ⟨bk, 5, none⟩ = some (.string ib) → Calls Tryz.prog 38 #[.slice (some ⟨bk, 0, none⟩) 6 6, .string ⟨#[59]⟩] W fun e w' => e = .returned (.string lb) ∧ Below W.heap.size W w' := hJ
  rw [← hzb] at hZ
  rw [← htb] at hI
  have HRes := Lib.hid (show (⟨(lnE c nm.data.toList g.data.toList cl k.data.toList l).toArray⟩ : ByteArray) = lb ++ ⟨#[10]⟩ by
    rw [hlb, hxb, hzb, hib]
    unfold lnE
    apply str_eq
    simp)
  have hlz : lb.size ≤ 100000 := by
    rw [hlb, size_mk]
    simp only [List.map_cons, List.map_nil, hxb, hzb, hib, Lib.join, List.intercalate]
    simp
    omega
  have htz : tb.size ≤ 1000 := by rw [htb, size_mk]; omega
  have HIB := Lib.hid hib
  have HTB := Lib.hid htb
  have HI := Lib.hid hI
  have HX := Lib.hid hX
  have HZ := Lib.hid hZ
  have HJ := Lib.hid hJ
  clear hI hX hZ hJ hl hsc hT hP hxb hzb htb hib hlb hzl hxl hpl htl hc
  have D0 := Lib.hid ((Below.refl w.heap.size w).alloc (Nat.le_refl _) (.cells #[.int .i32 f, .int .i32 t, .string n, .string g, .int .i64 cl, .string k, .slice A l.length p] 27))
  have BK := Lib.hid (show Bk (w.alloc (.cells #[.int .i32 f, .int .i32 t, .string n, .string g, .int .i64 cl, .string k, .slice A l.length p] 27)) w.heap.size [.int .i32 f, .int .i32 t, .string n, .string g, .int .i64 cl, .string k, .slice A l.length p] 27 from ⟨heap_alloc_new w _⟩)
  go_enter Tryz.func21, Tryz.ntmps21
  go_wp2_with fail
  refine (HI.out _ D0.out).mono ?_
  rintro e w2 ⟨rfl, hb2⟩
  have D2 := Lib.hid (D0.out.trans (hb2.mono D0.out.size))
  have K2 := BK.out.below hb2
  have a3 := K2.c (i := 3) rfl
  have a4 := K2.c (i := 4) rfl
  have a5 := K2.c (i := 5) rfl
  have zz : w.heap.size < w2.heap.size := K2.lt
  clear hb2 K2 HI
  have HCl := Lib.hid (show ∀ W, Below w.heap.size w W → Below w2.heap.size w2 W → W.cell? ⟨w.heap.size, 3, none⟩ = some (.string g) ∧ W.cell? ⟨w.heap.size, 4, none⟩ = some (.int .i64 cl) from fun W _ h9 => ⟨(h9.cell (p := ⟨w.heap.size, 3, none⟩) zz).trans a3, (h9.cell (p := ⟨w.heap.size, 4, none⟩) zz).trans a4⟩)
  have key : k.size = 0 ∨ 0 < k.size := by omega
  rcases key with hk0 | hk0
  · obtain rfl := emp_yes hk0
    obtain rfl : ib = tb := by rw [HIB.out, HTB.out]; rfl
    clear HIB HTB hk0
    go_upto_region 4 with fail
    go_region_held3 (fun W => W.cell? ⟨w.heap.size, 3, none⟩ = some (.string g) ∧ W.cell? ⟨w.heap.size, 4, none⟩ = some (.int .i64 cl))
      (first
        | go_keep
        | exact HCl.out _ E7.out F7.out
        | exact HCl.out _ E8.out F8.out)
      (first
        | (go_at_call 36; refine (HX.out _ _ (by repeat (first | exact D2.out | exact E7.out | exact E8.out | refine Below.drew ?_ | refine Below.alloc ?_ (by first | omega | (simp; omega) | (simp; done)) _)) (by first | (simp; done) | (rw [hb8.cell (p := ⟨_, 0, none⟩) (by first | omega | (simp; omega) | (simp; done))]; simp; done))).mono ?_; rintro e w7 ⟨rfl, hb7⟩; have E7 := Lib.hid (show Below w.heap.size w w7 from Below.trans (by repeat (first | exact D2.out | exact E7.out | exact E8.out | refine Below.drew ?_ | refine Below.alloc ?_ (by first | omega | (simp; omega) | (simp; done)) _)) (hb7.mono (by first | omega | (simp; omega) | (simp; done)))); have F7 := Lib.hid (show Below w2.heap.size w2 w7 from Below.trans (by repeat (first | exact Below.refl _ _ | exact F7.out | exact F8.out | refine Below.drew ?_ | refine Below.alloc ?_ (by first | omega | (simp; omega) | (simp; done)) _)) (hb7.mono (by first | omega | (simp; omega) | (simp; done)))); have z7 := F7.out.size)
        | (go_at_call 37; refine (HZ.out _ (by repeat (first | exact D2.out | exact E7.out | exact E8.out | refine Below.drew ?_ | refine Below.alloc ?_ (by first | omega | (simp; omega) | (simp; done)) _))).mono ?_; rintro e w8 ⟨rfl, hb8⟩; have E8 := Lib.hid (show Below w.heap.size w w8 from Below.trans (by repeat (first | exact D2.out | exact E7.out | exact E8.out | refine Below.drew ?_ | refine Below.alloc ?_ (by first | omega | (simp; omega) | (simp; done)) _)) (hb8.mono (by first | omega | (simp; omega) | (simp; done)))); have F8 := Lib.hid (show Below w2.heap.size w2 w8 from Below.trans (by repeat (first | exact Below.refl _ _ | exact F7.out | exact F8.out | refine Below.drew ?_ | refine Below.alloc ?_ (by first | omega | (simp; omega) | (simp; done)) _)) (hb8.mono (by first | omega | (simp; omega) | (simp; done)))); have z8 := F8.out.size))
    have BJ := Lib.hid (show Bk (w8.alloc (.cells #[.string xb, .string nm, .string g, .string zb, .string ⟨#[]⟩, .string ib] 9)) w8.heap.size [.string xb, .string nm, .string g, .string zb, .string ⟨#[]⟩, .string ib] 9 from ⟨heap_alloc_new w8 _⟩)
    have D9 := Lib.hid (show Below w.heap.size w (w8.alloc (.cells #[.string xb, .string nm, .string g, .string zb, .string ⟨#[]⟩, .string ib] 9)) from E8.out.alloc E8.out.size _)
    have dl : ¬ 9223372036854775806 < lb.size := by omega
    go_wp2_with fail
    refine (HJ.out _ _ BJ.out.lt (BJ.out.c rfl) (BJ.out.c rfl) (BJ.out.c rfl) (BJ.out.c rfl) (BJ.out.c rfl) (BJ.out.c rfl)).mono ?_
    rintro e w10 ⟨rfl, hb10⟩
    have D10 := Lib.hid (D9.out.trans (hb10.mono D9.out.size))
    clear hb10
    go_wp2_with fail
    go_ret
    exact ⟨ret_eq (by rw [HRes.out]; rfl), D10.out⟩
  · have he := emp_no hk0
    have hne := emp_ne hk0
    obtain rfl : ib = ⟨#[60]⟩ ++ k ++ ⟨#[62]⟩ ++ ⟨#[32]⟩ ++ tb := by
      rw [HIB.out, HTB.out]
      apply str_eq
      unfold inP
      rw [if_neg (lst_ne hk0)]
      simp
    clear HIB HTB
    have d1 : ¬ 9223372036854775807 < 1 + k.size := by omega
    have d2 : ¬ 9223372036854775807 < 1 + k.size + 1 := by omega
    have d3 : ¬ 9223372036854775807 < 1 + k.size + 1 + 1 := by omega
    have d4 : ¬ 9223372036854775807 < 1 + k.size + 1 + 1 + tb.size := by omega
    have d5 : ¬ 9223372036854775806 < 1 + k.size := by omega
    have d6 : ¬ 9223372036854775806 < 1 + k.size + 1 := by omega
    have d7 : ¬ 9223372036854775806 < k.size := by omega
    go_upto_region 4 with fail
    go_region_held3 (fun W => W.cell? ⟨w.heap.size, 3, none⟩ = some (.string g) ∧ W.cell? ⟨w.heap.size, 4, none⟩ = some (.int .i64 cl))
      (first
        | go_keep
        | exact HCl.out _ E7.out F7.out
        | exact HCl.out _ E8.out F8.out)
      (first
        | (go_at_call 36; refine (HX.out _ _ (by repeat (first | exact D2.out | exact E7.out | exact E8.out | refine Below.drew ?_ | refine Below.alloc ?_ (by first | omega | (simp; omega) | (simp; done)) _)) (by first | (simp; done) | (rw [hb8.cell (p := ⟨_, 0, none⟩) (by first | omega | (simp; omega) | (simp; done))]; simp; done))).mono ?_; rintro e w7 ⟨rfl, hb7⟩; have E7 := Lib.hid (show Below w.heap.size w w7 from Below.trans (by repeat (first | exact D2.out | exact E7.out | exact E8.out | refine Below.drew ?_ | refine Below.alloc ?_ (by first | omega | (simp; omega) | (simp; done)) _)) (hb7.mono (by first | omega | (simp; omega) | (simp; done)))); have F7 := Lib.hid (show Below w2.heap.size w2 w7 from Below.trans (by repeat (first | exact Below.refl _ _ | exact F7.out | exact F8.out | refine Below.drew ?_ | refine Below.alloc ?_ (by first | omega | (simp; omega) | (simp; done)) _)) (hb7.mono (by first | omega | (simp; omega) | (simp; done)))); have z7 := F7.out.size)
        | (go_at_call 37; refine (HZ.out _ (by repeat (first | exact D2.out | exact E7.out | exact E8.out | refine Below.drew ?_ | refine Below.alloc ?_ (by first | omega | (simp; omega) | (simp; done)) _))).mono ?_; rintro e w8 ⟨rfl, hb8⟩; have E8 := Lib.hid (show Below w.heap.size w w8 from Below.trans (by repeat (first | exact D2.out | exact E7.out | exact E8.out | refine Below.drew ?_ | refine Below.alloc ?_ (by first | omega | (simp; omega) | (simp; done)) _)) (hb8.mono (by first | omega | (simp; omega) | (simp; done)))); have F8 := Lib.hid (show Below w2.heap.size w2 w8 from Below.trans (by repeat (first | exact Below.refl _ _ | exact F7.out | exact F8.out | refine Below.drew ?_ | refine Below.alloc ?_ (by first | omega | (simp; omega) | (simp; done)) _)) (hb8.mono (by first | omega | (simp; omega) | (simp; done)))); have z8 := F8.out.size))
    have BJ := Lib.hid (show Bk (w8.alloc (.cells #[.string xb, .string nm, .string g, .string zb, .string ⟨#[]⟩, .string (⟨#[60]⟩ ++ k ++ ⟨#[62]⟩ ++ ⟨#[32]⟩ ++ tb)] 9)) w8.heap.size [.string xb, .string nm, .string g, .string zb, .string ⟨#[]⟩, .string (⟨#[60]⟩ ++ k ++ ⟨#[62]⟩ ++ ⟨#[32]⟩ ++ tb)] 9 from ⟨heap_alloc_new w8 _⟩)
    have D9 := Lib.hid (show Below w.heap.size w (w8.alloc (.cells #[.string xb, .string nm, .string g, .string zb, .string ⟨#[]⟩, .string (⟨#[60]⟩ ++ k ++ ⟨#[62]⟩ ++ ⟨#[32]⟩ ++ tb)] 9)) from E8.out.alloc E8.out.size _)
    have dl : ¬ 9223372036854775806 < lb.size := by omega
    go_wp2_with fail
    refine (HJ.out _ _ BJ.out.lt (BJ.out.c rfl) (BJ.out.c rfl) (BJ.out.c rfl) (BJ.out.c rfl) (BJ.out.c rfl) (BJ.out.c rfl)).mono ?_
    rintro e w10 ⟨rfl, hb10⟩
    have D10 := Lib.hid (D9.out.trans (hb10.mono D9.out.size))
    clear hb10
    go_wp2_with fail
    go_ret
    exact ⟨ret_eq (by rw [HRes.out]; rfl), D10.out⟩

end Go.Proofs.YtajhgbcgbgpcjaaGreatDoor.Uc

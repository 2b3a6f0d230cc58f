import Derived.Test.YthnfopjjghohcaaDoorSG
namespace Go.Proofs.YthnfopjjghohcaaDoor.St
open Go.RowKit

set_option maxRecDepth 100000 in
set_option maxHeartbeats 2000000 in
theorem readW (base B : Nat) (fv : Value) (p : Nat) (wt : ByteArray) (fl : List (Nat × Nat)) (k : Nat) (pol : Int) (gs ov : Bool) (n : Nat) (w : World) (h : Dc w base B fv p wt fl k pol gs ov) (hT : Wd.Tab w) (hp : 1 + 1 ≤ base) (h1 : 1 ≤ k) (h4 : k ≤ 4) (hq : pol = 1 ∨ pol = 2 ∨ pol = 3) (hw : wt.size ≤ p) (hpp : p ≤ 100000) (hn : n ≤ wt.size) (hfl : fl.length ≤ 100000) :
    Calls Tryd.prog 34 #[.pointer (some ⟨B, 0, none⟩), .int .i64 (n : Int)] w fun e w' => ∃ fv' v1, e = .returned (.tuple #[v1, .int .i64 (Dg.dec (Dg.nx5 k) pol 0 ((bs wt).take n)).2.2]) ∧ w'.ownsRow w.heap.size 21 1 v1 (Dg.dec (Dg.nx5 k) pol 0 ((bs wt).take n)).1.length (i32s (Dg.dec (Dg.nx5 k) pol 0 ((bs wt).take n)).1) ∧ Dc w' base B fv' p (wt.extract n wt.size) (fl ++ shL (p - wt.size) (Dg.dec (Dg.nx5 k) pol 0 ((bs wt).take n)).2.1) k pol gs ov ∧ Stp B w fv w' fv' := by
  have hfd : fDec k = .func (.func 41) #[.int .i64 (k : Int)] #[] := if_neg (by omega)
  have HTK := Lib.hid (take_any base B fv p wt fl k pol gs ov n w h hpp hn hw)
  have hbs : bs (wt.extract 0 n) = (bs wt).take n := by rw [bs_ext]; simp
  have hsz : (wt.extract 0 n).size ≤ 100000 := by
    have := bs_len (wt.extract 0 n)
    rw [hbs, List.length_take, bs_len] at this
    omega
  have hln := Dg.dec_lens (Dg.nxOk k) pol ((bs wt).take n) 0
  have hfr := Dg.dec_from (Dg.nxOk k) pol ((bs wt).take n) 0
  rw [List.length_take, bs_len] at hln hfr
  rw [← hbs] at hln hfr ⊢
  generalize wt.extract 0 n = s at *
  have HD := Lib.hid (fun (A : Option Addr) W (hW : Wd.Tab W) (hx : Strs W A 1 [s]) (hs : s.size ≤ 100000) => wdecode_any k pol A 1 [s] W hW hx (by simp) (by rw [catB_one]; exact hs))
  rw [catB_one, show Wd.decP k pol (bs s) = Dg.dec (Dg.nx5 k) pol 0 (bs s) from by rw [Wd.decP_dec k pol (bs s) h1 h4 hq, Dg.decW]; unfold Dg.nx5; rw [if_neg (by omega)]] at HD
  generalize hdd : Dg.dec (Dg.nx5 k) pol 0 (bs s) = dd at *
  have HLN := Lib.hid hln
  have hl1 : dd.1.length ≤ 100000 := by omega
  have hl2 : dd.2.1.length ≤ 100000 := by omega
  have HLB := Lib.hid (show ∀ x ∈ dd.2.1, x.1 ≤ 100000 from fun x hx => by have := hfr x hx; omega)
  have HT := Lib.hid hT
  have HH := Lib.hid h
  have HFD := Lib.hid hfd
  have hjj : p - wt.size ≤ 100000 := by omega
  clear hdd hln hfr hT h hfd hbs
  obtain ⟨jj, hj⟩ : ∃ jj, p - wt.size = jj := ⟨_, rfl⟩
  rw [hj] at HTK hjj ⊢
  clear hj
  go_enter Tryd.func34, Tryd.ntmps34
  go_wp2_with (go_at_call 46; refine HTK.out.mono ?_; rintro e w1 ⟨rfl, hd1, hs1⟩; have D1 := Lib.hid hd1; have S1 := Lib.hid hs1; have a4 := hd1.d.c4; have a6 := hd1.d.c6; rw [HFD.out] at a4; have hBl := hd1.d.lt; have T1 := Lib.hid (HT.out.below (HH.out.belowS hs1) hp); clear hd1 hs1)
  have z1 := S1.out.size
  have hp1 := T1.out.pos
  go_region_law
    (go_simp; go_at_call 41; refine (HD.out _ _ (T1.out.below ((Below.refl _ w1).alloc (Nat.le_refl _) (.cells #[.string s] 9)).drew hp1) (show Strs (w1.alloc (.cells #[.string s] 9)).drew _ 1 [s] from strs_new [s] 9 w1 1 (by simp)) hsz).mono ?_; rintro e w3 ⟨v1, v2, rfl, ho1, ho2, hb⟩; obtain ⟨A2, c2, rfl, hfx⟩ := own_flts ho2; have B3 := Lib.hid (show Below w1.heap.size w1 w3 from ((Below.refl _ w1).alloc (Nat.le_refl _) (.cells #[.string s] 9)).trans ⟨hb.os, hb.tape, hb.output, hb.size, fun i hi => hb.block i (by simp; omega)⟩); have O1 := Lib.hid (ho1.mono (show w1.heap.size ≤ _ by simp)); have O2 := Lib.hid (ho2.mono (show w1.heap.size ≤ _ by simp)); clear ho1 ho2 hb hfx)
  all_goals
    have D3 := Lib.hid (D1.out.bel B3.out)
    have S3 := Lib.hid (S1.out.bel B3.out)
    have HN3 := Lib.hid (own_new O2.out D1.out.f)
    go_wp2_with (go_at_call 47; refine (note_any base B fv p _ fl k pol gs ov jj _ A2 c2 dd.2.1 _ D3.out O2.out HN3.out hl2 hfl hjj HLB.out).mono ?_; rintro e w5 ⟨fv5, rfl, hd5, hs5⟩; have D5 := Lib.hid hd5; have S5 := Lib.hid (S3.out.trans hs5); have O5 := Lib.hid ((D3.out.keep hs5 O1.out (by decide) (by decide)).mono z1); clear hd5 hs5)
    go_ret2
    exact ⟨fv5, v1, rfl, O5.out, D5.out, S5.out⟩
end Go.Proofs.YthnfopjjghohcaaDoor.St

import Derived.Test.YtajhgbcgbgpcjaaDoorGT
import Derived.Test.YtajhgbcgbgpcjaaDoorGH
namespace Go.Proofs.YtajhgbcgbgpcjaaDoor.Uc
open Go.RowKit Fi

structure URel (w wr : World) (A1 : Option Addr) (c1 F k : Nat) (ls : List (Nat × List UInt8)) (vout : Value) (opn : Bool) (was : Int) (l : List (Rw × Value)) (rs : List Rw) (op : Nat) (fx : Rw) (Af : Option Addr) (cf : Nat) (tot : List Rw × Nat × Nat × Int) : Prop where
  bel : Below w.heap.size w wr
  lns : wr.ownsRow w.heap.size 56 2 (.slice A1 ls.length c1) ls.length (lnV ls)
  out : RwIn wr w.heap.size 34 vout l
  fst : Bk wr F (rC fx (.slice Af fx.into.length cf)) 34
  fbs : w.heap.size ≤ F
  fne : vout.ownBlock ≠ some F
  fnm : fx.nm.length ≤ 512
  inv : Inv rs op
  len : l.length ≤ k
  run : run rs op (ls.drop k) = tot
  yes : opn = true → op ≠ 0 ∧ 0 < k ∧ (ls[k - 1]?).map Prod.fst = some op ∧ RowOk fx ∧ ∃ n, rgN fx.nm firstE = some n ∧ rs = l.map Prod.fst ++ [{ fx with nm := n }]
  no : opn = false → op = 0 ∧ rs = l.map Prod.fst ∧ was = if rs = [] then -1 else (lastR rs).tt
theorem rrow_info : (Tryd.prog.info? 34).map (fun i => (i.zero, i.size, i.bytes)) = some (some (.agg zC.toArray), 7, 88) := by kernel_rfl
/-- What a row more leaves as it was. -/
theorem out_more {w wa w6 : World} {F : Nat} {vout v6 : Value} {l : List (Rw × Value)} {r : Rw} {u : Value} {fcs : List Value} {A1 : Option Addr} {c1 : Nat} {ls : List (Nat × List UInt8)} (hb : Below w.heap.size w wa) (ln : wa.ownsRow w.heap.size 56 2 (.slice A1 ls.length c1) ls.length (lnV ls))
    (out : RwIn wa w.heap.size 34 vout l) (fs : Bk wa F fcs 34) (fne : vout.ownBlock ≠ some F) (hu : wa.ownsRow w.heap.size 21 1 u r.into.length (i32s r.into))
    (h6 : w6.ownsRow w.heap.size 34 7 v6 (l.length + 1) (rCs l ++ rC r u)) (hg : wa.grownBy w6 vout.ownBlock) (ha : v6.ownBlock = vout.ownBlock ∨ v6.ownBlock = some wa.heap.size) :
    Below w.heap.size w w6 ∧ w6.ownsRow w.heap.size 56 2 (.slice A1 ls.length c1) ls.length (lnV ls) ∧ RwIn w6 w.heap.size 34 v6 (l ++ [(r, u)]) ∧ Bk w6 F fcs 34 ∧ v6.ownBlock ≠ some F := by
  refine ⟨hb.grown hg hb.size (fun z hz => (out.own.lt z hz).1), KeepT.own (KeepT.grown out.own (by decide) hg) ln, ⟨?_, fun x hx => ?_⟩, ⟨(hg.block F fs.lt (fun e => fne e.symm)).trans fs.blk⟩, ?_⟩
  · have : (l ++ [(r, u)]).length = l.length + 1 := by simp
    rw [this, rCs_app]
    exact h6
  · refine KeepT.own (KeepT.grown out.own (by decide) hg) ?_
    rcases List.mem_append.1 hx with hx | hx
    · exact out.ints x hx
    · simp at hx; subst hx; exact hu
  · rcases ha with ha | ha
    · rw [ha]; exact fne
    · rw [ha]; intro e; have := fs.lt; injection e with e; omega
theorem endB_no {x y : Rw} {q : List UInt8} (hq : rgN x.nm lastE = some q) : endB x y = (decide (q = y.nm) && (decide (x.ct = y.ct) && (decide (x.cl = y.cl) && (decide (x.into.length = 0) && (decide (y.into.length = 0) && decide (y.fr ≤ x.fr)))))) := by unfold endB; rw [hq]
theorem lst_str {a b : List UInt8} (h : a ≠ b) : (⟨a.toArray⟩ : ByteArray) ≠ ⟨b.toArray⟩ := fun e => h (mk_inj.1 e)

theorem own_sets7 {w : World} {X : Nat} {cs : List Value} {t : TypeId} {b e z n : Nat} {v' : Value} {xs : List Value} {u0 u1 u2 u3 u4 u5 u6 : Value} (ho : w.ownsRow b e z v' n xs) (h : Bk w X cs t) (ht : t ≠ e) :
    (((((((w.setCell ⟨X, 0, none⟩ u0).setCell ⟨X, 1, none⟩ u1).setCell ⟨X, 2, none⟩ u2).setCell ⟨X, 3, none⟩ u3).setCell ⟨X, 4, none⟩ u4).setCell ⟨X, 5, none⟩ u5).setCell ⟨X, 6, none⟩ u6).ownsRow b e z v' n xs := by
  have hn := h.ne ho ht
  exact own_set (own_set (own_set (own_set (own_set (own_set (own_set ho hn _) hn _) hn _) hn _) hn _) hn _) hn _
theorem rwin_sets7 {w : World} {X : Nat} {cs : List Value} {T : TypeId} {base : Nat} {v : Value} {l : List (Rw × Value)} {u0 u1 u2 u3 u4 u5 u6 : Value} (ho : RwIn w base T v l) (h : Bk w X cs T) (hn : v.ownBlock ≠ some X) (ht : T ≠ 21) :
    RwIn (((((((w.setCell ⟨X, 0, none⟩ u0).setCell ⟨X, 1, none⟩ u1).setCell ⟨X, 2, none⟩ u2).setCell ⟨X, 3, none⟩ u3).setCell ⟨X, 4, none⟩ u4).setCell ⟨X, 5, none⟩ u5).setCell ⟨X, 6, none⟩ u6) base T v l :=
  ⟨own_set (own_set (own_set (own_set (own_set (own_set (own_set ho.own hn _) hn _) hn _) hn _) hn _) hn _) hn _, fun x hx => own_sets7 (ho.ints x hx) h ht⟩

set_option maxRecDepth 100000 in
set_option maxHeartbeats 16000000 in
theorem rrows_any (s : ByteArray) (w : World) (hs : s.size ≤ 100000) : Calls Tryd.prog 9 #[.string s] w (RwsP w 34 (rwsE s.data.toList)) := by
  have hL := rlines_any s w hs
  unfold LinR at hL
  have hE : rwsE s.data.toList = rwsE s.data.toList := rfl
  conv at hE => rhs; unfold rwsE
  obtain ⟨hb1, hb2⟩ := lin_bd s.data.toList
  obtain ⟨x, hx⟩ : ∃ x, x = linE s.data.toList := ⟨_, rfl⟩
  rw [← hx] at hL hb1 hb2 hE
  clear hx
  obtain ⟨ls, er⟩ := x
  simp only at hL hb1 hb2 hE
  have HL := Lib.hid hL
  have HB2 := Lib.hid hb2
  clear hL hb2
  by_cases h1 : er ≠ 0
  · simp only [if_pos h1] at hE
    have HE := Lib.hid hE
    have e1 : (er != 0) = true := by simpa using h1
    clear hE h1
    go_enter Tryd.func9, Tryd.ntmps9
    go_wp2_with (go_at_call 22; refine HL.out.mono ?_; rintro e w1 ⟨v1, rfl, ho1, hb1'⟩; have B1 := Lib.hid hb1'; clear ho1 hb1')
    refine bodyPost_ret (v := .tuple #[.slice none 0 0, .int .i64 0, .int .i64 er]) (by simp [results, Tryd.results9, go_sem]) rfl ⟨_, [], by rw [HE.out]; rfl, by rw [HE.out]; rfl, RwIn.nil _ _ _, B1.out⟩
  · simp only [if_neg h1] at hE
    obtain rfl : er = 0 := by simpa using h1
    generalize htot : run [] 0 ls = tot at hE
    have HT := Lib.hid htot
    have HE := Lib.hid hE
    clear htot hE h1
    obtain ⟨i0, hi0, hz0, hz1, hz2⟩ := info_parts rrow_info
    have I0 := Lib.hid hi0
    have I1 := Lib.hid hz0
    have I2 := Lib.hid hz1
    have I3 := Lib.hid hz2
    clear hi0 hz0 hz1 hz2
    go_enter Tryd.func9, Tryd.ntmps9
    go_wp2_with (go_at_call 22; refine HL.out.mono ?_; rintro e w1 ⟨v1, rfl, ho1, hb1'⟩; obtain ⟨A1, c1, rfl, _⟩ := own_lns ho1; have O1 := Lib.hid ho1; have B1 := Lib.hid hb1'; clear ho1 hb1')
    clear HL
    go_loopw [7, 8, 10, 11, 12, 13, 14, 15, 16, 17, 18, 19, 20] (fun v7 v8 v10 i _ _ _ _ _ _ _ _ _ wr => ∃ k : Nat, i = .int .i64 k ∧ k ≤ ls.length ∧ ∃ opn was l rs op fx Af cf, v8 = .bool opn ∧ v10 = .int .i32 was ∧ Hid (URel w wr A1 c1 w1.heap.size k ls v7 opn was l rs op fx Af cf tot)) (fun _ _ _ i _ _ _ _ _ _ _ _ _ _ => ls.length - (intOf i).toNat)
    case atStart =>
      have hk : Bk (w1.alloc (.cells zC.toArray 34)) w1.heap.size zC 34 := ⟨heap_alloc_new w1 _⟩
      exact ⟨0, rfl, by omega, false, -1, [], [], 0, z0, none, 0, rfl, rfl, B1.out.alloc B1.out.size _, O1.out.alloc _, RwIn.nil _ _ _, hk, B1.out.size, (by intro h; cases h), Nat.zero_le _, Inv.nil, Nat.le_refl _, HT.out, (fun h => absurd h (by decide)), fun _ => ⟨rfl, rfl, rfl⟩⟩
    case round =>
      obtain ⟨k, rfl, hk, opn, was, l, rs, op, fx, Af, cf, rfl, rfl, HQ⟩ := hrel
      clear HT O1 B1
      by_cases hlt : k < ls.length
      · obtain ⟨A', c', e', hN⟩ := own_lns HQ.out.lns
        have e'' : A' = A1 := by injection e' with e1 e2 e3; exact e1.symm
        subst e''
        obtain ⟨b, off, rfl, hb, hc, hd⟩ := hN k hlt
        clear e' hN
        have hy := HB2.out ls[k] (List.getElem_mem hlt)
        have hdr : ls.drop k = ls[k] :: ls.drop (k + 1) := List.drop_eq_getElem_cons hlt
        have hat : ls[k + 1 - 1]? = some ls[k] := by rw [Nat.add_sub_cancel, List.getElem?_eq_getElem hlt]
        have hrun := HQ.out.run
        rw [hdr] at hrun
        generalize ls[k] = y at *
        obtain ⟨no, tx⟩ := y
        simp only at hc hd hy
        obtain ⟨tb, htb⟩ : ∃ tb : ByteArray, tb = ⟨tx.toArray⟩ := ⟨_, rfl⟩
        have htl : tb.data.toList = tx := by rw [htb]
        have htz : tb.size ≤ 512 := by rw [htb, size_mk]; exact hy.2.2
        rw [← htb] at hd
        have hR := fun W => rrow_any tb W (by omega)
        rw [htl] at hR
        unfold ReP at hR
        have hnm := row_nm tx
        have hrok := @rowE_ok tx
        have hkl := HQ.out.len
        have g1 : (k : Int) < ls.length := by omega
        have s1 := @stp_err rs op no tx
        have s2 := @stp_bad rs op no tx
        have s3 := @stp_last rs op no tx
        have s4 := @stp_there rs op no tx
        have s5 := fun n => @stp_first rs op no tx n
        have s6 := @stp_one rs op no tx
        have hinv := stp_inv (no := no) (t := tx) HQ.out.inv
        have HAT := Lib.hid hat
        have hn1 : 1 ≤ no := hy.1
        generalize rowE tx = x at *
        obtain ⟨⟨f, tt, nm, ct, cl, kd, into⟩, er⟩ := x
        unfold rV at hR
        simp only at hR hnm hrok s1 s2 s3 s4 s5 s6
        obtain ⟨nb, hnb⟩ : ∃ nb : ByteArray, nb = ⟨nm.toArray⟩ := ⟨_, rfl⟩
        have hnz : nb.size ≤ 512 := by rw [hnb, size_mk]; omega
        have hnm2 : nm.length ≤ 512 := by omega
        have HNL := Lib.hid (show nb.data.toList = nm by rw [hnb])
        rw [← hnb] at hR
        have HNB := Lib.hid hnb
        have HR := Lib.hid hR
        have hRl := fun W => inner_any nb ⟨#[44, 32, 76, 97, 115, 116, 62]⟩ W (by omega) (by decide)
        rw [show (⟨#[44, 32, 76, 97, 115, 116, 62]⟩ : ByteArray).data.toList = lastE from rfl, HNL.out] at hRl
        have hRf := fun W => inner_any nb ⟨#[44, 32, 70, 105, 114, 115, 116, 62]⟩ W (by omega) (by decide)
        rw [show (⟨#[44, 32, 70, 105, 114, 115, 116, 62]⟩ : ByteArray).data.toList = firstE from rfl, HNL.out] at hRf
        clear hR hnb hdr htb htl hat hy
        have HS1 := Lib.hid s1
        have HS2 := Lib.hid s2
        have HS3 := Lib.hid s3
        have HS4 := Lib.hid s4
        have HS5 := Lib.hid s5
        have HS6 := Lib.hid s6
        have HRN := Lib.hid hrun
        have HIN := Lib.hid hinv
        have HRO := Lib.hid hrok
        clear s1 s2 s3 s4 s5 s6 hrun hinv hrok
        by_cases h1 : er = 0
        · subst h1
          have hok := HRO.out rfl
          have HOK := Lib.hid hok
          clear HRO HS1
          cases hq : rgN nm lastE with
          | some q =>
            rw [hq] at hRl
            have HRl := Lib.hid (show ∀ W, Calls Tryd.prog 24 #[.string nb, .string ⟨#[44, 32, 76, 97, 115, 116, 62]⟩] W fun e w' => e = .returned (.tuple #[.string ⟨q.toArray⟩, .bool true]) ∧ W = w' from hRl)
            clear hRl hRf
            cases opn with
            | false =>
              obtain ⟨rfl, hrs, hwas⟩ := HQ.out.no rfl
              have HT := Lib.hid (HS2.out rfl (.inl (by rw [hq]; rfl)) (.inl rfl))
              have HN := Lib.hid (show run rs 0 ((no, tx) :: ls.drop (k + 1)) = (rs, 0, no, 10) by rw [run_wrong (by rw [HT.out]; simp), HT.out])
              clear HS2 HS3 HS4 HS5 HS6 hrs hwas hq hok
              go_upto_region 13 with (go_at_call 23; refine (HR.out _).mono ?_; rintro e w2 ⟨v2, rfl, ho2, hb2⟩; obtain ⟨A3, c3, rfl, _⟩ := own_ints ho2; have O2 := Lib.hid ho2; have B2 := Lib.hid hb2; clear ho2 hb2)
              clear HR hc hd hb
              obtain ⟨w3, hw3⟩ : ∃ w3, w3 = w2.alloc (.cells #[.int .i32 f, .int .i32 tt, .string nb, .string ⟨ct.toArray⟩, .int .i64 cl, .string ⟨kd.toArray⟩, .slice A3 into.length c3] 34) := ⟨_, rfl⟩
              rw [← hw3]
              have B3' : Below w2.heap.size w2 w3 := by rw [hw3]; exact (Below.refl _ w2).alloc (Nat.le_refl _) _
              have XK := Lib.hid (show Bk w3 w2.heap.size [.int .i32 f, .int .i32 tt, .string nb, .string ⟨ct.toArray⟩, .int .i64 cl, .string ⟨kd.toArray⟩, .slice A3 into.length c3] 34 by rw [hw3]; exact ⟨heap_alloc_new w2 _⟩)
              have B3 := Lib.hid (show Below wr.heap.size wr w3 from B2.out.trans (B3'.mono B2.out.size))
              have BW := Lib.hid (HQ.out.bel.trans (B3.out.mono HQ.out.bel.size))
              have O3 := Lib.hid (own_low (own_below' O2.out B3') HQ.out.bel.size)
              have z1 : wr.heap.size ≤ w2.heap.size := B2.out.size
              have z2 : w2.heap.size < w3.heap.size := XK.out.lt
              have z3 : w.heap.size ≤ wr.heap.size := HQ.out.bel.size
              clear B3' hw3 O2 B2
              have a2 := XK.out.c (i := 2) rfl
              go_wp2_with (go_at_call 24; (with_reducible refine (HRl.out _).mono ?_); rintro e w4 ⟨rfl, rfl⟩)
              refine bodyPost_ret (v := .tuple #[.slice none 0 0, .int .i64 no, .int .i64 10]) (by simp [results, Tryd.results9, go_sem]) rfl (by
                have h9 := HE.out
                rw [← HRN.out, HN.out] at h9
                simp only [ne_eq, show ¬ ((10 : Int) = 0) by decide, not_false_eq_true, if_true] at h9
                exact ⟨_, [], by rw [h9], by rw [h9]; rfl, RwIn.nil _ _ _, BW.out⟩)
            | true =>
              obtain ⟨hop, hk0, hpn, hfok, n, hfn, hrs⟩ := HQ.out.yes rfl
              have hlr : lastR rs = { fx with nm := n } := by rw [hrs, lastR_snoc]
              have hFn := HQ.out.fst
              have hfnm := HQ.out.fnm
              have HFK := Lib.hid hFn
              obtain ⟨ff, ft, fn, fc, fl, fk, fi⟩ := fx
              simp only at hlr hfn hrs hfnm
              obtain ⟨fnb, hfnb⟩ : ∃ fnb : ByteArray, fnb = ⟨fn.toArray⟩ := ⟨_, rfl⟩
              have hRg := fun W => inner_any fnb ⟨#[44, 32, 70, 105, 114, 115, 116, 62]⟩ W (by rw [hfnb, size_mk]; omega) (by decide)
              rw [show (⟨#[44, 32, 70, 105, 114, 115, 116, 62]⟩ : ByteArray).data.toList = firstE from rfl, show fnb.data.toList = fn by rw [hfnb], hfn] at hRg
              have HRg := Lib.hid (show ∀ W, Calls Tryd.prog 24 #[.string fnb, .string ⟨#[44, 32, 70, 105, 114, 115, 116, 62]⟩] W fun e w' => e = .returned (.tuple #[.string ⟨n.toArray⟩, .bool true]) ∧ W = w' from hRg)
              have HFB := Lib.hid hfnb
              have hen := endB_no (x := ⟨f, tt, nm, ct, cl, kd, into⟩) (y := ⟨ff, ft, n, fc, fl, fk, fi⟩) hq
              simp only at hen
              have hbd : endB ⟨f, tt, nm, ct, cl, kd, into⟩ (lastR rs) = false → run rs op ((no, tx) :: ls.drop (k + 1)) = (rs, op, no, 10) := fun h9 => by
                have h8 := HS2.out rfl (.inl (by rw [hq]; rfl)) (.inr h9)
                rw [run_wrong (by rw [h8]; simp), h8]
              rw [hlr, hen] at hbd
              clear hRg hfnb hFn
              by_cases q1 : q = n
              · subst q1
                by_cases q2 : ct = fc
                · subst q2
                  by_cases q3 : cl = fl
                  · subst q3
                    by_cases q4 : into.length = 0 ∧ fi.length = 0
                    · by_cases q5 : ff ≤ f
                      · have HT := Lib.hid (HS3.out rfl (.inl (by rw [hq]; rfl)) (by rw [hlr, hen]; simp [hop, q4, q5]))
                        have HN := Lib.hid (show run rs op ((no, tx) :: ls.drop (k + 1)) = run (putTo rs tt) 0 (ls.drop (k + 1)) by rw [run_cons (by rw [HT.out]), HT.out])
                        have HRS := Lib.hid hrs
                        have hin := HIN.out
                        rw [HT.out] at hin
                        have HI2 := Lib.hid hin
                        have HFO := Lib.hid hfok
                        have HOP := Lib.hid q4
                        have p5 : ¬ f < ff := by omega
                        clear HS2 HS3 HS4 HS5 HS6 hbd hen hlr hq hok hrs hin hfok hpn hfn q4
                        go_upto_region 13 with (go_at_call 23; refine (HR.out _).mono ?_; rintro e w2 ⟨v2, rfl, ho2, hb2⟩; obtain ⟨A3, c3, rfl, _⟩ := own_ints ho2; have O2 := Lib.hid ho2; have B2 := Lib.hid hb2; clear ho2 hb2)
                        clear HR hc hd hb
                        obtain ⟨w3, hw3⟩ : ∃ w3, w3 = w2.alloc (.cells #[.int .i32 f, .int .i32 tt, .string nb, .string ⟨ct.toArray⟩, .int .i64 cl, .string ⟨kd.toArray⟩, .slice A3 into.length c3] 34) := ⟨_, rfl⟩
                        rw [← hw3]
                        have B3' : Below w2.heap.size w2 w3 := by rw [hw3]; exact (Below.refl _ w2).alloc (Nat.le_refl _) _
                        have XK := Lib.hid (show Bk w3 w2.heap.size [.int .i32 f, .int .i32 tt, .string nb, .string ⟨ct.toArray⟩, .int .i64 cl, .string ⟨kd.toArray⟩, .slice A3 into.length c3] 34 by rw [hw3]; exact ⟨heap_alloc_new w2 _⟩)
                        have B3 := Lib.hid (show Below wr.heap.size wr w3 from B2.out.trans (B3'.mono B2.out.size))
                        have BW := Lib.hid (HQ.out.bel.trans (B3.out.mono HQ.out.bel.size))
                        have O3 := Lib.hid (own_low (own_below' O2.out B3') HQ.out.bel.size)
                        have z1 : wr.heap.size ≤ w2.heap.size := B2.out.size
                        have z2 : w2.heap.size < w3.heap.size := XK.out.lt
                        have z3 : w.heap.size ≤ wr.heap.size := HQ.out.bel.size
                        clear B3' hw3 O2 B2
                        obtain ⟨q41, q42⟩ := HOP.out
                        have OU3 := Lib.hid (HQ.out.out.below B3.out)
                        have LN3 := Lib.hid (own_below' HQ.out.lns B3.out)
                        have a0 := XK.out.c (i := 0) rfl
                        have a1 := XK.out.c (i := 1) rfl
                        have a2 := XK.out.c (i := 2) rfl
                        have a3 := XK.out.c (i := 3) rfl
                        have a4 := XK.out.c (i := 4) rfl
                        have a5 := XK.out.c (i := 5) rfl
                        have a6 := XK.out.c (i := 6) rfl
                        have FK3 := Lib.hid (HFK.out.below B3.out)
                        have k0 : w3.cell? ⟨w1.heap.size, 0, none⟩ = some (.int .i32 ff) := FK3.out.c (i := 0) rfl
                        have k1 : w3.cell? ⟨w1.heap.size, 1, none⟩ = some (.int .i32 ft) := FK3.out.c (i := 1) rfl
                        have k2 : w3.cell? ⟨w1.heap.size, 2, none⟩ = some (.string fnb) := by rw [HFB.out]; exact FK3.out.c (i := 2) rfl
                        have k3 : w3.cell? ⟨w1.heap.size, 3, none⟩ = some (.string ⟨ct.toArray⟩) := FK3.out.c (i := 3) rfl
                        have k4 : w3.cell? ⟨w1.heap.size, 4, none⟩ = some (.int .i64 cl) := FK3.out.c (i := 4) rfl
                        have k5 : w3.cell? ⟨w1.heap.size, 5, none⟩ = some (.string ⟨fk.toArray⟩) := FK3.out.c (i := 5) rfl
                        have k6 : w3.cell? ⟨w1.heap.size, 6, none⟩ = some (.slice Af fi.length cf) := FK3.out.c (i := 6) rfl
                        go_wp2_with (first
                          | (go_at_call 24; (with_reducible refine (HRl.out _).mono ?_); rintro e w4 ⟨rfl, rfl⟩)
                          | (go_at_call 24; (with_reducible refine (HRg.out _).mono ?_); rintro e w5 ⟨rfl, rfl⟩)
                          | (at_builtin; refine wpList_append_own_at _ rfl (.tmp 106) (.tmp 117) _ rfl w.heap.size 34 i0 _ 7 88 Tryd.underlying27 I0.out I1.out I2.out I3.out rfl (by omega) u7 l.length _ rfl (OU3.out.own.alloc _) ⟨w3.heap.size, 0, none⟩ 1 1 [.int .i32 ff, .int .i32 f, .string ⟨q.toArray⟩, .string ⟨ct.toArray⟩, .int .i64 cl, .string ⟨#[]⟩, .slice none 0 0] rfl rfl (World.news_of_block (cs := #[.int .i32 ff, .int .i32 f, .string ⟨q.toArray⟩, .string ⟨ct.toArray⟩, .int .i64 cl, .string ⟨#[]⟩, .slice none 0 0]) (t := 34) (fr := (0, 0)) (heap_alloc_new w3 _)) (by simp [Value.oneCell']) (by unfold maxLen; omega) (by omega) (by simp; omega) ?_; intro v6 w6 ho6 hg6 hn6 ha6; have O6 := Lib.hid (And.intro ho6 (And.intro hg6 ha6)); have x6 := (hg6.block w2.heap.size (by simp; omega) (fun h9 => by have h8 := (HQ.out.out.own.lt _ h9.symm).2; omega)); have y6 : w6.cell? ⟨w2.heap.size, 0, none⟩ = some (.int .i32 f) := (by simp only [World.cell?, x6]; exact ((XK.out.below ((Below.refl _ w3).alloc (Nat.le_refl _) (.cells #[.int .i32 ff, .int .i32 f, .string ⟨q.toArray⟩, .string ⟨ct.toArray⟩, .int .i64 cl, .string ⟨#[]⟩, .slice none 0 0] 34))).c (i := 0) rfl)); clear ho6 hg6 hn6 ha6 x6))
                        go_roundw
                        case rel =>
                          obtain ⟨r1, r2, r3, r4, r5⟩ := out_more (r := ⟨ff, f, q, ct, cl, [], []⟩) (BW.out.alloc (by omega) _) (LN3.out.alloc _) ⟨OU3.out.own.alloc _, fun x hx => (OU3.out.ints x hx).alloc _⟩ (FK3.out.below ((Below.refl _ w3).alloc (Nat.le_refl _) _)) HQ.out.fne (World.ownsRow_nil _ _ _ _) (by have h9 := O6.out.1; exact h9) O6.out.2.1 O6.out.2.2
                          have hfi : fi = [] := List.eq_nil_of_length_eq_zero HOP.out.2
                          have hfk : fk = [] := HFO.out.none hfi
                          have htt : tt = f := HOK.out.tt
                          subst hfi hfk htt
                          have hpt : putTo rs tt = (l ++ [((⟨ff, tt, q, ct, cl, [], []⟩ : Rw), Value.slice none 0 0)]).map Prod.fst := by rw [HRS.out, putTo_snoc]; simp
                          exact ⟨k + 1, by go_num, by omega, false, tt, _, _, 0, _, Af, cf, rfl, rfl, r1, r2, r3, r4, HQ.out.fbs, r5, HQ.out.fnm, HI2.out, by rw [List.length_append]; simp; omega, by rw [← HN.out]; exact HRN.out, (fun h => absurd h (by decide)), fun _ => ⟨rfl, hpt, by rw [if_neg (by rw [hpt]; simp), hpt]; simp [lastR]⟩⟩
                        case measure => simp [intOf]; omega
                      · have HN := Lib.hid (hbd (by simp [q5]))
                        have p5 : f < ff := by omega
                        have HOP := Lib.hid q4
                        clear HS2 HS3 HS4 HS5 HS6 hbd hen hlr hq hok hrs hfok hpn hfn q4
                        go_upto_region 13 with (go_at_call 23; refine (HR.out _).mono ?_; rintro e w2 ⟨v2, rfl, ho2, hb2⟩; obtain ⟨A3, c3, rfl, _⟩ := own_ints ho2; have O2 := Lib.hid ho2; have B2 := Lib.hid hb2; clear ho2 hb2)
                        clear HR hc hd hb
                        obtain ⟨w3, hw3⟩ : ∃ w3, w3 = w2.alloc (.cells #[.int .i32 f, .int .i32 tt, .string nb, .string ⟨ct.toArray⟩, .int .i64 cl, .string ⟨kd.toArray⟩, .slice A3 into.length c3] 34) := ⟨_, rfl⟩
                        rw [← hw3]
                        have B3' : Below w2.heap.size w2 w3 := by rw [hw3]; exact (Below.refl _ w2).alloc (Nat.le_refl _) _
                        have XK := Lib.hid (show Bk w3 w2.heap.size [.int .i32 f, .int .i32 tt, .string nb, .string ⟨ct.toArray⟩, .int .i64 cl, .string ⟨kd.toArray⟩, .slice A3 into.length c3] 34 by rw [hw3]; exact ⟨heap_alloc_new w2 _⟩)
                        have B3 := Lib.hid (show Below wr.heap.size wr w3 from B2.out.trans (B3'.mono B2.out.size))
                        have BW := Lib.hid (HQ.out.bel.trans (B3.out.mono HQ.out.bel.size))
                        have O3 := Lib.hid (own_low (own_below' O2.out B3') HQ.out.bel.size)
                        have z1 : wr.heap.size ≤ w2.heap.size := B2.out.size
                        have z2 : w2.heap.size < w3.heap.size := XK.out.lt
                        have z3 : w.heap.size ≤ wr.heap.size := HQ.out.bel.size
                        clear B3' hw3 O2 B2
                        obtain ⟨q41, q42⟩ := HOP.out
                        have a0 := XK.out.c (i := 0) rfl
                        have a1 := XK.out.c (i := 1) rfl
                        have a2 := XK.out.c (i := 2) rfl
                        have a3 := XK.out.c (i := 3) rfl
                        have a4 := XK.out.c (i := 4) rfl
                        have a5 := XK.out.c (i := 5) rfl
                        have a6 := XK.out.c (i := 6) rfl
                        have FK3 := Lib.hid (HFK.out.below B3.out)
                        have k0 : w3.cell? ⟨w1.heap.size, 0, none⟩ = some (.int .i32 ff) := FK3.out.c (i := 0) rfl
                        have k1 : w3.cell? ⟨w1.heap.size, 1, none⟩ = some (.int .i32 ft) := FK3.out.c (i := 1) rfl
                        have k2 : w3.cell? ⟨w1.heap.size, 2, none⟩ = some (.string fnb) := by rw [HFB.out]; exact FK3.out.c (i := 2) rfl
                        have k3 : w3.cell? ⟨w1.heap.size, 3, none⟩ = some (.string ⟨ct.toArray⟩) := FK3.out.c (i := 3) rfl
                        have k4 : w3.cell? ⟨w1.heap.size, 4, none⟩ = some (.int .i64 cl) := FK3.out.c (i := 4) rfl
                        have k5 : w3.cell? ⟨w1.heap.size, 5, none⟩ = some (.string ⟨fk.toArray⟩) := FK3.out.c (i := 5) rfl
                        have k6 : w3.cell? ⟨w1.heap.size, 6, none⟩ = some (.slice Af fi.length cf) := FK3.out.c (i := 6) rfl
                        go_wp2_with (first
                          | (go_at_call 24; (with_reducible refine (HRl.out _).mono ?_); rintro e w4 ⟨rfl, rfl⟩)
                          | (go_at_call 24; (with_reducible refine (HRg.out _).mono ?_); rintro e w5 ⟨rfl, rfl⟩))
                        refine bodyPost_ret (v := .tuple #[.slice none 0 0, .int .i64 no, .int .i64 10]) (by simp [results, Tryd.results9, go_sem]) rfl (by
                          have h9 := HE.out
                          rw [← HRN.out, HN.out] at h9
                          simp only [ne_eq, show ¬ ((10 : Int) = 0) by decide, not_false_eq_true, if_true] at h9
                          exact ⟨_, [], by rw [h9], by rw [h9]; rfl, RwIn.nil _ _ _, BW.out⟩)
                    · have HN := Lib.hid (hbd (by simp only [Bool.and_eq_false_iff, decide_eq_false_iff_not]; omega))
                      have p4 : (0 : Int) < (into.length : Int) + (fi.length : Int) := by omega
                      have z4 := HOK.out.into
                      have z5 := hfok.into
                      have p6 : IntKind.i64.wrap ((into.length : Int) + (fi.length : Int)) = (into.length : Int) + (fi.length : Int) := by rw [IntKind.wrap_i64]; simp only at z4 z5; omega
                      clear HS2 HS3 HS4 HS5 HS6 hbd hen hlr hq hok hrs hfok hpn hfn
                      go_upto_region 13 with (go_at_call 23; refine (HR.out _).mono ?_; rintro e w2 ⟨v2, rfl, ho2, hb2⟩; obtain ⟨A3, c3, rfl, _⟩ := own_ints ho2; have O2 := Lib.hid ho2; have B2 := Lib.hid hb2; clear ho2 hb2)
                      clear HR hc hd hb
                      obtain ⟨w3, hw3⟩ : ∃ w3, w3 = w2.alloc (.cells #[.int .i32 f, .int .i32 tt, .string nb, .string ⟨ct.toArray⟩, .int .i64 cl, .string ⟨kd.toArray⟩, .slice A3 into.length c3] 34) := ⟨_, rfl⟩
                      rw [← hw3]
                      have B3' : Below w2.heap.size w2 w3 := by rw [hw3]; exact (Below.refl _ w2).alloc (Nat.le_refl _) _
                      have XK := Lib.hid (show Bk w3 w2.heap.size [.int .i32 f, .int .i32 tt, .string nb, .string ⟨ct.toArray⟩, .int .i64 cl, .string ⟨kd.toArray⟩, .slice A3 into.length c3] 34 by rw [hw3]; exact ⟨heap_alloc_new w2 _⟩)
                      have B3 := Lib.hid (show Below wr.heap.size wr w3 from B2.out.trans (B3'.mono B2.out.size))
                      have BW := Lib.hid (HQ.out.bel.trans (B3.out.mono HQ.out.bel.size))
                      have O3 := Lib.hid (own_low (own_below' O2.out B3') HQ.out.bel.size)
                      have z1 : wr.heap.size ≤ w2.heap.size := B2.out.size
                      have z2 : w2.heap.size < w3.heap.size := XK.out.lt
                      have z3 : w.heap.size ≤ wr.heap.size := HQ.out.bel.size
                      clear B3' hw3 O2 B2
                      have a0 := XK.out.c (i := 0) rfl
                      have a1 := XK.out.c (i := 1) rfl
                      have a2 := XK.out.c (i := 2) rfl
                      have a3 := XK.out.c (i := 3) rfl
                      have a4 := XK.out.c (i := 4) rfl
                      have a5 := XK.out.c (i := 5) rfl
                      have a6 := XK.out.c (i := 6) rfl
                      have FK3 := Lib.hid (HFK.out.below B3.out)
                      have k0 : w3.cell? ⟨w1.heap.size, 0, none⟩ = some (.int .i32 ff) := FK3.out.c (i := 0) rfl
                      have k1 : w3.cell? ⟨w1.heap.size, 1, none⟩ = some (.int .i32 ft) := FK3.out.c (i := 1) rfl
                      have k2 : w3.cell? ⟨w1.heap.size, 2, none⟩ = some (.string fnb) := by rw [HFB.out]; exact FK3.out.c (i := 2) rfl
                      have k3 : w3.cell? ⟨w1.heap.size, 3, none⟩ = some (.string ⟨ct.toArray⟩) := FK3.out.c (i := 3) rfl
                      have k4 : w3.cell? ⟨w1.heap.size, 4, none⟩ = some (.int .i64 cl) := FK3.out.c (i := 4) rfl
                      have k5 : w3.cell? ⟨w1.heap.size, 5, none⟩ = some (.string ⟨fk.toArray⟩) := FK3.out.c (i := 5) rfl
                      have k6 : w3.cell? ⟨w1.heap.size, 6, none⟩ = some (.slice Af fi.length cf) := FK3.out.c (i := 6) rfl
                      go_wp2_with (first
                        | (go_at_call 24; (with_reducible refine (HRl.out _).mono ?_); rintro e w4 ⟨rfl, rfl⟩)
                        | (go_at_call 24; (with_reducible refine (HRg.out _).mono ?_); rintro e w5 ⟨rfl, rfl⟩))
                      refine bodyPost_ret (v := .tuple #[.slice none 0 0, .int .i64 no, .int .i64 10]) (by simp [results, Tryd.results9, go_sem]) rfl (by
                        have h9 := HE.out
                        rw [← HRN.out, HN.out] at h9
                        simp only [ne_eq, show ¬ ((10 : Int) = 0) by decide, not_false_eq_true, if_true] at h9
                        exact ⟨_, [], by rw [h9], by rw [h9]; rfl, RwIn.nil _ _ _, BW.out⟩)
                  · have HN := Lib.hid (hbd (by simp [q3]))
                    have p3 : (cl != fl) = true := by simpa using q3
                    clear HS2 HS3 HS4 HS5 HS6 hbd hen hlr hq hok hrs hfok hpn hfn
                    go_upto_region 13 with (go_at_call 23; refine (HR.out _).mono ?_; rintro e w2 ⟨v2, rfl, ho2, hb2⟩; obtain ⟨A3, c3, rfl, _⟩ := own_ints ho2; have O2 := Lib.hid ho2; have B2 := Lib.hid hb2; clear ho2 hb2)
                    clear HR hc hd hb
                    obtain ⟨w3, hw3⟩ : ∃ w3, w3 = w2.alloc (.cells #[.int .i32 f, .int .i32 tt, .string nb, .string ⟨ct.toArray⟩, .int .i64 cl, .string ⟨kd.toArray⟩, .slice A3 into.length c3] 34) := ⟨_, rfl⟩
                    rw [← hw3]
                    have B3' : Below w2.heap.size w2 w3 := by rw [hw3]; exact (Below.refl _ w2).alloc (Nat.le_refl _) _
                    have XK := Lib.hid (show Bk w3 w2.heap.size [.int .i32 f, .int .i32 tt, .string nb, .string ⟨ct.toArray⟩, .int .i64 cl, .string ⟨kd.toArray⟩, .slice A3 into.length c3] 34 by rw [hw3]; exact ⟨heap_alloc_new w2 _⟩)
                    have B3 := Lib.hid (show Below wr.heap.size wr w3 from B2.out.trans (B3'.mono B2.out.size))
                    have BW := Lib.hid (HQ.out.bel.trans (B3.out.mono HQ.out.bel.size))
                    have O3 := Lib.hid (own_low (own_below' O2.out B3') HQ.out.bel.size)
                    have z1 : wr.heap.size ≤ w2.heap.size := B2.out.size
                    have z2 : w2.heap.size < w3.heap.size := XK.out.lt
                    have z3 : w.heap.size ≤ wr.heap.size := HQ.out.bel.size
                    clear B3' hw3 O2 B2
                    have a0 := XK.out.c (i := 0) rfl
                    have a1 := XK.out.c (i := 1) rfl
                    have a2 := XK.out.c (i := 2) rfl
                    have a3 := XK.out.c (i := 3) rfl
                    have a4 := XK.out.c (i := 4) rfl
                    have a5 := XK.out.c (i := 5) rfl
                    have a6 := XK.out.c (i := 6) rfl
                    have FK3 := Lib.hid (HFK.out.below B3.out)
                    have k0 : w3.cell? ⟨w1.heap.size, 0, none⟩ = some (.int .i32 ff) := FK3.out.c (i := 0) rfl
                    have k1 : w3.cell? ⟨w1.heap.size, 1, none⟩ = some (.int .i32 ft) := FK3.out.c (i := 1) rfl
                    have k2 : w3.cell? ⟨w1.heap.size, 2, none⟩ = some (.string fnb) := by rw [HFB.out]; exact FK3.out.c (i := 2) rfl
                    have k3 : w3.cell? ⟨w1.heap.size, 3, none⟩ = some (.string ⟨ct.toArray⟩) := FK3.out.c (i := 3) rfl
                    have k4 : w3.cell? ⟨w1.heap.size, 4, none⟩ = some (.int .i64 fl) := FK3.out.c (i := 4) rfl
                    have k5 : w3.cell? ⟨w1.heap.size, 5, none⟩ = some (.string ⟨fk.toArray⟩) := FK3.out.c (i := 5) rfl
                    have k6 : w3.cell? ⟨w1.heap.size, 6, none⟩ = some (.slice Af fi.length cf) := FK3.out.c (i := 6) rfl
                    go_wp2_with (first
                      | (go_at_call 24; (with_reducible refine (HRl.out _).mono ?_); rintro e w4 ⟨rfl, rfl⟩)
                      | (go_at_call 24; (with_reducible refine (HRg.out _).mono ?_); rintro e w5 ⟨rfl, rfl⟩))
                    refine bodyPost_ret (v := .tuple #[.slice none 0 0, .int .i64 no, .int .i64 10]) (by simp [results, Tryd.results9, go_sem]) rfl (by
                      have h9 := HE.out
                      rw [← HRN.out, HN.out] at h9
                      simp only [ne_eq, show ¬ ((10 : Int) = 0) by decide, not_false_eq_true, if_true] at h9
                      exact ⟨_, [], by rw [h9], by rw [h9]; rfl, RwIn.nil _ _ _, BW.out⟩)
                · have HN := Lib.hid (hbd (by simp [q2]))
                  have p2 := str_ne (lst_str q2)
                  have p2' := str_ne2 (lst_str q2)
                  clear HS2 HS3 HS4 HS5 HS6 hbd hen hlr hq hok hrs hfok hpn hfn
                  go_upto_region 13 with (go_at_call 23; refine (HR.out _).mono ?_; rintro e w2 ⟨v2, rfl, ho2, hb2⟩; obtain ⟨A3, c3, rfl, _⟩ := own_ints ho2; have O2 := Lib.hid ho2; have B2 := Lib.hid hb2; clear ho2 hb2)
                  clear HR hc hd hb
                  obtain ⟨w3, hw3⟩ : ∃ w3, w3 = w2.alloc (.cells #[.int .i32 f, .int .i32 tt, .string nb, .string ⟨ct.toArray⟩, .int .i64 cl, .string ⟨kd.toArray⟩, .slice A3 into.length c3] 34) := ⟨_, rfl⟩
                  rw [← hw3]
                  have B3' : Below w2.heap.size w2 w3 := by rw [hw3]; exact (Below.refl _ w2).alloc (Nat.le_refl _) _
                  have XK := Lib.hid (show Bk w3 w2.heap.size [.int .i32 f, .int .i32 tt, .string nb, .string ⟨ct.toArray⟩, .int .i64 cl, .string ⟨kd.toArray⟩, .slice A3 into.length c3] 34 by rw [hw3]; exact ⟨heap_alloc_new w2 _⟩)
                  have B3 := Lib.hid (show Below wr.heap.size wr w3 from B2.out.trans (B3'.mono B2.out.size))
                  have BW := Lib.hid (HQ.out.bel.trans (B3.out.mono HQ.out.bel.size))
                  have O3 := Lib.hid (own_low (own_below' O2.out B3') HQ.out.bel.size)
                  have z1 : wr.heap.size ≤ w2.heap.size := B2.out.size
                  have z2 : w2.heap.size < w3.heap.size := XK.out.lt
                  have z3 : w.heap.size ≤ wr.heap.size := HQ.out.bel.size
                  clear B3' hw3 O2 B2
                  have a0 := XK.out.c (i := 0) rfl
                  have a1 := XK.out.c (i := 1) rfl
                  have a2 := XK.out.c (i := 2) rfl
                  have a3 := XK.out.c (i := 3) rfl
                  have a4 := XK.out.c (i := 4) rfl
                  have a5 := XK.out.c (i := 5) rfl
                  have a6 := XK.out.c (i := 6) rfl
                  have FK3 := Lib.hid (HFK.out.below B3.out)
                  have k0 : w3.cell? ⟨w1.heap.size, 0, none⟩ = some (.int .i32 ff) := FK3.out.c (i := 0) rfl
                  have k1 : w3.cell? ⟨w1.heap.size, 1, none⟩ = some (.int .i32 ft) := FK3.out.c (i := 1) rfl
                  have k2 : w3.cell? ⟨w1.heap.size, 2, none⟩ = some (.string fnb) := by rw [HFB.out]; exact FK3.out.c (i := 2) rfl
                  have k3 : w3.cell? ⟨w1.heap.size, 3, none⟩ = some (.string ⟨fc.toArray⟩) := FK3.out.c (i := 3) rfl
                  have k4 : w3.cell? ⟨w1.heap.size, 4, none⟩ = some (.int .i64 fl) := FK3.out.c (i := 4) rfl
                  have k5 : w3.cell? ⟨w1.heap.size, 5, none⟩ = some (.string ⟨fk.toArray⟩) := FK3.out.c (i := 5) rfl
                  have k6 : w3.cell? ⟨w1.heap.size, 6, none⟩ = some (.slice Af fi.length cf) := FK3.out.c (i := 6) rfl
                  go_wp2_with (first
                    | (go_at_call 24; (with_reducible refine (HRl.out _).mono ?_); rintro e w4 ⟨rfl, rfl⟩)
                    | (go_at_call 24; (with_reducible refine (HRg.out _).mono ?_); rintro e w5 ⟨rfl, rfl⟩))
                  refine bodyPost_ret (v := .tuple #[.slice none 0 0, .int .i64 no, .int .i64 10]) (by simp [results, Tryd.results9, go_sem]) rfl (by
                    have h9 := HE.out
                    rw [← HRN.out, HN.out] at h9
                    simp only [ne_eq, show ¬ ((10 : Int) = 0) by decide, not_false_eq_true, if_true] at h9
                    exact ⟨_, [], by rw [h9], by rw [h9]; rfl, RwIn.nil _ _ _, BW.out⟩)
              · have HN := Lib.hid (hbd (by simp [q1]))
                have p1 := str_ne (lst_str q1)
                have p1' := str_ne2 (lst_str q1)
                clear HS2 HS3 HS4 HS5 HS6 hbd hen hlr hq hok hrs hfok hpn hfn
                go_upto_region 13 with (go_at_call 23; refine (HR.out _).mono ?_; rintro e w2 ⟨v2, rfl, ho2, hb2⟩; obtain ⟨A3, c3, rfl, _⟩ := own_ints ho2; have O2 := Lib.hid ho2; have B2 := Lib.hid hb2; clear ho2 hb2)
                clear HR hc hd hb
                obtain ⟨w3, hw3⟩ : ∃ w3, w3 = w2.alloc (.cells #[.int .i32 f, .int .i32 tt, .string nb, .string ⟨ct.toArray⟩, .int .i64 cl, .string ⟨kd.toArray⟩, .slice A3 into.length c3] 34) := ⟨_, rfl⟩
                rw [← hw3]
                have B3' : Below w2.heap.size w2 w3 := by rw [hw3]; exact (Below.refl _ w2).alloc (Nat.le_refl _) _
                have XK := Lib.hid (show Bk w3 w2.heap.size [.int .i32 f, .int .i32 tt, .string nb, .string ⟨ct.toArray⟩, .int .i64 cl, .string ⟨kd.toArray⟩, .slice A3 into.length c3] 34 by rw [hw3]; exact ⟨heap_alloc_new w2 _⟩)
                have B3 := Lib.hid (show Below wr.heap.size wr w3 from B2.out.trans (B3'.mono B2.out.size))
                have BW := Lib.hid (HQ.out.bel.trans (B3.out.mono HQ.out.bel.size))
                have O3 := Lib.hid (own_low (own_below' O2.out B3') HQ.out.bel.size)
                have z1 : wr.heap.size ≤ w2.heap.size := B2.out.size
                have z2 : w2.heap.size < w3.heap.size := XK.out.lt
                have z3 : w.heap.size ≤ wr.heap.size := HQ.out.bel.size
                clear B3' hw3 O2 B2
                have a0 := XK.out.c (i := 0) rfl
                have a1 := XK.out.c (i := 1) rfl
                have a2 := XK.out.c (i := 2) rfl
                have a3 := XK.out.c (i := 3) rfl
                have a4 := XK.out.c (i := 4) rfl
                have a5 := XK.out.c (i := 5) rfl
                have a6 := XK.out.c (i := 6) rfl
                have FK3 := Lib.hid (HFK.out.below B3.out)
                have k0 : w3.cell? ⟨w1.heap.size, 0, none⟩ = some (.int .i32 ff) := FK3.out.c (i := 0) rfl
                have k1 : w3.cell? ⟨w1.heap.size, 1, none⟩ = some (.int .i32 ft) := FK3.out.c (i := 1) rfl
                have k2 : w3.cell? ⟨w1.heap.size, 2, none⟩ = some (.string fnb) := by rw [HFB.out]; exact FK3.out.c (i := 2) rfl
                have k3 : w3.cell? ⟨w1.heap.size, 3, none⟩ = some (.string ⟨fc.toArray⟩) := FK3.out.c (i := 3) rfl
                have k4 : w3.cell? ⟨w1.heap.size, 4, none⟩ = some (.int .i64 fl) := FK3.out.c (i := 4) rfl
                have k5 : w3.cell? ⟨w1.heap.size, 5, none⟩ = some (.string ⟨fk.toArray⟩) := FK3.out.c (i := 5) rfl
                have k6 : w3.cell? ⟨w1.heap.size, 6, none⟩ = some (.slice Af fi.length cf) := FK3.out.c (i := 6) rfl
                go_wp2_with (first
                  | (go_at_call 24; (with_reducible refine (HRl.out _).mono ?_); rintro e w4 ⟨rfl, rfl⟩)
                  | (go_at_call 24; (with_reducible refine (HRg.out _).mono ?_); rintro e w5 ⟨rfl, rfl⟩))
                refine bodyPost_ret (v := .tuple #[.slice none 0 0, .int .i64 no, .int .i64 10]) (by simp [results, Tryd.results9, go_sem]) rfl (by
                  have h9 := HE.out
                  rw [← HRN.out, HN.out] at h9
                  simp only [ne_eq, show ¬ ((10 : Int) = 0) by decide, not_false_eq_true, if_true] at h9
                  exact ⟨_, [], by rw [h9], by rw [h9]; rfl, RwIn.nil _ _ _, BW.out⟩)
          | none =>
            rw [hq] at hRl
            have HRl := Lib.hid (show ∀ W, Calls Tryd.prog 24 #[.string nb, .string ⟨#[44, 32, 76, 97, 115, 116, 62]⟩] W fun e w' => e = .returned (.tuple #[.string ⟨#[]⟩, .bool false]) ∧ W = w' from hRl)
            cases opn with
            | true =>
              obtain ⟨hop, _, _, _, _, _, _⟩ := HQ.out.yes rfl
              have HT := Lib.hid (HS2.out rfl (.inr hop) (.inr (by unfold endB; simp only; rw [hq])))
              have HN := Lib.hid (show run rs op ((no, tx) :: ls.drop (k + 1)) = (rs, op, no, 10) by rw [run_wrong (by rw [HT.out]; simp), HT.out])
              clear HS2 HS3 HS4 HS5 HS6 hq hok hRl hRf
              go_upto_region 13 with (go_at_call 23; refine (HR.out _).mono ?_; rintro e w2 ⟨v2, rfl, ho2, hb2⟩; obtain ⟨A3, c3, rfl, _⟩ := own_ints ho2; have O2 := Lib.hid ho2; have B2 := Lib.hid hb2; clear ho2 hb2)
              clear HR hc hd hb
              obtain ⟨w3, hw3⟩ : ∃ w3, w3 = w2.alloc (.cells #[.int .i32 f, .int .i32 tt, .string nb, .string ⟨ct.toArray⟩, .int .i64 cl, .string ⟨kd.toArray⟩, .slice A3 into.length c3] 34) := ⟨_, rfl⟩
              rw [← hw3]
              have B3' : Below w2.heap.size w2 w3 := by rw [hw3]; exact (Below.refl _ w2).alloc (Nat.le_refl _) _
              have XK := Lib.hid (show Bk w3 w2.heap.size [.int .i32 f, .int .i32 tt, .string nb, .string ⟨ct.toArray⟩, .int .i64 cl, .string ⟨kd.toArray⟩, .slice A3 into.length c3] 34 by rw [hw3]; exact ⟨heap_alloc_new w2 _⟩)
              have B3 := Lib.hid (show Below wr.heap.size wr w3 from B2.out.trans (B3'.mono B2.out.size))
              have BW := Lib.hid (HQ.out.bel.trans (B3.out.mono HQ.out.bel.size))
              have O3 := Lib.hid (own_low (own_below' O2.out B3') HQ.out.bel.size)
              have z1 : wr.heap.size ≤ w2.heap.size := B2.out.size
              have z2 : w2.heap.size < w3.heap.size := XK.out.lt
              have z3 : w.heap.size ≤ wr.heap.size := HQ.out.bel.size
              clear B3' hw3 O2 B2
              have a2 := XK.out.c (i := 2) rfl
              go_wp2_with (go_at_call 24; (with_reducible refine (HRl.out _).mono ?_); rintro e w4 ⟨rfl, rfl⟩)
              refine bodyPost_ret (v := .tuple #[.slice none 0 0, .int .i64 no, .int .i64 10]) (by simp [results, Tryd.results9, go_sem]) rfl (by
                have h9 := HE.out
                rw [← HRN.out, HN.out] at h9
                simp only [ne_eq, show ¬ ((10 : Int) = 0) by decide, not_false_eq_true, if_true] at h9
                exact ⟨_, [], by rw [h9], by rw [h9]; rfl, RwIn.nil _ _ _, BW.out⟩)
            | false =>
              obtain ⟨hop, hrs, hwas⟩ := HQ.out.no rfl
              have hnl : ¬ ((rgN nm lastE).isSome = true ∨ op ≠ 0) := by rw [hq]; simp [hop]
              by_cases hth : f ≤ was
              · have hrs0 : rs ≠ [] := fun h9 => by
                  rw [if_pos h9] at hwas
                  have := (scal_bd hok.fr).1
                  simp only at this
                  omega
                have HT := Lib.hid (HS4.out rfl hnl ⟨hrs0, by rw [if_neg hrs0] at hwas; rw [← hwas]; exact hth⟩)
                have HN := Lib.hid (show run rs op ((no, tx) :: ls.drop (k + 1)) = (rs, op, no, 12) by rw [run_wrong (by rw [HT.out]; simp), HT.out])
                clear HS2 HS3 HS4 HS5 HS6 hq hok hRl hRf hrs hwas hnl hrs0
                go_upto_region 13 with (go_at_call 23; refine (HR.out _).mono ?_; rintro e w2 ⟨v2, rfl, ho2, hb2⟩; obtain ⟨A3, c3, rfl, _⟩ := own_ints ho2; have O2 := Lib.hid ho2; have B2 := Lib.hid hb2; clear ho2 hb2)
                clear HR hc hd hb
                obtain ⟨w3, hw3⟩ : ∃ w3, w3 = w2.alloc (.cells #[.int .i32 f, .int .i32 tt, .string nb, .string ⟨ct.toArray⟩, .int .i64 cl, .string ⟨kd.toArray⟩, .slice A3 into.length c3] 34) := ⟨_, rfl⟩
                rw [← hw3]
                have B3' : Below w2.heap.size w2 w3 := by rw [hw3]; exact (Below.refl _ w2).alloc (Nat.le_refl _) _
                have XK := Lib.hid (show Bk w3 w2.heap.size [.int .i32 f, .int .i32 tt, .string nb, .string ⟨ct.toArray⟩, .int .i64 cl, .string ⟨kd.toArray⟩, .slice A3 into.length c3] 34 by rw [hw3]; exact ⟨heap_alloc_new w2 _⟩)
                have B3 := Lib.hid (show Below wr.heap.size wr w3 from B2.out.trans (B3'.mono B2.out.size))
                have BW := Lib.hid (HQ.out.bel.trans (B3.out.mono HQ.out.bel.size))
                have O3 := Lib.hid (own_low (own_below' O2.out B3') HQ.out.bel.size)
                have z1 : wr.heap.size ≤ w2.heap.size := B2.out.size
                have z2 : w2.heap.size < w3.heap.size := XK.out.lt
                have z3 : w.heap.size ≤ wr.heap.size := HQ.out.bel.size
                clear B3' hw3 O2 B2
                have a0 := XK.out.c (i := 0) rfl
                have a1 := XK.out.c (i := 1) rfl
                have a2 := XK.out.c (i := 2) rfl
                have a3 := XK.out.c (i := 3) rfl
                have a4 := XK.out.c (i := 4) rfl
                have a5 := XK.out.c (i := 5) rfl
                have a6 := XK.out.c (i := 6) rfl
                go_wp2_with (go_at_call 24; (with_reducible refine (HRl.out _).mono ?_); rintro e w4 ⟨rfl, rfl⟩)
                refine bodyPost_ret (v := .tuple #[.slice none 0 0, .int .i64 no, .int .i64 12]) (by simp [results, Tryd.results9, go_sem]) rfl (by
                  have h9 := HE.out
                  rw [← HRN.out, HN.out] at h9
                  simp only [ne_eq, show ¬ ((12 : Int) = 0) by decide, not_false_eq_true, if_true] at h9
                  exact ⟨_, [], by rw [h9], by rw [h9]; rfl, RwIn.nil _ _ _, BW.out⟩)
              · have hnt : ¬ (rs ≠ [] ∧ f ≤ (lastR rs).tt) := fun h9 => by rw [if_neg h9.1] at hwas; exact hth (by rw [hwas]; exact h9.2)
                cases hq2 : rgN nm firstE with
                | some q2 =>
                  rw [hq2] at hRf
                  have HRf := Lib.hid (show ∀ W, Calls Tryd.prog 24 #[.string nb, .string ⟨#[44, 32, 70, 105, 114, 115, 116, 62]⟩] W fun e w' => e = .returned (.tuple #[.string ⟨q2.toArray⟩, .bool true]) ∧ W = w' from hRf)
                  have HT := Lib.hid (HS5.out q2 rfl hnl hnt hq2)
                  have HN := Lib.hid (show run rs op ((no, tx) :: ls.drop (k + 1)) = run (rs ++ [⟨f, tt, q2, ct, cl, kd, into⟩]) no (ls.drop (k + 1)) by rw [run_cons (by rw [HT.out]), HT.out])
                  have hin := HIN.out
                  rw [HT.out] at hin
                  have HI2 := Lib.hid hin
                  have HRS := Lib.hid hrs
                  have HF2 := Lib.hid hq2
                  clear HS2 HS3 HS4 HS5 HS6 hq hok hRl hRf hrs hwas hnl hnt hin hq2
                  go_upto_region 13 with (go_at_call 23; refine (HR.out _).mono ?_; rintro e w2 ⟨v2, rfl, ho2, hb2⟩; obtain ⟨A3, c3, rfl, _⟩ := own_ints ho2; have O2 := Lib.hid ho2; have B2 := Lib.hid hb2; clear ho2 hb2)
                  clear HR hc hd hb
                  obtain ⟨w3, hw3⟩ : ∃ w3, w3 = w2.alloc (.cells #[.int .i32 f, .int .i32 tt, .string nb, .string ⟨ct.toArray⟩, .int .i64 cl, .string ⟨kd.toArray⟩, .slice A3 into.length c3] 34) := ⟨_, rfl⟩
                  rw [← hw3]
                  have B3' : Below w2.heap.size w2 w3 := by rw [hw3]; exact (Below.refl _ w2).alloc (Nat.le_refl _) _
                  have XK := Lib.hid (show Bk w3 w2.heap.size [.int .i32 f, .int .i32 tt, .string nb, .string ⟨ct.toArray⟩, .int .i64 cl, .string ⟨kd.toArray⟩, .slice A3 into.length c3] 34 by rw [hw3]; exact ⟨heap_alloc_new w2 _⟩)
                  have B3 := Lib.hid (show Below wr.heap.size wr w3 from B2.out.trans (B3'.mono B2.out.size))
                  have BW := Lib.hid (HQ.out.bel.trans (B3.out.mono HQ.out.bel.size))
                  have O3 := Lib.hid (own_low (own_below' O2.out B3') HQ.out.bel.size)
                  have z1 : wr.heap.size ≤ w2.heap.size := B2.out.size
                  have z2 : w2.heap.size < w3.heap.size := XK.out.lt
                  have z3 : w.heap.size ≤ wr.heap.size := HQ.out.bel.size
                  clear B3' hw3 O2 B2
                  have OU3 := Lib.hid (HQ.out.out.below B3.out)
                  have LN3 := Lib.hid (own_below' HQ.out.lns B3.out)
                  have FK3 := Lib.hid (HQ.out.fst.below B3.out)
                  have a0 := XK.out.c (i := 0) rfl
                  have a1 := XK.out.c (i := 1) rfl
                  have a2 := XK.out.c (i := 2) rfl
                  have a3 := XK.out.c (i := 3) rfl
                  have a4 := XK.out.c (i := 4) rfl
                  have a5 := XK.out.c (i := 5) rfl
                  have a6 := XK.out.c (i := 6) rfl
                  have k0 := FK3.out.c (i := 0) rfl
                  have k1 := FK3.out.c (i := 1) rfl
                  have k2 := FK3.out.c (i := 2) rfl
                  have k3 := FK3.out.c (i := 3) rfl
                  have k4 := FK3.out.c (i := 4) rfl
                  have k5 := FK3.out.c (i := 5) rfl
                  have k6 := FK3.out.c (i := 6) rfl
                  have f0 := FK3.out.fr 0
                  have f1 := FK3.out.fr 1
                  have f2 := FK3.out.fr 2
                  have f3 := FK3.out.fr 3
                  have f4 := FK3.out.fr 4
                  have f5 := FK3.out.fr 5
                  have f6 := FK3.out.fr 6
                  have K7 := Lib.hid ((((((((FK3.out).set 0 (.int .i32 f)).set 1 (.int .i32 tt)).set 2 (.string nb)).set 3 (.string ⟨ct.toArray⟩)).set 4 (.int .i64 cl)).set 5 (.string ⟨kd.toArray⟩)).set 6 (.slice A3 into.length c3))
                  have LN7 := Lib.hid (own_sets7 (u0 := .int .i32 f) (u1 := .int .i32 tt) (u2 := .string nb) (u3 := .string ⟨ct.toArray⟩) (u4 := .int .i64 cl) (u5 := .string ⟨kd.toArray⟩) (u6 := .slice A3 into.length c3) LN3.out FK3.out (by decide))
                  have OU7 := Lib.hid (rwin_sets7 (u0 := .int .i32 f) (u1 := .int .i32 tt) (u2 := .string nb) (u3 := .string ⟨ct.toArray⟩) (u4 := .int .i64 cl) (u5 := .string ⟨kd.toArray⟩) (u6 := .slice A3 into.length c3) OU3.out FK3.out HQ.out.fne (by decide))
                  have BW7 := Lib.hid (((((((BW.out.setCell (p := ⟨w1.heap.size, 0, none⟩) HQ.out.fbs (.int .i32 f)).setCell (p := ⟨w1.heap.size, 1, none⟩) HQ.out.fbs (.int .i32 tt)).setCell (p := ⟨w1.heap.size, 2, none⟩) HQ.out.fbs (.string nb)).setCell (p := ⟨w1.heap.size, 3, none⟩) HQ.out.fbs (.string ⟨ct.toArray⟩)).setCell (p := ⟨w1.heap.size, 4, none⟩) HQ.out.fbs (.int .i64 cl)).setCell (p := ⟨w1.heap.size, 5, none⟩) HQ.out.fbs (.string ⟨kd.toArray⟩)).setCell (p := ⟨w1.heap.size, 6, none⟩) HQ.out.fbs (.slice A3 into.length c3))
                  go_wp2_with (first
                    | (go_at_call 24; (with_reducible refine (HRl.out _).mono ?_); rintro e w4 ⟨rfl, rfl⟩)
                    | (go_at_call 24; (with_reducible refine (HRf.out _).mono ?_); rintro e w5 ⟨rfl, rfl⟩))
                  go_roundw
                  case rel =>
                    refine ⟨k + 1, by go_num, by omega, true, was, l, _, no, ⟨f, tt, nm, ct, cl, kd, into⟩, A3, c3, rfl, rfl, BW7.out, LN7.out, OU7.out, ?_, HQ.out.fbs, HQ.out.fne, hnm2, HI2.out, by omega, by rw [← HN.out]; exact HRN.out, fun _ => ⟨by omega, by omega, by rw [HAT.out]; rfl, HOK.out, q2, HF2.out, by rw [HRS.out]⟩, (fun h => absurd h (by decide))⟩
                    have h9 := K7.out
                    rw [HNB.out] at h9
                    rw [HNB.out]
                    exact h9
                  case measure => simp [intOf]; omega
                | none =>
                  rw [hq2] at hRf
                  have HRf := Lib.hid (show ∀ W, Calls Tryd.prog 24 #[.string nb, .string ⟨#[44, 32, 70, 105, 114, 115, 116, 62]⟩] W fun e w' => e = .returned (.tuple #[.string ⟨#[]⟩, .bool false]) ∧ W = w' from hRf)
                  have HT := Lib.hid (HS6.out rfl hnl hnt hq2)
                  have HN := Lib.hid (show run rs op ((no, tx) :: ls.drop (k + 1)) = run (rs ++ [⟨f, tt, nm, ct, cl, kd, into⟩]) op (ls.drop (k + 1)) by rw [run_cons (by rw [HT.out]), HT.out])
                  have hin := HIN.out
                  rw [HT.out] at hin
                  have HI2 := Lib.hid hin
                  have HRS := Lib.hid hrs
                  have HOP := Lib.hid hop
                  clear HS2 HS3 HS4 HS5 HS6 hq hok hRl hRf hrs hwas hnl hnt hin hq2 hop
                  go_upto_region 13 with (go_at_call 23; refine (HR.out _).mono ?_; rintro e w2 ⟨v2, rfl, ho2, hb2⟩; obtain ⟨A3, c3, rfl, _⟩ := own_ints ho2; have O2 := Lib.hid ho2; have B2 := Lib.hid hb2; clear ho2 hb2)
                  clear HR hc hd hb
                  obtain ⟨w3, hw3⟩ : ∃ w3, w3 = w2.alloc (.cells #[.int .i32 f, .int .i32 tt, .string nb, .string ⟨ct.toArray⟩, .int .i64 cl, .string ⟨kd.toArray⟩, .slice A3 into.length c3] 34) := ⟨_, rfl⟩
                  rw [← hw3]
                  have B3' : Below w2.heap.size w2 w3 := by rw [hw3]; exact (Below.refl _ w2).alloc (Nat.le_refl _) _
                  have XK := Lib.hid (show Bk w3 w2.heap.size [.int .i32 f, .int .i32 tt, .string nb, .string ⟨ct.toArray⟩, .int .i64 cl, .string ⟨kd.toArray⟩, .slice A3 into.length c3] 34 by rw [hw3]; exact ⟨heap_alloc_new w2 _⟩)
                  have B3 := Lib.hid (show Below wr.heap.size wr w3 from B2.out.trans (B3'.mono B2.out.size))
                  have BW := Lib.hid (HQ.out.bel.trans (B3.out.mono HQ.out.bel.size))
                  have O3 := Lib.hid (own_low (own_below' O2.out B3') HQ.out.bel.size)
                  have z1 : wr.heap.size ≤ w2.heap.size := B2.out.size
                  have z2 : w2.heap.size < w3.heap.size := XK.out.lt
                  have z3 : w.heap.size ≤ wr.heap.size := HQ.out.bel.size
                  clear B3' hw3 O2 B2
                  have OU3 := Lib.hid (HQ.out.out.below B3.out)
                  have LN3 := Lib.hid (own_below' HQ.out.lns B3.out)
                  have FK3 := Lib.hid (HQ.out.fst.below B3.out)
                  have a0 := XK.out.c (i := 0) rfl
                  have a1 := XK.out.c (i := 1) rfl
                  have a2 := XK.out.c (i := 2) rfl
                  have a3 := XK.out.c (i := 3) rfl
                  have a4 := XK.out.c (i := 4) rfl
                  have a5 := XK.out.c (i := 5) rfl
                  have a6 := XK.out.c (i := 6) rfl
                  go_wp2_with (first
                    | (go_at_call 24; (with_reducible refine (HRl.out _).mono ?_); rintro e w4 ⟨rfl, rfl⟩)
                    | (go_at_call 24; (with_reducible refine (HRf.out _).mono ?_); rintro e w5 ⟨rfl, rfl⟩)
                    | (at_builtin; refine wpList_append_own_at _ rfl (.tmp 134) (.tmp 136) _ rfl w.heap.size 34 i0 _ 7 88 Tryd.underlying27 I0.out I1.out I2.out I3.out rfl (by omega) u7 l.length _ rfl (OU3.out.own.alloc _) ⟨w3.heap.size, 0, none⟩ 1 1 [.int .i32 f, .int .i32 tt, .string nb, .string ⟨ct.toArray⟩, .int .i64 cl, .string ⟨kd.toArray⟩, .slice A3 into.length c3] rfl rfl (World.news_of_block (cs := #[.int .i32 f, .int .i32 tt, .string nb, .string ⟨ct.toArray⟩, .int .i64 cl, .string ⟨kd.toArray⟩, .slice A3 into.length c3]) (t := 34) (fr := (0, 0)) (heap_alloc_new w3 _)) (by simp [Value.oneCell']) (by unfold maxLen; omega) (by omega) (by simp; omega) ?_; intro v6 w6 ho6 hg6 hn6 ha6; have O6 := Lib.hid (And.intro ho6 (And.intro hg6 ha6)); have x6 := (hg6.block w2.heap.size (by simp; omega) (fun h9 => by have h8 := (HQ.out.out.own.lt _ h9.symm).2; omega)); have y6 : w6.cell? ⟨w2.heap.size, 0, none⟩ = some (.int .i32 f) := (by simp only [World.cell?, x6]; exact ((XK.out.below ((Below.refl _ w3).alloc (Nat.le_refl _) (.cells #[.int .i32 f, .int .i32 tt, .string nb, .string ⟨ct.toArray⟩, .int .i64 cl, .string ⟨kd.toArray⟩, .slice A3 into.length c3] 34))).c (i := 0) rfl)); clear ho6 hg6 hn6 ha6 x6))
                  go_roundw
                  case rel =>
                    have hw : (w3.alloc (.cells #[.int .i32 f, .int .i32 tt, .string nb, .string ⟨ct.toArray⟩, .int .i64 cl, .string ⟨kd.toArray⟩, .slice A3 into.length c3] 34)).heap.size = w3.heap.size + 1 := by simp
                    obtain ⟨r1, r2, r3, r4, r5⟩ := out_more (r := ⟨f, tt, nm, ct, cl, kd, into⟩) (BW.out.alloc (by omega) _) (LN3.out.alloc _) ⟨OU3.out.own.alloc _, fun x hx => (OU3.out.ints x hx).alloc _⟩ (FK3.out.below ((Below.refl _ w3).alloc (Nat.le_refl _) _)) HQ.out.fne (O3.out.alloc _) (by have h9 := O6.out.1; rw [HNB.out] at h9; exact h9) O6.out.2.1 O6.out.2.2
                    exact ⟨k + 1, by go_num, by omega, false, f, _, _, op, fx, Af, cf, rfl, rfl, r1, r2, r3, r4, HQ.out.fbs, r5, HQ.out.fnm, HI2.out, by rw [List.length_append]; simp; omega, by rw [← HN.out]; exact HRN.out, (fun h => absurd h (by decide)), fun _ => ⟨HOP.out, by rw [List.map_append, HRS.out]; rfl, by rw [if_neg (by simp), lastR_snoc]; exact (HOK.out.tt).symm⟩⟩
                  case measure => simp [intOf]; omega
        · have HT := Lib.hid (HS1.out h1)
          have HN := Lib.hid (show run rs op ((no, tx) :: ls.drop (k + 1)) = (rs, op, no, er) by rw [run_wrong (by rw [HT.out]; exact h1), HT.out])
          have e1 : (er != 0) = true := by simpa using h1
          clear HS1 HS2 HS3 HS4 HS5 HS6 hRl hRf HRO
          go_upto_region 13 with (go_at_call 23; refine (HR.out _).mono ?_; rintro e w2 ⟨v2, rfl, ho2, hb2⟩; obtain ⟨A3, c3, rfl, _⟩ := own_ints ho2; have O2 := Lib.hid ho2; have B2 := Lib.hid hb2; clear ho2 hb2)
          clear HR hc hd hb
          obtain ⟨w3, hw3⟩ : ∃ w3, w3 = w2.alloc (.cells #[.int .i32 f, .int .i32 tt, .string nb, .string ⟨ct.toArray⟩, .int .i64 cl, .string ⟨kd.toArray⟩, .slice A3 into.length c3] 34) := ⟨_, rfl⟩
          rw [← hw3]
          have B3' : Below w2.heap.size w2 w3 := by rw [hw3]; exact (Below.refl _ w2).alloc (Nat.le_refl _) _
          have XK := Lib.hid (show Bk w3 w2.heap.size [.int .i32 f, .int .i32 tt, .string nb, .string ⟨ct.toArray⟩, .int .i64 cl, .string ⟨kd.toArray⟩, .slice A3 into.length c3] 34 by rw [hw3]; exact ⟨heap_alloc_new w2 _⟩)
          have B3 := Lib.hid (show Below wr.heap.size wr w3 from B2.out.trans (B3'.mono B2.out.size))
          have BW := Lib.hid (HQ.out.bel.trans (B3.out.mono HQ.out.bel.size))
          have O3 := Lib.hid (own_low (own_below' O2.out B3') HQ.out.bel.size)
          have z1 : wr.heap.size ≤ w2.heap.size := B2.out.size
          have z2 : w2.heap.size < w3.heap.size := XK.out.lt
          have z3 : w.heap.size ≤ wr.heap.size := HQ.out.bel.size
          clear B3' hw3 O2 B2
          go_wp2_with fail
          refine bodyPost_ret (v := .tuple #[.slice none 0 0, .int .i64 no, .int .i64 er]) (by simp [results, Tryd.results9, go_sem]) rfl (by
            have h9 := HE.out
            rw [← HRN.out, HN.out] at h9
            simp only [ne_eq, h1, not_false_eq_true, if_true] at h9
            exact ⟨_, [], by rw [h9], by rw [h9]; rfl, RwIn.nil _ _ _, BW.out⟩)
      · have g1 : ¬ (k : Int) < ls.length := by omega
        have hrun := HQ.out.run
        rw [List.drop_eq_nil_of_le (by omega), Uc.run] at hrun
        obtain rfl : k = ls.length := by omega
        subst hrun
        simp only at HE
        cases opn with
        | true =>
          obtain ⟨hop, hk0, hpn, _, _, _, _⟩ := HQ.out.yes rfl
          have HE2 := Lib.hid (HE.out.trans (if_pos hop))
          obtain ⟨A', c', e', hN⟩ := own_lns HQ.out.lns
          have e'' : A' = A1 := by injection e' with e1 e2 e3; exact e1.symm
          subst e''
          obtain ⟨b, off, rfl, hb, hc, hd⟩ := hN (ls.length - 1) (by omega)
          have hpn2 : (ls[ls.length - 1]'(by omega)).1 = op := by rw [List.getElem?_eq_getElem (by omega)] at hpn; simpa using hpn
          rw [hpn2] at hc
          clear HE e' hN hpn hpn2 hd
          have j1 : ((ls.length : Int) - 1).toNat = ls.length - 1 := by omega
          have j2 : IntKind.i64.wrap ((ls.length : Int) - 1) = ((ls.length - 1 : Nat) : Int) := by rw [IntKind.wrap_i64]; omega
          have j3 : ((ls.length - 1 : Nat) : Int) < ls.length := by omega
          have j4 : (0 : Int) ≤ ((ls.length - 1 : Nat) : Int) := by omega
          have j5 : (ls.length : Int) - 1 < ls.length := by omega
          have j6 : (0 : Int) ≤ (ls.length : Int) - 1 := by omega
          go_wp2_with fail
          go_quiet (fail)
          go_wp2_with fail
          refine bodyPost_ret (v := .tuple #[.slice none 0 0, .int .i64 op, .int .i64 10]) (by simp [results, Tryd.results9, go_sem]) rfl ⟨_, [], by rw [HE2.out], by rw [HE2.out]; rfl, RwIn.nil _ _ _, bel_drewN HQ.out.bel _⟩
        | false =>
          obtain ⟨rfl, hrs, hwas⟩ := HQ.out.no rfl
          have HE2 := Lib.hid (HE.out.trans (if_neg (by simp)))
          have HRS := Lib.hid hrs
          clear HE hrs hwas
          go_wp2_with fail
          refine bodyPost_ret (v := .tuple #[u7, .int .i64 0, .int .i64 0]) (by simp [results, Tryd.results9, go_sem]) rfl ⟨u7, l, by rw [HE2.out]; rfl, by rw [HE2.out]; exact HRS.out.symm, HQ.out.out, HQ.out.bel⟩

end Go.Proofs.YtajhgbcgbgpcjaaDoor.Uc

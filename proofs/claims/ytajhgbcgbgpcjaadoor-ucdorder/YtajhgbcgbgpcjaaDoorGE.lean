import Derived.Test.YtajhgbcgbgpcjaaDoorGD
namespace Go.Proofs.YtajhgbcgbgpcjaaDoor.Uc
open Go.RowKit Fi

/-- A block that is told whole. -/
structure Bk (w : World) (X : Nat) (cs : List Value) (t : TypeId) : Prop where
  blk : w.heap[X]? = some (.cells cs.toArray t (0, 0))
theorem Bk.c {w : World} {X : Nat} {cs : List Value} {t : TypeId} (h : Bk w X cs t) {i : Nat} {v : Value} (hv : cs[i]? = some v) : w.cell? ⟨X, i, none⟩ = some v := by simp [World.cell?, h.blk, hv]
theorem Bk.fr {w : World} {X : Nat} {cs : List Value} {t : TypeId} (h : Bk w X cs t) (i : Nat) : w.frozen? ⟨X, i, none⟩ = false := by simp [World.frozen?, h.blk]
theorem Bk.lt {w : World} {X : Nat} {cs : List Value} {t : TypeId} (h : Bk w X cs t) : X < w.heap.size := (Array.getElem?_eq_some_iff.1 h.blk).1
theorem Bk.below {w w' : World} {X : Nat} {cs : List Value} {t : TypeId} (h : Bk w X cs t) (hb : Below w.heap.size w w') : Bk w' X cs t := ⟨(hb.block X h.lt).trans h.blk⟩
theorem Bk.set {w : World} {X : Nat} {cs : List Value} {t : TypeId} (h : Bk w X cs t) (i : Nat) (x : Value) : Bk (w.setCell ⟨X, i, none⟩ x) X (cs.set i x) t := ⟨by simp [World.setCell, Array.getElem?_modify, h.blk]⟩
theorem Bk.drew {w : World} {X : Nat} {cs : List Value} {t : TypeId} (h : Bk w X cs t) (n : Nat) : Bk (w.drewN n) X cs t := ⟨h.blk⟩
theorem Bk.drew1 {w : World} {X : Nat} {cs : List Value} {t : TypeId} (h : Bk w X cs t) : Bk w.drew X cs t := ⟨h.blk⟩
theorem Bk.ne {w : World} {X : Nat} {cs : List Value} {t : TypeId} (h : Bk w X cs t) {b e z n : Nat} {v' : Value} {xs : List Value} (ho : w.ownsRow b e z v' n xs) (ht : t ≠ e) : v'.ownBlock ≠ some X := by
  intro he
  rcases ho.2 with ⟨rfl, _⟩ | ⟨g, cap, cur, rfl, _, hg, _⟩
  · cases he
  · have : g = X := by injection he
    subst this
    rw [h.blk] at hg
    simp at hg
    exact ht hg.2
theorem own_drew1 {w : World} {b e z n : Nat} {v : Value} {xs : List Value} (h : w.ownsRow b e z v n xs) : w.drew.ownsRow b e z v n xs := h
theorem own_sets {w : World} {X : Nat} {cs : List Value} {t : TypeId} {b e z n : Nat} {v' : Value} {xs : List Value} {u0 u1 u2 u3 u4 u5 u6 : Value} (ho : w.ownsRow b e z v' n xs) (h : Bk w X cs t) (ht : t ≠ e) :
    (((((((w.setCell ⟨X, 0, none⟩ u0).setCell ⟨X, 1, none⟩ u1).setCell ⟨X, 2, none⟩ u2).setCell ⟨X, 3, none⟩ u3).setCell ⟨X, 4, none⟩ u4).setCell ⟨X, 5, none⟩ u5).setCell ⟨X, 6, none⟩ u6).drew.ownsRow b e z v' n xs := by
  have hn := h.ne ho ht
  exact own_drew1 (own_set (own_set (own_set (own_set (own_set (own_set (own_set ho hn _) hn _) hn _) hn _) hn _) hn _) hn _)
def zC : List Value := [.int .i32 0, .int .i32 0, .string ⟨#[]⟩, .string ⟨#[]⟩, .int .i64 0, .string ⟨#[]⟩, .slice none 0 0]

def ReP (w : World) (x : Rw × Int) (e : Ending) (w' : World) : Prop := ∃ v, e = .returned (.tuple #[rV x.1 v, .int .i64 x.2]) ∧ w'.ownsRow w.heap.size 21 1 v x.1.into.length (i32s x.1.into) ∧ Below w.heap.size w w'
theorem txs_six {w : World} {A : Option Addr} {ls : List (List UInt8)} (h : Txs w A ls) (h6 : 6 ≤ ls.length) : ∃ b off, A = some ⟨b, off, none⟩ ∧ b < w.heap.size ∧ w.cell? ⟨b, off, none⟩ = some (.string ⟨(ls.getD 0 []).toArray⟩) ∧ w.cell? ⟨b, off + 1, none⟩ = some (.string ⟨(ls.getD 1 []).toArray⟩) ∧ w.cell? ⟨b, off + 2, none⟩ = some (.string ⟨(ls.getD 2 []).toArray⟩) ∧ w.cell? ⟨b, off + 3, none⟩ = some (.string ⟨(ls.getD 3 []).toArray⟩) ∧ w.cell? ⟨b, off + 5, none⟩ = some (.string ⟨(ls.getD 5 []).toArray⟩) := by
  obtain ⟨b, off, rfl, hb, h0⟩ := h 0 (by omega)
  have hk : ∀ i (hi : i < ls.length), w.cell? ⟨b, off + i, none⟩ = some (.string ⟨(ls.getD i []).toArray⟩) := fun i hi => by
    obtain ⟨b', off', e, _, hc⟩ := h i hi
    simp only [Option.some.injEq, Addr.mk.injEq] at e
    obtain ⟨rfl, rfl, _⟩ := e
    rw [hc, List.getD_eq_getElem?_getD, List.getElem?_eq_getElem hi]
    rfl
  exact ⟨b, off, rfl, hb, hk 0 (by omega), hk 1 (by omega), hk 2 (by omega), hk 3 (by omega), hk 5 (by omega)⟩
theorem fld_mem (l : List UInt8) (i : Nat) : ((fld l).getD i []).length ≤ l.length := by
  rw [List.getD_eq_getElem?_getD]
  cases h : (fld l)[i]? with
  | none => simp
  | some x =>
    have hx := List.mem_of_getElem? h
    unfold fld at hx
    obtain ⟨y, hy, rfl⟩ := List.mem_map.1 hx
    have h1 := spl_mem 59 l [] y hy
    have h2 := bareL_le y
    simp at h1
    show (bareL y).length ≤ l.length
    omega
theorem rowF_1 {f : List (List UInt8)} (h : (hexE (f.getD 0 [])).2 ≠ 0) : rowF f = (z0, (hexE (f.getD 0 [])).2) := by unfold rowF; rw [if_pos h]
theorem rowF_2 {f : List (List UInt8)} (h0 : (hexE (f.getD 0 [])).2 = 0) (h : (nmE (f.getD 3 [])).2 ≠ 0) : rowF f = (z0, (nmE (f.getD 3 [])).2) := by unfold rowF; rw [if_neg (by simpa using h0), if_pos h]
theorem rowF_3 {f : List (List UInt8)} (h0 : (hexE (f.getD 0 [])).2 = 0) (h3 : (nmE (f.getD 3 [])).2 = 0) (h : 254 < (nmE (f.getD 3 [])).1) : rowF f = (z0, 11) := by unfold rowF; rw [if_neg (by simpa using h0), if_neg (by simpa using h3), if_pos h]
theorem rowF_4 {f : List (List UInt8)} (h0 : (hexE (f.getD 0 [])).2 = 0) (h3 : (nmE (f.getD 3 [])).2 = 0) (hc : ¬ 254 < (nmE (f.getD 3 [])).1) (h : (intE (f.getD 5 [])).2.2 ≠ 0) : rowF f = (z0, (intE (f.getD 5 [])).2.2) := by unfold rowF; rw [if_neg (by simpa using h0), if_neg (by simpa using h3), if_neg hc, if_pos h]
theorem rowF_5 {f : List (List UInt8)} (h0 : (hexE (f.getD 0 [])).2 = 0) (h3 : (nmE (f.getD 3 [])).2 = 0) (hc : ¬ 254 < (nmE (f.getD 3 [])).1) (h : (intE (f.getD 5 [])).2.2 = 0) : rowF f = (⟨(hexE (f.getD 0 [])).1, (hexE (f.getD 0 [])).1, f.getD 1 [], f.getD 2 [], (nmE (f.getD 3 [])).1, (intE (f.getD 5 [])).1, (intE (f.getD 5 [])).2.1⟩, 0) := by unfold rowF; rw [if_neg (by simpa using h0), if_neg (by simpa using h3), if_neg hc, if_neg (by simpa using h)]
set_option maxRecDepth 100000 in
set_option maxHeartbeats 8000000 in
theorem read_any (s : ByteArray) (w : World) (hM : Ml w) (hs : s.size ≤ 100000) : Calls Tryd.prog 19 #[.string s] w (ReP w (rowE s.data.toList)) := by
  have hS := fsplit_any s 59 (w.alloc (.cells zC.toArray 33)) (hM.on ((Below.refl _ w).alloc (Nat.le_refl _) _)) hs
  have B0 := Lib.hid (show Bk (w.alloc (.cells zC.toArray 33)) w.heap.size zC 33 from ⟨heap_alloc_new w _⟩)
  have D0 := Lib.hid ((Below.refl _ w).alloc (Nat.le_refl _) (.cells zC.toArray 33))
  have HML := Lib.hid hM
  clear hM
  by_cases h6 : (fld s.data.toList).length < 6
  · have H := Lib.hid (show rowE s.data.toList = (z0, 10) by unfold rowE; rw [if_pos h6])
    change Calls Tryd.prog _ _ _ (CutP _ (fld s.data.toList)) at hS
    generalize fld s.data.toList = ls at *
    have HS := Lib.hid hS
    have g1 : (ls.length : Int) < 6 := by omega
    clear hS h6
    go_enter Tryd.func19, Tryd.ntmps19
    go_wp2_with fail
    refine HS.out.mono ?_
    rintro e w1 ⟨v1, rfl, ho, hb⟩
    obtain ⟨A1, c1, rfl, hx⟩ := own_txs ho
    have K1 := B0.out.below hb
    have D1 := Lib.hid (D0.out.trans (hb.mono D0.out.size))
    clear ho hb HS B0
    have K7 := Lib.hid ((((((((K1).set 0 (.int .i32 0)).set 1 (.int .i32 0)).set 2 (.string ⟨#[]⟩)).set 3 (.string ⟨#[]⟩)).set 4 (.int .i64 0)).set 5 (.string ⟨#[]⟩)).set 6 (.slice none 0 0))
    have a0 := K1.c (i := 0) rfl
    have a1 := K1.c (i := 1) rfl
    have a2 := K1.c (i := 2) rfl
    have a3 := K1.c (i := 3) rfl
    have a4 := K1.c (i := 4) rfl
    have a5 := K1.c (i := 5) rfl
    have a6 := K1.c (i := 6) rfl
    have f0 := K1.fr 0
    have f1 := K1.fr 1
    have f2 := K1.fr 2
    have f3 := K1.fr 3
    have f4 := K1.fr 4
    have f5 := K1.fr 5
    have f6 := K1.fr 6
    go_wp2_with fail
    have b0 := K7.out.c (i := 0) rfl
    have b1 := K7.out.c (i := 1) rfl
    have b2 := K7.out.c (i := 2) rfl
    have b3 := K7.out.c (i := 3) rfl
    have b4 := K7.out.c (i := 4) rfl
    have b5 := K7.out.c (i := 5) rfl
    have b6 := K7.out.c (i := 6) rfl
    refine bodyPost_ret (v := .tuple #[rV z0 (.slice none 0 0), .int .i64 10]) (by simp [results, Tryd.results19, go_sem, b0, b1, b2, b3, b4, b5, b6, rV, z0]) rfl ⟨_, by rw [H.out], by rw [H.out]; exact World.ownsRow_nil _ _ _ _, (((((((D1.out).setCell (Nat.le_refl _) _).setCell (Nat.le_refl _) _).setCell (Nat.le_refl _) _).setCell (Nat.le_refl _) _).setCell (Nat.le_refl _) _).setCell (Nat.le_refl _) _).setCell (Nat.le_refl _) _⟩
  · have hr := Lib.hid (show rowE s.data.toList = rowF (fld s.data.toList) by unfold rowE; rw [if_neg h6])
    have hm := fld_mem s.data.toList
    rw [lst_len] at hm
    change Calls Tryd.prog _ _ _ (CutP _ (fld s.data.toList)) at hS
    generalize fld s.data.toList = ls at *
    have HS := Lib.hid hS
    have g1 : ¬ (ls.length : Int) < 6 := by omega
    have hls : 6 ≤ ls.length := by omega
    have hm0 := hm 0
    have hm3 := hm 3
    have hm5 := hm 5
    clear hS h6 hm
    have e1 := @rowF_1 ls
    have e2 := @rowF_2 ls
    have e3 := @rowF_3 ls
    have e4 := @rowF_4 ls
    have e5 := @rowF_5 ls
    obtain ⟨x0, hx0⟩ : ∃ x : ByteArray, x = ⟨(ls.getD 0 []).toArray⟩ := ⟨_, rfl⟩
    obtain ⟨x1, hx1⟩ : ∃ x : ByteArray, x = ⟨(ls.getD 1 []).toArray⟩ := ⟨_, rfl⟩
    obtain ⟨x2, hx2⟩ : ∃ x : ByteArray, x = ⟨(ls.getD 2 []).toArray⟩ := ⟨_, rfl⟩
    obtain ⟨x3, hx3⟩ : ∃ x : ByteArray, x = ⟨(ls.getD 3 []).toArray⟩ := ⟨_, rfl⟩
    obtain ⟨x5, hx5⟩ : ∃ x : ByteArray, x = ⟨(ls.getD 5 []).toArray⟩ := ⟨_, rfl⟩
    have y0 := fun W => hex_any x0 W (by rw [hx0, size_mk]; omega)
    have y3 := fun W => number_any x3 W (by rw [hx3, size_mk]; omega)
    have y5 := fun W hW => parts_any x5 W hW (by rw [hx5, size_mk]; omega)
    rw [show x0.data.toList = ls.getD 0 [] by rw [hx0]] at y0
    rw [show x3.data.toList = ls.getD 3 [] by rw [hx3]] at y3
    rw [show x5.data.toList = ls.getD 5 [] by rw [hx5]] at y5
    generalize hexE (ls.getD 0 []) = z at *
    obtain ⟨r, er0⟩ := z
    have hnb := nmE_bd (ls.getD 3 [])
    generalize nmE (ls.getD 3 []) = z at *
    obtain ⟨cl, er3⟩ := z
    have hin := intE_len (ls.getD 5 [])
    generalize intE (ls.getD 5 []) = z at *
    obtain ⟨kl, inl, er5⟩ := z
    unfold reV at y0
    unfold niV at y3
    unfold PaP at y5
    simp only at y0 y3 y5 hnb hin
    have HX0 := Lib.hid y0
    have HX3 := Lib.hid y3
    have HX5 := Lib.hid y5
    have q0 := Lib.hid hx0
    have q1 := Lib.hid hx1
    have q2 := Lib.hid hx2
    have q3 := Lib.hid hx3
    have q5 := Lib.hid hx5
    clear y0 y3 y5 hm0 hm3 hm5 hx0 hx1 hx2 hx3 hx5
    by_cases h0 : er0 = 0
    · subst h0
      by_cases h3 : er3 = 0
      · subst h3
        by_cases hc : 254 < cl
        · have H := Lib.hid (hr.out.trans (e3 rfl rfl hc))
          clear hr e1 e2 e3 e4 e5 HX5
          have g2 : (254 : Int) < cl := hc
          go_enter Tryd.func19, Tryd.ntmps19
          go_wp2_with fail
          refine HS.out.mono ?_
          rintro e w1 ⟨v1, rfl, ho, hb⟩
          obtain ⟨A1, c1, rfl, hx⟩ := own_txs ho
          have K1 := B0.out.below hb
          have D1 := Lib.hid (D0.out.trans (hb.mono D0.out.size))
          clear ho hb HS B0
          obtain ⟨tb, tf, rfl, htb, t0, t1, t2, t3, t5⟩ := txs_six hx hls
          rw [← q0.out] at t0
          rw [← q1.out] at t1
          rw [← q2.out] at t2
          rw [← q3.out] at t3
          rw [← q5.out] at t5
          clear hx
          go_wp2_with fail
          refine (HX0.out _).mono ?_
          rintro e w2 ⟨rfl, hb⟩
          have K2 := K1.below hb
          have D2 := Lib.hid (D1.out.trans (hb.mono D1.out.size))
          have t1 := (hb.cell (p := ⟨tb, tf + 1, none⟩) htb).trans t1
          have t2 := (hb.cell (p := ⟨tb, tf + 2, none⟩) htb).trans t2
          have t3 := (hb.cell (p := ⟨tb, tf + 3, none⟩) htb).trans t3
          have t5 := (hb.cell (p := ⟨tb, tf + 5, none⟩) htb).trans t5
          have htb := Nat.lt_of_lt_of_le htb hb.size
          clear hb K1 D1
          go_wp2_with fail
          refine (HX3.out _).mono ?_
          rintro e w3 ⟨rfl, hb⟩
          have K3 := K2.below hb
          have D3 := Lib.hid (D2.out.trans (hb.mono D2.out.size))
          have t1 := (hb.cell (p := ⟨tb, tf + 1, none⟩) htb).trans t1
          have t2 := (hb.cell (p := ⟨tb, tf + 2, none⟩) htb).trans t2
          have t5 := (hb.cell (p := ⟨tb, tf + 5, none⟩) htb).trans t5
          have htb := Nat.lt_of_lt_of_le htb hb.size
          clear hb K2 D2
          have K7 := Lib.hid ((((((((K3).set 0 (.int .i32 0)).set 1 (.int .i32 0)).set 2 (.string ⟨#[]⟩)).set 3 (.string ⟨#[]⟩)).set 4 (.int .i64 0)).set 5 (.string ⟨#[]⟩)).set 6 (.slice none 0 0))
          have a0 := K3.c (i := 0) rfl
          have a1 := K3.c (i := 1) rfl
          have a2 := K3.c (i := 2) rfl
          have a3 := K3.c (i := 3) rfl
          have a4 := K3.c (i := 4) rfl
          have a5 := K3.c (i := 5) rfl
          have a6 := K3.c (i := 6) rfl
          have f0 := K3.fr 0
          have f1 := K3.fr 1
          have f2 := K3.fr 2
          have f3 := K3.fr 3
          have f4 := K3.fr 4
          have f5 := K3.fr 5
          have f6 := K3.fr 6
          go_wp2_with fail
          have b0 := K7.out.c (i := 0) rfl
          have b1 := K7.out.c (i := 1) rfl
          have b2 := K7.out.c (i := 2) rfl
          have b3 := K7.out.c (i := 3) rfl
          have b4 := K7.out.c (i := 4) rfl
          have b5 := K7.out.c (i := 5) rfl
          have b6 := K7.out.c (i := 6) rfl
          refine bodyPost_ret (v := .tuple #[rV z0 (.slice none 0 0), .int .i64 11]) (by simp [results, Tryd.results19, go_sem, b0, b1, b2, b3, b4, b5, b6, rV, z0]) rfl ⟨_, by rw [H.out], by rw [H.out]; exact World.ownsRow_nil _ _ _ _, (((((((D3.out).setCell (Nat.le_refl _) _).setCell (Nat.le_refl _) _).setCell (Nat.le_refl _) _).setCell (Nat.le_refl _) _).setCell (Nat.le_refl _) _).setCell (Nat.le_refl _) _).setCell (Nat.le_refl _) _⟩
        · have g2 : ¬ (254 : Int) < cl := hc
          by_cases h5 : er5 = 0
          · subst h5
            have H := Lib.hid (hr.out.trans (e5 rfl rfl hc rfl))
            clear hr e1 e2 e3 e4 e5
            go_enter Tryd.func19, Tryd.ntmps19
            go_wp2_with fail
            refine HS.out.mono ?_
            rintro e w1 ⟨v1, rfl, ho, hb⟩
            obtain ⟨A1, c1, rfl, hx⟩ := own_txs ho
            have K1 := B0.out.below hb
            have D1 := Lib.hid (D0.out.trans (hb.mono D0.out.size))
            clear ho hb HS B0
            obtain ⟨tb, tf, rfl, htb, t0, t1, t2, t3, t5⟩ := txs_six hx hls
            rw [← q0.out] at t0
            rw [← q1.out] at t1
            rw [← q2.out] at t2
            rw [← q3.out] at t3
            rw [← q5.out] at t5
            clear hx
            go_wp2_with fail
            refine (HX0.out _).mono ?_
            rintro e w2 ⟨rfl, hb⟩
            have K2 := K1.below hb
            have D2 := Lib.hid (D1.out.trans (hb.mono D1.out.size))
            have t1 := (hb.cell (p := ⟨tb, tf + 1, none⟩) htb).trans t1
            have t2 := (hb.cell (p := ⟨tb, tf + 2, none⟩) htb).trans t2
            have t3 := (hb.cell (p := ⟨tb, tf + 3, none⟩) htb).trans t3
            have t5 := (hb.cell (p := ⟨tb, tf + 5, none⟩) htb).trans t5
            have htb := Nat.lt_of_lt_of_le htb hb.size
            clear hb K1 D1
            go_wp2_with fail
            refine (HX3.out _).mono ?_
            rintro e w3 ⟨rfl, hb⟩
            have K3 := K2.below hb
            have D3 := Lib.hid (D2.out.trans (hb.mono D2.out.size))
            have t1 := (hb.cell (p := ⟨tb, tf + 1, none⟩) htb).trans t1
            have t2 := (hb.cell (p := ⟨tb, tf + 2, none⟩) htb).trans t2
            have t5 := (hb.cell (p := ⟨tb, tf + 5, none⟩) htb).trans t5
            have htb := Nat.lt_of_lt_of_le htb hb.size
            clear hb K2 D2
            go_wp2_with fail
            refine (HX5.out _ (HML.out.on D3.out)).mono ?_
            rintro e w4 ⟨v4, rfl, ho, hb⟩
            obtain ⟨A4, c4, rfl, _⟩ := own_ints ho
            have O4 := Lib.hid (own_low ho D3.out.size)
            clear ho
            have K4 := K3.below hb
            have D4 := Lib.hid (D3.out.trans (hb.mono D3.out.size))
            have t1 := (hb.cell (p := ⟨tb, tf + 1, none⟩) htb).trans t1
            have t2 := (hb.cell (p := ⟨tb, tf + 2, none⟩) htb).trans t2
            have htb := Nat.lt_of_lt_of_le htb hb.size
            clear hb K3 D3
            have a0 := K4.c (i := 0) rfl
            have a1 := K4.c (i := 1) rfl
            have a2 := K4.c (i := 2) rfl
            have a3 := K4.c (i := 3) rfl
            have a4 := K4.c (i := 4) rfl
            have a5 := K4.c (i := 5) rfl
            have a6 := K4.c (i := 6) rfl
            have f0 := K4.fr 0
            have f1 := K4.fr 1
            have f2 := K4.fr 2
            have f3 := K4.fr 3
            have f4 := K4.fr 4
            have f5 := K4.fr 5
            have f6 := K4.fr 6
            have K7 := Lib.hid (Bk.drew1 ((((((((K4).set 0 (.int .i32 r)).set 1 (.int .i32 r)).set 2 (.string x1)).set 3 (.string x2)).set 4 (.int .i64 cl)).set 5 (.string ⟨kl.toArray⟩)).set 6 (.slice A4 inl.length c4)))
            have O7 := Lib.hid (own_sets (u0 := .int .i32 r) (u1 := .int .i32 r) (u2 := .string x1) (u3 := .string x2) (u4 := .int .i64 cl) (u5 := .string ⟨kl.toArray⟩) (u6 := .slice A4 inl.length c4) O4.out K4 (by decide))
            clear HX0 HX3 HX5 htb K4
            have j1 : (1 : Int) < ls.length := by omega
            have j2 : (2 : Int) < ls.length := by omega
            go_wp2_with fail
            go_region
            clear a0 a1 a2 a3 a4 a5 a6 f0 f1 f2 f3 f4 f5 f6
            go_wp2_with fail
            have b0 := K7.out.c (i := 0) rfl
            have b1 := K7.out.c (i := 1) rfl
            have b2 := K7.out.c (i := 2) rfl
            have b3 := K7.out.c (i := 3) rfl
            have b4 := K7.out.c (i := 4) rfl
            have b5 := K7.out.c (i := 5) rfl
            have b6 := K7.out.c (i := 6) rfl
            refine bodyPost_ret (v := .tuple #[.agg #[.int .i32 r, .int .i32 r, .string x1, .string x2, .int .i64 cl, .string ⟨kl.toArray⟩, .slice A4 inl.length c4], .int .i64 0]) (by simp [results, Tryd.results19, go_sem, b0, b1, b2, b3, b4, b5, b6]) rfl ⟨.slice A4 inl.length c4, by rw [H.out, q1.out, q2.out]; rfl, by rw [H.out]; exact O7.out, ((((((((D4.out).setCell (Nat.le_refl _) _).setCell (Nat.le_refl _) _).setCell (Nat.le_refl _) _).setCell (Nat.le_refl _) _).setCell (Nat.le_refl _) _).setCell (Nat.le_refl _) _).setCell (Nat.le_refl _) _).drew⟩
          · have H := Lib.hid (hr.out.trans (e4 rfl rfl hc h5))
            clear hr e1 e2 e3 e4 e5
            have n5 : (er5 != 0) = true := by simpa using h5
            go_enter Tryd.func19, Tryd.ntmps19
            go_wp2_with fail
            refine HS.out.mono ?_
            rintro e w1 ⟨v1, rfl, ho, hb⟩
            obtain ⟨A1, c1, rfl, hx⟩ := own_txs ho
            have K1 := B0.out.below hb
            have D1 := Lib.hid (D0.out.trans (hb.mono D0.out.size))
            clear ho hb HS B0
            obtain ⟨tb, tf, rfl, htb, t0, t1, t2, t3, t5⟩ := txs_six hx hls
            rw [← q0.out] at t0
            rw [← q1.out] at t1
            rw [← q2.out] at t2
            rw [← q3.out] at t3
            rw [← q5.out] at t5
            clear hx
            go_wp2_with fail
            refine (HX0.out _).mono ?_
            rintro e w2 ⟨rfl, hb⟩
            have K2 := K1.below hb
            have D2 := Lib.hid (D1.out.trans (hb.mono D1.out.size))
            have t1 := (hb.cell (p := ⟨tb, tf + 1, none⟩) htb).trans t1
            have t2 := (hb.cell (p := ⟨tb, tf + 2, none⟩) htb).trans t2
            have t3 := (hb.cell (p := ⟨tb, tf + 3, none⟩) htb).trans t3
            have t5 := (hb.cell (p := ⟨tb, tf + 5, none⟩) htb).trans t5
            have htb := Nat.lt_of_lt_of_le htb hb.size
            clear hb K1 D1
            go_wp2_with fail
            refine (HX3.out _).mono ?_
            rintro e w3 ⟨rfl, hb⟩
            have K3 := K2.below hb
            have D3 := Lib.hid (D2.out.trans (hb.mono D2.out.size))
            have t1 := (hb.cell (p := ⟨tb, tf + 1, none⟩) htb).trans t1
            have t2 := (hb.cell (p := ⟨tb, tf + 2, none⟩) htb).trans t2
            have t5 := (hb.cell (p := ⟨tb, tf + 5, none⟩) htb).trans t5
            have htb := Nat.lt_of_lt_of_le htb hb.size
            clear hb K2 D2
            go_wp2_with fail
            refine (HX5.out _ (HML.out.on D3.out)).mono ?_
            rintro e w4 ⟨v4, rfl, ho, hb⟩
            obtain ⟨A4, c4, rfl, _⟩ := own_ints ho
            have O4 := Lib.hid (own_low ho D3.out.size)
            clear ho
            have K4 := K3.below hb
            have D4 := Lib.hid (D3.out.trans (hb.mono D3.out.size))
            have t1 := (hb.cell (p := ⟨tb, tf + 1, none⟩) htb).trans t1
            have t2 := (hb.cell (p := ⟨tb, tf + 2, none⟩) htb).trans t2
            have htb := Nat.lt_of_lt_of_le htb hb.size
            clear hb K3 D3
            have K7 := Lib.hid ((((((((K4).set 0 (.int .i32 0)).set 1 (.int .i32 0)).set 2 (.string ⟨#[]⟩)).set 3 (.string ⟨#[]⟩)).set 4 (.int .i64 0)).set 5 (.string ⟨#[]⟩)).set 6 (.slice none 0 0))
            have a0 := K4.c (i := 0) rfl
            have a1 := K4.c (i := 1) rfl
            have a2 := K4.c (i := 2) rfl
            have a3 := K4.c (i := 3) rfl
            have a4 := K4.c (i := 4) rfl
            have a5 := K4.c (i := 5) rfl
            have a6 := K4.c (i := 6) rfl
            have f0 := K4.fr 0
            have f1 := K4.fr 1
            have f2 := K4.fr 2
            have f3 := K4.fr 3
            have f4 := K4.fr 4
            have f5 := K4.fr 5
            have f6 := K4.fr 6
            go_wp2_with fail
            have b0 := K7.out.c (i := 0) rfl
            have b1 := K7.out.c (i := 1) rfl
            have b2 := K7.out.c (i := 2) rfl
            have b3 := K7.out.c (i := 3) rfl
            have b4 := K7.out.c (i := 4) rfl
            have b5 := K7.out.c (i := 5) rfl
            have b6 := K7.out.c (i := 6) rfl
            refine bodyPost_ret (v := .tuple #[rV z0 (.slice none 0 0), .int .i64 er5]) (by simp [results, Tryd.results19, go_sem, b0, b1, b2, b3, b4, b5, b6, rV, z0]) rfl ⟨_, by rw [H.out], by rw [H.out]; exact World.ownsRow_nil _ _ _ _, (((((((D4.out).setCell (Nat.le_refl _) _).setCell (Nat.le_refl _) _).setCell (Nat.le_refl _) _).setCell (Nat.le_refl _) _).setCell (Nat.le_refl _) _).setCell (Nat.le_refl _) _).setCell (Nat.le_refl _) _⟩
      · have H := Lib.hid (hr.out.trans (e2 rfl h3))
        clear hr e1 e2 e3 e4 e5 HX5
        have n3 : (er3 != 0) = true := by simpa using h3
        go_enter Tryd.func19, Tryd.ntmps19
        go_wp2_with fail
        refine HS.out.mono ?_
        rintro e w1 ⟨v1, rfl, ho, hb⟩
        obtain ⟨A1, c1, rfl, hx⟩ := own_txs ho
        have K1 := B0.out.below hb
        have D1 := Lib.hid (D0.out.trans (hb.mono D0.out.size))
        clear ho hb HS B0
        obtain ⟨tb, tf, rfl, htb, t0, t1, t2, t3, t5⟩ := txs_six hx hls
        rw [← q0.out] at t0
        rw [← q1.out] at t1
        rw [← q2.out] at t2
        rw [← q3.out] at t3
        rw [← q5.out] at t5
        clear hx
        go_wp2_with fail
        refine (HX0.out _).mono ?_
        rintro e w2 ⟨rfl, hb⟩
        have K2 := K1.below hb
        have D2 := Lib.hid (D1.out.trans (hb.mono D1.out.size))
        have t1 := (hb.cell (p := ⟨tb, tf + 1, none⟩) htb).trans t1
        have t2 := (hb.cell (p := ⟨tb, tf + 2, none⟩) htb).trans t2
        have t3 := (hb.cell (p := ⟨tb, tf + 3, none⟩) htb).trans t3
        have t5 := (hb.cell (p := ⟨tb, tf + 5, none⟩) htb).trans t5
        have htb := Nat.lt_of_lt_of_le htb hb.size
        clear hb K1 D1
        go_wp2_with fail
        refine (HX3.out _).mono ?_
        rintro e w3 ⟨rfl, hb⟩
        have K3 := K2.below hb
        have D3 := Lib.hid (D2.out.trans (hb.mono D2.out.size))
        have t1 := (hb.cell (p := ⟨tb, tf + 1, none⟩) htb).trans t1
        have t2 := (hb.cell (p := ⟨tb, tf + 2, none⟩) htb).trans t2
        have t5 := (hb.cell (p := ⟨tb, tf + 5, none⟩) htb).trans t5
        have htb := Nat.lt_of_lt_of_le htb hb.size
        clear hb K2 D2
        have K7 := Lib.hid ((((((((K3).set 0 (.int .i32 0)).set 1 (.int .i32 0)).set 2 (.string ⟨#[]⟩)).set 3 (.string ⟨#[]⟩)).set 4 (.int .i64 0)).set 5 (.string ⟨#[]⟩)).set 6 (.slice none 0 0))
        have a0 := K3.c (i := 0) rfl
        have a1 := K3.c (i := 1) rfl
        have a2 := K3.c (i := 2) rfl
        have a3 := K3.c (i := 3) rfl
        have a4 := K3.c (i := 4) rfl
        have a5 := K3.c (i := 5) rfl
        have a6 := K3.c (i := 6) rfl
        have f0 := K3.fr 0
        have f1 := K3.fr 1
        have f2 := K3.fr 2
        have f3 := K3.fr 3
        have f4 := K3.fr 4
        have f5 := K3.fr 5
        have f6 := K3.fr 6
        go_wp2_with fail
        have b0 := K7.out.c (i := 0) rfl
        have b1 := K7.out.c (i := 1) rfl
        have b2 := K7.out.c (i := 2) rfl
        have b3 := K7.out.c (i := 3) rfl
        have b4 := K7.out.c (i := 4) rfl
        have b5 := K7.out.c (i := 5) rfl
        have b6 := K7.out.c (i := 6) rfl
        refine bodyPost_ret (v := .tuple #[rV z0 (.slice none 0 0), .int .i64 er3]) (by simp [results, Tryd.results19, go_sem, b0, b1, b2, b3, b4, b5, b6, rV, z0]) rfl ⟨_, by rw [H.out], by rw [H.out]; exact World.ownsRow_nil _ _ _ _, (((((((D3.out).setCell (Nat.le_refl _) _).setCell (Nat.le_refl _) _).setCell (Nat.le_refl _) _).setCell (Nat.le_refl _) _).setCell (Nat.le_refl _) _).setCell (Nat.le_refl _) _).setCell (Nat.le_refl _) _⟩
    · have H := Lib.hid (hr.out.trans (e1 h0))
      clear hr e1 e2 e3 e4 e5 HX5 HX3
      have n0 : (er0 != 0) = true := by simpa using h0
      go_enter Tryd.func19, Tryd.ntmps19
      go_wp2_with fail
      refine HS.out.mono ?_
      rintro e w1 ⟨v1, rfl, ho, hb⟩
      obtain ⟨A1, c1, rfl, hx⟩ := own_txs ho
      have K1 := B0.out.below hb
      have D1 := Lib.hid (D0.out.trans (hb.mono D0.out.size))
      clear ho hb HS B0
      obtain ⟨tb, tf, rfl, htb, t0, t1, t2, t3, t5⟩ := txs_six hx hls
      rw [← q0.out] at t0
      rw [← q1.out] at t1
      rw [← q2.out] at t2
      rw [← q3.out] at t3
      rw [← q5.out] at t5
      clear hx
      go_wp2_with fail
      refine (HX0.out _).mono ?_
      rintro e w2 ⟨rfl, hb⟩
      have K2 := K1.below hb
      have D2 := Lib.hid (D1.out.trans (hb.mono D1.out.size))
      have t1 := (hb.cell (p := ⟨tb, tf + 1, none⟩) htb).trans t1
      have t2 := (hb.cell (p := ⟨tb, tf + 2, none⟩) htb).trans t2
      have t3 := (hb.cell (p := ⟨tb, tf + 3, none⟩) htb).trans t3
      have t5 := (hb.cell (p := ⟨tb, tf + 5, none⟩) htb).trans t5
      have htb := Nat.lt_of_lt_of_le htb hb.size
      clear hb K1 D1
      have K7 := Lib.hid ((((((((K2).set 0 (.int .i32 0)).set 1 (.int .i32 0)).set 2 (.string ⟨#[]⟩)).set 3 (.string ⟨#[]⟩)).set 4 (.int .i64 0)).set 5 (.string ⟨#[]⟩)).set 6 (.slice none 0 0))
      have a0 := K2.c (i := 0) rfl
      have a1 := K2.c (i := 1) rfl
      have a2 := K2.c (i := 2) rfl
      have a3 := K2.c (i := 3) rfl
      have a4 := K2.c (i := 4) rfl
      have a5 := K2.c (i := 5) rfl
      have a6 := K2.c (i := 6) rfl
      have f0 := K2.fr 0
      have f1 := K2.fr 1
      have f2 := K2.fr 2
      have f3 := K2.fr 3
      have f4 := K2.fr 4
      have f5 := K2.fr 5
      have f6 := K2.fr 6
      go_wp2_with fail
      have b0 := K7.out.c (i := 0) rfl
      have b1 := K7.out.c (i := 1) rfl
      have b2 := K7.out.c (i := 2) rfl
      have b3 := K7.out.c (i := 3) rfl
      have b4 := K7.out.c (i := 4) rfl
      have b5 := K7.out.c (i := 5) rfl
      have b6 := K7.out.c (i := 6) rfl
      refine bodyPost_ret (v := .tuple #[rV z0 (.slice none 0 0), .int .i64 er0]) (by simp [results, Tryd.results19, go_sem, b0, b1, b2, b3, b4, b5, b6, rV, z0]) rfl ⟨_, by rw [H.out], by rw [H.out]; exact World.ownsRow_nil _ _ _ _, (((((((D2.out).setCell (Nat.le_refl _) _).setCell (Nat.le_refl _) _).setCell (Nat.le_refl _) _).setCell (Nat.le_refl _) _).setCell (Nat.le_refl _) _).setCell (Nat.le_refl _) _).setCell (Nat.le_refl _) _⟩
end Go.Proofs.YtajhgbcgbgpcjaaDoor.Uc

/- UcdJoins: for every input the law returns true and it reads as before: the rows of two texts, one behind the other, are those of both, if the second ones are greater, and none are, if not. Conditions: the library's tables as the program's text lays them (tied). -/
import Derived.Test.YtajhgbcgbgpcjaaDoorGV
import Derived.Test.YtajhgbcgbgpcjaaDoorGJ
import Derived.Test.YtajhgbcgbgpcjaaDoorFT
import Derived.Test.YtajhgbcgbgpcjaaDoorCards
import Derived.ShutString
import Derived.ChangeOld
namespace Go.Proofs.YtajhgbcgbgpcjaaDoor
open Go.ChangeShapes Go.WideShapes Go.ChangeAt Go.WideMaps Go.WideElems Go.RowKit
open Go.ChangeMaps (open_string shut_string)
open Fi Uc

theorem run_rows (rs : List Rw) (op : Nat) (l : List (Nat × List UInt8)) : (Uc.run rs op l).1.length ≤ rs.length + l.length := by
  induction l generalizing rs op with
  | nil => simp [Uc.run]
  | cons x l ih =>
    have h2 := (stp_len (rs := rs) (op := op) (no := x.1) (t := x.2)).1
    by_cases h3 : (stp rs op x.1 x.2).2.2 = 0
    · rw [run_cons h3]
      have := ih (stp rs op x.1 x.2).1 (stp rs op x.1 x.2).2.1
      simp
      omega
    · rw [run_wrong h3]
      simp
      omega
theorem rws_len5 (l : List UInt8) : (rwsE l).1.length ≤ 4096 := by
  unfold rwsE
  have h1 := (lin_bd l).1
  have h4 := run_rows [] 0 (linE l).1
  simp at h4
  split
  · simp
  · split
    · simp
    · split
      · simp
      · simp; omega
set_option maxRecDepth 100000 in
set_option maxHeartbeats 1000000 in
theorem plain_any (f t c : Int) (n g k : ByteArray) (A : Option Addr) (l p : Nat) (w : World) :
    Calls Tryd.prog 16 #[.agg #[.int .i32 f, .int .i32 t, .string n, .string g, .int .i64 c, .string k, .slice A l p]] w fun e w' => e = .returned (.agg #[.int .i32 f, .int .i32 t, .string n, .string g, .int .i64 c, .string k, .slice A l p]) ∧ Below w.heap.size w w' := by
  go_enter Tryd.func16, Tryd.ntmps16
  go_wp2_with fail
  refine bodyPost_ret (v := .agg #[.int .i32 f, .int .i32 t, .string n, .string g, .int .i64 c, .string k, .slice A l p]) (by simp [results, Tryd.results16, go_sem]) rfl ⟨rfl, ((Below.refl _ w).alloc (Nat.le_refl _) _).alloc (by simp) _⟩
theorem one7 (l : List (Rw × Value)) (h : ∀ x ∈ l, ∃ A n c, x.2 = .slice A n c) : ∀ u ∈ rCs l, u.oneCell' = true := by
  intro u hu
  simp only [rCs, List.mem_flatMap] at hu
  obtain ⟨x, hx, hu⟩ := hu
  obtain ⟨A, n, c, e⟩ := h x hx
  simp only [rC, List.mem_cons, List.not_mem_nil, or_false] at hu
  rcases hu with rfl | rfl | rfl | rfl | rfl | rfl | rfl
  all_goals first | rfl | (rw [e]; rfl)
/-- A world behind another one, in a walk's own forms. -/
theorem rwin_grow {w w' : World} {base base2 : Nat} {T : TypeId} {v v2 : Value} {l l2 : List (Rw × Value)} (h : RwIn w base T v l) (h2 : RwIn w base2 T v2 l2) (hT : T ≠ 21) (hg : w.grownBy w' v.ownBlock) (hne : ∀ z, v2.ownBlock = some z → v.ownBlock ≠ some z) : RwIn w' base2 T v2 l2 := by
  refine ⟨?_, fun x hx => KeepT.own (KeepT.grown h.own hT hg) (h2.ints x hx)⟩
  refine ⟨h2.own.1, ?_⟩
  rcases h2.own.2 with h3 | ⟨g, cap, cur, h4, h5, h6, h7⟩
  · exact .inl h3
  · exact .inr ⟨g, cap, cur, h4, h5, (hg.block g (h2.own.lt g (by rw [h4]; rfl)).2 (fun e' => hne g (by rw [h4]; rfl) e'.symm)).trans h6, h7⟩
/-- Both rows, one behind the other, and the third ones beside them. -/
theorem app_rows {w3 w6 : World} {b1 b2 b3 c1 : Nat} {A1 : Option Addr} {v2 v3 v6 : Value} {l1 l2 l3 : List (Rw × Value)} {rs : List Rw} {n1 n2 : Nat} (p1 : RwIn w3 b1 33 (.slice A1 n1 c1) l1) (p2 : RwIn w3 b2 33 v2 l2) (p3 : RwIn w3 b3 33 v3 l3) (hb : b1 ≤ b2) (hn1 : n1 = l1.length) (hn2 : n2 = l2.length)
    (h12 : (l1 ++ l2).map Prod.fst = rs) (h3 : l3.map Prod.fst = rs) (hl : ∀ z, (Value.slice A1 n1 c1).ownBlock = some z → z < b3) (h6 : w6.ownsRow b1 33 7 v6 (n1 + n2) (rCs l1 ++ rCs l2)) (hg : w3.grownBy w6 (Value.slice A1 n1 c1).ownBlock) :
    (∃ A6 c6, v6 = .slice A6 rs.length c6 ∧ Rws w6 A6 rs) ∧ ∃ A3 c3, v3 = .slice A3 rs.length c3 ∧ Rws w6 A3 rs := by
  have k := KeepT.grown (t := 21) p1.own (by decide) hg
  have q6 : RwIn w6 b1 33 v6 (l1 ++ l2) := ⟨by rw [List.length_append, rCs_app, ← hn1, ← hn2]; exact h6, fun x hx => k.own (by
    rcases List.mem_append.1 hx with hx | hx
    · exact p1.ints x hx
    · exact own_low (p2.ints x hx) hb)⟩
  have q3 := rwin_grow p1 p3 (by decide) hg (fun z hz h9 => by have h8 := hl z h9; have h7 := (p3.own.lt z hz).1; omega)
  obtain ⟨A6, c6, e6, r6⟩ := q6.rws
  obtain ⟨A3, c3, e3, r3⟩ := q3.rws
  rw [h12] at e6 r6
  rw [h3] at e3 r3
  exact ⟨⟨A6, c6, e6, r6⟩, ⟨A3, c3, e3, r3⟩⟩
set_option maxRecDepth 100000 in
set_option maxHeartbeats 16000000 in
theorem ucdJoins_walk (s t : ByteArray) (w : World) (hs : s.size ≤ 9223372036854775807) (ht : t.size ≤ 9223372036854775807) (hL : Ml w) : Calls Tryd.prog 6 #[.string s, .string t] w fun e w' => e = .returned (.bool true) ∧ Below w.heap.size w w' := by
  have hpos := hL.pos
  have HFin := Lib.hid (show ∀ w2 : World, Below w.heap.size w w2 → Calls Tryd.prog 7 #[] w2 fun e w' => e = .returned (.bool true) ∧ Below w2.heap.size w2 w' from fun w2 h => Uc.awake_any w2 (hL.below h hpos))
  by_cases h1 : s.size ≤ 2000
  · have g1 : ¬ (2000 : Int) < s.size := by omega
    by_cases h2 : t.size ≤ 2000
    · have g2 : ¬ (2000 : Int) < t.size := by omega
      have hA := rows_any s w hL (by omega)
      have hB := fun W (h : Below w.heap.size w W) => rows_any t W (hL.below h hpos) (by omega)
      obtain ⟨st, hst⟩ : ∃ st : ByteArray, st = s ++ ⟨#[10]⟩ ++ t := ⟨_, rfl⟩
      have hstl : st.data.toList = s.data.toList ++ 10 :: t.data.toList := by rw [hst]; simp
      have hstz : st.size ≤ 4001 := by rw [← lst_len, hstl, List.length_append, List.length_cons, lst_len, lst_len]; omega
      have hC := fun W (h : Below w.heap.size w W) => rows_any st W (hL.below h hpos) (by omega)
      rw [hst] at hC
      have hJ := fun a b h1 h2 => @rws_join s.data.toList t.data.toList a b h1 h2 (by rw [lst_len, lst_len]; omega)
      have hs1 := (rws_sure s.data.toList)
      have hs2 := (rws_sure t.data.toList)
      have hl1 := rws_len5 s.data.toList
      have hl2 := rws_len5 t.data.toList
      rw [← hst, hstl, hst] at hC
      unfold RwsP at hA hB hC
      generalize rwsE s.data.toList = x at *
      generalize rwsE t.data.toList = y at *
      generalize rwsE (s.data.toList ++ 10 :: t.data.toList) = z at *
      obtain ⟨ra, na, ea⟩ := x
      obtain ⟨rb, nb, eb⟩ := y
      simp only at hA hB hl1 hl2
      have HA := Lib.hid hA
      have HB := Lib.hid hB
      have HC := Lib.hid hC
      have HJ := Lib.hid hJ
      have HS1 := Lib.hid hs1
      have HS2 := Lib.hid hs2
      clear hA hB hC hJ hs1 hs2 hL hstl hst hstz
      by_cases h3 : ea = 0
      · subst h3
        by_cases h4 : eb = 0
        · subst h4
          obtain rfl : na = 0 := HS1.out.2.2.2.1 rfl
          obtain rfl : nb = 0 := HS2.out.2.2.2.1 rfl
          obtain ⟨hj1, hj2⟩ := HJ.out ra rb rfl rfl
          have d1 : ¬ 9223372036854775806 < s.size := by omega
          have d2 : ¬ 9223372036854775807 < (s ++ ⟨#[10]⟩).size + t.size := by rw [ByteArray.size_append]; have : (⟨#[10]⟩ : ByteArray).size = 1 := rfl; omega
          have d3 : ¬ 9223372036854775807 < s.size + 1 + t.size := by omega
          have hHD : ∀ (A : Option Addr) (W : World), Rws W A rb → rb ≠ [] → ∃ b off, A = some ⟨b, off, none⟩ ∧ W.cell? ⟨b, off, none⟩ = some (.int .i32 (rb.headD z0).fr) := by
            intro A W h hne
            cases rb with
            | nil => exact absurd rfl hne
            | cons r rb =>
              obtain ⟨b, off, v, e, _, _, h0, _⟩ := h 0 (by simp)
              exact ⟨b, off, e, by simpa using h0⟩
          have hLS : ∀ (A : Option Addr) (W : World), Rws W A ra → ra ≠ [] → ∃ b off, A = some ⟨b, off, none⟩ ∧ W.cell? ⟨b, off + (ra.length - 1) * 7 + 1, none⟩ = some (.int .i32 (lastR ra).tt) := by
            intro A W h hne
            have hlen : ra.length ≠ 0 := fun h9 => hne (List.eq_nil_of_length_eq_zero h9)
            obtain ⟨b, off, v, e, _, _, _, h1, _⟩ := h (ra.length - 1) (by omega)
            refine ⟨b, off, e, ?_⟩
            rw [h1]
            obtain ⟨m, y, rfl⟩ := snoc_of hne
            rw [lastR_snoc]
            simp
          have HHD := Lib.hid hHD
          have HLS := Lib.hid hLS
          clear hHD hLS HJ
          obtain ⟨i0, hi0, hz0, hz1, hz2⟩ := info_parts row_info
          have I0 := Lib.hid hi0
          have I1 := Lib.hid hz0
          have I2 := Lib.hid hz1
          have I3 := Lib.hid hz2
          clear hi0 hz0 hz1 hz2
          by_cases hc : ra ≠ [] ∧ rb ≠ [] ∧ (rb.headD z0).fr ≤ (lastR ra).tt
          · obtain ⟨nz, hnz, rfl⟩ := hj1 hc
            simp only at HC
            obtain ⟨hca, hcb, hle⟩ := hc
            clear hj1 hj2
            go_enter Tryd.func6, Tryd.ntmps6
            go_wp2_with fail
            refine HA.out.mono ?_; rintro e w1 ⟨v1, l1, rfl, hm1, hi1, hb1⟩; have B1 := Lib.hid hb1; have N1 := Lib.hid hi1; have M1 := Lib.hid hm1; clear hb1 hi1 hm1
            obtain ⟨A1, c1, rfl, _⟩ := N1.out.rws
            rw [M1.out] at N1 ⊢
            go_wp2_with fail
            refine (HB.out _ B1.out).mono ?_; rintro e w2 ⟨v2, l2, rfl, hm2, hi2, hb2⟩; have B2 := Lib.hid (B1.out.trans (hb2.mono B1.out.size)); have N2 := Lib.hid hi2; have M2 := Lib.hid hm2; have N1' := Lib.hid (N1.out.below hb2); have z12 : w1.heap.size ≤ w2.heap.size := hb2.size; clear hb2 hi2 hm2
            obtain ⟨A2, c2, rfl, _⟩ := N2.out.rws
            rw [M2.out] at N2 ⊢
            go_wp2_with fail
            refine (HC.out _ B2.out).mono ?_; rintro e w3 ⟨v3, l3, rfl, hm3, hi3, hb3⟩; have B3 := Lib.hid (B2.out.trans (hb3.mono B2.out.size)); have N3 := Lib.hid hi3; have M3 := Lib.hid hm3; have P1 := Lib.hid (N1'.out.below hb3); have P2 := Lib.hid (N2.out.below hb3); have z23 : w2.heap.size ≤ w3.heap.size := hb3.size; have P1l := Lib.hid (fun z hz => (N1'.out.own.lt z hz).2); clear hb3 hi3 hm3
            obtain ⟨A3, c3, rfl, _⟩ := N3.out.rws
            rw [M3.out] at N3 ⊢
            clear HA HB HC N1 N1' N2
            have z01 : w.heap.size ≤ w1.heap.size := B1.out.size
            obtain ⟨A1', c1', e1', q1⟩ := P1.out.rws
            have e1'' : A1' = A1 := by injection e1' with x1 x2 x3; exact x1.symm
            subst e1''
            rw [M1.out] at q1
            obtain ⟨A2', c2', e2', q2⟩ := P2.out.rws
            have e2'' : A2' = A2 := by injection e2' with x1 x2 x3; exact x1.symm
            subst e2''
            rw [M2.out] at q2
            have Q1 := Lib.hid q1
            have Q2 := Lib.hid q2
            clear q1 q2 e1' e2'
            obtain ⟨bb, bo, rfl, cb⟩ := HHD.out _ _ Q2.out hcb
            obtain ⟨ab, ao, rfl, ca⟩ := HLS.out _ _ Q1.out hca
            generalize (rb.headD z0).fr = pb at cb hle
            generalize (lastR ra).tt = qa at ca hle
            have la : 0 < ra.length := List.length_pos_iff.2 hca
            have lb : 0 < rb.length := List.length_pos_iff.2 hcb
            have i1 : (0 : Int) < ra.length := by omega
            have i2 : (0 : Int) < rb.length := by omega
            have j1 : ((ra.length : Int) - 1).toNat = ra.length - 1 := by omega
            have j2 : IntKind.i64.wrap ((ra.length : Int) - 1) = ((ra.length - 1 : Nat) : Int) := by rw [IntKind.wrap_i64]; omega
            have j3 : ((ra.length - 1 : Nat) : Int) < ra.length := by omega
            have j4 : (0 : Int) ≤ ((ra.length - 1 : Nat) : Int) := by omega
            have j5 : (ra.length : Int) - 1 < ra.length := by omega
            have j6 : (0 : Int) ≤ (ra.length : Int) - 1 := by omega
            go_upto_region 8 with fail
            go_quiet (fail)
            have D3 := Lib.hid (show Below w.heap.size w (w3.drewN nq) from bel_drewN B3.out _)
            have n0 : (0 : Int) < nz := by omega
            go_wp2_with fail
            refine (HFin.out _ D3.out).mono ?_
            rintro e w9 ⟨rfl, hb9⟩
            have B9 := Lib.hid (D3.out.trans (hb9.mono D3.out.size))
            clear hb9
            go_wp2_with fail
            go_ret
            exact ⟨rfl, B9.out⟩
          · obtain ⟨rs, hrs⟩ : ∃ rs, rs = ra ++ rb := ⟨_, rfl⟩
            obtain rfl : z = (rs, 0, 0) := by rw [hrs]; exact hj2 hc
            have hrl : rs.length ≤ 8192 := by rw [hrs, List.length_append]; omega
            have HRS := Lib.hid hrs
            have HFS := Lib.hid (show ∀ x ∈ rs, Fin x from fun x hx => by rw [hrs] at hx; rcases List.mem_append.1 hx with hx | hx; exact HS1.out.1 x hx; exact HS2.out.1 x hx)
            simp only at HC
            clear hj1 hj2 hrs
            by_cases hca : ra = []
            · have i1 : ¬ (0 : Int) < ra.length := by rw [hca]; simp
              clear hc i1
              subst hca
              go_enter Tryd.func6, Tryd.ntmps6
              go_wp2_with fail
              refine HA.out.mono ?_; rintro e w1 ⟨v1, l1, rfl, hm1, hi1, hb1⟩; have B1 := Lib.hid hb1; have N1 := Lib.hid hi1; have M1 := Lib.hid hm1; clear hb1 hi1 hm1
              obtain ⟨A1, c1, rfl, _⟩ := N1.out.rws
              rw [M1.out] at N1 ⊢
              go_wp2_with fail
              refine (HB.out _ B1.out).mono ?_; rintro e w2 ⟨v2, l2, rfl, hm2, hi2, hb2⟩; have B2 := Lib.hid (B1.out.trans (hb2.mono B1.out.size)); have N2 := Lib.hid hi2; have M2 := Lib.hid hm2; have N1' := Lib.hid (N1.out.below hb2); have z12 : w1.heap.size ≤ w2.heap.size := hb2.size; clear hb2 hi2 hm2
              obtain ⟨A2, c2, rfl, _⟩ := N2.out.rws
              rw [M2.out] at N2 ⊢
              go_wp2_with fail
              refine (HC.out _ B2.out).mono ?_; rintro e w3 ⟨v3, l3, rfl, hm3, hi3, hb3⟩; have B3 := Lib.hid (B2.out.trans (hb3.mono B2.out.size)); have N3 := Lib.hid hi3; have M3 := Lib.hid hm3; have P1 := Lib.hid (N1'.out.below hb3); have P2 := Lib.hid (N2.out.below hb3); have z23 : w2.heap.size ≤ w3.heap.size := hb3.size; have P1l := Lib.hid (fun z hz => (N1'.out.own.lt z hz).2); clear hb3 hi3 hm3
              obtain ⟨A3, c3, rfl, _⟩ := N3.out.rws
              rw [M3.out] at N3 ⊢
              clear HA HB HC N1 N1' N2
              have z01 : w.heap.size ≤ w1.heap.size := B1.out.size
              obtain ⟨A1', c1', e1', q1⟩ := P1.out.rws
              have e1'' : A1' = A1 := by injection e1' with x1 x2 x3; exact x1.symm
              subst e1''
              rw [M1.out] at q1
              obtain ⟨A2', c2', e2', q2⟩ := P2.out.rws
              have e2'' : A2' = A2 := by injection e2' with x1 x2 x3; exact x1.symm
              subst e2''
              rw [M2.out] at q2
              have Q1 := Lib.hid q1
              have Q2 := Lib.hid q2
              clear q1 q2 e1' e2'
              go_upto_region 8 with fail
              go_quiet (fail)
              have D3 := Lib.hid (show Below w.heap.size w (w3.drewN nq) from bel_drewN B3.out _)
              have P1d := Lib.hid (P1.out.below (bel_drewN (Below.refl _ w3) nq))
              have P2d := Lib.hid (P2.out.below (bel_drewN (Below.refl _ w3) nq))
              have P3d := Lib.hid (N3.out.below (bel_drewN (Below.refl _ w3) nq))
              have z34 : w3.heap.size = (w3.drewN nq).heap.size := rfl
              have l1e : ([] : List Rw).length = l1.length := by rw [← M1.out, List.length_map]
              have l2e : rb.length = l2.length := by rw [← M2.out, List.length_map]
              have HMM := Lib.hid (show (l1 ++ l2).map Prod.fst = rs by rw [List.map_append, M1.out, M2.out, HRS.out])
              have hO1 := P1d.out.own
              rw [← l1e] at hO1
              have hO2 := P2d.out.own
              rw [← l2e] at hO2
              have O1 := Lib.hid (show (w3.drewN nq).ownsRow w.heap.size 33 7 (.slice A1' 0 c1) 0 (rCs l1) from hO1)
              have O2 := Lib.hid (show (w3.drewN nq).ownsRow w1.heap.size 33 7 (.slice A2' rb.length c2) rb.length (rCs l2) from hO2)
              have L1 := Lib.hid (show 0 = l1.length from l1e)
              have L2 := Lib.hid (show rb.length = l2.length from l2e)
              have ON := Lib.hid (one7 l2 (fun x hx => by obtain ⟨A, c, e, _⟩ := own_ints (P2.out.ints x hx); exact ⟨A, _, c, e⟩))
              clear hO1 hO2 l1e l2e P1 P2 N3 B3 Q1 Q2
              generalize w3.drewN nq = w4 at *
              have e9 : ((rs.length : Int) != rs.length) = false := by simp
              go_wp2_with (at_builtin; refine wpList_append_row rfl (.tmp 88) (.tmp 89) _ rfl w.heap.size 33 i0 _ 7 88 Tryd.underlying23 I0.out I1.out I2.out I3.out rfl (by omega) (.slice A1' 0 c1) 0 _ rfl O1.out w1.heap.size (.slice A2' rb.length c2) rb.length _ rfl O2.out ON.out (by unfold maxLen; omega) (by omega) (by omega) ?_; intro v6 w6 ho6 hg6 ha6; obtain ⟨⟨A6, c6, rfl, hr6⟩, ⟨A7, c7, e7, hr7⟩⟩ := app_rows (show RwIn w4 w.heap.size 33 (.slice A1' 0 c1) l1 from P1d.out) P2d.out P3d.out (by omega) L1.out L2.out HMM.out M3.out P1l.out ho6 hg6; have R6 := Lib.hid hr6; have e8 : A7 = A3 := (by injection e7 with x1 x2 x3; exact x1.symm); subst e8; have R7 := Lib.hid hr7; have D6 := Lib.hid (D3.out.grown hg6 (by omega) (fun z hz => (O1.out.lt z hz).1)); clear ho6 hg6 ha6 hr6 hr7 e7)
              clear O1 O2 P1d P2d P3d
              clear HHD HLS I0 I1 I2 I3 ON L1 L2 HMM M1 M2 M3 P1l
              go_loopw [14] (fun i wr => ∃ k : Nat, i = .int .i64 k ∧ k ≤ rs.length ∧ Hid (Below w6.heap.size w6 wr)) (fun i _ => rs.length - (intOf i).toNat)
              case atStart => exact ⟨0, rfl, by omega, Below.refl _ _⟩
              case round =>
                obtain ⟨k, rfl, hk, HQ⟩ := hrel
                by_cases hlt : k < rs.length
                · obtain ⟨b, off, v, rfl, hb, hv, p0, p1, p2, p3, p4, p5, p6⟩ := (R6.out.below HQ.out) k hlt
                  obtain ⟨b2, off2, v2, rfl, hb2, hv2, r0, r1, r2, r3, r4, r5, r6⟩ := (R7.out.below HQ.out) k hlt
                  have hin := (HFS.out rs[k] (List.getElem_mem hlt)).into
                  generalize rs[k] = y at *
                  obtain ⟨f, tt, nm, ct, cl, kd, into⟩ := y
                  obtain ⟨A3, c3, rfl, hi3⟩ := hv
                  obtain ⟨A4, c4, rfl, hi4⟩ := hv2
                  simp only at p0 p1 p2 p3 p4 p5 p6 r0 r1 r2 r3 r4 r5 r6 hi3 hi4 hin
                  have g2 : (k : Int) < rs.length := by omega
                  have HCl := Lib.hid (show ∀ W, Below wr.heap.size wr W → (W.cell? ⟨b, off + k * 7, none⟩ = some (.int .i32 f) ∧ W.cell? ⟨b, off + k * 7 + 1, none⟩ = some (.int .i32 tt) ∧ W.cell? ⟨b, off + k * 7 + 2, none⟩ = some (.string ⟨nm.toArray⟩) ∧ W.cell? ⟨b, off + k * 7 + 3, none⟩ = some (.string ⟨ct.toArray⟩) ∧ W.cell? ⟨b, off + k * 7 + 4, none⟩ = some (.int .i64 cl) ∧ W.cell? ⟨b, off + k * 7 + 5, none⟩ = some (.string ⟨kd.toArray⟩) ∧ W.cell? ⟨b, off + k * 7 + 6, none⟩ = some (.slice A3 into.length c3) ∧ W.cell? ⟨b2, off2 + k * 7, none⟩ = some (.int .i32 f) ∧ W.cell? ⟨b2, off2 + k * 7 + 1, none⟩ = some (.int .i32 tt) ∧ W.cell? ⟨b2, off2 + k * 7 + 2, none⟩ = some (.string ⟨nm.toArray⟩) ∧ W.cell? ⟨b2, off2 + k * 7 + 3, none⟩ = some (.string ⟨ct.toArray⟩) ∧ W.cell? ⟨b2, off2 + k * 7 + 4, none⟩ = some (.int .i64 cl) ∧ W.cell? ⟨b2, off2 + k * 7 + 5, none⟩ = some (.string ⟨kd.toArray⟩) ∧ W.cell? ⟨b2, off2 + k * 7 + 6, none⟩ = some (.slice A4 into.length c4)) from fun W h9 => ⟨(h9.cell (p := ⟨b, off + k * 7, none⟩) hb).trans p0, (h9.cell (p := ⟨b, off + k * 7 + 1, none⟩) hb).trans p1, (h9.cell (p := ⟨b, off + k * 7 + 2, none⟩) hb).trans p2, (h9.cell (p := ⟨b, off + k * 7 + 3, none⟩) hb).trans p3, (h9.cell (p := ⟨b, off + k * 7 + 4, none⟩) hb).trans p4, (h9.cell (p := ⟨b, off + k * 7 + 5, none⟩) hb).trans p5, (h9.cell (p := ⟨b, off + k * 7 + 6, none⟩) hb).trans p6, (h9.cell (p := ⟨b2, off2 + k * 7, none⟩) hb2).trans r0, (h9.cell (p := ⟨b2, off2 + k * 7 + 1, none⟩) hb2).trans r1, (h9.cell (p := ⟨b2, off2 + k * 7 + 2, none⟩) hb2).trans r2, (h9.cell (p := ⟨b2, off2 + k * 7 + 3, none⟩) hb2).trans r3, (h9.cell (p := ⟨b2, off2 + k * 7 + 4, none⟩) hb2).trans r4, (h9.cell (p := ⟨b2, off2 + k * 7 + 5, none⟩) hb2).trans r5, (h9.cell (p := ⟨b2, off2 + k * 7 + 6, none⟩) hb2).trans r6⟩)
                  have hS := fun W (h9 : Below wr.heap.size wr W) => same_any f tt cl ⟨nm.toArray⟩ ⟨ct.toArray⟩ ⟨kd.toArray⟩ A3 A4 c3 c4 into W (hi3.below h9) (hi4.below h9) (by omega)
                  have hP := fun W => plain_any f tt cl ⟨nm.toArray⟩ ⟨ct.toArray⟩ ⟨kd.toArray⟩ A4 into.length c4 W
                  have HS := Lib.hid hS
                  have HP := Lib.hid hP
                  clear hS hP hi3 hi4 hin
                  go_upto_region 16 with fail
                  go_region_held3 (fun W => (W.cell? ⟨b, off + k * 7, none⟩ = some (.int .i32 f) ∧ W.cell? ⟨b, off + k * 7 + 1, none⟩ = some (.int .i32 tt) ∧ W.cell? ⟨b, off + k * 7 + 2, none⟩ = some (.string ⟨nm.toArray⟩) ∧ W.cell? ⟨b, off + k * 7 + 3, none⟩ = some (.string ⟨ct.toArray⟩) ∧ W.cell? ⟨b, off + k * 7 + 4, none⟩ = some (.int .i64 cl) ∧ W.cell? ⟨b, off + k * 7 + 5, none⟩ = some (.string ⟨kd.toArray⟩) ∧ W.cell? ⟨b, off + k * 7 + 6, none⟩ = some (.slice A3 into.length c3) ∧ W.cell? ⟨b2, off2 + k * 7, none⟩ = some (.int .i32 f) ∧ W.cell? ⟨b2, off2 + k * 7 + 1, none⟩ = some (.int .i32 tt) ∧ W.cell? ⟨b2, off2 + k * 7 + 2, none⟩ = some (.string ⟨nm.toArray⟩) ∧ W.cell? ⟨b2, off2 + k * 7 + 3, none⟩ = some (.string ⟨ct.toArray⟩) ∧ W.cell? ⟨b2, off2 + k * 7 + 4, none⟩ = some (.int .i64 cl) ∧ W.cell? ⟨b2, off2 + k * 7 + 5, none⟩ = some (.string ⟨kd.toArray⟩) ∧ W.cell? ⟨b2, off2 + k * 7 + 6, none⟩ = some (.slice A4 into.length c4)))
                    (first
                      | go_keep
                      | exact HCl.out _ E7.out
                      | exact HCl.out _ E8.out)
                    (first
                      | (go_at_call 16; refine (HP.out _).mono ?_; rintro e w7 ⟨rfl, hb7⟩; have E7 := Lib.hid (show Below wr.heap.size wr w7 from Below.trans (by repeat (first | exact Below.refl _ _ | refine Below.drew ?_)) (hb7.mono (by simp))); clear hb7)
                      | (go_at_call 10; refine (HS.out _ (by repeat (first | exact E7.out | refine Below.drew ?_))).mono ?_; rintro e w8 ⟨rfl, hb8⟩; have E8 := Lib.hid (show Below wr.heap.size wr w8 from E7.out.trans (hb8.mono E7.out.size)); clear hb8))
                  all_goals
                    go_wp2_with fail
                    go_roundw
                    case rel => exact ⟨k + 1, by go_num, by omega, HQ.out.trans (E8.out.mono HQ.out.size)⟩
                    case measure => simp [intOf] <;> omega
                · have g2 : ¬ (k : Int) < rs.length := by omega
                  have D7 := Lib.hid (D6.out.trans (HQ.out.mono D6.out.size))
                  clear HQ
                  go_wp2_with fail
                  refine (HFin.out _ D7.out).mono ?_
                  rintro e w9 ⟨rfl, hb9⟩
                  have B9 := Lib.hid (D7.out.trans (hb9.mono D7.out.size))
                  clear hb9
                  go_wp2_with fail
                  go_ret
                  exact ⟨rfl, B9.out⟩
            · by_cases hcb : rb = []
              · have la : 0 < ra.length := List.length_pos_iff.2 hca
                have i1 : (0 : Int) < ra.length := by omega
                have i2 : decide ((0 : Int) < (([] : List Rw).length : Int)) = false := by decide
                have i3 : decide ((0 : Int) < 0) = false := by decide
                clear hc
                subst hcb
                go_enter Tryd.func6, Tryd.ntmps6
                go_wp2_with fail
                refine HA.out.mono ?_; rintro e w1 ⟨v1, l1, rfl, hm1, hi1, hb1⟩; have B1 := Lib.hid hb1; have N1 := Lib.hid hi1; have M1 := Lib.hid hm1; clear hb1 hi1 hm1
                obtain ⟨A1, c1, rfl, _⟩ := N1.out.rws
                rw [M1.out] at N1 ⊢
                go_wp2_with fail
                refine (HB.out _ B1.out).mono ?_; rintro e w2 ⟨v2, l2, rfl, hm2, hi2, hb2⟩; have B2 := Lib.hid (B1.out.trans (hb2.mono B1.out.size)); have N2 := Lib.hid hi2; have M2 := Lib.hid hm2; have N1' := Lib.hid (N1.out.below hb2); have z12 : w1.heap.size ≤ w2.heap.size := hb2.size; clear hb2 hi2 hm2
                obtain ⟨A2, c2, rfl, _⟩ := N2.out.rws
                rw [M2.out] at N2 ⊢
                go_wp2_with fail
                refine (HC.out _ B2.out).mono ?_; rintro e w3 ⟨v3, l3, rfl, hm3, hi3, hb3⟩; have B3 := Lib.hid (B2.out.trans (hb3.mono B2.out.size)); have N3 := Lib.hid hi3; have M3 := Lib.hid hm3; have P1 := Lib.hid (N1'.out.below hb3); have P2 := Lib.hid (N2.out.below hb3); have z23 : w2.heap.size ≤ w3.heap.size := hb3.size; have P1l := Lib.hid (fun z hz => (N1'.out.own.lt z hz).2); clear hb3 hi3 hm3
                obtain ⟨A3, c3, rfl, _⟩ := N3.out.rws
                rw [M3.out] at N3 ⊢
                clear HA HB HC N1 N1' N2
                have z01 : w.heap.size ≤ w1.heap.size := B1.out.size
                obtain ⟨A1', c1', e1', q1⟩ := P1.out.rws
                have e1'' : A1' = A1 := by injection e1' with x1 x2 x3; exact x1.symm
                subst e1''
                rw [M1.out] at q1
                obtain ⟨A2', c2', e2', q2⟩ := P2.out.rws
                have e2'' : A2' = A2 := by injection e2' with x1 x2 x3; exact x1.symm
                subst e2''
                rw [M2.out] at q2
                have Q1 := Lib.hid q1
                have Q2 := Lib.hid q2
                clear q1 q2 e1' e2'
                have i4 : decide (0 < (ra.length : Int)) = true := by simpa using la
                go_upto_region 8 with fail
                go_quiet (fail)
                have D3 := Lib.hid (show Below w.heap.size w (w3.drewN nq) from bel_drewN B3.out _)
                have P1d := Lib.hid (P1.out.below (bel_drewN (Below.refl _ w3) nq))
                have P2d := Lib.hid (P2.out.below (bel_drewN (Below.refl _ w3) nq))
                have P3d := Lib.hid (N3.out.below (bel_drewN (Below.refl _ w3) nq))
                have z34 : w3.heap.size = (w3.drewN nq).heap.size := rfl
                have l1e : ra.length = l1.length := by rw [← M1.out, List.length_map]
                have l2e : ([] : List Rw).length = l2.length := by rw [← M2.out, List.length_map]
                have HMM := Lib.hid (show (l1 ++ l2).map Prod.fst = rs by rw [List.map_append, M1.out, M2.out, HRS.out])
                have hO1 := P1d.out.own
                rw [← l1e] at hO1
                have hO2 := P2d.out.own
                rw [← l2e] at hO2
                have O1 := Lib.hid (show (w3.drewN nq).ownsRow w.heap.size 33 7 (.slice A1' ra.length c1) ra.length (rCs l1) from hO1)
                have O2 := Lib.hid (show (w3.drewN nq).ownsRow w1.heap.size 33 7 (.slice A2' 0 c2) 0 (rCs l2) from hO2)
                have L1 := Lib.hid (show ra.length = l1.length from l1e)
                have L2 := Lib.hid (show 0 = l2.length from l2e)
                have ON := Lib.hid (one7 l2 (fun x hx => by obtain ⟨A, c, e, _⟩ := own_ints (P2.out.ints x hx); exact ⟨A, _, c, e⟩))
                clear hO1 hO2 l1e l2e P1 P2 N3 B3 Q1 Q2 i1 i2 i3
                generalize w3.drewN nq = w4 at *
                have e9 : ((rs.length : Int) != rs.length) = false := by simp
                go_wp2_with (at_builtin; refine wpList_append_row rfl (.tmp 88) (.tmp 89) _ rfl w.heap.size 33 i0 _ 7 88 Tryd.underlying23 I0.out I1.out I2.out I3.out rfl (by omega) (.slice A1' ra.length c1) ra.length _ rfl O1.out w1.heap.size (.slice A2' 0 c2) 0 _ rfl O2.out ON.out (by unfold maxLen; omega) (by omega) (by omega) ?_; intro v6 w6 ho6 hg6 ha6; obtain ⟨⟨A6, c6, rfl, hr6⟩, ⟨A7, c7, e7, hr7⟩⟩ := app_rows P1d.out P2d.out P3d.out (by omega) L1.out L2.out HMM.out M3.out P1l.out ho6 hg6; have R6 := Lib.hid hr6; have e8 : A7 = A3 := (by injection e7 with x1 x2 x3; exact x1.symm); subst e8; have R7 := Lib.hid hr7; have D6 := Lib.hid (D3.out.grown hg6 (by omega) (fun z hz => (O1.out.lt z hz).1)); clear ho6 hg6 ha6 hr6 hr7 e7)
                clear O1 O2 P1d P2d P3d
                clear HHD HLS I0 I1 I2 I3 ON L1 L2 HMM M1 M2 M3 P1l
                go_loopw [14] (fun i wr => ∃ k : Nat, i = .int .i64 k ∧ k ≤ rs.length ∧ Hid (Below w6.heap.size w6 wr)) (fun i _ => rs.length - (intOf i).toNat)
                case atStart => exact ⟨0, rfl, by omega, Below.refl _ _⟩
                case round =>
                  obtain ⟨k, rfl, hk, HQ⟩ := hrel
                  by_cases hlt : k < rs.length
                  · obtain ⟨b, off, v, rfl, hb, hv, p0, p1, p2, p3, p4, p5, p6⟩ := (R6.out.below HQ.out) k hlt
                    obtain ⟨b2, off2, v2, rfl, hb2, hv2, r0, r1, r2, r3, r4, r5, r6⟩ := (R7.out.below HQ.out) k hlt
                    have hin := (HFS.out rs[k] (List.getElem_mem hlt)).into
                    generalize rs[k] = y at *
                    obtain ⟨f, tt, nm, ct, cl, kd, into⟩ := y
                    obtain ⟨A3, c3, rfl, hi3⟩ := hv
                    obtain ⟨A4, c4, rfl, hi4⟩ := hv2
                    simp only at p0 p1 p2 p3 p4 p5 p6 r0 r1 r2 r3 r4 r5 r6 hi3 hi4 hin
                    have g2 : (k : Int) < rs.length := by omega
                    have HCl := Lib.hid (show ∀ W, Below wr.heap.size wr W → (W.cell? ⟨b, off + k * 7, none⟩ = some (.int .i32 f) ∧ W.cell? ⟨b, off + k * 7 + 1, none⟩ = some (.int .i32 tt) ∧ W.cell? ⟨b, off + k * 7 + 2, none⟩ = some (.string ⟨nm.toArray⟩) ∧ W.cell? ⟨b, off + k * 7 + 3, none⟩ = some (.string ⟨ct.toArray⟩) ∧ W.cell? ⟨b, off + k * 7 + 4, none⟩ = some (.int .i64 cl) ∧ W.cell? ⟨b, off + k * 7 + 5, none⟩ = some (.string ⟨kd.toArray⟩) ∧ W.cell? ⟨b, off + k * 7 + 6, none⟩ = some (.slice A3 into.length c3) ∧ W.cell? ⟨b2, off2 + k * 7, none⟩ = some (.int .i32 f) ∧ W.cell? ⟨b2, off2 + k * 7 + 1, none⟩ = some (.int .i32 tt) ∧ W.cell? ⟨b2, off2 + k * 7 + 2, none⟩ = some (.string ⟨nm.toArray⟩) ∧ W.cell? ⟨b2, off2 + k * 7 + 3, none⟩ = some (.string ⟨ct.toArray⟩) ∧ W.cell? ⟨b2, off2 + k * 7 + 4, none⟩ = some (.int .i64 cl) ∧ W.cell? ⟨b2, off2 + k * 7 + 5, none⟩ = some (.string ⟨kd.toArray⟩) ∧ W.cell? ⟨b2, off2 + k * 7 + 6, none⟩ = some (.slice A4 into.length c4)) from fun W h9 => ⟨(h9.cell (p := ⟨b, off + k * 7, none⟩) hb).trans p0, (h9.cell (p := ⟨b, off + k * 7 + 1, none⟩) hb).trans p1, (h9.cell (p := ⟨b, off + k * 7 + 2, none⟩) hb).trans p2, (h9.cell (p := ⟨b, off + k * 7 + 3, none⟩) hb).trans p3, (h9.cell (p := ⟨b, off + k * 7 + 4, none⟩) hb).trans p4, (h9.cell (p := ⟨b, off + k * 7 + 5, none⟩) hb).trans p5, (h9.cell (p := ⟨b, off + k * 7 + 6, none⟩) hb).trans p6, (h9.cell (p := ⟨b2, off2 + k * 7, none⟩) hb2).trans r0, (h9.cell (p := ⟨b2, off2 + k * 7 + 1, none⟩) hb2).trans r1, (h9.cell (p := ⟨b2, off2 + k * 7 + 2, none⟩) hb2).trans r2, (h9.cell (p := ⟨b2, off2 + k * 7 + 3, none⟩) hb2).trans r3, (h9.cell (p := ⟨b2, off2 + k * 7 + 4, none⟩) hb2).trans r4, (h9.cell (p := ⟨b2, off2 + k * 7 + 5, none⟩) hb2).trans r5, (h9.cell (p := ⟨b2, off2 + k * 7 + 6, none⟩) hb2).trans r6⟩)
                    have hS := fun W (h9 : Below wr.heap.size wr W) => same_any f tt cl ⟨nm.toArray⟩ ⟨ct.toArray⟩ ⟨kd.toArray⟩ A3 A4 c3 c4 into W (hi3.below h9) (hi4.below h9) (by omega)
                    have hP := fun W => plain_any f tt cl ⟨nm.toArray⟩ ⟨ct.toArray⟩ ⟨kd.toArray⟩ A4 into.length c4 W
                    have HS := Lib.hid hS
                    have HP := Lib.hid hP
                    clear hS hP hi3 hi4 hin
                    go_upto_region 16 with fail
                    go_region_held3 (fun W => (W.cell? ⟨b, off + k * 7, none⟩ = some (.int .i32 f) ∧ W.cell? ⟨b, off + k * 7 + 1, none⟩ = some (.int .i32 tt) ∧ W.cell? ⟨b, off + k * 7 + 2, none⟩ = some (.string ⟨nm.toArray⟩) ∧ W.cell? ⟨b, off + k * 7 + 3, none⟩ = some (.string ⟨ct.toArray⟩) ∧ W.cell? ⟨b, off + k * 7 + 4, none⟩ = some (.int .i64 cl) ∧ W.cell? ⟨b, off + k * 7 + 5, none⟩ = some (.string ⟨kd.toArray⟩) ∧ W.cell? ⟨b, off + k * 7 + 6, none⟩ = some (.slice A3 into.length c3) ∧ W.cell? ⟨b2, off2 + k * 7, none⟩ = some (.int .i32 f) ∧ W.cell? ⟨b2, off2 + k * 7 + 1, none⟩ = some (.int .i32 tt) ∧ W.cell? ⟨b2, off2 + k * 7 + 2, none⟩ = some (.string ⟨nm.toArray⟩) ∧ W.cell? ⟨b2, off2 + k * 7 + 3, none⟩ = some (.string ⟨ct.toArray⟩) ∧ W.cell? ⟨b2, off2 + k * 7 + 4, none⟩ = some (.int .i64 cl) ∧ W.cell? ⟨b2, off2 + k * 7 + 5, none⟩ = some (.string ⟨kd.toArray⟩) ∧ W.cell? ⟨b2, off2 + k * 7 + 6, none⟩ = some (.slice A4 into.length c4)))
                      (first
                        | go_keep
                        | exact HCl.out _ E7.out
                        | exact HCl.out _ E8.out)
                      (first
                        | (go_at_call 16; refine (HP.out _).mono ?_; rintro e w7 ⟨rfl, hb7⟩; have E7 := Lib.hid (show Below wr.heap.size wr w7 from Below.trans (by repeat (first | exact Below.refl _ _ | refine Below.drew ?_)) (hb7.mono (by simp))); clear hb7)
                        | (go_at_call 10; refine (HS.out _ (by repeat (first | exact E7.out | refine Below.drew ?_))).mono ?_; rintro e w8 ⟨rfl, hb8⟩; have E8 := Lib.hid (show Below wr.heap.size wr w8 from E7.out.trans (hb8.mono E7.out.size)); clear hb8))
                    all_goals
                      go_wp2_with fail
                      go_roundw
                      case rel => exact ⟨k + 1, by go_num, by omega, HQ.out.trans (E8.out.mono HQ.out.size)⟩
                      case measure => simp [intOf] <;> omega
                  · have g2 : ¬ (k : Int) < rs.length := by omega
                    have D7 := Lib.hid (D6.out.trans (HQ.out.mono D6.out.size))
                    clear HQ
                    go_wp2_with fail
                    refine (HFin.out _ D7.out).mono ?_
                    rintro e w9 ⟨rfl, hb9⟩
                    have B9 := Lib.hid (D7.out.trans (hb9.mono D7.out.size))
                    clear hb9
                    go_wp2_with fail
                    go_ret
                    exact ⟨rfl, B9.out⟩
              · have hle : ¬ (rb.headD z0).fr ≤ (lastR ra).tt := fun h9 => hc ⟨hca, hcb, h9⟩
                clear hc
                go_enter Tryd.func6, Tryd.ntmps6
                go_wp2_with fail
                refine HA.out.mono ?_; rintro e w1 ⟨v1, l1, rfl, hm1, hi1, hb1⟩; have B1 := Lib.hid hb1; have N1 := Lib.hid hi1; have M1 := Lib.hid hm1; clear hb1 hi1 hm1
                obtain ⟨A1, c1, rfl, _⟩ := N1.out.rws
                rw [M1.out] at N1 ⊢
                go_wp2_with fail
                refine (HB.out _ B1.out).mono ?_; rintro e w2 ⟨v2, l2, rfl, hm2, hi2, hb2⟩; have B2 := Lib.hid (B1.out.trans (hb2.mono B1.out.size)); have N2 := Lib.hid hi2; have M2 := Lib.hid hm2; have N1' := Lib.hid (N1.out.below hb2); have z12 : w1.heap.size ≤ w2.heap.size := hb2.size; clear hb2 hi2 hm2
                obtain ⟨A2, c2, rfl, _⟩ := N2.out.rws
                rw [M2.out] at N2 ⊢
                go_wp2_with fail
                refine (HC.out _ B2.out).mono ?_; rintro e w3 ⟨v3, l3, rfl, hm3, hi3, hb3⟩; have B3 := Lib.hid (B2.out.trans (hb3.mono B2.out.size)); have N3 := Lib.hid hi3; have M3 := Lib.hid hm3; have P1 := Lib.hid (N1'.out.below hb3); have P2 := Lib.hid (N2.out.below hb3); have z23 : w2.heap.size ≤ w3.heap.size := hb3.size; have P1l := Lib.hid (fun z hz => (N1'.out.own.lt z hz).2); clear hb3 hi3 hm3
                obtain ⟨A3, c3, rfl, _⟩ := N3.out.rws
                rw [M3.out] at N3 ⊢
                clear HA HB HC N1 N1' N2
                have z01 : w.heap.size ≤ w1.heap.size := B1.out.size
                obtain ⟨A1', c1', e1', q1⟩ := P1.out.rws
                have e1'' : A1' = A1 := by injection e1' with x1 x2 x3; exact x1.symm
                subst e1''
                rw [M1.out] at q1
                obtain ⟨A2', c2', e2', q2⟩ := P2.out.rws
                have e2'' : A2' = A2 := by injection e2' with x1 x2 x3; exact x1.symm
                subst e2''
                rw [M2.out] at q2
                have Q1 := Lib.hid q1
                have Q2 := Lib.hid q2
                clear q1 q2 e1' e2'
                obtain ⟨bb, bo, rfl, cb⟩ := HHD.out _ _ Q2.out hcb
                obtain ⟨ab, ao, rfl, ca⟩ := HLS.out _ _ Q1.out hca
                generalize (rb.headD z0).fr = pb at cb hle
                generalize (lastR ra).tt = qa at ca hle
                have la : 0 < ra.length := List.length_pos_iff.2 hca
                have lb : 0 < rb.length := List.length_pos_iff.2 hcb
                have i1 : (0 : Int) < ra.length := by omega
                have i2 : (0 : Int) < rb.length := by omega
                have j1 : ((ra.length : Int) - 1).toNat = ra.length - 1 := by omega
                have j2 : IntKind.i64.wrap ((ra.length : Int) - 1) = ((ra.length - 1 : Nat) : Int) := by rw [IntKind.wrap_i64]; omega
                have j3 : ((ra.length - 1 : Nat) : Int) < ra.length := by omega
                have j4 : (0 : Int) ≤ ((ra.length - 1 : Nat) : Int) := by omega
                have j5 : (ra.length : Int) - 1 < ra.length := by omega
                have j6 : (0 : Int) ≤ (ra.length : Int) - 1 := by omega
                go_upto_region 8 with fail
                go_quiet (fail)
                have D3 := Lib.hid (show Below w.heap.size w (w3.drewN nq) from bel_drewN B3.out _)
                have P1d := Lib.hid (P1.out.below (bel_drewN (Below.refl _ w3) nq))
                have P2d := Lib.hid (P2.out.below (bel_drewN (Below.refl _ w3) nq))
                have P3d := Lib.hid (N3.out.below (bel_drewN (Below.refl _ w3) nq))
                have z34 : w3.heap.size = (w3.drewN nq).heap.size := rfl
                have l1e : ra.length = l1.length := by rw [← M1.out, List.length_map]
                have l2e : rb.length = l2.length := by rw [← M2.out, List.length_map]
                have HMM := Lib.hid (show (l1 ++ l2).map Prod.fst = rs by rw [List.map_append, M1.out, M2.out, HRS.out])
                have hO1 := P1d.out.own
                rw [← l1e] at hO1
                have hO2 := P2d.out.own
                rw [← l2e] at hO2
                have O1 := Lib.hid (show (w3.drewN nq).ownsRow w.heap.size 33 7 (.slice (some ⟨ab, ao, none⟩) ra.length c1) ra.length (rCs l1) from hO1)
                have O2 := Lib.hid (show (w3.drewN nq).ownsRow w1.heap.size 33 7 (.slice (some ⟨bb, bo, none⟩) rb.length c2) rb.length (rCs l2) from hO2)
                have L1 := Lib.hid (show ra.length = l1.length from l1e)
                have L2 := Lib.hid (show rb.length = l2.length from l2e)
                have ON := Lib.hid (one7 l2 (fun x hx => by obtain ⟨A, c, e, _⟩ := own_ints (P2.out.ints x hx); exact ⟨A, _, c, e⟩))
                clear hO1 hO2 l1e l2e P1 P2 N3 B3 Q1 Q2 i1 i2 j1 j2 j3 j4 j5 j6 ca cb
                generalize w3.drewN nq = w4 at *
                have e9 : ((rs.length : Int) != rs.length) = false := by simp
                go_wp2_with (at_builtin; refine wpList_append_row rfl (.tmp 88) (.tmp 89) _ rfl w.heap.size 33 i0 _ 7 88 Tryd.underlying23 I0.out I1.out I2.out I3.out rfl (by omega) (.slice (some ⟨ab, ao, none⟩) ra.length c1) ra.length _ rfl O1.out w1.heap.size (.slice (some ⟨bb, bo, none⟩) rb.length c2) rb.length _ rfl O2.out ON.out (by unfold maxLen; omega) (by omega) (by omega) ?_; intro v6 w6 ho6 hg6 ha6; obtain ⟨⟨A6, c6, rfl, hr6⟩, ⟨A7, c7, e7, hr7⟩⟩ := app_rows P1d.out P2d.out P3d.out (by omega) L1.out L2.out HMM.out M3.out P1l.out ho6 hg6; have R6 := Lib.hid hr6; have e8 : A7 = A3 := (by injection e7 with x1 x2 x3; exact x1.symm); subst e8; have R7 := Lib.hid hr7; have D6 := Lib.hid (D3.out.grown hg6 (by omega) (fun z hz => (O1.out.lt z hz).1)); clear ho6 hg6 ha6 hr6 hr7 e7)
                clear O1 O2 P1d P2d P3d
                clear HHD HLS I0 I1 I2 I3 ON L1 L2 HMM M1 M2 M3 P1l
                go_loopw [14] (fun i wr => ∃ k : Nat, i = .int .i64 k ∧ k ≤ rs.length ∧ Hid (Below w6.heap.size w6 wr)) (fun i _ => rs.length - (intOf i).toNat)
                case atStart => exact ⟨0, rfl, by omega, Below.refl _ _⟩
                case round =>
                  obtain ⟨k, rfl, hk, HQ⟩ := hrel
                  by_cases hlt : k < rs.length
                  · obtain ⟨b, off, v, rfl, hb, hv, p0, p1, p2, p3, p4, p5, p6⟩ := (R6.out.below HQ.out) k hlt
                    obtain ⟨b2, off2, v2, rfl, hb2, hv2, r0, r1, r2, r3, r4, r5, r6⟩ := (R7.out.below HQ.out) k hlt
                    have hin := (HFS.out rs[k] (List.getElem_mem hlt)).into
                    generalize rs[k] = y at *
                    obtain ⟨f, tt, nm, ct, cl, kd, into⟩ := y
                    obtain ⟨A3, c3, rfl, hi3⟩ := hv
                    obtain ⟨A4, c4, rfl, hi4⟩ := hv2
                    simp only at p0 p1 p2 p3 p4 p5 p6 r0 r1 r2 r3 r4 r5 r6 hi3 hi4 hin
                    have g2 : (k : Int) < rs.length := by omega
                    have HCl := Lib.hid (show ∀ W, Below wr.heap.size wr W → (W.cell? ⟨b, off + k * 7, none⟩ = some (.int .i32 f) ∧ W.cell? ⟨b, off + k * 7 + 1, none⟩ = some (.int .i32 tt) ∧ W.cell? ⟨b, off + k * 7 + 2, none⟩ = some (.string ⟨nm.toArray⟩) ∧ W.cell? ⟨b, off + k * 7 + 3, none⟩ = some (.string ⟨ct.toArray⟩) ∧ W.cell? ⟨b, off + k * 7 + 4, none⟩ = some (.int .i64 cl) ∧ W.cell? ⟨b, off + k * 7 + 5, none⟩ = some (.string ⟨kd.toArray⟩) ∧ W.cell? ⟨b, off + k * 7 + 6, none⟩ = some (.slice A3 into.length c3) ∧ W.cell? ⟨b2, off2 + k * 7, none⟩ = some (.int .i32 f) ∧ W.cell? ⟨b2, off2 + k * 7 + 1, none⟩ = some (.int .i32 tt) ∧ W.cell? ⟨b2, off2 + k * 7 + 2, none⟩ = some (.string ⟨nm.toArray⟩) ∧ W.cell? ⟨b2, off2 + k * 7 + 3, none⟩ = some (.string ⟨ct.toArray⟩) ∧ W.cell? ⟨b2, off2 + k * 7 + 4, none⟩ = some (.int .i64 cl) ∧ W.cell? ⟨b2, off2 + k * 7 + 5, none⟩ = some (.string ⟨kd.toArray⟩) ∧ W.cell? ⟨b2, off2 + k * 7 + 6, none⟩ = some (.slice A4 into.length c4)) from fun W h9 => ⟨(h9.cell (p := ⟨b, off + k * 7, none⟩) hb).trans p0, (h9.cell (p := ⟨b, off + k * 7 + 1, none⟩) hb).trans p1, (h9.cell (p := ⟨b, off + k * 7 + 2, none⟩) hb).trans p2, (h9.cell (p := ⟨b, off + k * 7 + 3, none⟩) hb).trans p3, (h9.cell (p := ⟨b, off + k * 7 + 4, none⟩) hb).trans p4, (h9.cell (p := ⟨b, off + k * 7 + 5, none⟩) hb).trans p5, (h9.cell (p := ⟨b, off + k * 7 + 6, none⟩) hb).trans p6, (h9.cell (p := ⟨b2, off2 + k * 7, none⟩) hb2).trans r0, (h9.cell (p := ⟨b2, off2 + k * 7 + 1, none⟩) hb2).trans r1, (h9.cell (p := ⟨b2, off2 + k * 7 + 2, none⟩) hb2).trans r2, (h9.cell (p := ⟨b2, off2 + k * 7 + 3, none⟩) hb2).trans r3, (h9.cell (p := ⟨b2, off2 + k * 7 + 4, none⟩) hb2).trans r4, (h9.cell (p := ⟨b2, off2 + k * 7 + 5, none⟩) hb2).trans r5, (h9.cell (p := ⟨b2, off2 + k * 7 + 6, none⟩) hb2).trans r6⟩)
                    have hS := fun W (h9 : Below wr.heap.size wr W) => same_any f tt cl ⟨nm.toArray⟩ ⟨ct.toArray⟩ ⟨kd.toArray⟩ A3 A4 c3 c4 into W (hi3.below h9) (hi4.below h9) (by omega)
                    have hP := fun W => plain_any f tt cl ⟨nm.toArray⟩ ⟨ct.toArray⟩ ⟨kd.toArray⟩ A4 into.length c4 W
                    have HS := Lib.hid hS
                    have HP := Lib.hid hP
                    clear hS hP hi3 hi4 hin
                    go_upto_region 16 with fail
                    go_region_held3 (fun W => (W.cell? ⟨b, off + k * 7, none⟩ = some (.int .i32 f) ∧ W.cell? ⟨b, off + k * 7 + 1, none⟩ = some (.int .i32 tt) ∧ W.cell? ⟨b, off + k * 7 + 2, none⟩ = some (.string ⟨nm.toArray⟩) ∧ W.cell? ⟨b, off + k * 7 + 3, none⟩ = some (.string ⟨ct.toArray⟩) ∧ W.cell? ⟨b, off + k * 7 + 4, none⟩ = some (.int .i64 cl) ∧ W.cell? ⟨b, off + k * 7 + 5, none⟩ = some (.string ⟨kd.toArray⟩) ∧ W.cell? ⟨b, off + k * 7 + 6, none⟩ = some (.slice A3 into.length c3) ∧ W.cell? ⟨b2, off2 + k * 7, none⟩ = some (.int .i32 f) ∧ W.cell? ⟨b2, off2 + k * 7 + 1, none⟩ = some (.int .i32 tt) ∧ W.cell? ⟨b2, off2 + k * 7 + 2, none⟩ = some (.string ⟨nm.toArray⟩) ∧ W.cell? ⟨b2, off2 + k * 7 + 3, none⟩ = some (.string ⟨ct.toArray⟩) ∧ W.cell? ⟨b2, off2 + k * 7 + 4, none⟩ = some (.int .i64 cl) ∧ W.cell? ⟨b2, off2 + k * 7 + 5, none⟩ = some (.string ⟨kd.toArray⟩) ∧ W.cell? ⟨b2, off2 + k * 7 + 6, none⟩ = some (.slice A4 into.length c4)))
                      (first
                        | go_keep
                        | exact HCl.out _ E7.out
                        | exact HCl.out _ E8.out)
                      (first
                        | (go_at_call 16; refine (HP.out _).mono ?_; rintro e w7 ⟨rfl, hb7⟩; have E7 := Lib.hid (show Below wr.heap.size wr w7 from Below.trans (by repeat (first | exact Below.refl _ _ | refine Below.drew ?_)) (hb7.mono (by simp))); clear hb7)
                        | (go_at_call 10; refine (HS.out _ (by repeat (first | exact E7.out | refine Below.drew ?_))).mono ?_; rintro e w8 ⟨rfl, hb8⟩; have E8 := Lib.hid (show Below wr.heap.size wr w8 from E7.out.trans (hb8.mono E7.out.size)); clear hb8))
                    all_goals
                      go_wp2_with fail
                      go_roundw
                      case rel => exact ⟨k + 1, by go_num, by omega, HQ.out.trans (E8.out.mono HQ.out.size)⟩
                      case measure => simp [intOf] <;> omega
                  · have g2 : ¬ (k : Int) < rs.length := by omega
                    have D7 := Lib.hid (D6.out.trans (HQ.out.mono D6.out.size))
                    clear HQ
                    go_wp2_with fail
                    refine (HFin.out _ D7.out).mono ?_
                    rintro e w9 ⟨rfl, hb9⟩
                    have B9 := Lib.hid (D7.out.trans (hb9.mono D7.out.size))
                    clear hb9
                    go_wp2_with fail
                    go_ret
                    exact ⟨rfl, B9.out⟩
        · have e1 : (eb != 0) = true := by simpa using h4
          clear HJ
          go_enter Tryd.func6, Tryd.ntmps6
          go_wp2_with fail
          refine HA.out.mono ?_; rintro e w1 ⟨v1, l1, rfl, hm1, hi1, hb1⟩; have B1 := Lib.hid hb1; clear hb1 hi1 hm1
          go_wp2_with fail
          refine (HB.out _ B1.out).mono ?_; rintro e w2 ⟨v2, l2, rfl, hm2, hi2, hb2⟩; have B2 := Lib.hid (B1.out.trans (hb2.mono B1.out.size)); clear hb2 hi2 hm2
          go_wp2_with fail
          refine (HFin.out _ B2.out).mono ?_
          rintro e w9 ⟨rfl, hb9⟩
          have B9 := Lib.hid (B2.out.trans (hb9.mono B2.out.size))
          clear hb9
          go_wp2_with fail
          go_ret
          exact ⟨rfl, B9.out⟩
      · have e1 : (ea != 0) = true := by simpa using h3
        clear HJ
        go_enter Tryd.func6, Tryd.ntmps6
        go_wp2_with fail
        refine HA.out.mono ?_; rintro e w1 ⟨v1, l1, rfl, hm1, hi1, hb1⟩; have B1 := Lib.hid hb1; clear hb1 hi1 hm1
        go_wp2_with fail
        refine (HB.out _ B1.out).mono ?_; rintro e w2 ⟨v2, l2, rfl, hm2, hi2, hb2⟩; have B2 := Lib.hid (B1.out.trans (hb2.mono B1.out.size)); clear hb2 hi2 hm2
        go_wp2_with fail
        refine (HFin.out _ B2.out).mono ?_
        rintro e w9 ⟨rfl, hb9⟩
        have B9 := Lib.hid (B2.out.trans (hb9.mono B2.out.size))
        clear hb9
        go_wp2_with fail
        go_ret
        exact ⟨rfl, B9.out⟩
    · have g2 : (2000 : Int) < t.size := by omega
      go_enter Tryd.func6, Tryd.ntmps6
      go_wp2_with fail
      refine (HFin.out _ (Below.refl w.heap.size w)).mono ?_
      rintro e w9 ⟨rfl, hb9⟩
      have B9 := Lib.hid ((Below.refl w.heap.size w).trans (hb9.mono (Below.refl w.heap.size w).size))
      clear hb9
      go_wp2_with fail
      go_ret
      exact ⟨rfl, B9.out⟩
  · have g1 : (2000 : Int) < s.size := by omega
    go_enter Tryd.func6, Tryd.ntmps6
    go_wp2_with fail
    refine (HFin.out _ (Below.refl w.heap.size w)).mono ?_
    rintro e w9 ⟨rfl, hb9⟩
    have B9 := Lib.hid ((Below.refl w.heap.size w).trans (hb9.mono (Below.refl w.heap.size w).size))
    clear hb9
    go_wp2_with fail
    go_ret
    exact ⟨rfl, B9.out⟩

set_option maxRecDepth 100000 in
theorem ucdJoins_lifted (os : Os) (started : os.Started) (H : Type) (enc : TypeId × Value → H) :
    ReturnsInHanded {} Tryd.checked os 6 .any (fun w args => (Rows.ucdJoinsSpec.pre enc Tryd.prog Tryd.f6 [] false w args ∧ laidMetH Tryd.prog laid1 w) ∧ sizedMet enc Tryd.prog Tryd.f6 (OpenSpec.ofChange Rows.ucdJoinsSpec) false w args)
      (Rows.ucdJoinsSpec.post enc Tryd.prog Tryd.f6 false true false false) := by
  refine change_shaped (C := Tryd.checked) (X := fun w _ => laidMetH Tryd.prog laid1 w) (fun _ _ _ hh h => h.of_heap hh) own started (by kernel_rfl) Tryd.func6
    (ChangeSpec.witness_shaped (enc := enc) (C := Tryd.checked) (os := os) (X := fun w _ => laidMetH Tryd.prog laid1 w) false (World.laidAll Tryd.prog os laid1) #[.string ⟨#[]⟩, .string ⟨#[]⟩] 8 (World.laidAll_os _ _ _) (World.shaped_of_ZipB (by kernel_rfl) (by kernel_rfl)) (by kernel_rfl) (by kernel_rfl) (by kernel_rfl) (by rw [MakeChecks.laidMetH_plain _ _ _ (by kernel_rfl)]; exact laidMet_laidAll _ (by kernel_rfl) (by kernel_rfl))) ?_
  intro W base args ds gs before hval0 hW hsz hL hS
  have hval : ∀ (j : Nat) t v, Tryd.f6.params[j]? = some t → args[j]? = some v → Value.okWide Tryd.prog W .any base t v := hval0
  have hW' := hW
  obtain ⟨p, q, hA0, hV, rfl, hfz, hnd⟩ := hW
  have hA : DataW.TrodAll enc Tryd.prog W 0 (fun _ => true) true Tryd.f6.params.toList args.toList ds p := hA0
  rw [Tryd.params6] at hA hval
  obtain ⟨v0, vs0, d0, ds0, p0, q0, hargs, rfl, rfl, h0, r0⟩ := trodAll_cons hA
  obtain ⟨v1, vs1, d1, ds1, p1, q1, rfl, rfl, rfl, h1, r1⟩ := trodAll_cons r0
  obtain ⟨rfl, rfl, rfl⟩ := trodAll_nil r1
  obtain rfl : args = #[v0, v1] := by cases args; simp_all
  obtain ⟨rfl, rfl⟩ := trodVars_none hV
  obtain ⟨s0, rfl, rfl, rfl, m0⟩ := open_string Tryd.underlying9 (hval 0 9 v0 rfl rfl) h0
  obtain ⟨s1, rfl, rfl, rfl, m1⟩ := open_string Tryd.underlying9 (hval 1 9 v1 rfl rfl) h1
  clear hA0 hval0
  refine (ucdJoins_walk s0 s1 W m0 m1 (ml_of hS)).mono fun e W' ⟨he, bel⟩ => ?_
  subst he
  exact ⟨_, rfl, _, _, _, [], _, [], hW', trodAll_mk1 (shut_bool Tryd.underlying4 _), (trodAll_cons_mk (shut_string Tryd.underlying9 m0) (trodAll_cons_mk (shut_string Tryd.underlying9 m1) trodAll_mk0)), rfl, bel.frame _, fun h => by cases h⟩

theorem ucdJoins_row : Rows.UcdJoinsSaid :=
  OpenClaim.holds_of_wide 6 Tryd.f6 rfl rfl rfl rfl rfl rfl rfl ⟨rfl, rfl, rfl, rfl, rfl⟩ rfl rfl rfl rfl rfl (by kernel_rfl) Tryd.func6 (by kernel_rfl)
    (of_decide_eq_true (by kernel_rfl)) (by unfold Func.isWrapper; first | (rw [if_pos (by decide +kernel)]; kernel_rfl) | (rw [if_neg (by decide +kernel)]; exact ⟨rfl, rfl⟩))
    (fun os started H enc _ => ucdJoins_lifted os started H enc)

theorem ucdJoins_holds : Rows.UcdJoinsCardSaid :=
  Claim7.holds_tied_plain_at .later [] [.data, .pinned] true Rows.ucdJoinsCard.stood.harness false
    ucdJoins_row (fun _ h => by cases h) (by kernel_rfl) (fun _ h => by cases h) ucdJoins_row_tie rfl ⟨rfl, rfl⟩ (by kernel_rfl) rfl
    (fun f fn hf hfn => by
      obtain rfl : f = 6 := Option.some.inj ((show Tryd.prog.funcNamed Rows.ucdJoinsRow.func = some 6 by kernel_rfl).symm.trans hf) |>.symm
      obtain rfl : fn = Tryd.f6 := (Option.some.inj (Tryd.func6.symm.trans hfn)).symm
      exact ⟨by kernel_rfl, fun j t ht => by
        rw [Tryd.params6] at ht
        have hm : t ∈ [9, 9] := by simpa using Array.mem_of_getElem? ht
        have hall : ([9, 9].all fun u => !Tryd.prog.wantsStandIn u) = true := by kernel_rfl
        exact (show Tryd.prog.wantsStandIn t = false by simpa using List.all_eq_true.1 hall t hm)⟩)
    (by kernel_rfl)
#print axioms ucdJoins_holds
end Go.Proofs.YtajhgbcgbgpcjaaDoor

import Derived.Test.YtajhgbcgbgpcjaaDoorFJ
namespace Go.Proofs.YtajhgbcgbgpcjaaDoor.Fi
open Go.RowKit

theorem cut_sz {t : ByteArray} {c : List UInt8} {n : Nat} (h : t.size ≤ n) : (⟨(Lib.cut t.data.toList c).2.1.toArray⟩ : ByteArray).size ≤ n ∧ (⟨(Lib.cut t.data.toList c).1.toArray⟩ : ByteArray).size ≤ n := by
  have := cut_le t.data.toList c
  rw [lst_len] at this
  rw [size_mk, size_mk]
  omega
theorem enters50 : ∀ args w, (callFunc 83 args).run Tryd.prog w = .ok (.enter 83 args) w := enters_of Tryd.func83 (by kernel_rfl) rfl

set_option maxRecDepth 100000 in
set_option maxHeartbeats 4000000 in
theorem lines_any (s : ByteArray) (w : World) (hL : Ml w) (hs : s.size ≤ 100000) :
    Calls Tryd.prog 35 #[.string s] w (LinP w (linE s.data.toList)) := by
  have hpos := hL.pos
  have HC := Lib.hid ((Tryd.strings_Count_one s 10 w).mono fun e w' h => (show e = .returned (.int .i64 (Lib.countByte s.data.toList 10)) ∧ w = w' from ⟨h.1, h.2.symm⟩))
  have hcl := spl_len 10 s.data.toList []
  unfold Lib.countByte at HC
  have hcn : s.data.toList.count 10 ≤ s.size := by have := List.count_le_length (a := (10 : UInt8)) (l := s.data.toList); rw [lst_len] at this; exact this
  obtain ⟨n, hn⟩ : ∃ n, n = s.data.toList.count 10 := ⟨_, rfl⟩
  rw [← hn] at HC hcl hcn
  by_cases h1 : 4096 < n + 1
  · have H := Lib.hid (show linE s.data.toList = ([], 14) by unfold linE; rw [if_pos (by omega)])
    have g1 : (4096 : Int) < (n : Int) + 1 := by omega
    clear hn hcl
    go_enter Tryd.func35, Tryd.ntmps35
    go_wp2_with (go_at_call 59; refine HC.out.mono ?_; rintro e w1 ⟨rfl, rfl⟩)
    refine bodyPost_ret (v := .tuple #[.slice none 0 0, .int .i64 14]) (by simp [results, Tryd.results35, go_sem]) rfl ⟨_, by rw [H.out], by rw [H.out]; exact World.ownsRow_nil _ _ _ _, Below.refl _ _⟩
  · have H := Lib.hid (show lnsW 1 [] (rest true s.data.toList) = linE s.data.toList by rw [linE, if_neg (by omega)]; rfl)
    have HN := Lib.hid (show (rest true s.data.toList).length < s.size + 2 by unfold rest; rw [if_pos rfl]; omega)
    have g1 : ¬ (4096 : Int) < (n : Int) + 1 := by omega
    obtain ⟨tot, htot⟩ : ∃ tot, tot = linE s.data.toList := ⟨_, rfl⟩
    rw [← htot] at H ⊢
    clear hn hcl htot
    obtain ⟨i0, hi0, hz0, hz1, hz2⟩ := info_parts ln_info
    have I0 := Lib.hid hi0
    have I1 := Lib.hid hz0
    have I2 := Lib.hid hz1
    have I3 := Lib.hid hz2
    clear hi0 hz0 hz1 hz2
    have HTk := Lib.hid (takeOff_any s w)
    have HML := Lib.hid hL
    clear hL
    go_enter Tryd.func35, Tryd.ntmps35
    go_wp2_with (first
      | (go_at_call 59; refine HC.out.mono ?_; rintro e w1 ⟨rfl, rfl⟩)
      | (go_at_call 60; refine HTk.out.mono ?_; rintro e w1 ⟨rfl, hx, hm, hb⟩; have OX1 := Lib.hid hx; have OM1 := Lib.hid hm; have B1 := Lib.hid hb; clear hx hm hb))
    clear h1 g1
    go_loopg [4, 6] (s.size + 2) (fun gf s4 s6 wx => ∃ no : Nat, s6 = .int .i64 no ∧ no + gf ≤ 100003 ∧ ∃ t m os, t.size ≤ 100000 ∧ Hid ((rest m t.data.toList).length < gf) ∧ Hid (LnR w wx w.heap.size (w.heap.size + 1) t m s4 no os tot))
    case atStart => exact ⟨1, rfl, by omega, s, true, [], hs, HN.out, B1.out, OX1.out, OM1.out, World.ownsRow_nil _ _ _ _, by simp, H.out⟩
    case round =>
      obtain ⟨no, rfl, hno, t, m, os, hts, HG, HR⟩ := hrel
      have hne : w.heap.size ≠ w.heap.size + 1 := by omega
      have hlen := HR.out.len
      have hmo : os.length + 1 ≤ maxLen := by unfold maxLen; omega
      have hsz := HR.out.bel.size
      cases m with
      | false =>
        have HK := Lib.hid (take_end w.heap.size (w.heap.size + 1) t wr HR.out.om)
        have HQ := Lib.hid (show (os, 0) = tot by have h1 := HR.out.tot; unfold rest at h1; rw [if_neg (by decide), lnsW] at h1; exact h1)
        go_wp2_with (go_at_call 83; refine HK.out.mono ?_; rintro e w2 ⟨rfl, rfl⟩)
        refine bodyPost_ret (v := .tuple #[u4, .int .i64 0]) (by simp [results, Tryd.results35, go_sem]) rfl ⟨u4, by rw [← HQ.out], by rw [← HQ.out]; exact HR.out.own, HR.out.bel⟩
      | true =>
        have HK := Lib.hid (take_next w.heap.size (w.heap.size + 1) t wr HR.out.ox HR.out.om hne (HML.out.below HR.out.bel hpos) (by omega))
        obtain ⟨hz1, hz2⟩ := cut_sz (c := [10]) hts
        have hrc := rest_cut t.data.toList
        obtain ⟨x, hx⟩ : ∃ x, x = Lib.cut t.data.toList [10] := ⟨_, rfl⟩
        rw [← hx] at hz1 hz2 hrc HK
        obtain ⟨a, b, f⟩ := x
        simp only at hz1 hz2 hrc HK
        have HRC := Lib.hid hrc
        clear hrc hx
        have HG2 := Lib.hid (show (rest f b).length + 1 < gk by have h1 := HG.out; rw [HRC.out, List.length_cons] at h1; exact h1)
        obtain ⟨g', rfl⟩ : ∃ g', gk = g' + 1 := ⟨gk - 1, by have := HG2.out; omega⟩
        have HT2 := Lib.hid (show lnsW no os (a :: rest f b) = tot by rw [← HRC.out]; exact HR.out.tot)
        clear HRC
        obtain ⟨ln, hln⟩ : ∃ ln : ByteArray, ln = ⟨a.toArray⟩ := ⟨_, rfl⟩
        obtain ⟨rs, hrs⟩ : ∃ rs : ByteArray, rs = ⟨b.toArray⟩ := ⟨_, rfl⟩
        rw [← hln] at hz2 HK
        rw [← hrs] at hz1 HK
        have HLA := Lib.hid (show ln.data.toList = a by rw [hln])
        have HRB := Lib.hid (show rs.data.toList = b by rw [hrs])
        have hlz : ln.size = a.length := by rw [hln, size_mk]
        have HLZ := Lib.hid hlz
        clear hln hrs hlz
        by_cases h5 : 512 < ln.size
        · have g5 : (512 : Int) < ln.size := by omega
          have HQ := Lib.hid (show ([], 10) = tot by rw [← HT2.out, lnsW_long (by have := HLZ.out; omega)])
          go_wp2_with (go_at_call 83; refine HK.out.mono ?_; rintro e w2 ⟨rfl, hk⟩; have HTK := Lib.hid hk; clear hk)
          refine bodyPost_ret (v := .tuple #[.slice none 0 0, .int .i64 10]) (by simp [results, Tryd.results35, go_sem]) rfl ⟨_, by rw [← HQ.out], by rw [← HQ.out]; exact World.ownsRow_nil _ _ _ _, tk_bel HTK.out HR.out.bel (Nat.le_refl _) (by omega)⟩
        · have g5 : ¬ (512 : Int) < ln.size := by omega
          have hTd := fun W (hW : Ml W) => told_any ln W hW (by omega)
          rw [HLA.out] at hTd
          by_cases h6 : toldL a = []
          · have HQ := Lib.hid (show lnsW (no + 1) os (rest f b) = tot by rw [← HT2.out, lnsW_mute (by have := HLZ.out; omega) h6])
            rw [h6] at hTd
            have HTd := Lib.hid hTd
            clear hTd h6 HT2
            go_wp2_with (first
              | (go_at_call 83; refine HK.out.mono ?_; rintro e w2 ⟨rfl, hk⟩; have HTK := Lib.hid hk; clear hk)
              | (go_at_call 61; refine (HTd.out _ (HML.out.below (tk_bel HTK.out HR.out.bel (Nat.le_refl _) (by omega)) hpos)).mono ?_; rintro e w3 ⟨rfl, hb⟩; have B3 := Lib.hid hb; clear hb))
            go_roundg g'
            case measure => omega
            case rel =>
              have b2 := tk_bel HTK.out HR.out.bel (Nat.le_refl _) (by omega)
              have o1 := HR.out.ox.ne HR.out.own (by decide)
              have o2 := HR.out.om.ne HR.out.own (by decide)
              exact ⟨no + 1, by go_num, by omega, rs, f, os, hz1, by rw [HRB.out]; have := HG2.out; show _ < g'; omega, b2.trans (B3.out.mono b2.size), (tk_x HTK.out HR.out.ox hne).below B3.out, (tk_m HTK.out HR.out.om hne).below B3.out, own_below' (tk_own HTK.out HR.out.own o1 o2) B3.out, by omega, by rw [HRB.out]; exact HQ.out⟩
          · have HQ := Lib.hid (show lnsW (no + 1) (os ++ [(no, toldL a)]) (rest f b) = tot by rw [← HT2.out, lnsW_told (by have := HLZ.out; omega) h6])
            obtain ⟨q, hq⟩ : ∃ q : ByteArray, q = ⟨(toldL a).toArray⟩ := ⟨_, rfl⟩
            have hq0 : 0 < q.size := by
              rw [hq, size_mk]
              cases h : toldL a with
              | nil => exact absurd h h6
              | cons _ _ => simp
            have hq1 : q.size ≤ 100000 := by
              rw [hq, size_mk]
              have := toldL_le a
              have := HLZ.out
              omega
            rw [← hq] at hTd
            have HTd := Lib.hid hTd
            have HOw := Lib.hid (fun W => own_any q W (by omega))
            have he := emp_no hq0
            have hne2 := emp_ne hq0
            have HQq := Lib.hid hq
            have HNX := Lib.hid (HR.out.ox.ne HR.out.own (by decide))
            have HNM := Lib.hid (HR.out.om.ne HR.out.own (by decide))
            clear hTd h6 HT2 hq
            go_wp2_with (first
              | (go_at_call 83; refine HK.out.mono ?_; rintro e w2 ⟨rfl, hk⟩; have HTK := Lib.hid hk; clear hk)
              | (go_at_call 61; refine (HTd.out _ (HML.out.below (tk_bel HTK.out HR.out.bel (Nat.le_refl _) (by omega)) hpos)).mono ?_; rintro e w3 ⟨rfl, hb⟩; have B3 := Lib.hid hb; clear hb)
              | (go_at_call 50; refine (HOw.out _).mono ?_; rintro e w4 ⟨rfl, hb⟩; have B4 := Lib.hid hb; have O4 := Lib.hid (own_below' (own_below' (tk_own HTK.out HR.out.own HNX.out HNM.out) B3.out) hb); have z4 : w.heap.size ≤ w4.heap.size := by { have b2 := tk_bel HTK.out HR.out.bel (Nat.le_refl _) (by omega); have := b2.size; have := B3.out.size; have := hb.size; omega }; clear hb)
              | (at_builtin; refine wpList_append_own_at _ rfl (.tmp 33) (.tmp 38) _ rfl w.heap.size 46 i0 _ 2 24 Tryd.underlying68 I0.out I1.out I2.out I3.out rfl (by omega) u4 os.length _ rfl (O4.out.alloc _) ⟨w4.heap.size, 0, none⟩ 1 1 [.int .i64 no, .string q] rfl rfl (World.news_of_block (cs := #[.int .i64 no, .string q]) (t := 46) (fr := (0, 0)) (heap_alloc_new w4 _)) (by simp [Value.oneCell']) hmo (by omega) (by simp; omega) ?_; intro v5 w5 ho5 hg5 hn5 ha5; have O5 := Lib.hid ho5; have G5 := Lib.hid hg5; clear ho5 hg5 hn5 ha5))
            go_roundg g'
            case measure => omega
            case rel =>
              have b2 := tk_bel HTK.out HR.out.bel (Nat.le_refl _) (by omega)
              have b3 := b2.trans (B3.out.mono b2.size)
              have b4 := b3.trans (B4.out.mono b3.size)
              have x4 := ((tk_x HTK.out HR.out.ox hne).below B3.out).below B4.out
              have m4 := ((tk_m HTK.out HR.out.om hne).below B3.out).below B4.out
              refine ⟨no + 1, by go_num, by omega, rs, f, os ++ [(no, toldL a)], hz1, by rw [HRB.out]; have := HG2.out; show _ < g'; omega, ?_, (x4.alloc _).grown G5.out HNX.out, (m4.alloc _).grown G5.out HNM.out, ?_, by rw [List.length_append]; simp; omega, by rw [HRB.out]; exact HQ.out⟩
              · exact (b4.alloc b4.size _).grown G5.out (by simp; omega) (fun z hz => (O4.out.lt z hz).1)
              · have := O5.out
                rw [List.length_append, lnV_app]
                have e1 : lnV [(no, toldL a)] = [.int .i64 no, .string q] := by rw [HQq.out]; rfl
                rw [e1]
                exact this

end Go.Proofs.YtajhgbcgbgpcjaaDoor.Fi

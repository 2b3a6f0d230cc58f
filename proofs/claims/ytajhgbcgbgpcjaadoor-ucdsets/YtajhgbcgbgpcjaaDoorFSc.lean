import Derived.Test.YtajhgbcgbgpcjaaDoorFSb
namespace Go.Proofs.YtajhgbcgbgpcjaaDoor.Fi
open Go.RowKit

theorem rln_info : (Tryd.prog.info? 56).map (fun i => (i.zero, i.size, i.bytes)) = some (some (.agg #[.int .i64 0, .string ⟨#[]⟩]), 2, 24) := by kernel_rfl
def LinR (w : World) (x : List (Nat × List UInt8) × Int) (e : Ending) (w' : World) : Prop := ∃ v, e = .returned (.tuple #[v, .int .i64 x.2]) ∧ w'.ownsRow w.heap.size 56 2 v x.1.length (lnV x.1) ∧ Below w.heap.size w w'
structure RlR (w w1 wr : World) (out : Value) (k : Nat) (os : List (Nat × List UInt8)) (ls : List (List UInt8)) (tot : List (Nat × List UInt8) × Int) : Prop where
  bel : Below w1.heap.size w1 wr
  own : wr.ownsRow w1.heap.size 56 2 out os.length (lnV os)
  len : os.length ≤ k
  tot : lnsW (k + 1) os (ls.drop k) = tot

set_option maxRecDepth 100000 in
set_option maxHeartbeats 4000000 in
theorem rlines_any (s : ByteArray) (w : World) (hs : s.size ≤ 100000) :
    Calls Tryd.prog 22 #[.string s] w (LinR w (linE s.data.toList)) := by
  have HSp := Lib.hid (rcut_any s 10 w hs)
  rw [show ((10 : UInt8).toNat : Int) = 10 from rfl] at HSp
  have hlen := spl_len 10 s.data.toList []
  have hcn : s.data.toList.count 10 ≤ s.size := by have := List.count_le_length (a := (10 : UInt8)) (l := s.data.toList); rw [lst_len] at this; exact this
  have HMem := Lib.hid (spl_mem 10 s.data.toList [])
  have hE : linE s.data.toList = if 4096 < (spl 10 [] s.data.toList).length then ([], 14) else lnsW 1 [] (spl 10 [] s.data.toList) := rfl
  obtain ⟨ls, hls⟩ : ∃ ls, ls = spl 10 [] s.data.toList := ⟨_, rfl⟩
  rw [← hls] at HSp hlen HMem hE
  have hll : ls.length ≤ 100001 := by omega
  have hl0 : ls.length ≠ 0 := by omega
  obtain ⟨tot, htot⟩ : ∃ tot, tot = linE s.data.toList := ⟨_, rfl⟩
  rw [← htot] at hE ⊢
  clear hls hlen hcn htot
  by_cases h4 : 4096 < ls.length
  · rw [if_pos h4] at hE
    have HE := Lib.hid hE
    have g4 : (4096 : Int) < ls.length := by omega
    clear hE
    go_enter Tryd.func22, Tryd.ntmps22
    go_wp2_with (go_at_call 41; refine HSp.out.mono ?_; rintro e w1 ⟨v, rfl, ho, hb⟩; obtain ⟨g, cap, rfl, hg, hcap, hvl, hrc⟩ := Rc.of ho hl0; have B1 := Lib.hid hb; clear ho hb hrc hvl)
    refine bodyPost_ret (v := .tuple #[.slice none 0 0, .int .i64 14]) (by simp [results, Tryd.results22, go_sem]) rfl ⟨_, by rw [HE.out], by rw [HE.out]; exact World.ownsRow_nil _ _ _ _, B1.out⟩
  · rw [if_neg h4] at hE
    have HE := Lib.hid (show lnsW (0 + 1) [] (ls.drop 0) = tot by rw [hE]; rfl)
    have g4 : ¬ (4096 : Int) < ls.length := by omega
    clear hE
    obtain ⟨i0, hi0, hz0, hz1, hz2⟩ := info_parts rln_info
    have I0 := Lib.hid hi0
    have I1 := Lib.hid hz0
    have I2 := Lib.hid hz1
    have I3 := Lib.hid hz2
    clear hi0 hz0 hz1 hz2
    go_enter Tryd.func22, Tryd.ntmps22
    go_wp2_with (go_at_call 41; refine HSp.out.mono ?_; rintro e w1 ⟨v, rfl, ho, hb⟩; obtain ⟨g, cap, rfl, hg, hcap, hvl, hrc⟩ := Rc.of ho hl0; have R1 := Lib.hid hrc; have B1 := Lib.hid hb; have hlg := hrc.lt; clear ho hb hrc hvl)
    go_loopw [5, 6] (fun out i wr => ∃ (k : Nat) (os : List (Nat × List UInt8)), i = .int .i64 k ∧ k ≤ ls.length ∧ Hid (RlR w w1 wr out k os ls tot)) (fun _ i _ => ls.length - (intOf i).toNat)
    case atStart => exact ⟨0, [], rfl, by omega, Below.refl _ _, World.ownsRow_nil _ _ _ _, Nat.le_refl _, HE.out⟩
    case round =>
      obtain ⟨k, os, rfl, hk, HR⟩ := hrel
      have hol := HR.out.len
      have hmo : os.length + 1 ≤ maxLen := by unfold maxLen; omega
      have hsz := HR.out.bel.size
      by_cases hlt : k < ls.length
      · have g1 : (k : Int) < ls.length := by omega
        have hc := (R1.out.below HR.out.bel).cell (k := k) (v := .string ⟨(ls[k]).toArray⟩) (by simp [svs, List.getElem?_eq_getElem hlt])
        have HD := Lib.hid (show ls.drop k = ls[k] :: ls.drop (k + 1) from List.drop_eq_getElem_cons hlt)
        have hm := HMem.out ls[k] (List.getElem_mem hlt)
        rw [lst_len] at hm
        obtain ⟨a, ha⟩ : ∃ a, a = ls[k] := ⟨_, rfl⟩
        rw [← ha] at hc HD hm
        obtain ⟨x, hx⟩ : ∃ x : ByteArray, x = ⟨a.toArray⟩ := ⟨_, rfl⟩
        rw [← hx] at hc
        have hxs : x.size = a.length := by rw [hx, size_mk]
        have hxl : x.data.toList = a := by rw [hx]
        have hxz : x.size ≤ s.size := by rw [hxs]; simpa using hm
        have HXS := Lib.hid hxs
        have HT0 := Lib.hid (show lnsW (k + 1) os (a :: ls.drop (k + 1)) = tot by rw [← HD.out]; exact HR.out.tot)
        clear ha hx hxs hm HD
        by_cases h5 : 512 < x.size
        · have g5 : (512 : Int) < x.size := by omega
          have HQ := Lib.hid (show ([], 10) = tot by rw [← HT0.out, lnsW_long (by have := HXS.out; omega)])
          clear hxl
          go_wp2_with fail
          have b1 := B1.out.trans (HR.out.bel.mono B1.out.size)
          refine bodyPost_ret (v := .tuple #[.slice none 0 0, .int .i64 10]) (by simp [results, Tryd.results22, go_sem]) rfl ⟨_, by rw [← HQ.out], by rw [← HQ.out]; exact World.ownsRow_nil _ _ _ _, b1⟩
        · have g5 : ¬ (512 : Int) < x.size := by omega
          have hCt := fun W => rcut_any x 35 W (by omega)
          rw [hxl] at hCt
          obtain ⟨r, hr⟩ := spl_head 35 a
          rw [hr] at hCt
          have hcz := (cut_le a [35]).1
          have hca : a.length ≤ s.size := by have := HXS.out; omega
          obtain ⟨y, hy⟩ : ∃ y : ByteArray, y = ⟨(Lib.cut a [35]).1.toArray⟩ := ⟨_, rfl⟩
          have hyz : y.size ≤ 100000 := by rw [hy, size_mk]; omega
          have hBa := fun W => rbare_any y W hyz
          rw [show y.data.toList = (Lib.cut a [35]).1 by rw [hy]] at hBa
          change ∀ W, Calls Tryd.prog 42 #[.string y] W fun e w' => e = .returned (.string ⟨(toldL a).toArray⟩) ∧ W = w' at hBa
          have HCt := Lib.hid (fun W => show Calls Tryd.prog 41 #[.string x, .int .u8 35] W (fun e w' => ∃ g2 n2 cap2, e = .returned (.slice (some ⟨g2, 0, none⟩) n2 cap2) ∧ 1 ≤ n2 ∧ w'.cell? ⟨g2, 0, none⟩ = some (.string y) ∧ Below W.heap.size W w') from (hCt W).mono fun e w' ⟨v2, he, ho2, hb2⟩ => by
            obtain ⟨g2, cap2, hv2, hg2, hcp2, hvl2, hrc2⟩ := Rc.of ho2 (by simp)
            refine ⟨g2, _, cap2, by rw [he, hv2], by simp, ?_, hb2⟩
            rw [hy]
            exact hrc2.cell rfl)
          clear hCt hr hcz hy hxl
          by_cases h6 : toldL a = []
          · have HQ := Lib.hid (show lnsW (k + 1 + 1) os (ls.drop (k + 1)) = tot by rw [← HT0.out, lnsW_mute (by have := HXS.out; omega) h6])
            rw [h6] at hBa
            have HBa := Lib.hid hBa
            clear hBa h6 HT0
            go_wp2_with (first
              | (go_at_call 41; refine (HCt.out _).mono ?_; rintro e w3 ⟨g2, n2, cap2, rfl, hn2, hc2, hb2⟩; have B3 := Lib.hid hb2; clear hb2)
              | (go_at_call 42; refine (HBa.out _).mono ?_; rintro e w4 ⟨rfl, rfl⟩))
            go_roundw
            case rel => exact ⟨k + 1, os, by go_num, by omega, HR.out.bel.trans (B3.out.mono HR.out.bel.size), own_below' HR.out.own B3.out, by omega, HQ.out⟩
            case measure => simp [intOf] <;> omega
          · have HQ := Lib.hid (show lnsW (k + 1 + 1) (os ++ [(k + 1, toldL a)]) (ls.drop (k + 1)) = tot by rw [← HT0.out, lnsW_told (by have := HXS.out; omega) h6])
            obtain ⟨q, hq⟩ : ∃ q : ByteArray, q = ⟨(toldL a).toArray⟩ := ⟨_, rfl⟩
            have hq0 : 0 < q.size := by
              rw [hq, size_mk]
              cases h : toldL a with
              | nil => exact absurd h h6
              | cons _ _ => simp
            rw [← hq] at hBa
            have HBa := Lib.hid hBa
            have he := emp_no hq0
            have hne2 := emp_ne hq0
            have HQq := Lib.hid hq
            clear hBa h6 HT0 hq
            go_wp2_with (first
              | (go_at_call 41; refine (HCt.out _).mono ?_; rintro e w3 ⟨g2, n2, cap2, rfl, hn2, hc2, hb2⟩; have B3 := Lib.hid hb2; have O3 := Lib.hid (own_below' HR.out.own hb2); have z3 := hb2.size; clear hb2)
              | (go_at_call 42; refine (HBa.out _).mono ?_; rintro e w4 ⟨rfl, rfl⟩)
              | (at_builtin; refine wpList_append_own_at _ rfl (.tmp 35) (.tmp 40) _ rfl w1.heap.size 56 i0 _ 2 24 Tryd.underlying53 I0.out I1.out I2.out I3.out rfl (by omega) u5 os.length _ rfl (O3.out.alloc _) ⟨w3.heap.size, 0, none⟩ 1 1 [.int .i64 ((k : Int) + 1), .string q] rfl rfl (World.news_of_block (cs := #[.int .i64 ((k : Int) + 1), .string q]) (t := 56) (fr := (0, 0)) (heap_alloc_new w3 _)) (by simp [Value.oneCell']) hmo (by omega) (by simp; omega) ?_; intro v5 w5 ho5 hg5 hn5 ha5; have O5 := Lib.hid ho5; have G5 := Lib.hid hg5; clear ho5 hg5 hn5 ha5))
            go_roundw
            case rel =>
              have b3 := HR.out.bel.trans (B3.out.mono HR.out.bel.size)
              refine ⟨k + 1, os ++ [(k + 1, toldL a)], by go_num, by omega, ?_, ?_, by rw [List.length_append]; simp; omega, HQ.out⟩
              · exact (b3.alloc b3.size _).grown G5.out (by simp; omega) (fun z hz => (O3.out.lt z hz).1)
              · have := O5.out
                rw [List.length_append, lnV_app]
                have e1 : lnV [(k + 1, toldL a)] = [.int .i64 ((k : Int) + 1), .string q] := by rw [HQq.out]; rfl
                rw [e1]
                exact this
            case measure => simp [intOf] <;> omega
      · have g1 : ¬ (k : Int) < ls.length := by omega
        have HQ := Lib.hid (show (os, 0) = tot by
          have h1 := HR.out.tot
          rw [List.drop_eq_nil_of_le (by omega), lnsW] at h1
          exact h1)
        go_wp2_with fail
        have b1 := B1.out.trans (HR.out.bel.mono B1.out.size)
        refine bodyPost_ret (v := .tuple #[u5, .int .i64 0]) (by simp [results, Tryd.results22, go_sem]) rfl ⟨u5, by rw [← HQ.out], by rw [← HQ.out]; exact own_low HR.out.own B1.out.size, b1⟩

end Go.Proofs.YtajhgbcgbgpcjaaDoor.Fi

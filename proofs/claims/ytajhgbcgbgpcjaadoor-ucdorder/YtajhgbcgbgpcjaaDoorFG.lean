import Derived.Test.YtajhgbcgbgpcjaaDoorFF
namespace Go.Proofs.YtajhgbcgbgpcjaaDoor.Fi
open Go.RowKit

theorem own_low {w : World} {b b' : Nat} {e : TypeId} {z n : Nat} {v : Value} {xs : List Value} (h : w.ownsRow b e z v n xs) (hb : b' ≤ b) : w.ownsRow b' e z v n xs := by
  refine ⟨h.1, ?_⟩
  rcases h.2 with h2 | ⟨g, cap, cur, h1, h2, h3⟩
  · exact .inl h2
  · exact .inr ⟨g, cap, cur, h1, by omega, h3⟩
theorem wds_len : ∀ (l cur : List UInt8), (wds cur l).length ≤ l.length + (if cur = [] then 0 else 1)
  | [], cur => by unfold wds; split <;> simp
  | c :: l, cur => by
    unfold wds
    have h1 := wds_len l []
    have h2 := wds_len l (cur ++ [c])
    simp only [if_true] at h1
    rw [if_neg (by simp)] at h2
    rw [List.length_cons]
    split
    · split
      · omega
      · rw [List.length_cons]; omega
    · split <;> omega
theorem fields_len (s : ByteArray) : (Lib.goFieldsP blk s).length ≤ s.size := by
  have h := congrArg List.length (fields_wds s)
  rw [List.length_map] at h
  have := wds_len s.data.toList []
  rw [lst_len] at this
  simp only [if_true] at this
  omega
theorem ext_size (s : ByteArray) (a b : Nat) : (s.extract a b).size ≤ s.size := by
  rw [← lst_len, Lib.extract_data, List.length_take, List.length_drop, lst_len]; omega
theorem fields_size (s : ByteArray) : ∀ x ∈ Lib.goFieldsP blk s, x.size ≤ s.size := by
  intro x hx
  unfold Lib.goFieldsP at hx
  obtain ⟨y, _, rfl⟩ := List.mem_map.1 hx
  exact ext_size _ _ _
theorem rnsW_ok {acc : List Int} {x : List UInt8} {r : List (List UInt8)} (h : (hexE x).2 = 0) : rnsW acc (x :: r) = rnsW (acc ++ [(hexE x).1]) r := by rw [rnsW, if_pos h]
theorem rnsW_no {acc : List Int} {x : List UInt8} {r : List (List UInt8)} (h : (hexE x).2 ≠ 0) : rnsW acc (x :: r) = ([], (hexE x).2) := by rw [rnsW, if_neg h]
theorem enters40 : ∀ args w, (callFunc 86 args).run Tryd.prog w = .ok (.enter 86 args) w := enters_of Tryd.func86 (by kernel_rfl) rfl

structure RnR (w w1 wr : World) (ws : List ByteArray) (out : Value) (k : Nat) (os : List Int) (tot : List Int × Int) : Prop where
  bel : Below w1.heap.size w1 wr
  own : wr.ownsRow w1.heap.size 21 1 out os.length (i32s os)
  len : os.length = k
  tot : rnsW os ((ws.map (fun x => x.data.toList)).drop k) = tot

set_option maxRecDepth 100000 in
set_option maxHeartbeats 4000000 in
theorem runes_any (s : ByteArray) (w : World) (hs : s.size ≤ 100000) :
    Calls Tryd.prog 63 #[.string s] w (RnsP w (rnsE s.data.toList)) := by
  obtain ⟨i0, hi0, hz0, hz1, hz2⟩ := info_parts r_info
  have I0 := Lib.hid hi0
  have I1 := Lib.hid hz0
  have I2 := Lib.hid hz1
  have I3 := Lib.hid hz2
  clear hi0 hz0 hz1 hz2
  have HF := Lib.hid (Tryd.strings_FieldsFunc_grows 86 #[] enters40 blk s w (by omega) (pred_blank w))
  have hwl := fields_len s
  have hwz := fields_size s
  have HT := Lib.hid (show rnsW [] (((Lib.goFieldsP blk s).map (fun x => x.data.toList)).drop 0) = rnsE s.data.toList by rw [fields_wds]; rfl)
  obtain ⟨ws, hws⟩ : ∃ ws, ws = Lib.goFieldsP blk s := ⟨_, rfl⟩
  obtain ⟨tot, htot⟩ : ∃ tot, tot = rnsE s.data.toList := ⟨_, rfl⟩
  rw [← hws] at HF hwl hwz HT
  rw [← htot] at HT ⊢
  clear hws htot
  have HWZ := Lib.hid hwz
  clear hwz
  go_enter Tryd.func63, Tryd.ntmps63
  go_wp2_with (go_at_call 85; refine HF.out.mono ?_; rintro e w1 ⟨A, rfl, hA, ho, hb⟩; have O1 := Lib.hid ho; have B1 := Lib.hid hb; clear ho hb)
  have hAl : A < w1.heap.size := (O1.out.lt A rfl).2
  go_loopw [4, 12] (fun out i wr => ∃ k : Nat, i = .int .i64 k ∧ k ≤ ws.length ∧ ∃ os, Hid (RnR w w1 wr ws out k os tot)) (fun _ i _ => ws.length - (intOf i).toNat)
  case atStart => exact ⟨0, rfl, by omega, [], Below.refl _ _, World.ownsRow_nil _ _ _ _, rfl, HT.out⟩
  case round =>
    obtain ⟨k, rfl, hk, os, HR⟩ := hrel
    have hol := HR.out.len
    have HOL := Lib.hid hol
    have hob : os.length ≤ 100000 := by omega
    have hmo : os.length + 1 ≤ maxLen := by unfold maxLen; omega
    clear hol
    have hsz := HR.out.bel.size
    by_cases hlt : k < ws.length
    · have hx0 : ws[k]? = some ws[k] := List.getElem?_eq_getElem hlt
      obtain ⟨x, hx⟩ : ∃ x, x = ws[k] := ⟨_, rfl⟩
      rw [← hx] at hx0
      have hxz : x.size ≤ s.size := HWZ.out x (by rw [hx]; exact List.getElem_mem hlt)
      have hc : wr.cell? ⟨A, k, none⟩ = some (.string x) := by
        have h1 := O1.out.cells (g := A) rfl k (.string x) (by rw [List.getElem?_map, hx0]; rfl)
        have e : (⟨A, 0, none⟩ : Addr).add k = ⟨A, k, none⟩ := by unfold Addr.add; split <;> simp_all
        rw [e] at h1
        exact (HR.out.bel.cell (p := ⟨A, k, none⟩) hAl).trans h1
      have HD := Lib.hid (show (ws.map (fun x => x.data.toList)).drop k = x.data.toList :: (ws.map (fun x => x.data.toList)).drop (k + 1) by
        rw [List.drop_eq_getElem_cons (by rw [List.length_map]; exact hlt)]
        simp [hx])
      clear hx0 hx
      have hX := hex_any x wr (by omega)
      have hcs := hexE_cases x.data.toList
      obtain ⟨y, hy⟩ : ∃ y, y = hexE x.data.toList := ⟨_, rfl⟩
      rw [← hy] at hX hcs
      obtain ⟨r, er⟩ := y
      unfold reV at hX
      simp only at hX hcs
      have HX := Lib.hid hX
      have HY := Lib.hid hy
      have g1 : (k : Int) < ws.length := by omega
      clear hX hy
      rcases hcs with ⟨rfl, hr⟩ | ⟨rfl, he⟩
      · have HQ := Lib.hid (show rnsW (os ++ [r]) ((ws.map (fun x => x.data.toList)).drop (k + 1)) = tot by
          have h1 := HR.out.tot
          rw [HD.out, rnsW_ok (by rw [← HY.out]), ← HY.out] at h1
          exact h1)
        clear HD HY
        go_wp2_with (first
          | (go_at_call 36; refine HX.out.mono ?_; rintro e w2 ⟨rfl, hb⟩; have B2 := Lib.hid hb; have O2 := Lib.hid (own_below' HR.out.own hb); have z2 := hb.size; clear hb)
          | (at_builtin; refine wpList_append_own_at _ rfl (.tmp 24) (.tmp 26) _ rfl w1.heap.size 21 i0 _ 1 4 Tryd.underlying31 I0.out I1.out I2.out I3.out rfl (by omega) u4 os.length _ rfl (O2.out.alloc _) ⟨w2.heap.size, 0, none⟩ 1 1 [_] rfl rfl (cell_one_new _ _ _) (by simp [Value.oneCell']) hmo (by omega) (by simp; omega) ?_; intro v2 w3 ho3 hg3 hn3 ha3; have O3 := Lib.hid ho3; have G3 := Lib.hid hg3; clear ho3 hg3 hn3 ha3))
        go_roundw
        case rel =>
          refine ⟨k + 1, by go_num, by omega, os ++ [r], ?_, ?_, ?_, HQ.out⟩
          · have b2 := HR.out.bel.trans (B2.out.mono HR.out.bel.size)
            exact (b2.alloc b2.size _).grown G3.out (by have := b2.size; simp; omega) (fun q hq => (O2.out.lt q hq).1)
          · have := O3.out
            rw [List.length_append, i32s_app]
            exact this
          · rw [List.length_append, HOL.out]; rfl
        case measure => simp [intOf]; omega
      · have HQ := Lib.hid (show ([], er) = tot by
          have h1 := HR.out.tot
          rw [HD.out, rnsW_no (by rw [← HY.out]; rcases he with rfl | rfl <;> decide), ← HY.out] at h1
          exact h1)
        clear HD HY
        rcases he with rfl | rfl
        all_goals
          go_wp2_with (go_at_call 36; refine HX.out.mono ?_; rintro e w2 ⟨rfl, hb⟩; have B2 := Lib.hid hb; clear hb)
          have b1 := B1.out.trans (HR.out.bel.mono B1.out.size)
          refine bodyPost_ret (v := .tuple #[.slice none 0 0, .int .i64 _]) (by simp [results, Tryd.results63, go_sem]; rfl) rfl ⟨_, by rw [← HQ.out], by rw [← HQ.out]; exact World.ownsRow_nil _ _ _ _, b1.trans (B2.out.mono b1.size)⟩
    · have g1 : ¬ (k : Int) < ws.length := by omega
      have HQ := Lib.hid (show (os, 0) = tot by
        have h1 := HR.out.tot
        rw [List.drop_eq_nil_of_le (by rw [List.length_map]; omega), rnsW] at h1
        exact h1)
      go_wp2_with fail
      have b1 := B1.out.trans (HR.out.bel.mono B1.out.size)
      refine bodyPost_ret (v := .tuple #[u4, .int .i64 0]) (by simp [results, Tryd.results63, go_sem]) rfl ⟨u4, by rw [← HQ.out], by rw [← HQ.out]; exact own_low HR.out.own B1.out.size, b1⟩

end Go.Proofs.YtajhgbcgbgpcjaaDoor.Fi

import Derived.Test.YtagbeioooohbgaaGreatDoorM02
import Derived.Test.YtagbeioooohbgaaGreatDoorM04
import Derived.Test.YtagbeioooohbgaaGreatDoorM03
import Derived.Test.YtagbeioooohbgaaGreatDoorM01
section
namespace Go.Proofs.YtagbeioooohbgaaGreatDoor.Ba
open Uc Fi

/-! Plain: how many rows a text can tell. -/
def tot (l : List (List UInt8)) : Nat := (l.map fun x => x.length + 1).sum
theorem tot_nil : tot [] = 0 := rfl
theorem tot_cons (x : List UInt8) (l : List (List UInt8)) : tot (x :: l) = x.length + 1 + tot l := by simp [tot]
theorem tot_app (a b : List (List UInt8)) : tot (a ++ b) = tot a + tot b := by simp [tot]
theorem spl_tot (c : UInt8) : ∀ (l cur : List UInt8), tot (spl c cur l) = cur.length + l.length + 1
  | [], cur => by simp [spl, tot]
  | b :: l, cur => by
    rw [spl]
    split
    · rw [tot_cons, spl_tot c l []]
      simp
      omega
    · rw [spl_tot c l (cur ++ [b])]
      simp
      omega
theorem lnsW_tot : ∀ (r : List (List UInt8)) (no : Nat) (acc : List (Nat × List UInt8)), (lnsW no acc r).2 = 0 → tot ((lnsW no acc r).1.map (·.2)) ≤ tot (acc.map (·.2)) + tot r
  | [], no, acc, _ => by simp [lnsW, tot]
  | x :: r, no, acc, h => by
    rw [lnsW] at h ⊢
    split at h
    · cases h
    · rename_i h5
      rw [if_neg h5]
      split at h
      · rename_i h6
        rw [if_pos h6]
        have := lnsW_tot r (no + 1) acc h
        rw [tot_cons]
        omega
      · rename_i h6
        rw [if_neg h6]
        have h7 := lnsW_tot r (no + 1) (acc ++ [(no, toldL x)]) h
        have h8 := toldL_le x
        rw [List.map_append, tot_app] at h7
        simp only [List.map_cons, List.map_nil, tot_cons, tot_nil] at h7
        rw [tot_cons]
        omega
theorem lin_tot {s : List UInt8} (h : (linE s).2 = 0) : tot ((linE s).1.map (·.2)) ≤ s.length + 1 := by
  unfold linE at h ⊢
  split at h
  · cases h
  · rename_i h5
    rw [if_neg h5]
    have h6 := lnsW_tot _ 1 [] h
    have h7 := spl_tot 10 s []
    simp only [List.map_nil, tot_nil, List.length_nil, Nat.zero_add] at h6 h7
    omega
theorem digs_pos {b m : Nat} {l : List UInt8} (h : digs b m l ≠ none) : 1 ≤ l.length := by
  cases l with
  | nil => exact absurd (digs_len (.inl rfl)) h
  | cons x l => simp
theorem tot_len : ∀ l : List (List UInt8), l.length ≤ tot l
  | [] => by simp [tot]
  | x :: l => by
    have := tot_len l
    rw [tot_cons, List.length_cons]
    omega
theorem tot_one : ∀ (l : List (List UInt8)) (j : Nat), l.length + (l.getD j []).length ≤ tot l
  | [], j => by simp [tot]
  | x :: l, 0 => by
    have := tot_len l
    rw [tot_cons]
    simp
    omega
  | x :: l, j + 1 => by
    have := tot_one l j
    rw [tot_cons]
    simp at this ⊢
    omega
theorem tot_get : ∀ (l : List (List UInt8)) (i j : Nat), i < j → l.length + (l.getD i []).length + (l.getD j []).length ≤ tot l
  | [], i, j, _ => by simp [tot]
  | x :: l, 0, j + 1, _ => by
    have h1 := tot_one l j
    rw [tot_cons]
    simp at h1 ⊢
    omega
  | x :: l, i + 1, j + 1, hij => by
    have h1 := tot_get l i j (by omega)
    rw [tot_cons]
    simp at h1 ⊢
    omega
/-- A line that tells a row has seven bytes at least. -/
theorem row_seven {t : List UInt8} (h : (rowE t).2 = 0) : 7 ≤ t.length := by
  unfold rowE at h
  split at h
  · cases h
  · rename_i h6
    have hl : (fld t).length = (spl 59 [] t).length := by simp [fld]
    unfold rowF at h
    split at h
    · rename_i h7; exact absurd h h7
    · rename_i h7
      split at h
      · rename_i h8; exact absurd h h8
      · rename_i h8
        have hg : ∀ i, ((fld t).getD i []).length ≤ ((spl 59 [] t).getD i []).length := fun i => by
          unfold fld
          by_cases hi : i < (spl 59 [] t).length
          · simp only [List.getD, List.getElem?_map, List.getElem?_eq_getElem hi, Option.map_some, Option.getD_some]
            exact bareL_le _
          · simp [List.getD, List.getElem?_eq_none (Nat.le_of_not_lt hi)]
        have a0 : 1 ≤ ((fld t).getD 0 []).length := digs_pos (b := 16) (m := 6) fun e => h7 (by rw [hexE_none e]; decide)
        have a3 : 1 ≤ ((fld t).getD 3 []).length := digs_pos (b := 10) (m := 5) fun e => h8 (by unfold nmE; rw [e]; decide)
        have b0 := hg 0
        have b3 := hg 3
        have ht := tot_get (spl 59 [] t) 0 3 (by omega)
        have hs := spl_tot 59 t []
        simp only [List.length_nil, Nat.zero_add] at hs
        omega
theorem putTo_len (l : List Rw) (t : Int) : (putTo l t).length ≤ l.length + 1 := by
  unfold putTo
  simp <;> omega
theorem stp_len {rs : List Rw} {op no : Nat} {t : List UInt8} (h : (stp rs op no t).2.2 = 0) : (stp rs op no t).1.length ≤ rs.length + 1 ∧ 7 ≤ t.length := by
  unfold stp at h ⊢
  split at h
  · rename_i h1; exact absurd h h1
  · rename_i h1
    have h7 := row_seven (t := t) (by simpa using h1)
    rw [if_neg h1]
    refine ⟨?_, h7⟩
    split at h
    · rename_i h2
      rw [if_pos h2]
      split at h
      · cases h
      · rename_i h3
        rw [if_neg h3]
        exact putTo_len _ _
    · rename_i h2
      rw [if_neg h2]
      split at h
      · cases h
      · rename_i h3
        rw [if_neg h3]
        split <;> simp
theorem run_len : ∀ (ls : List (Nat × List UInt8)) (rs : List Rw) (op : Nat), (run rs op ls).2.2.2 = 0 → 8 * (run rs op ls).1.length ≤ 8 * rs.length + tot (ls.map (·.2))
  | [], rs, op, _ => by simp [run, tot]
  | x :: r, rs, op, h => by
    rw [run] at h ⊢
    split at h
    · rename_i h1; exact absurd h h1
    · rename_i h1
      rw [if_neg h1]
      have h2 := run_len r _ _ h
      obtain ⟨h3, h4⟩ := stp_len (rs := rs) (op := op) (no := x.1) (t := x.2) (by simpa using h1)
      simp only [List.map_cons, tot_cons]
      omega
/-- A row wants eight bytes, its end counted. -/
theorem rws_few {s : List UInt8} (h : (rwsE s).2.2 = 0) : 8 * (rwsE s).1.length ≤ s.length + 1 := by
  unfold rwsE at h ⊢
  split at h
  · rename_i h1; exact absurd h h1
  · rename_i h1
    rw [if_neg h1]
    split at h
    · rename_i h2; exact absurd h h2
    · rename_i h2
      rw [if_neg h2]
      split at h
      · cases h
      · rename_i h3
        rw [if_neg h3]
        have h4 := run_len (linE s).1 [] 0 (by simpa using h2)
        have h5 := lin_tot (s := s) (by simpa using h1)
        simp only [List.length_nil, Nat.mul_zero, Nat.zero_add] at h4
        exact Nat.le_trans h4 h5

end Go.Proofs.YtagbeioooohbgaaGreatDoor.Ba
end
section
namespace Go.Proofs.YtagbeioooohbgaaGreatDoor.Uc
open Go.RowKit Fi

theorem chP_len (f : Int) : ∀ n, (chP f n).length ≤ n
  | 0 => by simp [chP]
  | n + 1 => by
    have ih := chP_len f n
    cases h : scal (f + n) with
    | true => rw [chP_yes h]; simp; omega
    | false => rw [chP_no h]; omega
theorem r_info : (Tryz.prog.info? 21).map (fun i => (i.zero, i.size, i.bytes)) = some (some (.int .i32 0), 1, 4) := by kernel_rfl
def ChP (w : World) (l : List Int) (e : Ending) (w' : World) : Prop := ∃ v, e = .returned v ∧ w'.ownsRow w.heap.size 21 1 v l.length (i32s l) ∧ Below w.heap.size w w'
/-- What characters answers: all of the range, or as many as may be. -/
structure ChE (f t : Int) (m : Nat) (l : List Int) : Prop where
  pre : ∃ n : Nat, (n : Int) ≤ t - f + 1 ∧ l = chP f n
  most : l.length ≤ m
  all : l.length < m → l = chs f t
set_option maxHeartbeats 4000000 in
set_option maxRecDepth 100000 in
theorem chars_any (f t : Int) (m : Nat) (w : World) (h0 : 0 ≤ f) (h1 : f ≤ t) (h2 : t ≤ 1114111) (hm : m ≤ 10000) :
    Calls Tryz.prog 51 #[.int .i32 f, .int .i32 t, .int .i64 m] w fun e w' => ∃ l, ChE f t m l ∧ ChP w l e w' := by
  obtain ⟨i0, hi0, hz0, hz1, hz2⟩ := info_parts r_info
  have I0 := Lib.hid hi0
  have I1 := Lib.hid hz0
  have I2 := Lib.hid hz1
  have I3 := Lib.hid hz2
  clear hi0 hz0 hz1 hz2
  go_enter Tryz.func51, Tryz.ntmps51
  go_wp2_with fail
  go_loopw [7, 8] (fun s7 s8 wr => ∃ n : Nat, s8 = .int .i32 (f + n) ∧ (n : Int) ≤ t - f + 1 ∧ (chP f n).length ≤ m ∧ Hid (wr.ownsRow w.heap.size 21 1 s7 (chP f n).length (i32s (chP f n)) ∧ Below w.heap.size w wr)) (fun _ s8 _ => (t + 1 - intOf s8).toNat)
  case atStart => exact ⟨0, by simp, by omega, by simp [chP], by rw [chP_zero]; exact World.ownsRow_nil _ _ _ _, Below.refl _ _⟩
  case round =>
    obtain ⟨n, rfl, hn, hl, HQ⟩ := hrel
    obtain ⟨A, c, rfl, _⟩ := own_ints HQ.out.1
    by_cases hlt : f + n ≤ t
    · by_cases hlm : (chP f n).length < m
      · have g1 : ((chP f n).length : Int) < (m : Int) := by omega
        have HS := Lib.hid (fun W => scalar_any (f + n) W)
        rcases (Bool.eq_false_or_eq_true (scal (f + n))).symm with hs | hs
        · have HS' := Lib.hid (fun W => by have := HS.out W; rw [hs] at this; exact this)
          have HN := Lib.hid (chP_no hs)
          clear hs HS
          go_wp2_with (go_at_call 20; refine (HS'.out _).mono ?_; rintro e w' ⟨rfl, rfl⟩)
          go_roundw
          case measure => simp [intOf]; omega
          case rel => exact ⟨n + 1, by simp [Int.add_assoc], by omega, by rw [HN.out]; exact hl, by rw [HN.out]; exact HQ.out⟩
        · have HS' := Lib.hid (fun W => by have := HS.out W; rw [hs] at this; exact this)
          have HN := Lib.hid (chP_yes hs)
          have hl2 := chP_len f n
          clear hs HS
          go_wp2_with (first
            | (go_at_call 20; refine (HS'.out _).mono ?_; rintro e w' ⟨rfl, rfl⟩)
            | (at_builtin; refine wpList_append_own_at _ rfl (.tmp 23) (.tmp 25) _ rfl w.heap.size 21 i0 _ 1 4 Tryz.underlying32 I0.out I1.out I2.out I3.out rfl (by omega) _ (chP f n).length _ rfl (HQ.out.1.alloc _) ⟨wr.heap.size, 0, none⟩ 1 1 [.int .i32 (f + n)] rfl rfl (World.news_of_block (cs := #[.int .i32 (f + n)]) (t := 21) (fr := (0, 0)) (heap_alloc_new wr _)) (by simp [Value.oneCell']) (by unfold maxLen; omega) (by omega) (by have := HQ.out.2.size; simp; omega) ?_; intro v6 w6 ho6 hg6 hn6 ha6; have O6 := Lib.hid ho6; have B6 := Lib.hid ((HQ.out.2.alloc HQ.out.2.size (.cells #[.int .i32 (f + n)] 21)).grown hg6 (by have := HQ.out.2.size; simp; omega) (fun z hz => (HQ.out.1.lt z hz).1)); clear ho6 hg6 hn6 ha6))
          go_roundw
          case measure => simp [intOf]; omega
          case rel =>
            refine ⟨n + 1, by simp [Int.add_assoc], by omega, by rw [HN.out]; simp; omega, ?_, B6.out⟩
            rw [HN.out]
            have := O6.out
            simpa [i32s] using this
      · have g1 : ¬ ((chP f n).length : Int) < (m : Int) := by omega
        go_wp2_with fail
        go_ret
        exact ⟨_, ⟨⟨n, hn, rfl⟩, hl, fun h => absurd h hlm⟩, _, rfl, HQ.out.1, HQ.out.2⟩
    · go_wp2_with fail
      go_ret
      have e : n = (t - f + 1).toNat := by omega
      exact ⟨_, ⟨⟨n, hn, rfl⟩, hl, fun _ => by rw [e]; rfl⟩, _, rfl, HQ.out.1, HQ.out.2⟩

end Go.Proofs.YtagbeioooohbgaaGreatDoor.Uc
end
section
namespace Go.Proofs.YtagbeioooohbgaaGreatDoor.Fi
open Go.RowKit

set_option maxHeartbeats 2000000 in
theorem range_any (s : ByteArray) (w : World) (hM : Ml w) (hs : s.size < 4294967281) :
    Calls Tryz.prog 48 #[.string s] w fun e w' => e = .returned (r3V (rngE s.data.toList)) ∧ Below w.heap.size w w' := by
  have hc := cut_any s ⟨#[46, 46]⟩ w hM hs
  have HX := Lib.hid (fun W => hex_any s W (by omega))
  rw [show (⟨#[46, 46]⟩ : ByteArray).data.toList = [46, 46] from rfl] at hc
  have hl1 := (cut_le s.data.toList [46, 46]).1
  have hl2 := (cut_le s.data.toList [46, 46]).2
  rw [lst_len] at hl1 hl2
  clear hM
  obtain ⟨x, hx⟩ : ∃ x, x = Lib.cut s.data.toList [46, 46] := ⟨_, rfl⟩
  obtain ⟨a, b, f⟩ := x
  rw [← hx] at hc hl1 hl2
  simp only at hc hl1 hl2
  have HC := Lib.hid hc
  clear hc
  cases f with
  | false =>
    have H := Lib.hid (show rngE s.data.toList = ((hexE s.data.toList).1, (hexE s.data.toList).1, (hexE s.data.toList).2) by unfold rngE; rw [← hx]; rfl)
    clear hx hl1 hl2
    obtain ⟨y, hy⟩ : ∃ y, y = hexE s.data.toList := ⟨_, rfl⟩
    obtain ⟨r, e⟩ := y
    have hX := HX.out
    have hH := H.out
    rw [← hy] at hX hH
    have HX := Lib.hid hX
    have H := Lib.hid hH
    clear hX hH hy
    unfold reV at HX
    go_enter Tryz.func48, Tryz.ntmps48
    go_wp2_with (first
      | (go_at_call 76; refine HC.out.mono ?_; rintro e w1 ⟨rfl, hb⟩; have B1 := Lib.hid hb; clear hb)
      | (go_at_call 71; refine (HX.out _).mono ?_; rintro e w2 ⟨rfl, hb⟩; have B2 := Lib.hid hb; clear hb))
    refine bodyPost_ret (v := .tuple #[.int .i32 r, .int .i32 r, .int .i64 e]) (by simp [results, Tryz.results48, go_sem]) rfl ⟨ret_eq (by rw [H.out]; rfl), B1.out.trans (B2.out.mono B1.out.size)⟩
  | true =>
    have H := Lib.hid (show rngE s.data.toList = (if (hexE (bareL a)).2 ≠ 0 then (0, 0, (hexE (bareL a)).2) else if (hexE (bareL b)).2 ≠ 0 then (0, 0, (hexE (bareL b)).2) else if (hexE (bareL b)).1 < (hexE (bareL a)).1 then (0, 0, 11) else ((hexE (bareL a)).1, (hexE (bareL b)).1, 0)) by unfold rngE; rw [← hx]; rfl)
    clear hx HX
    have HBa := Lib.hid (fun W => bare_any ⟨a.toArray⟩ W (by rw [size_mk]; omega))
    have HBb := Lib.hid (fun W => bare_any ⟨b.toArray⟩ W (by rw [size_mk]; omega))
    have hba := bareL_le a
    have hbb := bareL_le b
    have ha := hexE_cases (bareL a)
    have hb := hexE_cases (bareL b)
    have hXa := fun W => hex_any ⟨(bareL a).toArray⟩ W (by rw [size_mk]; omega)
    have hXb := fun W => hex_any ⟨(bareL b).toArray⟩ W (by rw [size_mk]; omega)
    simp only at hXa hXb
    obtain ⟨y, hy⟩ : ∃ y, y = hexE (bareL a) := ⟨_, rfl⟩
    obtain ⟨z, hz⟩ : ∃ z, z = hexE (bareL b) := ⟨_, rfl⟩
    have hH := H.out
    rw [← hy, ← hz] at hH
    rw [← hy] at ha hXa
    rw [← hz] at hb hXb
    obtain ⟨r, e⟩ := y
    obtain ⟨q, f⟩ := z
    unfold reV at hXa hXb
    simp only at ha hb hXa hXb hH
    simp only at HBa HBb
    clear hy hz H hba hbb hl1 hl2
    have H := Lib.hid hH
    have HXa := Lib.hid hXa
    have HXb := Lib.hid hXb
    clear hH hXa hXb
    rcases ha with ⟨rfl, har⟩ | ⟨rfl, hae⟩
    · obtain ⟨har0, har1⟩ := scal_bd har
      clear har
      rcases hb with ⟨rfl, hbr⟩ | ⟨rfl, hbe⟩
      · obtain ⟨hbr0, hbr1⟩ := scal_bd hbr
        clear hbr
        by_cases hlt : q < r
        · have H := Lib.hid (show rngE s.data.toList = (0, 0, 11) by rw [H.out]; simp [hlt])
          go_enter Tryz.func48, Tryz.ntmps48
          go_wp2_with fail
          refine HC.out.mono ?_; rintro e w1 ⟨rfl, hb⟩; have B1 := Lib.hid hb; clear hb
          go_wp2_with fail
          refine (HBa.out _).mono ?_; rintro e w2 ⟨rfl, hb⟩; have B2 := Lib.hid hb; clear hb
          go_wp2_with fail
          refine (HXa.out _).mono ?_; rintro e w3 ⟨rfl, hb⟩; have B3 := Lib.hid hb; clear hb
          go_wp2_with fail
          refine (HBb.out _).mono ?_; rintro e w4 ⟨rfl, hb⟩; have B4 := Lib.hid hb; clear hb
          go_wp2_with fail
          refine (HXb.out _).mono ?_; rintro e w5 ⟨rfl, hb⟩; have B5 := Lib.hid hb; clear hb
          go_wp2_with fail
          have b2 := B1.out.trans (B2.out.mono B1.out.size)
          have b3 := b2.trans (B3.out.mono b2.size)
          have b4 := b3.trans (B4.out.mono b3.size)
          have b5 := b4.trans (B5.out.mono b4.size)
          refine bodyPost_ret (v := .tuple #[.int .i32 0, .int .i32 0, .int .i64 11]) (by simp [results, Tryz.results48, go_sem]) rfl ⟨ret_eq (by rw [H.out]; rfl), b5⟩
        · have H := Lib.hid (show rngE s.data.toList = (r, q, 0) by rw [H.out]; simp [hlt])
          go_enter Tryz.func48, Tryz.ntmps48
          go_wp2_with fail
          refine HC.out.mono ?_; rintro e w1 ⟨rfl, hb⟩; have B1 := Lib.hid hb; clear hb
          go_wp2_with fail
          refine (HBa.out _).mono ?_; rintro e w2 ⟨rfl, hb⟩; have B2 := Lib.hid hb; clear hb
          go_wp2_with fail
          refine (HXa.out _).mono ?_; rintro e w3 ⟨rfl, hb⟩; have B3 := Lib.hid hb; clear hb
          go_wp2_with fail
          refine (HBb.out _).mono ?_; rintro e w4 ⟨rfl, hb⟩; have B4 := Lib.hid hb; clear hb
          go_wp2_with fail
          refine (HXb.out _).mono ?_; rintro e w5 ⟨rfl, hb⟩; have B5 := Lib.hid hb; clear hb
          go_wp2_with fail
          have b2 := B1.out.trans (B2.out.mono B1.out.size)
          have b3 := b2.trans (B3.out.mono b2.size)
          have b4 := b3.trans (B4.out.mono b3.size)
          have b5 := b4.trans (B5.out.mono b4.size)
          refine bodyPost_ret (v := .tuple #[.int .i32 r, .int .i32 q, .int .i64 0]) (by simp [results, Tryz.results48, go_sem]) rfl ⟨ret_eq (by rw [H.out]; rfl), b5⟩
      · have H := Lib.hid (show rngE s.data.toList = (0, 0, f) by rw [H.out]; rcases hbe with rfl | rfl <;> simp)
        rcases hbe with rfl | rfl
        all_goals
          go_enter Tryz.func48, Tryz.ntmps48
          go_wp2_with fail
          refine HC.out.mono ?_; rintro e w1 ⟨rfl, hb⟩; have B1 := Lib.hid hb; clear hb
          go_wp2_with fail
          refine (HBa.out _).mono ?_; rintro e w2 ⟨rfl, hb⟩; have B2 := Lib.hid hb; clear hb
          go_wp2_with fail
          refine (HXa.out _).mono ?_; rintro e w3 ⟨rfl, hb⟩; have B3 := Lib.hid hb; clear hb
          go_wp2_with fail
          refine (HBb.out _).mono ?_; rintro e w4 ⟨rfl, hb⟩; have B4 := Lib.hid hb; clear hb
          go_wp2_with fail
          refine (HXb.out _).mono ?_; rintro e w5 ⟨rfl, hb⟩; have B5 := Lib.hid hb; clear hb
          go_wp2_with fail
          have b2 := B1.out.trans (B2.out.mono B1.out.size)
          have b3 := b2.trans (B3.out.mono b2.size)
          have b4 := b3.trans (B4.out.mono b3.size)
          have b5 := b4.trans (B5.out.mono b4.size)
          refine bodyPost_ret (v := .tuple #[.int .i32 0, .int .i32 0, .int .i64 _]) (by simp [results, Tryz.results48, go_sem]; rfl) rfl ⟨ret_eq (by rw [H.out]; rfl), b5⟩
    · have H := Lib.hid (show rngE s.data.toList = (0, 0, e) by rw [H.out]; rcases hae with rfl | rfl <;> simp)
      clear hb HXb HBb
      rcases hae with rfl | rfl
      all_goals
        go_enter Tryz.func48, Tryz.ntmps48
        go_wp2_with fail
        refine HC.out.mono ?_; rintro e w1 ⟨rfl, hb⟩; have B1 := Lib.hid hb; clear hb
        go_wp2_with fail
        refine (HBa.out _).mono ?_; rintro e w2 ⟨rfl, hb⟩; have B2 := Lib.hid hb; clear hb
        go_wp2_with fail
        refine (HXa.out _).mono ?_; rintro e w3 ⟨rfl, hb⟩; have B3 := Lib.hid hb; clear hb
        go_wp2_with fail
        have b2 := B1.out.trans (B2.out.mono B1.out.size)
        have b3 := b2.trans (B3.out.mono b2.size)
        refine bodyPost_ret (v := .tuple #[.int .i32 0, .int .i32 0, .int .i64 _]) (by simp [results, Tryz.results48, go_sem]; rfl) rfl ⟨ret_eq (by rw [H.out]; rfl), b3⟩

end Go.Proofs.YtagbeioooohbgaaGreatDoor.Fi
end

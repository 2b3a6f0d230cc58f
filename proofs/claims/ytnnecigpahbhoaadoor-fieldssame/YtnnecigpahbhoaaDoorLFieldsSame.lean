/- FieldsSame: for every input the law returns true and it reads as before: it does not count whether digits are small or large, nor how many blanks there are, nor what stands behind a number sign. Conditions: the library's tables as the program's text lays them (tied). -/
import Derived.Test.YtnnecigpahbhoaaDoorFV
import Derived.Test.YtnnecigpahbhoaaDoorFT
import Derived.Test.YtnnecigpahbhoaaDoorCards
import Derived.ShutString
import Derived.ChangeOld
namespace Go.Proofs.YtnnecigpahbhoaaDoor
open Go.ChangeShapes Go.WideShapes Go.ChangeAt Go.WideMaps Go.WideElems Go.RowKit
open Go.ChangeMaps (open_string shut_string)
open Fi

set_option maxRecDepth 100000 in
set_option maxHeartbeats 16000000 in
theorem fieldsSame_walk (s r : ByteArray) (w : World) (hs : s.size ≤ 9223372036854775807) (hr : r.size ≤ 9223372036854775807) (hL : Ml w) : Calls Tryd.prog 7 #[.string s, .string r] w fun e w' => e = .returned (.bool true) ∧ Below w.heap.size w w' := by
  have hpos := hL.pos
  have HFin := Lib.hid (show ∀ w2 : World, Below w.heap.size w w2 → Calls Tryd.prog 9 #[] w2 fun e w' => e = .returned (.bool true) ∧ Below w2.heap.size w2 w' from fun w2 h => awake_any w2 (hL.below h hpos))
  by_cases h1 : s.size ≤ 400
  · by_cases h2 : r.size ≤ 100
    · have g1 : ¬ (400 : Int) < s.size := by omega
      have g2 : ¬ (100 : Int) < r.size := by omega
      obtain ⟨i0, hi0, hz0, hz1, hz2⟩ := info_parts u8_info
      obtain ⟨W0, hmk0, hW0, hg0⟩ := run_make_own (P := Tryd.prog) (w := w) w.heap.size 55 5 i0 _ 1 Tryd.underlying55 hi0 hz0 hz1 .i64 .i64 0 (by omega) (Nat.zero_le _) (Nat.le_refl _)
      have hlt0 := (hW0.lt w.heap.size rfl).2
      obtain ⟨W1, hmk1, hW1, hg1⟩ := run_make_own (P := Tryd.prog) (w := W0) w.heap.size 55 5 i0 _ 1 Tryd.underlying55 hi0 hz0 hz1 .i64 .i64 0 (by omega) (Nat.zero_le _) (by omega)
      rw [show ((0 : Nat) : Int) = 0 from rfl] at hmk0 hmk1
      have b0 : Below w.heap.size w W0 := (Below.refl _ w).grown hg0 (Nat.le_refl _) (fun q hq => by cases hq)
      have BW := Lib.hid (b0.grown hg1 (by omega) (fun q hq => by cases hq))
      have OW5 := Lib.hid (own_other hW0 hg1 (by simp [Value.ownBlock]))
      have OW6 := Lib.hid hW1
      clear hW0 hg0 hW1 hg1 b0
      have I0 := Lib.hid hi0
      have I1 := Lib.hid hz0
      have I2 := Lib.hid hz1
      have I3 := Lib.hid hz2
      clear hi0 hz0 hz1 hz2
      have HL := Lib.hid hL
      clear hL
      obtain ⟨X5, hX5⟩ : ∃ X : ByteArray, X = ⟨(s.data.toList.map sml).toArray⟩ := ⟨_, rfl⟩
      obtain ⟨X6, hX6⟩ : ∃ X : ByteArray, X = ⟨(wid s.data.toList).toArray⟩ := ⟨_, rfl⟩
      have hw3 := wid_len s.data.toList
      rw [lst_len] at hw3
      have hx6b : X6.size ≤ 1200 := by rw [hX6, size_mk]; omega
      have hx5 : X5.size ≤ 400 := by rw [hX5, size_mk, List.length_map, lst_len]; omega
      have e6 : (⟨#[32]⟩ ++ X6 ++ ⟨#[9]⟩ : ByteArray).data.toList = 32 :: (wid s.data.toList ++ [9]) := by rw [hX6]; simp
      have hx6 : (⟨#[32]⟩ ++ X6 ++ ⟨#[9]⟩ : ByteArray).size ≤ 100000 := by rw [← lst_len, e6, List.length_cons, List.length_append, List.length_singleton]; omega
      have hA := fun W => runes_sl s W (by omega)
      have hB := fun W => runes_sl X5 W (by omega)
      have hC := fun W => runes_sl (⟨#[32]⟩ ++ X6 ++ ⟨#[9]⟩) W hx6
      rw [show X5.data.toList = s.data.toList.map sml by rw [hX5], rnsE_sml] at hB
      rw [e6, rnsE_wid] at hC
      have hla := rnsE_len s.data.toList
      rw [lst_len] at hla
      obtain ⟨pa, hpa⟩ : ∃ pa, pa = rnsE s.data.toList := ⟨_, rfl⟩
      rw [← hpa] at hA hB hC hla
      clear hpa
      obtain ⟨a, ea⟩ := pa
      unfold RnSl at hA hB hC
      simp only at hA hB hC hla
      have HA := Lib.hid hA
      have HB := Lib.hid hB
      have HC := Lib.hid hC
      obtain ⟨n9, hn9⟩ : ∃ n9, n9 = s.data.toList.count 59 := ⟨_, rfl⟩
      have HSp := Lib.hid (fun W (h : Below w.heap.size w W) => (show Calls Tryd.prog 13 #[.string s, .int .u8 59] W fun e w' => ∃ A c, e = .returned (.slice A (n9 + 1) c) ∧ Below W.heap.size W w' from (fsplit_any s 59 W (HL.out.below h hpos) (by omega)).mono fun e w' h => by
        obtain ⟨A, c, he, _, hb⟩ := cutP_sl h
        rw [List.length_map, spl_len, ← hn9] at he
        exact ⟨A, c, he, hb⟩))
      have hcn : n9 ≤ s.size := by have := List.count_le_length (a := (59 : UInt8)) (l := s.data.toList); rw [lst_len] at this; omega
      have HN9 := Lib.hid hn9
      clear hn9
      have HLs := Lib.hid (fun W (h : Below w.heap.size w W) => lines_sl s W (HL.out.below h hpos) (by omega))
      have hsr : (s ++ ⟨#[35]⟩ ++ r).size ≤ 100000 := by have h35 : (⟨#[35]⟩ : ByteArray).size = 1 := rfl; rw [ByteArray.size_append, ByteArray.size_append]; omega
      have HLr := Lib.hid (fun W (h : Below w.heap.size w W) => lines_sl (s ++ ⟨#[35]⟩ ++ r) W (HL.out.below h hpos) hsr)
      have HX5 := Lib.hid hX5
      have HX6 := Lib.hid hX6
      clear hX5 hX6 hA hB hC e6 hx6 hx5 hw3 hsr
      have hla2 : a.length ≤ 100000 := by omega
      go_enter Tryd.func7, Tryd.ntmps7
      go_wp2_with fail
      go_loopw [5, 6, 7] (fun v5 v6 i wr => ∃ k : Nat, i = .int .i64 k ∧ k ≤ s.size ∧ Hid (SmR w wr v5 v6 (s.data.toList.take k))) (fun _ _ i _ => s.size - (intOf i).toNat)
      case atStart =>
        refine ⟨0, rfl, by omega, ?_, ?_, ?_, ?_, ?_⟩
        · exact BW.out
        · exact OW5.out
        · exact OW6.out
        · simp [Value.ownBlock]; omega
        · simp
      case round =>
        obtain ⟨k, rfl, hk, HR⟩ := hrel
        have hsz := HR.out.bel.size
        have hlk : (s.data.toList.take k).length ≤ k := List.length_take_le _ _
        have hlw := wid_len (s.data.toList.take k)
        have hm5 : (s.data.toList.take k).length + 1 ≤ maxLen := by unfold maxLen; omega
        have hm6 : (wid (s.data.toList.take k)).length + 1 ≤ maxLen := by unfold maxLen; omega
        have hm7 : (wid (s.data.toList.take k)).length + 1 + 2 ≤ maxLen := by unfold maxLen; omega
        have O5 := Lib.hid HR.out.o5
        have O6 := Lib.hid HR.out.o6
        have NE := Lib.hid HR.out.ne
        have BL := Lib.hid HR.out.bel
        have HNO := Lib.hid HR.out.no
        by_cases hlt : k < s.size
        · have gk : (k : Int) < s.size := by omega
          have hcl := UInt8.toNat_lt s[k]
          by_cases c10 : s[k].toNat = 10
          · have e10 : ((s[k].toNat : Int) == 10) = true := by simp; omega
            go_wp2_with fail
            refine (HFin.out _ BL.out).mono ?_
            rintro e w9 ⟨rfl, hb9⟩
            have B9 := Lib.hid (BL.out.trans (hb9.mono BL.out.size))
            clear hb9
            go_wp2_with fail
            go_ret
            exact ⟨rfl, B9.out⟩
          · have e10 : ((s[k].toNat : Int) == 10) = false := by simp; omega
            have hn10 : s[k] ≠ 10 := fun h => c10 (by rw [h]; rfl)
            by_cases cu : 65 ≤ s[k].toNat ∧ s[k].toNat ≤ 70
            · obtain ⟨cu1, cu2⟩ := cu
              have f1 : (65 : Int) ≤ s[k].toNat := by omega
              have f2 : (s[k].toNat : Int) ≤ 70 := by omega
              have HSM := Lib.hid (sml_up cu1 cu2)
              have e32 : ((s[k].toNat : Int) == 32) = false := by simp; omega
              have e9 : ((s[k].toNat : Int) == 9) = false := by simp; omega
              have e13 : ((s[k].toNat : Int) == 13) = false := by simp; omega
              have HWD := Lib.hid (show wid [s[k]] = [s[k]] from wid_no (by unfold blk; simp; omega))
              go_wp2_with (first
                | (at_builtin; refine wpList_append_own_at _ rfl (.tmp 54) (.tmp 56) _ rfl w.heap.size 5 i0 _ 1 1 Tryd.underlying55 I0.out I1.out I2.out I3.out rfl (by omega) u5 (s.data.toList.take k).length _ rfl (O5.out.alloc _) ⟨_, 0, none⟩ 1 1 [_] rfl rfl (cell_one_new _ _ _) (by simp [Value.oneCell']) hm5 (by omega) (by simp; omega) ?_; intro v5 w5 ho5 hg5 hn5 ha5; have P5 := Lib.hid ho5; have Q6 := Lib.hid (own_other (O6.out.alloc _) hg5 NE.out.symm); have N5 := Lib.hid (ap_ne ha5 NE.out (O6.out.alloc _)); have D5 := Lib.hid ((BL.out.alloc hsz _).grown hg5 (by simp; omega) (fun q hq => (O5.out.lt q hq).1)); have z5 : w.heap.size ≤ w5.heap.size := D5.out.size; clear ho5 hg5 hn5 ha5)
                | (at_builtin; refine wpList_append_own_at _ rfl (.tmp 58) (.tmp 62) _ rfl w.heap.size 5 i0 _ 1 1 Tryd.underlying55 I0.out I1.out I2.out I3.out rfl (by omega) u6 (wid (s.data.toList.take k)).length _ rfl (Q6.out.alloc _) ⟨_, 0, none⟩ 1 1 [_] rfl rfl (cell_one_new _ _ _) (by simp [Value.oneCell']) hm6 (by omega) (by simp; omega) ?_; intro v6 w6 ho6 hg6 hn6 ha6; have P6 := Lib.hid ho6; have Q5 := Lib.hid (own_other (P5.out.alloc _) hg6 N5.out); have N6 := Lib.hid (ap_ne ha6 N5.out.symm (P5.out.alloc _)); have D6 := Lib.hid ((D5.out.alloc z5 _).grown hg6 (by simp; omega) (fun q hq => (Q6.out.lt q hq).1)); have z6 : w.heap.size ≤ w6.heap.size := D6.out.size; clear ho6 hg6 hn6 ha6))
              go_roundw
              case rel => exact ⟨k + 1, by go_num, by omega, by rw [take_on s k hlt]; exact SmR.more D6.out (by rw [HSM.out]; exact Q5.out) (by rw [HWD.out]; exact P6.out) N6.out.symm HNO.out hn10⟩
              case measure => simp [intOf] <;> omega
            · have HSM := Lib.hid (congrArg (fun x : UInt8 => (x.toNat : Int)) (sml_no cu))
              by_cases c65 : 65 ≤ s[k].toNat
              · have f1 : (65 : Int) ≤ s[k].toNat := by omega
                have f2 : ¬ (s[k].toNat : Int) ≤ 70 := by omega
                have e32 : ((s[k].toNat : Int) == 32) = false := by simp; omega
                have e9 : ((s[k].toNat : Int) == 9) = false := by simp; omega
                have e13 : ((s[k].toNat : Int) == 13) = false := by simp; omega
                have HWD := Lib.hid (show wid [s[k]] = [s[k]] from wid_no (by unfold blk; simp; omega))
                go_wp2_with (first
                  | (at_builtin; refine wpList_append_own_at _ rfl (.tmp 54) (.tmp 56) _ rfl w.heap.size 5 i0 _ 1 1 Tryd.underlying55 I0.out I1.out I2.out I3.out rfl (by omega) u5 (s.data.toList.take k).length _ rfl (O5.out.alloc _) ⟨_, 0, none⟩ 1 1 [_] rfl rfl (cell_one_new _ _ _) (by simp [Value.oneCell']) hm5 (by omega) (by simp; omega) ?_; intro v5 w5 ho5 hg5 hn5 ha5; have P5 := Lib.hid ho5; have Q6 := Lib.hid (own_other (O6.out.alloc _) hg5 NE.out.symm); have N5 := Lib.hid (ap_ne ha5 NE.out (O6.out.alloc _)); have D5 := Lib.hid ((BL.out.alloc hsz _).grown hg5 (by simp; omega) (fun q hq => (O5.out.lt q hq).1)); have z5 : w.heap.size ≤ w5.heap.size := D5.out.size; clear ho5 hg5 hn5 ha5)
                  | (at_builtin; refine wpList_append_own_at _ rfl (.tmp 58) (.tmp 62) _ rfl w.heap.size 5 i0 _ 1 1 Tryd.underlying55 I0.out I1.out I2.out I3.out rfl (by omega) u6 (wid (s.data.toList.take k)).length _ rfl (Q6.out.alloc _) ⟨_, 0, none⟩ 1 1 [_] rfl rfl (cell_one_new _ _ _) (by simp [Value.oneCell']) hm6 (by omega) (by simp; omega) ?_; intro v6 w6 ho6 hg6 hn6 ha6; have P6 := Lib.hid ho6; have Q5 := Lib.hid (own_other (P5.out.alloc _) hg6 N5.out); have N6 := Lib.hid (ap_ne ha6 N5.out.symm (P5.out.alloc _)); have D6 := Lib.hid ((D5.out.alloc z5 _).grown hg6 (by simp; omega) (fun q hq => (Q6.out.lt q hq).1)); have z6 : w.heap.size ≤ w6.heap.size := D6.out.size; clear ho6 hg6 hn6 ha6))
                go_roundw
                case rel => exact ⟨k + 1, by go_num, by omega, by rw [take_on s k hlt]; exact SmR.more D6.out (by rw [HSM.out]; exact Q5.out) (by rw [HWD.out]; exact P6.out) N6.out.symm HNO.out hn10⟩
                case measure => simp [intOf] <;> omega
              · have f1 : ¬ (65 : Int) ≤ s[k].toNat := by omega
                by_cases c32 : s[k].toNat = 32
                · have e32 : ((s[k].toNat : Int) == 32) = true := by simp; omega
                  have HWD := Lib.hid (show wid [s[k]] = [s[k], 32, 9] from wid_yes (by unfold blk; simp; omega))
                  go_wp2_with (first
                    | (at_builtin; refine wpList_append_own_at _ rfl (.tmp 54) (.tmp 56) _ rfl w.heap.size 5 i0 _ 1 1 Tryd.underlying55 I0.out I1.out I2.out I3.out rfl (by omega) u5 (s.data.toList.take k).length _ rfl (O5.out.alloc _) ⟨_, 0, none⟩ 1 1 [_] rfl rfl (cell_one_new _ _ _) (by simp [Value.oneCell']) hm5 (by omega) (by simp; omega) ?_; intro v5 w5 ho5 hg5 hn5 ha5; have P5 := Lib.hid ho5; have Q6 := Lib.hid (own_other (O6.out.alloc _) hg5 NE.out.symm); have N5 := Lib.hid (ap_ne ha5 NE.out (O6.out.alloc _)); have D5 := Lib.hid ((BL.out.alloc hsz _).grown hg5 (by simp; omega) (fun q hq => (O5.out.lt q hq).1)); have z5 : w.heap.size ≤ w5.heap.size := D5.out.size; clear ho5 hg5 hn5 ha5)
                    | (at_builtin; refine wpList_append_own_at _ rfl (.tmp 58) (.tmp 62) _ rfl w.heap.size 5 i0 _ 1 1 Tryd.underlying55 I0.out I1.out I2.out I3.out rfl (by omega) u6 (wid (s.data.toList.take k)).length _ rfl (Q6.out.alloc _) ⟨_, 0, none⟩ 1 1 [_] rfl rfl (cell_one_new _ _ _) (by simp [Value.oneCell']) hm6 (by omega) (by simp; omega) ?_; intro v6 w6 ho6 hg6 hn6 ha6; have P6 := Lib.hid ho6; have Q5 := Lib.hid (own_other (P5.out.alloc _) hg6 N5.out); have N6 := Lib.hid (ap_ne ha6 N5.out.symm (P5.out.alloc _)); have D6 := Lib.hid ((D5.out.alloc z5 _).grown hg6 (by simp; omega) (fun q hq => (Q6.out.lt q hq).1)); have z6 : w.heap.size ≤ w6.heap.size := D6.out.size; clear ho6 hg6 hn6 ha6)
                    | (at_builtin; refine wpList_append_own_at _ rfl (.tmp 80) (.tmp 81) _ rfl w.heap.size 5 i0 _ 1 1 Tryd.underlying55 I0.out I1.out I2.out I3.out rfl (by omega) v6 ((wid (s.data.toList.take k)).length + 1) _ rfl (P6.out.alloc _) ⟨_, 0, none⟩ 2 2 [.int .u8 32, .int .u8 9] rfl rfl (World.news_of_block (cs := #[.int .u8 32, .int .u8 9]) (t := 5) (fr := (0, 0)) (heap_alloc_new w6 _)) (by simp [Value.oneCell']) hm7 (by omega) (by simp; omega) ?_; intro v7 w7 ho7 hg7 hn7 ha7; have P7 := Lib.hid ho7; have R5 := Lib.hid (own_other (Q5.out.alloc _) hg7 N6.out.symm); have N7 := Lib.hid (ap_ne ha7 N6.out (Q5.out.alloc _)); have D7 := Lib.hid ((D6.out.alloc z6 _).grown hg7 (by simp; omega) (fun q hq => (P6.out.lt q hq).1)); clear ho7 hg7 hn7 ha7))
                  go_roundw
                  case rel => exact ⟨k + 1, by go_num, by omega, by rw [take_on s k hlt]; exact SmR.more D7.out (by rw [HSM.out, c32]; exact R5.out) (by rw [HWD.out]; simpa [u8v, Nat.add_assoc, c32] using P7.out) N7.out.symm HNO.out hn10⟩
                  case measure => simp [intOf] <;> omega
                · have e32 : ((s[k].toNat : Int) == 32) = false := by simp; omega
                  by_cases c9 : s[k].toNat = 9
                  · have e9 : ((s[k].toNat : Int) == 9) = true := by simp; omega
                    have HWD := Lib.hid (show wid [s[k]] = [s[k], 32, 9] from wid_yes (by unfold blk; simp; omega))
                    go_wp2_with (first
                      | (at_builtin; refine wpList_append_own_at _ rfl (.tmp 54) (.tmp 56) _ rfl w.heap.size 5 i0 _ 1 1 Tryd.underlying55 I0.out I1.out I2.out I3.out rfl (by omega) u5 (s.data.toList.take k).length _ rfl (O5.out.alloc _) ⟨_, 0, none⟩ 1 1 [_] rfl rfl (cell_one_new _ _ _) (by simp [Value.oneCell']) hm5 (by omega) (by simp; omega) ?_; intro v5 w5 ho5 hg5 hn5 ha5; have P5 := Lib.hid ho5; have Q6 := Lib.hid (own_other (O6.out.alloc _) hg5 NE.out.symm); have N5 := Lib.hid (ap_ne ha5 NE.out (O6.out.alloc _)); have D5 := Lib.hid ((BL.out.alloc hsz _).grown hg5 (by simp; omega) (fun q hq => (O5.out.lt q hq).1)); have z5 : w.heap.size ≤ w5.heap.size := D5.out.size; clear ho5 hg5 hn5 ha5)
                      | (at_builtin; refine wpList_append_own_at _ rfl (.tmp 58) (.tmp 62) _ rfl w.heap.size 5 i0 _ 1 1 Tryd.underlying55 I0.out I1.out I2.out I3.out rfl (by omega) u6 (wid (s.data.toList.take k)).length _ rfl (Q6.out.alloc _) ⟨_, 0, none⟩ 1 1 [_] rfl rfl (cell_one_new _ _ _) (by simp [Value.oneCell']) hm6 (by omega) (by simp; omega) ?_; intro v6 w6 ho6 hg6 hn6 ha6; have P6 := Lib.hid ho6; have Q5 := Lib.hid (own_other (P5.out.alloc _) hg6 N5.out); have N6 := Lib.hid (ap_ne ha6 N5.out.symm (P5.out.alloc _)); have D6 := Lib.hid ((D5.out.alloc z5 _).grown hg6 (by simp; omega) (fun q hq => (Q6.out.lt q hq).1)); have z6 : w.heap.size ≤ w6.heap.size := D6.out.size; clear ho6 hg6 hn6 ha6)
                      | (at_builtin; refine wpList_append_own_at _ rfl (.tmp 80) (.tmp 81) _ rfl w.heap.size 5 i0 _ 1 1 Tryd.underlying55 I0.out I1.out I2.out I3.out rfl (by omega) v6 ((wid (s.data.toList.take k)).length + 1) _ rfl (P6.out.alloc _) ⟨_, 0, none⟩ 2 2 [.int .u8 32, .int .u8 9] rfl rfl (World.news_of_block (cs := #[.int .u8 32, .int .u8 9]) (t := 5) (fr := (0, 0)) (heap_alloc_new w6 _)) (by simp [Value.oneCell']) hm7 (by omega) (by simp; omega) ?_; intro v7 w7 ho7 hg7 hn7 ha7; have P7 := Lib.hid ho7; have R5 := Lib.hid (own_other (Q5.out.alloc _) hg7 N6.out.symm); have N7 := Lib.hid (ap_ne ha7 N6.out (Q5.out.alloc _)); have D7 := Lib.hid ((D6.out.alloc z6 _).grown hg7 (by simp; omega) (fun q hq => (P6.out.lt q hq).1)); clear ho7 hg7 hn7 ha7))
                    go_roundw
                    case rel => exact ⟨k + 1, by go_num, by omega, by rw [take_on s k hlt]; exact SmR.more D7.out (by rw [HSM.out, c9]; exact R5.out) (by rw [HWD.out]; simpa [u8v, Nat.add_assoc, c9] using P7.out) N7.out.symm HNO.out hn10⟩
                    case measure => simp [intOf] <;> omega
                  · have e9 : ((s[k].toNat : Int) == 9) = false := by simp; omega
                    by_cases c13 : s[k].toNat = 13
                    · have e13 : ((s[k].toNat : Int) == 13) = true := by simp; omega
                      have HWD := Lib.hid (show wid [s[k]] = [s[k], 32, 9] from wid_yes (by unfold blk; simp; omega))
                      go_wp2_with (first
                        | (at_builtin; refine wpList_append_own_at _ rfl (.tmp 54) (.tmp 56) _ rfl w.heap.size 5 i0 _ 1 1 Tryd.underlying55 I0.out I1.out I2.out I3.out rfl (by omega) u5 (s.data.toList.take k).length _ rfl (O5.out.alloc _) ⟨_, 0, none⟩ 1 1 [_] rfl rfl (cell_one_new _ _ _) (by simp [Value.oneCell']) hm5 (by omega) (by simp; omega) ?_; intro v5 w5 ho5 hg5 hn5 ha5; have P5 := Lib.hid ho5; have Q6 := Lib.hid (own_other (O6.out.alloc _) hg5 NE.out.symm); have N5 := Lib.hid (ap_ne ha5 NE.out (O6.out.alloc _)); have D5 := Lib.hid ((BL.out.alloc hsz _).grown hg5 (by simp; omega) (fun q hq => (O5.out.lt q hq).1)); have z5 : w.heap.size ≤ w5.heap.size := D5.out.size; clear ho5 hg5 hn5 ha5)
                        | (at_builtin; refine wpList_append_own_at _ rfl (.tmp 58) (.tmp 62) _ rfl w.heap.size 5 i0 _ 1 1 Tryd.underlying55 I0.out I1.out I2.out I3.out rfl (by omega) u6 (wid (s.data.toList.take k)).length _ rfl (Q6.out.alloc _) ⟨_, 0, none⟩ 1 1 [_] rfl rfl (cell_one_new _ _ _) (by simp [Value.oneCell']) hm6 (by omega) (by simp; omega) ?_; intro v6 w6 ho6 hg6 hn6 ha6; have P6 := Lib.hid ho6; have Q5 := Lib.hid (own_other (P5.out.alloc _) hg6 N5.out); have N6 := Lib.hid (ap_ne ha6 N5.out.symm (P5.out.alloc _)); have D6 := Lib.hid ((D5.out.alloc z5 _).grown hg6 (by simp; omega) (fun q hq => (Q6.out.lt q hq).1)); have z6 : w.heap.size ≤ w6.heap.size := D6.out.size; clear ho6 hg6 hn6 ha6)
                        | (at_builtin; refine wpList_append_own_at _ rfl (.tmp 80) (.tmp 81) _ rfl w.heap.size 5 i0 _ 1 1 Tryd.underlying55 I0.out I1.out I2.out I3.out rfl (by omega) v6 ((wid (s.data.toList.take k)).length + 1) _ rfl (P6.out.alloc _) ⟨_, 0, none⟩ 2 2 [.int .u8 32, .int .u8 9] rfl rfl (World.news_of_block (cs := #[.int .u8 32, .int .u8 9]) (t := 5) (fr := (0, 0)) (heap_alloc_new w6 _)) (by simp [Value.oneCell']) hm7 (by omega) (by simp; omega) ?_; intro v7 w7 ho7 hg7 hn7 ha7; have P7 := Lib.hid ho7; have R5 := Lib.hid (own_other (Q5.out.alloc _) hg7 N6.out.symm); have N7 := Lib.hid (ap_ne ha7 N6.out (Q5.out.alloc _)); have D7 := Lib.hid ((D6.out.alloc z6 _).grown hg7 (by simp; omega) (fun q hq => (P6.out.lt q hq).1)); clear ho7 hg7 hn7 ha7))
                      go_roundw
                      case rel => exact ⟨k + 1, by go_num, by omega, by rw [take_on s k hlt]; exact SmR.more D7.out (by rw [HSM.out, c13]; exact R5.out) (by rw [HWD.out]; simpa [u8v, Nat.add_assoc, c13] using P7.out) N7.out.symm HNO.out hn10⟩
                      case measure => simp [intOf] <;> omega
                    · have e13 : ((s[k].toNat : Int) == 13) = false := by simp; omega
                      have HWD := Lib.hid (show wid [s[k]] = [s[k]] from wid_no (by unfold blk; simp; omega))
                      go_wp2_with (first
                        | (at_builtin; refine wpList_append_own_at _ rfl (.tmp 54) (.tmp 56) _ rfl w.heap.size 5 i0 _ 1 1 Tryd.underlying55 I0.out I1.out I2.out I3.out rfl (by omega) u5 (s.data.toList.take k).length _ rfl (O5.out.alloc _) ⟨_, 0, none⟩ 1 1 [_] rfl rfl (cell_one_new _ _ _) (by simp [Value.oneCell']) hm5 (by omega) (by simp; omega) ?_; intro v5 w5 ho5 hg5 hn5 ha5; have P5 := Lib.hid ho5; have Q6 := Lib.hid (own_other (O6.out.alloc _) hg5 NE.out.symm); have N5 := Lib.hid (ap_ne ha5 NE.out (O6.out.alloc _)); have D5 := Lib.hid ((BL.out.alloc hsz _).grown hg5 (by simp; omega) (fun q hq => (O5.out.lt q hq).1)); have z5 : w.heap.size ≤ w5.heap.size := D5.out.size; clear ho5 hg5 hn5 ha5)
                        | (at_builtin; refine wpList_append_own_at _ rfl (.tmp 58) (.tmp 62) _ rfl w.heap.size 5 i0 _ 1 1 Tryd.underlying55 I0.out I1.out I2.out I3.out rfl (by omega) u6 (wid (s.data.toList.take k)).length _ rfl (Q6.out.alloc _) ⟨_, 0, none⟩ 1 1 [_] rfl rfl (cell_one_new _ _ _) (by simp [Value.oneCell']) hm6 (by omega) (by simp; omega) ?_; intro v6 w6 ho6 hg6 hn6 ha6; have P6 := Lib.hid ho6; have Q5 := Lib.hid (own_other (P5.out.alloc _) hg6 N5.out); have N6 := Lib.hid (ap_ne ha6 N5.out.symm (P5.out.alloc _)); have D6 := Lib.hid ((D5.out.alloc z5 _).grown hg6 (by simp; omega) (fun q hq => (Q6.out.lt q hq).1)); have z6 : w.heap.size ≤ w6.heap.size := D6.out.size; clear ho6 hg6 hn6 ha6))
                      go_roundw
                      case rel => exact ⟨k + 1, by go_num, by omega, by rw [take_on s k hlt]; exact SmR.more D6.out (by rw [HSM.out]; exact Q5.out) (by rw [HWD.out]; exact P6.out) N6.out.symm HNO.out hn10⟩
                      case measure => simp [intOf] <;> omega
        · have gk : ¬ (k : Int) < s.size := by omega
          have HR2 : Hid (SmR w wr u5 u6 s.data.toList) := Lib.hid (by have := HR.out; rw [List.take_of_length_le (by rw [lst_len]; omega)] at this; exact this)
          clear HR O5 O6 NE HNO hlk hlw hm5 hm6 hm7
          go_wp2_with fail
          go_loop [9] (fun i => ∃ k2 : Nat, i = .int .i64 k2 ∧ k2 ≤ r.size ∧ Hid (∀ c ∈ r.data.toList.take k2, c ≠ 10)) (fun i => r.size - (intOf i).toNat)
          case atStart => exact ⟨0, rfl, by omega, fun c hc => by simp at hc⟩
          case round =>
            obtain ⟨k2, rfl, hk2, HN⟩ := hrel
            by_cases hl2 : k2 < r.size
            · have gk2 : (k2 : Int) < r.size := by omega
              have hcl := UInt8.toNat_lt r[k2]
              by_cases c10 : r[k2].toNat = 10
              · have e10 : ((r[k2].toNat : Int) == 10) = true := by simp; omega
                go_wp2_with fail
                refine (HFin.out _ BL.out).mono ?_
                rintro e w9 ⟨rfl, hb9⟩
                have B9 := Lib.hid (BL.out.trans (hb9.mono BL.out.size))
                clear hb9
                go_wp2_with fail
                go_ret
                exact ⟨rfl, B9.out⟩
              · have e10 : ((r[k2].toNat : Int) == 10) = false := by simp; omega
                have hn10 : r[k2] ≠ 10 := fun h => c10 (by rw [h]; rfl)
                have HN2 := Lib.hid (show ∀ c ∈ r.data.toList.take (k2 + 1), c ≠ 10 by
                  rw [take_on r k2 hl2]
                  intro c hc
                  rcases List.mem_append.1 hc with h | h
                  · exact HN.out c h
                  · simp at h; subst h; exact hn10)
                clear hn10
                go_wp2_with fail
                go_round
                case rel => exact ⟨k2 + 1, by go_num, by omega, HN2.out⟩
                case measure => simp [intOf] <;> omega
            · have gk2 : ¬ (k2 : Int) < r.size := by omega
              have n2 : ∀ c ∈ r.data.toList, c ≠ 10 := by have := HN.out; rw [List.take_of_length_le (by rw [lst_len]; omega)] at this; exact this
              obtain ⟨lx, hlx, hl1, hl3⟩ := same_lines s r h1 h2 HR2.out.no n2
              have HLs2 := HLs
              have HLr2 := HLr
              rw [hl1] at HLs2
              rw [hl3] at HLr2
              unfold LnSl at HLs2 HLr2
              simp only at HLs2 HLr2
              clear hl1 hl3 n2 HN HLs HLr
              go_wp2_with fail
              refine (HA.out _).mono ?_; rintro e w1 ⟨A1, c1, rfl, ho, hi, hb⟩; have N1 := Lib.hid hi; have B1 := Lib.hid hb; clear ho hi hb
              have hs5 := run_string_own w.heap.size u5 _ (s.data.toList.map sml) w1 (own_below' HR2.out.o5 B1.out)
              rw [← HX5.out] at hs5
              go_wp2_with fail
              clear hs5
              refine (HB.out _).mono ?_; rintro e w2 ⟨A2, c2, rfl, ho, hi, hb⟩; have N2 := Lib.hid hi; have B2 := Lib.hid hb; clear ho hi hb
              have hs6 := run_string_own w.heap.size u6 _ (wid s.data.toList) w2 (own_below' (own_below' HR2.out.o6 B1.out) B2.out)
              rw [← HX6.out] at hs6
              go_wp2_with fail
              clear hs6
              refine (HC.out _).mono ?_; rintro e w3 ⟨A3, c3, rfl, ho, hi, hb⟩; have N3 := Lib.hid hi; have B3 := Lib.hid hb; clear ho hi hb
              have D1 := BL.out.trans (B1.out.mono BL.out.size)
              have D2 := D1.trans (B2.out.mono D1.size)
              have D3 := Lib.hid (D2.trans (B3.out.mono D2.size))
              have M1 := Lib.hid ((N1.out.below B2.out).below B3.out)
              have M2 := Lib.hid (N2.out.below B3.out)
              clear D1 D2 N1 N2 B1 B2 B3 HR2 HX5 HX6 HA HB HC
              go_wp2_with fail
              refine (HLs2.out _ D3.out).mono ?_; rintro e w4 ⟨A4, c4, rfl, hi, hb⟩; have N4 := Lib.hid hi; have B4 := Lib.hid hb; have D4 := Lib.hid (D3.out.trans (hb.mono D3.out.size)); clear hi hb
              go_wp2_with fail
              refine (HLr2.out _ D4.out).mono ?_; rintro e w5 ⟨A5, c5, rfl, hi, hb⟩; have N5 := Lib.hid hi; have D5 := Lib.hid (D4.out.trans (hb.mono D4.out.size)); have M4 := Lib.hid (N4.out.below hb); have K1 := Lib.hid ((M1.out.below B4.out).below hb); have K2 := Lib.hid ((M2.out.below B4.out).below hb); have K3 := Lib.hid ((N3.out.below B4.out).below hb); clear hi hb
              have HE1 := Lib.hid (fun W (h : Below w5.heap.size w5 W) => eqR A1 A2 c1 c2 a a W (K1.out.below h) (K2.out.below h) hla2 hla2)
              have HE2 := Lib.hid (fun W (h : Below w5.heap.size w5 W) => eqR A1 A3 c1 c3 a a W (K1.out.below h) (K3.out.below h) hla2 hla2)
              simp only [decide_true] at HE1 HE2
              clear K1 K2 K3 M1 M2 N3 B4 N4 HLs2 HLr2
              go_wp2_with fail
              refine (HE1.out _ (Below.refl _ _)).mono ?_; rintro e w6 ⟨rfl, hb⟩; have B6 := Lib.hid hb; clear hb
              go_wp2_with fail
              refine (HE2.out _ B6.out).mono ?_; rintro e w7 ⟨rfl, hb⟩; have D7 := Lib.hid (D5.out.trans ((B6.out.trans (hb.mono B6.out.size)).mono D5.out.size)); have B7 := Lib.hid (B6.out.trans (hb.mono B6.out.size)); clear hb
              clear HE1 HE2 B6
              rcases hlx with rfl | ⟨t, rfl⟩
              · simp only [List.length_nil]
                go_wp2_with fail
                go_quiet (fail)
                have D8 := Lib.hid (bel_drewN D7.out nq)
                go_wp2_with fail
                refine (HSp.out _ D8.out).mono ?_; rintro e w9 ⟨A9, c9, rfl, hb⟩; have D9 := Lib.hid (D8.out.trans (hb.mono D8.out.size)); clear hb
                go_wp2_with fail
                go_loop [21, 22] (fun nv i => ∃ k3 n : Nat, i = .int .i64 k3 ∧ nv = .int .i64 n ∧ k3 ≤ s.size ∧ n ≤ k3 ∧ Hid (n = (s.data.toList.take k3).count 59)) (fun _ i => s.size - (intOf i).toNat)
                case atStart => exact ⟨0, 0, rfl, rfl, by omega, by omega, (rfl : (0 : Nat) = 0)⟩
                case round =>
                  obtain ⟨k3, n, rfl, rfl, hk3, hnk, HNk⟩ := hrel
                  by_cases hl3 : k3 < s.size
                  · have gk3 : (k3 : Int) < s.size := by omega
                    have HC3 := Lib.hid (count_on s 59 k3 hl3)
                    by_cases c59 : s[k3] = 59
                    · have e59 : ((s[k3].toNat : Int) == 59) = true := by rw [c59]; rfl
                      have HQ := Lib.hid (show n + 1 = (s.data.toList.take (k3 + 1)).count 59 by rw [HC3.out, if_pos c59, ← HNk.out])
                      clear c59 HC3
                      go_wp2_with fail
                      go_round
                      case rel => exact ⟨k3 + 1, n + 1, by go_num, by go_num, by omega, by omega, HQ.out⟩
                      case measure => simp [intOf] <;> omega
                    · have e59 : ((s[k3].toNat : Int) == 59) = false := by
                        rw [beq_eq_false_iff_ne]
                        intro h
                        exact c59 (UInt8.toNat_inj.1 (by show s[k3].toNat = 59; omega))
                      have HQ := Lib.hid (show n = (s.data.toList.take (k3 + 1)).count 59 by rw [HC3.out, if_neg c59, ← HNk.out]; rfl)
                      clear c59 HC3
                      go_wp2_with fail
                      go_round
                      case rel => exact ⟨k3 + 1, n, by go_num, rfl, by omega, by omega, HQ.out⟩
                      case measure => simp [intOf] <;> omega
                  · have gk3 : ¬ (k3 : Int) < s.size := by omega
                    obtain rfl : n = n9 := by have := HNk.out; rw [List.take_of_length_le (by rw [lst_len]; omega), ← HN9.out] at this; exact this
                    clear HNk HN9
                    go_wp2_with fail
                    refine (HFin.out _ D9.out).mono ?_
                    rintro e w9 ⟨rfl, hb9⟩
                    have B9 := Lib.hid (D9.out.trans (hb9.mono D9.out.size))
                    clear hb9
                    go_wp2_with fail
                    go_ret
                    exact ⟨rfl, B9.out⟩
              · obtain ⟨b4, o4, rfl, hb4, hc4, hd4⟩ := M4.out 0 (by simp)
                obtain ⟨b5, o5, rfl, hb5, hc5, hd5⟩ := N5.out 0 (by simp)
                have hc4' : w7.cell? ⟨b4, o4, none⟩ = some (.int .i64 1) := by simpa using (B7.out.cell (p := ⟨b4, o4 + 0 * 2, none⟩) hb4).trans hc4
                have hd4' : w7.cell? ⟨b4, o4 + 1, none⟩ = some (.string ⟨t.toArray⟩) := by simpa using (B7.out.cell (p := ⟨b4, o4 + 0 * 2 + 1, none⟩) hb4).trans hd4
                have hc5' : w7.cell? ⟨b5, o5, none⟩ = some (.int .i64 1) := by simpa using (B7.out.cell (p := ⟨b5, o5 + 0 * 2, none⟩) hb5).trans hc5
                have hd5' : w7.cell? ⟨b5, o5 + 1, none⟩ = some (.string ⟨t.toArray⟩) := by simpa using (B7.out.cell (p := ⟨b5, o5 + 0 * 2 + 1, none⟩) hb5).trans hd5
                generalize (⟨t.toArray⟩ : ByteArray) = T at hd4' hd5'
                clear hc4 hd4 hc5 hd5 M4 N5 B7
                have hnq := fun W => neqL 1 T W
                have hgd := fun W => grdN (.tmp 172) (.tmp 175) #[.int .i64 1, .string T] #[.int .i64 1, .string T] W
                simp only [List.length_singleton]
                go_wp2_with fail
                go_quiet (fail)
                clear hnq hgd hc4' hd4' hc5' hd5'
                have D8 := Lib.hid (bel_drewN D7.out nq)
                go_wp2_with fail
                refine (HSp.out _ D8.out).mono ?_; rintro e w9 ⟨A9, c9, rfl, hb⟩; have D9 := Lib.hid (D8.out.trans (hb.mono D8.out.size)); clear hb
                go_wp2_with fail
                go_loop [21, 22] (fun nv i => ∃ k3 n : Nat, i = .int .i64 k3 ∧ nv = .int .i64 n ∧ k3 ≤ s.size ∧ n ≤ k3 ∧ Hid (n = (s.data.toList.take k3).count 59)) (fun _ i => s.size - (intOf i).toNat)
                case atStart => exact ⟨0, 0, rfl, rfl, by omega, by omega, (rfl : (0 : Nat) = 0)⟩
                case round =>
                  obtain ⟨k3, n, rfl, rfl, hk3, hnk, HNk⟩ := hrel
                  by_cases hl3 : k3 < s.size
                  · have gk3 : (k3 : Int) < s.size := by omega
                    have HC3 := Lib.hid (count_on s 59 k3 hl3)
                    by_cases c59 : s[k3] = 59
                    · have e59 : ((s[k3].toNat : Int) == 59) = true := by rw [c59]; rfl
                      have HQ := Lib.hid (show n + 1 = (s.data.toList.take (k3 + 1)).count 59 by rw [HC3.out, if_pos c59, ← HNk.out])
                      clear c59 HC3
                      go_wp2_with fail
                      go_round
                      case rel => exact ⟨k3 + 1, n + 1, by go_num, by go_num, by omega, by omega, HQ.out⟩
                      case measure => simp [intOf] <;> omega
                    · have e59 : ((s[k3].toNat : Int) == 59) = false := by
                        rw [beq_eq_false_iff_ne]
                        intro h
                        exact c59 (UInt8.toNat_inj.1 (by show s[k3].toNat = 59; omega))
                      have HQ := Lib.hid (show n = (s.data.toList.take (k3 + 1)).count 59 by rw [HC3.out, if_neg c59, ← HNk.out]; rfl)
                      clear c59 HC3
                      go_wp2_with fail
                      go_round
                      case rel => exact ⟨k3 + 1, n, by go_num, rfl, by omega, by omega, HQ.out⟩
                      case measure => simp [intOf] <;> omega
                  · have gk3 : ¬ (k3 : Int) < s.size := by omega
                    obtain rfl : n = n9 := by have := HNk.out; rw [List.take_of_length_le (by rw [lst_len]; omega), ← HN9.out] at this; exact this
                    clear HNk HN9
                    go_wp2_with fail
                    refine (HFin.out _ D9.out).mono ?_
                    rintro e w9 ⟨rfl, hb9⟩
                    have B9 := Lib.hid (D9.out.trans (hb9.mono D9.out.size))
                    clear hb9
                    go_wp2_with fail
                    go_ret
                    exact ⟨rfl, B9.out⟩
    · have g1 : ¬ (400 : Int) < s.size := by omega
      have g2 : (100 : Int) < r.size := by omega
      go_enter Tryd.func7, Tryd.ntmps7
      go_wp2_with fail
      refine (HFin.out _ (Below.refl w.heap.size w)).mono ?_
      rintro e w9 ⟨rfl, hb9⟩
      have B9 := Lib.hid ((Below.refl w.heap.size w).trans (hb9.mono (Below.refl w.heap.size w).size))
      clear hb9
      go_wp2_with fail
      go_ret
      exact ⟨rfl, B9.out⟩
  · have g1 : (400 : Int) < s.size := by omega
    go_enter Tryd.func7, Tryd.ntmps7
    go_wp2_with fail
    refine (HFin.out _ (Below.refl w.heap.size w)).mono ?_
    rintro e w9 ⟨rfl, hb9⟩
    have B9 := Lib.hid ((Below.refl w.heap.size w).trans (hb9.mono (Below.refl w.heap.size w).size))
    clear hb9
    go_wp2_with fail
    go_ret
    exact ⟨rfl, B9.out⟩

set_option maxRecDepth 100000 in
theorem fieldsSame_lifted (os : Os) (started : os.Started) (H : Type) (enc : TypeId × Value → H) :
    ReturnsInHanded {} Tryd.checked os 7 .any (fun w args => (Rows.fieldsSameSpec.pre enc Tryd.prog Tryd.f7 [] false w args ∧ laidMetH Tryd.prog laid1 w) ∧ sizedMet enc Tryd.prog Tryd.f7 (OpenSpec.ofChange Rows.fieldsSameSpec) false w args)
      (Rows.fieldsSameSpec.post enc Tryd.prog Tryd.f7 false true false false) := by
  refine change_shaped (C := Tryd.checked) (X := fun w _ => laidMetH Tryd.prog laid1 w) (fun _ _ _ hh h => h.of_heap hh) own started (by kernel_rfl) Tryd.func7
    (ChangeSpec.witness_shaped (enc := enc) (C := Tryd.checked) (os := os) (X := fun w _ => laidMetH Tryd.prog laid1 w) false (World.laidAll Tryd.prog os laid1) #[.string ⟨#[]⟩, .string ⟨#[]⟩] 8 (World.laidAll_os _ _ _) (World.shaped_of_ZipB (by kernel_rfl) (by kernel_rfl)) (by kernel_rfl) (by kernel_rfl) (by kernel_rfl) (by rw [MakeChecks.laidMetH_plain _ _ _ (by kernel_rfl)]; exact laidMet_laidAll _ (by kernel_rfl) (by kernel_rfl))) ?_
  intro W base args ds gs before hval0 hW hsz hL hS
  have hval : ∀ (j : Nat) t v, Tryd.f7.params[j]? = some t → args[j]? = some v → Value.okWide Tryd.prog W .any base t v := hval0
  have hW' := hW
  obtain ⟨p, q, hA0, hV, rfl, hfz, hnd⟩ := hW
  have hA : DataW.TrodAll enc Tryd.prog W 0 (fun _ => true) true Tryd.f7.params.toList args.toList ds p := hA0
  rw [Tryd.params7] at hA hval
  obtain ⟨v0, vs0, d0, ds0, p0, q0, hargs, rfl, rfl, h0, r0⟩ := trodAll_cons hA
  obtain ⟨v1, vs1, d1, ds1, p1, q1, rfl, rfl, rfl, h1, r1⟩ := trodAll_cons r0
  obtain ⟨rfl, rfl, rfl⟩ := trodAll_nil r1
  obtain rfl : args = #[v0, v1] := by cases args; simp_all
  obtain ⟨rfl, rfl⟩ := trodVars_none hV
  obtain ⟨s0, rfl, rfl, rfl, m0⟩ := open_string Tryd.underlying9 (hval 0 9 v0 rfl rfl) h0
  obtain ⟨s1, rfl, rfl, rfl, m1⟩ := open_string Tryd.underlying9 (hval 1 9 v1 rfl rfl) h1
  clear hA0 hval0
  refine (fieldsSame_walk s0 s1 W m0 m1 (ml_of hS)).mono fun e W' ⟨he, bel⟩ => ?_
  subst he
  exact ⟨_, rfl, _, _, _, [], _, [], hW', trodAll_mk1 (shut_bool Tryd.underlying4 _), (trodAll_cons_mk (shut_string Tryd.underlying9 m0) (trodAll_cons_mk (shut_string Tryd.underlying9 m1) trodAll_mk0)), rfl, bel.frame _, fun h => by cases h⟩

theorem fieldsSame_row : Rows.FieldsSameSaid :=
  OpenClaim.holds_of_wide 7 Tryd.f7 rfl rfl rfl rfl rfl rfl rfl ⟨rfl, rfl, rfl, rfl, rfl⟩ rfl rfl rfl rfl rfl (by kernel_rfl) Tryd.func7 (by kernel_rfl)
    (of_decide_eq_true (by kernel_rfl)) (by unfold Func.isWrapper; first | (rw [if_pos (by decide +kernel)]; kernel_rfl) | (rw [if_neg (by decide +kernel)]; exact ⟨rfl, rfl⟩))
    (fun os started H enc _ => fieldsSame_lifted os started H enc)

theorem fieldsSame_holds : Rows.FieldsSameCardSaid :=
  Claim7.holds_tied_plain_at .later [] [.data, .pinned] true Rows.fieldsSameCard.stood.harness false
    fieldsSame_row (fun _ h => by cases h) (by kernel_rfl) (fun _ h => by cases h) fieldsSame_row_tie rfl ⟨rfl, rfl⟩ (by kernel_rfl) rfl
    (fun f fn hf hfn => by
      obtain rfl : f = 7 := Option.some.inj ((show Tryd.prog.funcNamed Rows.fieldsSameRow.func = some 7 by kernel_rfl).symm.trans hf) |>.symm
      obtain rfl : fn = Tryd.f7 := (Option.some.inj (Tryd.func7.symm.trans hfn)).symm
      exact ⟨by kernel_rfl, fun j t ht => by
        rw [Tryd.params7] at ht
        have hm : t ∈ [9, 9] := by simpa using Array.mem_of_getElem? ht
        have hall : ([9, 9].all fun u => !Tryd.prog.wantsStandIn u) = true := by kernel_rfl
        exact (show Tryd.prog.wantsStandIn t = false by simpa using List.all_eq_true.1 hall t hm)⟩)
    (by kernel_rfl)
#print axioms fieldsSame_holds
end Go.Proofs.YtnnecigpahbhoaaDoor

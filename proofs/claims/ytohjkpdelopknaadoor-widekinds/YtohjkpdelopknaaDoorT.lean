import Derived.Test.YtohjkpdelopknaaDoorV
namespace Go.Proofs.YtohjkpdelopknaaDoor
open Go.RowKit
theorem rev_more (s : ByteArray) (i e p : Nat) (hp : p = i + e) (h : p < s.size) : (((bs s).drop i).take (e + 1)).reverse = s[p].toNat :: (((bs s).drop i).take e).reverse := by
  subst hp
  rw [List.take_succ_eq_append_getElem (by rw [List.length_drop, bs_len]; omega), List.reverse_append]
  simp only [List.getElem_drop, List.reverse_cons, List.reverse_nil, List.nil_append, List.singleton_append]
  rw [bs_at s (i + e) h]

set_option maxRecDepth 100000 in
set_option maxHeartbeats 2000000 in
theorem turn_any (s : ByteArray) (z : Nat) (w : World) (hz1 : 1 ≤ z) (hz4 : z ≤ 4) (hs : s.size ≤ 1000) :
    Calls Tryd.prog 25 #[.string s, .int .i64 (z : Int)] w fun e w' => e = .returned (.string (strB (trn z (bs s)))) ∧ Below w.heap.size w w' := by
  obtain ⟨i0, hi0, hz0, hz1', hz2⟩ := info_parts u8_info
  have I0 := Lib.hid hi0
  have I1 := Lib.hid hz0
  have I2 := Lib.hid hz1'
  have I3 := Lib.hid hz2
  clear hi0 hz0 hz1' hz2
  generalize hT : trn z (bs s) = T
  have HT := Lib.hid hT
  have HStep := Lib.hid (fun l h => trn_step z hz1 l h)
  have HShort := Lib.hid (fun l h => trn_short z l h)
  have HL := Lib.hid (bs_len s)
  clear hT
  go_enter Tryd.func25, Tryd.ntmps25
  go_wp2_with fail
  go_loopw [5, 6] (fun out iv wr => ∃ i : Nat, iv = .int .i64 i ∧ i ≤ s.size ∧ ∃ acc : List Nat, acc.length ≤ i ∧ Hid (Below w.heap.size w wr ∧ wr.ownsRow w.heap.size 5 1 out acc.length (u8v acc) ∧ acc ++ trn z ((bs s).drop i) = T)) (fun _ iv _ => s.size + z - (intOf iv).toNat)
  case atStart => exact ⟨0, rfl, by omega, [], by simp, Below.refl _ _, World.ownsRow_nil _ _ _ _, by rw [List.drop_zero]; exact HT.out⟩
  case round =>
    obtain ⟨i, rfl, hi, acc, hacc, HQ⟩ := hrel
    have hbz := HQ.out.1.size
    by_cases hlt : i + z ≤ s.size
    · have hlt' : (i : Int) + z ≤ s.size := by omega
      have hdl : Hid (z ≤ ((bs s).drop i).length) := by show z ≤ _; rw [List.length_drop, HL.out]; omega
      have HEq : Hid (acc ++ ((((bs s).drop i).take z).reverse ++ trn z ((bs s).drop (i + z))) = T) := by
        show _ = T
        have := HQ.out.2.2
        rw [HStep.out _ hdl.out, List.drop_drop] at this
        exact this
      go_wp2_with fail
      go_loopw [5, 7] (fun out jv wr2 => ∃ d : Nat, jv = .int .i64 ((d : Int) - 1) ∧ d ≤ z ∧ ∃ cur : List Nat, cur.length + d = acc.length + z ∧ Hid (Below w.heap.size w wr2 ∧ wr2.ownsRow w.heap.size 5 1 out cur.length (u8v cur) ∧ cur ++ (((bs s).drop i).take d).reverse = acc ++ (((bs s).drop i).take z).reverse)) (fun _ jv _ => (intOf jv + 1).toNat)
      case atStart => exact ⟨z, rfl, by omega, acc, rfl, HQ.out.1, HQ.out.2.1, rfl⟩
      case round =>
        obtain ⟨d, rfl, hd, cur, hcur, HR⟩ := hrel
        have hbz2 := HR.out.1.size
        cases d with
        | zero =>
          rw [show (((0 : Nat) : Int) - 1) = -1 from rfl]
          have hcr : cur = acc ++ (((bs s).drop i).take z).reverse := by have := HR.out.2.2; simpa using this
          have HCr := Lib.hid hcr
          clear hcr
          go_wp2_with fail
          go_roundw
          case rel =>
            refine ⟨i + z, by go_num, by omega, cur, by omega, HR.out.1, HR.out.2.1, ?_⟩
            rw [HCr.out, List.append_assoc]
            exact HEq.out
          case measure => simp [intOf]; omega
        | succ e =>
          obtain ⟨p, hp⟩ : ∃ p, p = i + e := ⟨_, rfl⟩
          have hps : p < s.size := by omega
          have hix : (i : Int) + (e : Int) = (p : Int) := by omega
          have hps' : (p : Int) < s.size := by omega
          have hp0 : (0 : Int) ≤ (p : Int) := by omega
          rw [show (((e + 1 : Nat) : Int) - 1) = (e : Int) by omega]
          have HN := Lib.hid (rev_more s i e p hp hps)
          have hmx : cur.length + 1 ≤ maxLen := by unfold maxLen; omega
          clear hp
          go_wp2_with (at_builtin; refine wpList_append_own_at _ rfl (.tmp 23) (.tmp 29) _ rfl w.heap.size 5 i0 _ 1 1 Tryd.underlying64 I0.out I1.out I2.out I3.out rfl (by omega) u5 cur.length _ rfl (HR.out.2.1.alloc _) ⟨wr.heap.size, 0, none⟩ 1 1 [_] rfl rfl (cell_one_new _ _ _) (by simp [Value.oneCell']) hmx (by omega) (by simp; omega) ?_; intro v2 w2 ho2 hg2 hn2 ha2; have HO2 := Lib.hid ho2; have HG2 := Lib.hid hg2; clear ho2 hg2 hn2 ha2)
          go_roundw
          case rel =>
            refine ⟨e, rfl, by omega, cur ++ [s[p].toNat], by simp; omega, HR.out.1.trans (((Below.refl _ _).alloc hbz2 _).trans (below_grown (HR.out.2.1.alloc _) HG2.out (by simp; omega))), ?_, ?_⟩
            · rw [u8v_app, List.length_append]
              exact HO2.out
            · rw [List.append_assoc, ← HR.out.2.2, HN.out]
              rfl
          case measure => simp [intOf]
    · have hlt' : ¬ (i : Int) + z ≤ s.size := by omega
      have hfin : acc = T := by
        have := HQ.out.2.2
        rw [HShort.out _ (by rw [List.length_drop, HL.out]; omega), List.append_nil] at this
        exact this
      have hrun := run_string_own _ _ _ _ _ HQ.out.2.1
      subst hfin
      go_wp2
      go_ret
      exact ⟨rfl, HQ.out.1⟩
end Go.Proofs.YtohjkpdelopknaaDoor

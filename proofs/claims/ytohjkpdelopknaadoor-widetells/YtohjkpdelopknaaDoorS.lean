import Derived.Test.YtohjkpdelopknaaDoorL
namespace Go.Proofs.YtohjkpdelopknaaDoor
open Go.RowKit
theorem leB_snoc : ∀ (i n : Nat), leB (i + 1) n = leB i n ++ [n / 256 ^ i % 256]
  | 0, n => by simp [leB]
  | i + 1, n => by
    have ih := leB_snoc i (n / 256)
    rw [leB, ih, leB, Nat.div_div_eq_div_mul, Nat.pow_succ, Nat.mul_comm 256]
    rfl
/-- What the reference's loop has behind i rounds. -/
def prt (k i n : Nat) : List Nat := if loK k then leB i n else (leB i n).reverse
theorem prt_full (k n : Nat) : prt k (szK k) n = unB k n := rfl
theorem prt_len (k i n : Nat) : (prt k i n).length = i := by unfold prt; split <;> simp [leB_len]
theorem prt_odd (k i n : Nat) (h : loK k = true) : prt k (i + 1) n = prt k i n ++ [n / 256 ^ i % 256] := by simp [prt, h, leB_snoc]
theorem prt_even (k i n : Nat) (h : loK k = false) : prt k (i + 1) n = (n / 256 ^ i % 256) :: prt k i n := by simp [prt, h, leB_snoc]
theorem u8v_one (v : Nat) : u8v [v] = [.int .u8 (v : Int)] := rfl
theorem u8v_len (l : List Nat) : (u8v l).length = l.length := by simp [u8v]
theorem u8v_cell (l : List Nat) : ∀ u ∈ u8v l, u.oneCell' = true := by
  intro u hu
  simp only [u8v, List.mem_map] at hu
  obtain ⟨x, _, rfl⟩ := hu
  rfl

set_option maxRecDepth 100000 in
set_option maxHeartbeats 2000000 in
theorem runit_any (k : Nat) (n : Nat) (w : World) (h1 : 1 ≤ k) (h4 : k ≤ 4) (hn : n < 4294967296) :
    Calls Tryd.prog 31 #[.int .i64 (k : Int), .int .i64 (n : Int)] w fun e w' => e = .returned (.string (strB (unB k n))) ∧ Below w.heap.size w w' := by
  obtain ⟨i0, hi0, hz0, hz1, hz2⟩ := info_parts u8_info
  have I0 := Lib.hid hi0
  have I1 := Lib.hid hz0
  have I2 := Lib.hid hz1
  have I3 := Lib.hid hz2
  clear hi0 hz0 hz1 hz2
  have HF := Lib.hid (prt_full k n)
  obtain ⟨zz1, zz2, -⟩ := szK_bd k
  have HS := Lib.hid (fun W => size_any k W)
  have HOdd := Lib.hid (fun i h => prt_odd k i n h)
  have HEv := Lib.hid (fun i h => prt_even k i n h)
  have HLen := Lib.hid (fun i => prt_len k i n)
  have H0 : Hid (prt k 0 n = []) := by show prt k 0 n = []; unfold prt; split <;> rfl
  have hk2 : (k : Int) % 2 = if loK k then 1 else 0 := by
    rcases kinds h1 h4 with rfl | rfl | rfl | rfl <;> rfl
  generalize szK k = z at *
  have hd : ∀ i : Nat, n / 256 ^ i ≤ n := fun i => Nat.div_le_self _ _
  have HD := Lib.hid hd
  have HDD := Lib.hid (show ∀ i : Nat, n / 256 ^ (i + 1) = n / 256 ^ i / 256 from fun i => by rw [Nat.div_div_eq_div_mul, Nat.pow_succ])
  clear hd
  cases hlo : loK k
  · rw [hlo] at hk2
    have hk3 : ((k : Int) % 2 == 1) = false := by rw [hk2]; rfl
    have HLo := Lib.hid hlo
    clear hk2 hlo
    go_enter Tryd.func31, Tryd.ntmps31
    go_wp2_with fail
    go_loopw [1, 5, 6] (fun nv out iv wr => ∃ i m : Nat, nv = .int .i64 m ∧ iv = .int .i64 i ∧ i ≤ z ∧ m ≤ n ∧ Hid (m = n / 256 ^ i ∧ Below w.heap.size w wr ∧ (i = 0 → out = .slice none 0 0) ∧ wr.ownsRow w.heap.size 5 1 out i (u8v (prt k i n)))) (fun _ _ iv _ => z - (intOf iv).toNat)
    case atStart => exact ⟨0, n, rfl, rfl, by omega, by omega, by simp, Below.refl _ _, fun _ => rfl, by rw [H0.out]; exact World.ownsRow_nil _ _ _ _⟩
    case round =>
      obtain ⟨i, m, rfl, rfl, hi, hm, HQ⟩ := hrel
      have hbz := HQ.out.2.1.size
      by_cases hlt : i < z
      · have hlt' : (i : Int) < z := by omega
        obtain ⟨y, hy⟩ : ∃ y : Nat, y = m % 256 := ⟨_, rfl⟩
        have e1 : IntKind.u8.wrap ((m : Int) % 256) = (y : Int) := by rw [IntKind.wrap_u8', hy]; omega
        have e1' : (m : Int) % 256 = (y : Int) := by omega
        have e1'' : IntKind.u8.wrap (y : Int) = (y : Int) := by rw [IntKind.wrap_u8']; omega
        have HY := Lib.hid hy
        have hy2 : y < 256 := by omega
        have e2 : (m : Int) / 256 = ((m / 256 : Nat) : Int) := by omega
        have hmd : m / 256 ≤ n := by omega
        have hmx : 1 + i ≤ maxLen := by unfold maxLen; omega
        clear hy
        have HNew : Hid (m / 256 = n / 256 ^ (i + 1)) := by show m / 256 = n / 256 ^ (i + 1); rw [HDD.out, ← HQ.out.1]
        have HP : Hid (prt k (i + 1) n = y :: prt k i n) := by show prt k (i + 1) n = y :: prt k i n; rw [HEv.out i HLo.out, ← HQ.out.1, ← HY.out]
        have HLit := Lib.hid (fun (o : Array Value) (ho : o.size = 1 * 1) => World.ownsRow_lit (base := w.heap.size) (e := 5) (size := 1) wr o 1 hbz (by unfold maxLen; omega) ho)
        generalize hmm : m / 256 = m' at *
        clear hmm
        by_cases hi0 : i = 0
        · have hnil := HQ.out.2.2.1 hi0
          subst hnil
          have hnl : u8v (prt k i n) = [] := by rw [hi0, H0.out]; rfl
          have HNL := Lib.hid hnl
          clear hnl
          go_wp2_with (first | (go_at_call 28; refine (HS.out _).mono ?_; rintro e w' ⟨rfl, rfl⟩) | (at_builtin; refine wpList_append_own_none rfl (.tmp 27) (.tmp 28) _ rfl w.heap.size 5 i0 1 Tryd.underlying64 I0.out (.slice (some ⟨wr.heap.size, 0, none⟩) 1 1) 1 _ rfl (HLit.out #[.int .u8 (y : Int)] rfl) rfl ?_))
          go_roundw
          case rel =>
            refine ⟨i + 1, m', rfl, by go_num, by omega, hmd, HNew.out, HQ.out.2.1.alloc hbz _, fun h => by omega, ?_⟩
            rw [HP.out]
            have := HLit.out #[.int .u8 (y : Int)] rfl
            rw [show i + 1 = 1 by omega, show u8v (y :: prt k i n) = .int .u8 (y : Int) :: u8v (prt k i n) from rfl, HNL.out]
            exact this
          case measure => simp [intOf]; omega
        · rcases HQ.out.2.2.2.2 with ⟨_, hz⟩ | ⟨g, cap, cur, hv, hg, _⟩
          · exact absurd hz hi0
          · have hc := (HQ.out.2.2.2.alloc (.cells #[.int .u8 (y : Int)] 5)).cells (g := g) (by rw [hv]; rfl)
            subst hv
            have HC := Lib.hid hc
            have HPl : Hid ((u8v (prt k i n)).length = i * 1) := by show _ = _; rw [u8v_len, HLen.out]; omega
            clear hc
            go_wp2_with (first | (go_at_call 28; refine (HS.out _).mono ?_; rintro e w' ⟨rfl, rfl⟩) | (at_builtin; refine wpList_append_own_at _ rfl (.tmp 27) (.tmp 28) _ rfl w.heap.size 5 i0 _ 1 1 Tryd.underlying64 I0.out I1.out I2.out I3.out rfl (by omega) (.slice (some ⟨wr.heap.size, 0, none⟩) 1 1) 1 _ rfl (HLit.out #[.int .u8 (y : Int)] rfl) ⟨g, 0, none⟩ i cap (u8v (prt k i n)) rfl HPl.out HC.out (u8v_cell _) hmx (by omega) (by simp; omega) ?_; intro v2 w2 ho2 hg2 hn2 ha2; have HO2 := Lib.hid ho2; have HG2 := Lib.hid hg2; clear ho2 hg2 hn2 ha2))
            go_roundw
            case rel =>
              refine ⟨i + 1, m', rfl, by go_num, by omega, hmd, HNew.out, HQ.out.2.1.trans (((Below.refl _ _).alloc hbz _).trans (below_grown (HLit.out #[.int .u8 (y : Int)] rfl) HG2.out (by simp; omega))), fun h => by omega, ?_⟩
              rw [HP.out, Nat.add_comm i 1]
              exact HO2.out
            case measure => simp [intOf]; omega
      · obtain rfl : i = z := by omega
        have hlt' : ¬ (i : Int) < i := by omega
        have hrun := run_string_own _ _ _ _ _ HQ.out.2.2.2
        rw [HF.out] at hrun
        go_wp2_with (go_at_call 28; refine (HS.out _).mono ?_; rintro e w' ⟨rfl, rfl⟩)
        go_ret
        exact ⟨rfl, HQ.out.2.1⟩
  · rw [hlo] at hk2
    have hk3 : ((k : Int) % 2 == 1) = true := by rw [hk2]; rfl
    have HLo := Lib.hid hlo
    clear hk2 hlo
    go_enter Tryd.func31, Tryd.ntmps31
    go_wp2_with fail
    go_loopw [1, 5, 6] (fun nv out iv wr => ∃ i m : Nat, nv = .int .i64 m ∧ iv = .int .i64 i ∧ i ≤ z ∧ m ≤ n ∧ Hid (m = n / 256 ^ i ∧ Below w.heap.size w wr ∧ wr.ownsRow w.heap.size 5 1 out i (u8v (prt k i n)))) (fun _ _ iv _ => z - (intOf iv).toNat)
    case atStart => exact ⟨0, n, rfl, rfl, by omega, by omega, by simp, Below.refl _ _, by rw [H0.out]; exact World.ownsRow_nil _ _ _ _⟩
    case round =>
      obtain ⟨i, m, rfl, rfl, hi, hm, HQ⟩ := hrel
      have hbz := HQ.out.2.1.size
      by_cases hlt : i < z
      · have hlt' : (i : Int) < z := by omega
        obtain ⟨y, hy⟩ : ∃ y : Nat, y = m % 256 := ⟨_, rfl⟩
        have e1' : (m : Int) % 256 = (y : Int) := by omega
        have e1'' : IntKind.u8.wrap (y : Int) = (y : Int) := by rw [IntKind.wrap_u8']; omega
        have HY := Lib.hid hy
        have hy2 : y < 256 := by omega
        have e2 : (m : Int) / 256 = ((m / 256 : Nat) : Int) := by omega
        have hmd : m / 256 ≤ n := by omega
        have hmx : i + 1 ≤ maxLen := by unfold maxLen; omega
        clear hy
        have HNew : Hid (m / 256 = n / 256 ^ (i + 1)) := by show m / 256 = n / 256 ^ (i + 1); rw [HDD.out, ← HQ.out.1]
        have HP : Hid (prt k (i + 1) n = prt k i n ++ [y]) := by show prt k (i + 1) n = prt k i n ++ [y]; rw [HOdd.out i HLo.out, ← HQ.out.1, ← HY.out]
        generalize hmm : m / 256 = m' at *
        clear hmm
        go_wp2_with (first | (go_at_call 28; refine (HS.out _).mono ?_; rintro e w' ⟨rfl, rfl⟩) | (at_builtin; refine wpList_append_own_at _ rfl (.tmp 22) (.tmp 24) _ rfl w.heap.size 5 i0 _ 1 1 Tryd.underlying64 I0.out I1.out I2.out I3.out rfl (by omega) u5 i _ rfl (HQ.out.2.2.alloc _) ⟨wr.heap.size, 0, none⟩ 1 1 [_] rfl rfl (cell_one_new _ _ _) (by simp [Value.oneCell']) hmx (by omega) (by simp; omega) ?_; intro v2 w2 ho2 hg2 hn2 ha2; have HO2 := Lib.hid ho2; have HG2 := Lib.hid hg2; clear ho2 hg2 hn2 ha2))
        go_roundw
        case rel =>
          refine ⟨i + 1, m', rfl, by go_num, by omega, hmd, HNew.out, HQ.out.2.1.trans (((Below.refl _ _).alloc hbz _).trans (below_grown (HQ.out.2.2.alloc _) HG2.out (by simp; omega))), ?_⟩
          rw [HP.out, u8v_app]
          exact HO2.out
        case measure => simp [intOf]; omega
      · obtain rfl : i = z := by omega
        have hlt' : ¬ (i : Int) < i := by omega
        have hrun := run_string_own _ _ _ _ _ HQ.out.2.2
        rw [HF.out] at hrun
        go_wp2_with (go_at_call 28; refine (HS.out _).mono ?_; rintro e w' ⟨rfl, rfl⟩)
        go_ret
        exact ⟨rfl, HQ.out.2.1⟩
end Go.Proofs.YtohjkpdelopknaaDoor

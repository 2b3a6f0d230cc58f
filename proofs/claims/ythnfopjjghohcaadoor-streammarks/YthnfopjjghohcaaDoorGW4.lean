import Derived.Test.YthnfopjjghohcaaDoorGW1
import Derived.Test.YthnfopjjghohcaaDoorGW2
import Derived.Test.YthnfopjjghohcaaDoorGW3
namespace Go.Proofs.YthnfopjjghohcaaDoor.Wd
open Go.RowKit

theorem leB_snoc : ∀ (i n : Nat), leB (i + 1) n = leB i n ++ [n / 256 ^ i % 256]
  | 0, n => by simp [leB]
  | i + 1, n => by
    have ih := leB_snoc i (n / 256)
    rw [leB, ih, leB, Nat.div_div_eq_div_mul, Nat.pow_succ, Nat.mul_comm 256]
    rfl
/-- What the reference's loop has behind i rounds. -/
def prt (k i n : Nat) : List Nat := if loK k then leB i n else (leB i n).reverse
theorem prt_full (k n : Nat) : prt k (szK k) n = unB k n := rfl
theorem prt_len (k i n : Nat) : (prt k i n).length = i := by unfold prt; split <;> simp [leB_len]
theorem prt_odd (k i n : Nat) (h : loK k = true) : prt k (i + 1) n = prt k i n ++ [n / 256 ^ i % 256] := by simp [prt, h, leB_snoc]
theorem prt_even (k i n : Nat) (h : loK k = false) : prt k (i + 1) n = (n / 256 ^ i % 256) :: prt k i n := by simp [prt, h, leB_snoc]
theorem u8v_one (v : Nat) : u8v [v] = [.int .u8 (v : Int)] := rfl
theorem u8v_len (l : List Nat) : (u8v l).length = l.length := by simp [u8v]
theorem u8v_cell (l : List Nat) : ∀ u ∈ u8v l, u.oneCell' = true := by
  intro u hu
  simp only [u8v, List.mem_map] at hu
  obtain ⟨x, _, rfl⟩ := hu
  rfl

set_option maxRecDepth 100000 in
set_option maxHeartbeats 2000000 in
theorem runit_any (k : Nat) (n : Nat) (w : World) (h1 : 1 ≤ k) (h4 : k ≤ 4) (hn : n < 4294967296) :
    Calls Tryd.prog 62 #[.int .i64 (k : Int), .int .i64 (n : Int)] w fun e w' => e = .returned (.string (strB (unB k n))) ∧ Below w.heap.size w w' := by
  obtain ⟨i0, hi0, hz0, hz1, hz2⟩ := info_parts u8_info
  have I0 := Lib.hid hi0
  have I1 := Lib.hid hz0
  have I2 := Lib.hid hz1
  have I3 := Lib.hid hz2
  clear hi0 hz0 hz1 hz2
  have HF := Lib.hid (prt_full k n)
  obtain ⟨zz1, zz2, -⟩ := szK_bd k
  have HS := Lib.hid (fun W => size_any k W)
  have HOdd := Lib.hid (fun i h => prt_odd k i n h)
  have HEv := Lib.hid (fun i h => prt_even k i n h)
  have HLen := Lib.hid (fun i => prt_len k i n)
  have H0 : Hid (prt k 0 n = []) := by show prt k 0 n = []; unfold prt; split <;> rfl
  have hk2 : (k : Int) % 2 = if loK k then 1 else 0 := by
    rcases kinds h1 h4 with rfl | rfl | rfl | rfl <;> rfl
  generalize szK k = z at *
  have hd : ∀ i : Nat, n / 256 ^ i ≤ n := fun i => Nat.div_le_self _ _
  have HD := Lib.hid hd
  have HDD := Lib.hid (show ∀ i : Nat, n / 256 ^ (i + 1) = n / 256 ^ i / 256 from fun i => by rw [Nat.div_div_eq_div_mul, Nat.pow_succ])
  clear hd
  cases hlo : loK k
  · rw [hlo] at hk2
    have hk3 : ((k : Int) % 2 == 1) = false := by rw [hk2]; rfl
    have HLo := Lib.hid hlo
    clear hk2 hlo
    go_enter Tryd.func62, Tryd.ntmps62
    go_wp2_with fail
    go_loopw [1, 5, 6] (fun nv out iv wr => ∃ i m : Nat, nv = .int .i64 m ∧ iv = .int .i64 i ∧ i ≤ z ∧ m ≤ n ∧ Hid (m = n / 256 ^ i ∧ Below w.heap.size w wr ∧ (i = 0 → out = .slice none 0 0) ∧ wr.ownsRow w.heap.size 5 1 out i (u8v (prt k i n)))) (fun _ _ iv _ => z - (intOf iv).toNat)
    case atStart => exact ⟨0, n, rfl, rfl, by omega, by omega, by simp, Below.refl _ _, fun _ => rfl, by rw [H0.out]; exact World.ownsRow_nil _ _ _ _⟩
    case round =>
      obtain ⟨i, m, rfl, rfl, hi, hm, HQ⟩ := hrel
      have hbz := HQ.out.2.1.size
      by_cases hlt : i < z
      · have hlt' : (i : Int) < z := by omega
        obtain ⟨y, hy⟩ : ∃ y : Nat, y = m % 256 := ⟨_, rfl⟩
        have e1 : IntKind.u8.wrap ((m : Int) % 256) = (y : Int) := by rw [IntKind.wrap_u8', hy]; omega
        have e1' : (m : Int) % 256 = (y : Int) := by omega
        have e1'' : IntKind.u8.wrap (y : Int) = (y : Int) := by rw [IntKind.wrap_u8']; omega
        have HY := Lib.hid hy
        have hy2 : y < 256 := by omega
        have e2 : (m : Int) / 256 = ((m / 256 : Nat) : Int) := by omega
        have hmd : m / 256 ≤ n := by omega
        have hmx : 1 + i ≤ maxLen := by unfold maxLen; omega
        clear hy
        have HNew : Hid (m / 256 = n / 256 ^ (i + 1)) := by show m / 256 = n / 256 ^ (i + 1); rw [HDD.out, ← HQ.out.1]
        have HP : Hid (prt k (i + 1) n = y :: prt k i n) := by show prt k (i + 1) n = y :: prt k i n; rw [HEv.out i HLo.out, ← HQ.out.1, ← HY.out]
        have HLit := Lib.hid (fun (o : Array Value) (ho : o.size = 1 * 1) => World.ownsRow_lit (base := w.heap.size) (e := 5) (size := 1) wr o 1 hbz (by unfold maxLen; omega) ho)
        generalize hmm : m / 256 = m' at *
        clear hmm
        by_cases hi0 : i = 0
        · have hnil := HQ.out.2.2.1 hi0
          subst hnil
          have hnl : u8v (prt k i n) = [] := by rw [hi0, H0.out]; rfl
          have HNL := Lib.hid hnl
          clear hnl
          go_wp2_with (first | (go_at_call 52; refine (HS.out _).mono ?_; rintro e w' ⟨rfl, rfl⟩) | (at_builtin; refine wpList_append_own_none rfl (.tmp 27) (.tmp 28) _ rfl w.heap.size 5 i0 1 Tryd.underlying92 I0.out (.slice (some ⟨wr.heap.size, 0, none⟩) 1 1) 1 _ rfl (HLit.out #[.int .u8 (y : Int)] rfl) rfl ?_))
          go_roundw
          case rel =>
            refine ⟨i + 1, m', rfl, by go_num, by omega, hmd, HNew.out, HQ.out.2.1.alloc hbz _, fun h => by omega, ?_⟩
            rw [HP.out]
            have := HLit.out #[.int .u8 (y : Int)] rfl
            rw [show i + 1 = 1 by omega, show u8v (y :: prt k i n) = .int .u8 (y : Int) :: u8v (prt k i n) from rfl, HNL.out]
            exact this
          case measure => simp [intOf]; omega
        · rcases HQ.out.2.2.2.2 with ⟨_, hz⟩ | ⟨g, cap, cur, hv, hg, _⟩
          · exact absurd hz hi0
          · have hc := (HQ.out.2.2.2.alloc (.cells #[.int .u8 (y : Int)] 5)).cells (g := g) (by rw [hv]; rfl)
            subst hv
            have HC := Lib.hid hc
            have HPl : Hid ((u8v (prt k i n)).length = i * 1) := by show _ = _; rw [u8v_len, HLen.out]; omega
            clear hc
            go_wp2_with (first | (go_at_call 52; refine (HS.out _).mono ?_; rintro e w' ⟨rfl, rfl⟩) | (at_builtin; refine wpList_append_own_at _ rfl (.tmp 27) (.tmp 28) _ rfl w.heap.size 5 i0 _ 1 1 Tryd.underlying92 I0.out I1.out I2.out I3.out rfl (by omega) (.slice (some ⟨wr.heap.size, 0, none⟩) 1 1) 1 _ rfl (HLit.out #[.int .u8 (y : Int)] rfl) ⟨g, 0, none⟩ i cap (u8v (prt k i n)) rfl HPl.out HC.out (u8v_cell _) hmx (by omega) (by simp; omega) ?_; intro v2 w2 ho2 hg2 hn2 ha2; have HO2 := Lib.hid ho2; have HG2 := Lib.hid hg2; clear ho2 hg2 hn2 ha2))
            go_roundw
            case rel =>
              refine ⟨i + 1, m', rfl, by go_num, by omega, hmd, HNew.out, HQ.out.2.1.trans (((Below.refl _ _).alloc hbz _).trans (below_grown (HLit.out #[.int .u8 (y : Int)] rfl) HG2.out (by simp; omega))), fun h => by omega, ?_⟩
              rw [HP.out, Nat.add_comm i 1]
              exact HO2.out
            case measure => simp [intOf]; omega
      · obtain rfl : i = z := by omega
        have hlt' : ¬ (i : Int) < i := by omega
        have hrun := run_string_own _ _ _ _ _ HQ.out.2.2.2
        rw [HF.out] at hrun
        go_wp2_with (go_at_call 52; refine (HS.out _).mono ?_; rintro e w' ⟨rfl, rfl⟩)
        go_ret
        exact ⟨rfl, HQ.out.2.1⟩
  · rw [hlo] at hk2
    have hk3 : ((k : Int) % 2 == 1) = true := by rw [hk2]; rfl
    have HLo := Lib.hid hlo
    clear hk2 hlo
    go_enter Tryd.func62, Tryd.ntmps62
    go_wp2_with fail
    go_loopw [1, 5, 6] (fun nv out iv wr => ∃ i m : Nat, nv = .int .i64 m ∧ iv = .int .i64 i ∧ i ≤ z ∧ m ≤ n ∧ Hid (m = n / 256 ^ i ∧ Below w.heap.size w wr ∧ wr.ownsRow w.heap.size 5 1 out i (u8v (prt k i n)))) (fun _ _ iv _ => z - (intOf iv).toNat)
    case atStart => exact ⟨0, n, rfl, rfl, by omega, by omega, by simp, Below.refl _ _, by rw [H0.out]; exact World.ownsRow_nil _ _ _ _⟩
    case round =>
      obtain ⟨i, m, rfl, rfl, hi, hm, HQ⟩ := hrel
      have hbz := HQ.out.2.1.size
      by_cases hlt : i < z
      · have hlt' : (i : Int) < z := by omega
        obtain ⟨y, hy⟩ : ∃ y : Nat, y = m % 256 := ⟨_, rfl⟩
        have e1' : (m : Int) % 256 = (y : Int) := by omega
        have e1'' : IntKind.u8.wrap (y : Int) = (y : Int) := by rw [IntKind.wrap_u8']; omega
        have HY := Lib.hid hy
        have hy2 : y < 256 := by omega
        have e2 : (m : Int) / 256 = ((m / 256 : Nat) : Int) := by omega
        have hmd : m / 256 ≤ n := by omega
        have hmx : i + 1 ≤ maxLen := by unfold maxLen; omega
        clear hy
        have HNew : Hid (m / 256 = n / 256 ^ (i + 1)) := by show m / 256 = n / 256 ^ (i + 1); rw [HDD.out, ← HQ.out.1]
        have HP : Hid (prt k (i + 1) n = prt k i n ++ [y]) := by show prt k (i + 1) n = prt k i n ++ [y]; rw [HOdd.out i HLo.out, ← HQ.out.1, ← HY.out]
        generalize hmm : m / 256 = m' at *
        clear hmm
        go_wp2_with (first | (go_at_call 52; refine (HS.out _).mono ?_; rintro e w' ⟨rfl, rfl⟩) | (at_builtin; refine wpList_append_own_at _ rfl (.tmp 22) (.tmp 24) _ rfl w.heap.size 5 i0 _ 1 1 Tryd.underlying92 I0.out I1.out I2.out I3.out rfl (by omega) u5 i _ rfl (HQ.out.2.2.alloc _) ⟨wr.heap.size, 0, none⟩ 1 1 [_] rfl rfl (cell_one_new _ _ _) (by simp [Value.oneCell']) hmx (by omega) (by simp; omega) ?_; intro v2 w2 ho2 hg2 hn2 ha2; have HO2 := Lib.hid ho2; have HG2 := Lib.hid hg2; clear ho2 hg2 hn2 ha2))
        go_roundw
        case rel =>
          refine ⟨i + 1, m', rfl, by go_num, by omega, hmd, HNew.out, HQ.out.2.1.trans (((Below.refl _ _).alloc hbz _).trans (below_grown (HQ.out.2.2.alloc _) HG2.out (by simp; omega))), ?_⟩
          rw [HP.out, u8v_app]
          exact HO2.out
        case measure => simp [intOf]; omega
      · obtain rfl : i = z := by omega
        have hlt' : ¬ (i : Int) < i := by omega
        have hrun := run_string_own _ _ _ _ _ HQ.out.2.2
        rw [HF.out] at hrun
        go_wp2_with (go_at_call 52; refine (HS.out _).mono ?_; rintro e w' ⟨rfl, rfl⟩)
        go_ret
        exact ⟨rfl, HQ.out.2.1⟩
end Go.Proofs.YthnfopjjghohcaaDoor.Wd
namespace Go.Proofs.YthnfopjjghohcaaDoor.Wd
open Go.RowKit

theorem leN_leB : ∀ (m n : Nat), n < 256 ^ m → leN (leB m n) = n
  | 0, n, h => by simp at h; simp [leB, leN, h]
  | m + 1, n, h => by
    have := leN_leB m (n / 256) (by rw [Nat.pow_succ] at h; omega)
    simp only [leB, leN, this]
    omega
theorem leB_leN : ∀ (l : List Nat), allB l → leB l.length (leN l) = l
  | [], _ => rfl
  | b :: t, h => by
    have h1 := leB_leN t (fun v hv => h v (by simp [hv]))
    have h2 := h b (by simp)
    simp only [List.length_cons, leB, leN]
    rw [show (b + 256 * leN t) % 256 = b by omega, show (b + 256 * leN t) / 256 = leN t by omega, h1]
theorem leB_B : ∀ (m n : Nat), allB (leB m n)
  | 0, _ => fun v hv => by simp [leB] at hv
  | m + 1, n => fun v hv => by
    simp only [leB, List.mem_cons] at hv
    rcases hv with rfl | hv
    · omega
    · exact leB_B m _ v hv
theorem unB_B (k n : Nat) : allB (unB k n) := by
  intro v hv
  unfold unB at hv
  split at hv
  · exact leB_B _ _ v hv
  · exact leB_B _ _ v (by simpa using hv)
theorem chB_B (k r : Nat) : allB (chB k r) := by
  unfold chB
  split
  · exact unB_B k _
  · exact allB_app (unB_B k _) (unB_B k _)
theorem chL_B (k : Nat) (l : List Int) : allB (chL k l) := by
  intro v hv
  simp only [chL, List.mem_flatMap] at hv
  obtain ⟨r, _, hv⟩ := hv
  exact chB_B k _ v hv
theorem unN_unB (k n : Nat) (t : List Nat) (h : n < 256 ^ szK k) : unN k (unB k n ++ t) = n := by
  have hl : (unB k n ++ t).take (szK k) = unB k n := by
    rw [← unB_len k n, List.take_left]
  unfold unN
  rw [hl]
  unfold unB
  split
  · exact leN_leB _ _ h
  · rw [List.reverse_reverse]; exact leN_leB _ _ h
theorem unB_unN (k : Nat) (l : List Nat) (h : allB l) (hl : szK k ≤ l.length) : unB k (unN k l) = l.take (szK k) := by
  have hn : (l.take (szK k)).length = szK k := by rw [List.length_take]; omega
  unfold unB unN
  split
  · have := leB_leN (l.take (szK k)) (allB_take h _)
    rw [hn] at this
    exact this
  · have := leB_leN (l.take (szK k)).reverse (fun v hv => allB_take h _ v (by simpa using hv))
    rw [List.length_reverse, hn] at this
    rw [this, List.reverse_reverse]
theorem p2 (k : Nat) (h : k ≤ 2) : 256 ^ szK k = 65536 := by rw [show szK k = 2 by simp [szK, h]]
theorem p4 (k : Nat) (h : 3 ≤ k) : 256 ^ szK k = 4294967296 := by rw [show szK k = 4 by unfold szK; rw [if_neg (by omega)]]
theorem p_ge (k : Nat) : 65536 ≤ 256 ^ szK k := by
  by_cases h : k ≤ 2
  · rw [p2 k h]; omega
  · rw [p4 k (by omega)]; omega

theorem nx_ch (k n : Nat) (h : scal (n : Int) = true) (t : List Nat) : nx k (chB k n ++ t) = ((n : Int), ((chB k n).length : Int), 0) := by
  have hb := scal_bd h
  have hs := h
  simp [scal] at hs
  by_cases c : 3 ≤ k ∨ n < 65536
  · have hc : chB k n = unB k n := by unfold chB; rw [if_pos c]
    have hlt : n < 256 ^ szK k := by
      by_cases h3 : 3 ≤ k
      · rw [p4 k h3]; omega
      · have := p_ge k; omega
    have hu := unN_unB k n t hlt
    rw [hc]
    unfold nx
    rw [hu, List.length_append, unB_len, if_neg (by omega), if_neg (by omega), if_pos h]
  · have hc : chB k n = unB k (55296 + (n - 65536) / 1024) ++ unB k (56320 + (n - 65536) % 1024) := by unfold chB; rw [if_neg c]
    have hz : szK k = 2 := by unfold szK; rw [if_pos (by omega)]
    have hge := p_ge k
    obtain ⟨x, hx⟩ : ∃ x, x = 55296 + (n - 65536) / 1024 := ⟨_, rfl⟩
    obtain ⟨y, hy⟩ : ∃ y, y = 56320 + (n - 65536) % 1024 := ⟨_, rfl⟩
    rw [hc, ← hx, ← hy, List.append_assoc]
    have hu := unN_unB k x (unB k y ++ t) (by omega)
    have hd : (unB k x ++ (unB k y ++ t)).drop 2 = unB k y ++ t := by
      have := unB_len k x
      rw [hz] at this
      rw [← this, List.drop_left]
    have hv := unN_unB k y t (by omega)
    unfold nx
    rw [hu, hd, hv]
    simp only [List.length_append, unB_len, hz]
    rw [if_neg (by omega), if_pos ⟨by omega, by omega, by omega⟩, if_neg (by omega), if_pos ⟨by omega, by omega⟩]
    rw [show 65536 + (x - 55296) * 1024 + (y - 56320) = n by omega]
    rfl
theorem nx_back (k : Nat) (l : List Nat) (hB : allB l) (r : Int) (n : Nat) (h : nx k l = (r, (n : Int), 0)) : scal r = true ∧ l.take n = chB k r.toNat ∧ (chB k r.toNat).length = n := by
  unfold nx at h
  by_cases c1 : l.length < szK k
  · rw [if_pos c1] at h; simp at h
  rw [if_neg c1] at h
  have hun := unB_unN k l hB (by omega)
  by_cases c2 : k ≤ 2 ∧ 55296 ≤ unN k l ∧ unN k l < 56320
  · rw [if_pos c2] at h
    by_cases c3 : l.length < 4
    · rw [if_pos c3] at h; simp at h
    rw [if_neg c3] at h
    by_cases c4 : 56320 ≤ unN k (l.drop 2) ∧ unN k (l.drop 2) < 57344
    · rw [if_pos c4] at h
      have hz : szK k = 2 := by simp [szK, c2.1]
      have hun2 := unB_unN k (l.drop 2) (allB_drop hB 2) (by rw [List.length_drop]; omega)
      generalize unN k l = u at *
      generalize unN k (l.drop 2) = v at *
      simp only [Prod.mk.injEq] at h
      obtain ⟨h1, h2, -⟩ := h
      obtain rfl : n = 4 := by omega
      have hr : r.toNat = 65536 + (u - 55296) * 1024 + (v - 56320) := by omega
      have hch : chB k r.toNat = l.take 4 := by
        unfold chB
        rw [if_neg (by omega), show 55296 + (r.toNat - 65536) / 1024 = u by omega, show 56320 + (r.toNat - 65536) % 1024 = v by omega, hun, hun2, hz]
        exact (List.take_add (i := 2) (j := 2)).symm
      refine ⟨by simp [scal]; omega, hch.symm, ?_⟩
      rw [hch, List.length_take]
      omega
    · rw [if_neg c4] at h; simp at h
  · rw [if_neg c2] at h
    by_cases c3 : scal (unN k l : Int) = true
    · rw [if_pos c3] at h
      simp only [Prod.mk.injEq] at h
      obtain ⟨h1, h2, -⟩ := h
      subst h1
      obtain rfl : szK k = n := by omega
      have hlt := unN_lt k l hB
      have hch : chB k (unN k l) = l.take (szK k) := by
        unfold chB
        rw [if_pos (by
          by_cases h3 : 3 ≤ k
          · exact .inl h3
          · right; rw [p2 k (by omega)] at hlt; exact hlt), hun]
      rw [Int.toNat_natCast]
      refine ⟨c3, hch.symm, ?_⟩
      rw [hch, List.length_take]
      omega
    · rw [if_neg c3] at h; simp at h

/-- Decode of Encode is the characters. -/
theorem dec_enc (k : Nat) (h4 : k ≤ 4) (pol : Int) : ∀ (l : List Int) (p : Nat), l.all scal = true → dec k pol p (chL k l) = (l, [], 0)
  | [], _, _ => rfl
  | r :: l, p, h => by
    simp only [List.all_cons, Bool.and_eq_true] at h
    have hn := (chB_len k r.toNat h4).1
    have hb := scal_bd h.1
    have hr : (r.toNat : Int) = r := by omega
    have hx := nx_ch k r.toNat (by rw [hr]; exact h.1) (chL k l)
    rw [hr] at hx
    rw [chL_cons]
    rw [dec_ok k pol p _ (by intro e; have := congrArg List.length e; simp at this; simp [this.1] at hn) r (chB k r.toNat).length hx (by omega)]
    rw [List.drop_left, dec_enc k h4 pol l _ h.2]

/-- What Decode by Strict leaves: its characters' bytes are the bytes ahead of the first malformed unit. -/
structure BackP (k p : Nat) (l : List Nat) (d : List Int × List (Nat × Nat) × Int) : Prop where
  sc : d.1.all scal = true
  ok : d.2.2 = 0 → d.2.1 = [] ∧ chL k d.1 = l
  bad : d.2.2 ≠ 0 → d.2.2 = 17 ∧ ∃ n, d.2.1 = [(p + (chL k d.1).length, n)] ∧ 1 ≤ n ∧ n ≤ 4 ∧ (chL k d.1).length + n ≤ l.length ∧ chL k d.1 = l.take (chL k d.1).length
theorem dec_back (k : Nat) : ∀ (m p : Nat) (l : List Nat), allB l → l.length ≤ m → BackP k p l (dec k 1 p l) := by
  intro m
  induction m with
  | zero =>
    intro p l _ hl
    have : l = [] := List.eq_nil_of_length_eq_zero (by omega)
    subst this
    exact ⟨rfl, fun _ => ⟨rfl, rfl⟩, fun h => absurd rfl h⟩
  | succ m ih =>
    intro p l hB hl
    by_cases hne : l = []
    · subst hne
      exact ⟨rfl, fun _ => ⟨rfl, rfl⟩, fun h => absurd rfl h⟩
    obtain ⟨r, e, n, hx, h1, h2, h3, h4, h5⟩ := nx_step k l hne
    by_cases he : e = 0
    · subst he
      rw [dec_ok k 1 p l hne r n hx h1]
      obtain ⟨hsc, htk, hln⟩ := nx_back k l hB r n hx
      have hI := ih (p + n) (l.drop n) (allB_drop hB n) (by rw [List.length_drop]; omega)
      generalize dec k 1 (p + n) (l.drop n) = d at hI
      refine ⟨by simp [hsc, hI.sc], fun hz => ?_, fun hz => ?_⟩
      · obtain ⟨a, b⟩ := hI.ok hz
        refine ⟨a, ?_⟩
        show chL k (r :: d.1) = l
        rw [chL_cons, b, ← htk, List.take_append_drop]
      · obtain ⟨a, x, b, c1, c2, c3, c4⟩ := hI.bad hz
        rw [List.length_drop] at c3
        refine ⟨a, x, ?_, c1, c2, ?_, ?_⟩
        · show d.2.1 = [(p + (chL k (r :: d.1)).length, x)]
          rw [b, chL_cons, List.length_append, hln]
          simp; omega
        · show (chL k (r :: d.1)).length + x ≤ l.length
          rw [chL_cons, List.length_append, hln]
          omega
        · show chL k (r :: d.1) = l.take (chL k (r :: d.1)).length
          rw [chL_cons, List.length_append, hln]
          conv => lhs; rw [c4, ← htk]
          rw [List.take_add]
    · rw [dec_bad1 k p l hne r e n hx he]
      exact ⟨rfl, fun h => by simp at h, fun _ => ⟨rfl, n, rfl, h1, h3, by simpa [chL] using h2, by simp [chL]⟩⟩
theorem dec_back0 (k : Nat) (l : List Nat) (hB : allB l) : BackP k 0 l (dec k 1 0 l) := dec_back k l.length 0 l hB (Nat.le_refl _)
/-- By Skip the characters are the bytes that are no malformed unit's. -/
theorem dec_skip (k : Nat) : ∀ (m p : Nat) (l : List Nat), allB l → l.length ≤ m → (dec k 3 p l).1.all scal = true ∧ (chL k (dec k 3 p l).1).length + ((dec k 3 p l).2.1.map (·.2)).sum = l.length := by
  intro m
  induction m with
  | zero =>
    intro p l _ hl
    have : l = [] := List.eq_nil_of_length_eq_zero (by omega)
    subst this
    exact ⟨rfl, rfl⟩
  | succ m ih =>
    intro p l hB hl
    by_cases hne : l = []
    · subst hne
      exact ⟨rfl, rfl⟩
    obtain ⟨r, e, n, hx, h1, h2, h3, h4, h5⟩ := nx_step k l hne
    have hI := ih (p + n) (l.drop n) (allB_drop hB n) (by rw [List.length_drop]; omega)
    rw [List.length_drop] at hI
    by_cases he : e = 0
    · subst he
      rw [dec_ok k 3 p l hne r n hx h1]
      obtain ⟨hsc, htk, hln⟩ := nx_back k l hB r n hx
      refine ⟨by simp [hsc, hI.1], ?_⟩
      show (chL k (r :: (dec k 3 (p + n) (l.drop n)).1)).length + ((dec k 3 (p + n) (l.drop n)).2.1.map (·.2)).sum = l.length
      rw [chL_cons, List.length_append, hln]
      have := hI.2
      omega
    · rw [dec_bad k 3 (by decide) p l hne r e n hx he h1]
      refine ⟨by simpa using hI.1, ?_⟩
      have := hI.2
      simp only [show ((3 : Int) = 2) = False from by simp, if_false, List.nil_append, List.map_cons, List.sum_cons]
      omega

theorem nx_cases (k : Nat) (l : List Nat) (r e : Int) (n : Nat) (h : nx k l = (r, (n : Int), e)) (he : e ≠ 18) :
    (n = szK k ∧ szK k ≤ l.length ∧ (k ≤ 2 → 55296 ≤ unN k l → unN k l < 56320 → 4 ≤ l.length)) ∨ (k ≤ 2 ∧ n = 4 ∧ 4 ≤ l.length ∧ 56320 ≤ unN k (l.drop 2)) := by
  unfold nx at h
  by_cases c1 : l.length < szK k
  · rw [if_pos c1] at h; simp only [Prod.mk.injEq] at h; exact absurd h.2.2.symm he
  rw [if_neg c1] at h
  by_cases c2 : k ≤ 2 ∧ 55296 ≤ unN k l ∧ unN k l < 56320
  · rw [if_pos c2] at h
    have hz : szK k = 2 := by simp [szK, c2.1]
    by_cases c3 : l.length < 4
    · rw [if_pos c3] at h; simp only [Prod.mk.injEq] at h; exact absurd h.2.2.symm he
    rw [if_neg c3] at h
    by_cases c4 : 56320 ≤ unN k (l.drop 2) ∧ unN k (l.drop 2) < 57344
    · rw [if_pos c4] at h; simp only [Prod.mk.injEq] at h; exact .inr ⟨c2.1, by omega, by omega, c4.1⟩
    · rw [if_neg c4] at h; simp only [Prod.mk.injEq] at h; exact .inl ⟨by omega, by omega, fun _ _ _ => by omega⟩
  · rw [if_neg c2] at h
    split at h
    · simp only [Prod.mk.injEq] at h; exact .inl ⟨by omega, by omega, fun a b c => absurd ⟨a, b, c⟩ c2⟩
    · simp only [Prod.mk.injEq] at h; exact .inl ⟨by omega, by omega, fun a b c => absurd ⟨a, b, c⟩ c2⟩
theorem cutK_nil (k : Nat) : cutK k [] = 0 := by simp [cutK]
theorem cutK_more (k : Nat) (l : List Nat) (r : Int) (n : Nat) (h : nx k l = (r, (n : Int), 18)) : cutK k l = 0 := by
  unfold nx at h
  have hb := szK_bd k
  by_cases c1 : l.length < szK k
  · unfold cutK; rw [Nat.mod_eq_of_lt c1]; simp
  rw [if_neg c1] at h
  by_cases c2 : k ≤ 2 ∧ 55296 ≤ unN k l ∧ unN k l < 56320
  · rw [if_pos c2] at h
    have hz : szK k = 2 := by simp [szK, c2.1]
    by_cases c3 : l.length < 4
    · unfold cutK
      rw [hz]
      have hw : l.length - l.length % 2 = 2 := by omega
      rw [hw, if_pos ⟨by omega, c2.1, by simpa using c2.2.1, by simpa using c2.2.2⟩]
    rw [if_neg c3] at h
    split at h <;> simp at h
  · rw [if_neg c2] at h
    split at h <;> simp at h
theorem cutK_step (k : Nat) (l : List Nat) (r e : Int) (n : Nat) (h : nx k l = (r, (n : Int), e)) (he : e ≠ 18) (hn : n ≤ l.length) : cutK k l = n + cutK k (l.drop n) := by
  have hb := szK_bd k
  have hc := nx_cases k l r e n h he
  have hmod : n % szK k = 0 := by
    rcases hc with ⟨h1, _⟩ | ⟨h1, h2, _⟩
    · rw [h1]; exact Nat.mod_self _
    · have hz : szK k = 2 := by simp [szK, h1]
      rw [hz]; omega
  have hn1 : szK k ≤ n := by
    rcases hc with ⟨h1, _⟩ | ⟨h1, h2, _⟩
    · omega
    · have hz : szK k = 2 := by simp [szK, h1]
      omega
  have hlow : l.length - l.length % szK k = n → ¬ (k ≤ 2 ∧ 55296 ≤ unN k (l.drop (n - szK k)) ∧ unN k (l.drop (n - szK k)) < 56320) := by
    intro hw ⟨g1, g2, g3⟩
    have hz : szK k = 2 := by simp [szK, g1]
    rcases hc with ⟨h1, h2, h3⟩ | ⟨h1, h2, h3, h4⟩
    · rw [h1, Nat.sub_self, List.drop_zero] at g2 g3
      have := h3 g1 g2 g3
      rw [hz] at hw h1
      omega
    · rw [h2, hz] at g2 g3
      have : (4 - 2 : Nat) = 2 := rfl
      rw [this] at g2 g3
      omega
  have hlen : (l.drop n).length = l.length - n := List.length_drop
  have hm2 : (l.length - n) % szK k = l.length % szK k := by
    rcases hb.2.2 with hz | hz <;> rw [hz] at hmod ⊢ <;> omega
  have hlm : l.length % szK k < szK k := Nat.mod_lt _ (by omega)
  obtain ⟨W, hW⟩ : ∃ W, W = l.length - l.length % szK k := ⟨_, rfl⟩
  have hWn : n ≤ W := by rcases hb.2.2 with hz | hz <;> rw [hz] at hmod hW hlm <;> omega
  have hW2 : l.length - n - l.length % szK k = W - n := by omega
  unfold cutK
  rw [hlen, hm2, hW2, ← hW]
  rw [← hW] at hlow
  by_cases hq : W = n
  · rw [if_neg (fun hh => hlow hq ⟨hh.2.1, by rw [← hq]; exact hh.2.2.1, by rw [← hq]; exact hh.2.2.2⟩), if_neg (by omega)]
    omega
  · have hWz : n + szK k ≤ W := by
      have hWm : W % szK k = 0 := by rcases hb.2.2 with hz | hz <;> rw [hz] at hmod hW hlm ⊢ <;> omega
      rcases hb.2.2 with hz | hz <;> rw [hz] at hmod hWm ⊢ <;> omega
    rw [List.drop_drop, show n + (W - n - szK k) = W - szK k by omega]
    by_cases hh : k ≤ 2 ∧ 55296 ≤ unN k (l.drop (W - szK k)) ∧ unN k (l.drop (W - szK k)) < 56320
    · rw [if_pos ⟨by omega, hh⟩, if_pos ⟨by omega, hh⟩]; omega
    · rw [if_neg (fun x => hh x.2), if_neg (fun x => hh x.2)]; omega
theorem cutK_le (k : Nat) : ∀ (m : Nat) (l : List Nat), l.length ≤ m → cutK k l ≤ l.length ∧ l.length - cutK k l ≤ 3 := by
  intro m
  induction m with
  | zero =>
    intro l hl
    have : l = [] := List.eq_nil_of_length_eq_zero (by omega)
    subst this
    simp [cutK_nil]
  | succ m ih =>
    intro l hl
    by_cases hne : l = []
    · subst hne; simp [cutK_nil]
    obtain ⟨r, e, n, hx, h1, h2, h3, h4, h5⟩ := nx_step k l hne
    by_cases he : e = 18
    · subst he
      have := h5 rfl
      rw [cutK_more k l r n hx]
      omega
    · rw [cutK_step k l r e n hx he h2]
      have hI := ih (l.drop n) (by rw [List.length_drop]; omega)
      rw [List.length_drop] at hI
      omega
theorem cut_whole (k : Nat) : ∀ (m p : Nat) (l : List Nat), l.length ≤ m → (dec k 1 p l).2.2 = 0 → cutK k l = l.length := by
  intro m
  induction m with
  | zero =>
    intro p l hl _
    have : l = [] := List.eq_nil_of_length_eq_zero (by omega)
    subst this
    simp [cutK_nil]
  | succ m ih =>
    intro p l hl h
    by_cases hne : l = []
    · subst hne; simp [cutK_nil]
    obtain ⟨r, e, n, hx, h1, h2, h3, h4, h5⟩ := nx_step k l hne
    by_cases he : e = 0
    · subst he
      rw [dec_ok k 1 p l hne r n hx h1] at h
      rw [cutK_step k l r 0 n hx (by decide) h2, ih (p + n) (l.drop n) (by rw [List.length_drop]; omega) h, List.length_drop]
      omega
    · rw [dec_bad1 k p l hne r e n hx he] at h
      simp at h
theorem unN_app (k : Nat) (s t : List Nat) (h : szK k ≤ s.length) : unN k (s ++ t) = unN k s := by
  unfold unN
  rw [List.take_append_of_le_length h]
theorem nx_app (k : Nat) (s t : List Nat) (r e : Int) (n : Nat) (h : nx k s = (r, (n : Int), e)) (he : e ≠ 18) : nx k (s ++ t) = (r, (n : Int), e) := by
  have h' := h
  unfold nx at h
  by_cases c1 : s.length < szK k
  · rw [if_pos c1] at h; simp only [Prod.mk.injEq] at h; exact absurd h.2.2.symm he
  rw [if_neg c1] at h
  have hu := unN_app k s t (by omega)
  have hl : (s ++ t).length = s.length + t.length := List.length_append
  by_cases c2 : k ≤ 2 ∧ 55296 ≤ unN k s ∧ unN k s < 56320
  · rw [if_pos c2] at h
    have hz : szK k = 2 := by simp [szK, c2.1]
    by_cases c3 : s.length < 4
    · rw [if_pos c3] at h; simp only [Prod.mk.injEq] at h; exact absurd h.2.2.symm he
    rw [if_neg c3] at h
    have hd : (s ++ t).drop 2 = s.drop 2 ++ t := List.drop_append_of_le_length (by omega)
    have hu2 := unN_app k (s.drop 2) t (by rw [List.length_drop]; omega)
    unfold nx
    rw [hl, if_neg (by omega), hu, if_pos c2, if_neg (by omega), hd, hu2]
    exact h
  · rw [if_neg c2] at h
    unfold nx
    rw [hl, if_neg (by omega), hu, if_neg c2]
    exact h
/-- Of bytes that do not end with a beginning that is not whole, and others behind them. -/
theorem dec_app (k : Nat) (pol : Int) (hp : pol ≠ 1) (t : List Nat) : ∀ (m p : Nat) (s : List Nat), s.length ≤ m → cutK k s = s.length →
    dec k pol p (s ++ t) = ((dec k pol p s).1 ++ (dec k pol (p + s.length) t).1, (dec k pol p s).2.1 ++ (dec k pol (p + s.length) t).2.1, 0) := by
  intro m
  induction m with
  | zero =>
    intro p s hl _
    have : s = [] := List.eq_nil_of_length_eq_zero (by omega)
    subst this
    have := dec_err k pol hp t.length p t (Nat.le_refl _)
    simp [dec_nil]
    rw [← this]
  | succ m ih =>
    intro p s hl hI
    by_cases hne : s = []
    · subst hne
      have := dec_err k pol hp t.length p t (Nat.le_refl _)
      simp [dec_nil]
      rw [← this]
    have hpos : 0 < s.length := List.length_pos_iff.2 hne
    obtain ⟨r, e, n, hx, h1, h2, h3, h4, h5⟩ := nx_step k s hne
    have he18 : e ≠ 18 := fun h => by subst h; rw [cutK_more k s r n hx] at hI; omega
    have hx2 := nx_app k s t r e n hx he18
    have hne2 : s ++ t ≠ [] := by simp [hne]
    have hd : (s ++ t).drop n = s.drop n ++ t := List.drop_append_of_le_length h2
    have hcs := cutK_step k s r e n hx he18 h2
    have hr := ih (p + n) (s.drop n) (by rw [List.length_drop]; omega) (by rw [List.length_drop]; omega)
    rw [List.length_drop, show p + n + (s.length - n) = p + s.length by omega] at hr
    by_cases he : e = 0
    · subst he
      rw [dec_ok k pol p _ hne2 r n hx2 h1, dec_ok k pol p s hne r n hx h1, hd, hr]
      simp
    · rw [dec_bad k pol hp p _ hne2 r e n hx2 he h1, dec_bad k pol hp p s hne r e n hx he h1, hd, hr]
      simp
/-- The law's join. -/
theorem dec_join (k : Nat) (s t : List Nat) (h : cutK k s = s.length) : dec k 2 0 (s ++ t) = ((dec k 2 0 s).1 ++ (dec k 2 0 t).1, (dec k 2 0 s).2.1 ++ (dec k 2 0 t).2.1.map (fun x => (s.length + x.1, x.2)), 0) := by
  rw [dec_app k 2 (by decide) t s.length 0 s (Nat.le_refl _) h, Nat.zero_add]
  have := dec_shift k 2 t.length 0 s.length t (Nat.le_refl _)
  rw [Nat.add_zero] at this
  rw [this]
end Go.Proofs.YthnfopjjghohcaaDoor.Wd

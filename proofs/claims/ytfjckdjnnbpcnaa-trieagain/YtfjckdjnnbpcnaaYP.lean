import Derived.Test.YtfjckdjnnbpcnaaYO
namespace Go.Proofs.Ytfjckdjnnbpcnaa.Tr
open Go.RowKit Go.Maps Go.Shelf

attribute [local go_sem] Oper.semAt_some

/-! The going through what is told. -/
def encT (p : Int × Int) : Array Value := #[.int .i32 p.1, .int .i64 p.2]
attribute [local go_sem] encT
/-- What a round keeps: all below n0, and the rows of numbers and the boxes of tables. -/
structure KpT (n0 : Nat) (W W' : World) : Prop where
  low : ∀ k, k < n0 → W'.heap[k]? = W.heap[k]?
  row : ∀ k cs t, Bk W k cs t → (t = 21 ∨ t = 23) → W'.heap[k]? = W.heap[k]?
theorem told_any (w : World) (X : Nat) : Calls Try.prog 45 #[.pointer (some ⟨X, 0, none⟩)] w fun e w' => e = .returned (.func (.func 50) #[] #[.pointer (some ⟨w.heap.size, 0, none⟩)]) ∧ w' = w.alloc (.cells #[.pointer (some ⟨X, 0, none⟩)] 23) := by
  go_enter Try.func45, Try.ntmps45
  go_wp2_with fail
  go_ret
  exact ⟨rfl, rfl⟩
/-- What told$1 finds: the table and the box it is in. -/
structure TW (w : World) (n0 Bt base X M : Nat) (nn : Int) (g : Int → Int) (D : DataW Unit) (bm : Nat → Option Nat) : Prop where
  tb : Tb1 w base X M nn (celF g nn) D bm
  mp : w.ownsMap Try.prog 21 ptrE M (Maps.size D) D
  box : Bk w Bt [.pointer (some ⟨X, 0, none⟩)] 23
  lowX : X < n0
  lowM : M < n0
  lowB : ∀ i b, i < 4352 → bm i = some b → b < n0
theorem TW.on {w w' : World} {n0 Bt base X M : Nat} {nn : Int} {g : Int → Int} {D : DataW Unit} {bm : Nat → Option Nat} (h : TW w n0 Bt base X M nn g D bm) (hl : ∀ k, k < n0 → w'.heap[k]? = w.heap[k]?) (hb : w'.heap[Bt]? = w.heap[Bt]?) : TW w' n0 Bt base X M nn g D bm :=
  ⟨h.tb.on (hl X h.lowX) (fun i b hi e => hl b (h.lowB i b hi e)), own_keep h.mp (hl M h.lowM), h.box.on hb, h.lowX, h.lowM, h.lowB⟩
theorem TW.below {w w' : World} {B n0 Bt base X M : Nat} {nn : Int} {g : Int → Int} {D : DataW Unit} {bm : Nat → Option Nat} (h : TW w n0 Bt base X M nn g D bm) (hb : Below B w w') (hB : n0 ≤ B) (hBt : Bt < B) : TW w' n0 Bt base X M nn g D bm :=
  h.on (fun k hk => hb.block k (by omega)) (hb.block Bt hBt)
theorem row_kept {w w' : World} {n0 b n : Nat} {v : Value} {xs : List Value} (h : w.ownsRow b 21 1 v n xs) (hk : KpT n0 w w') : w'.ownsRow b 21 1 v n xs := by
  refine ⟨h.1, ?_⟩
  rcases h.2 with h1 | ⟨g, cap, cur, h1, h2, h3, h4⟩
  · exact .inl h1
  · exact .inr ⟨g, cap, cur, h1, h2, (hk.row g cur.toList 21 ⟨by simpa using h3⟩ (.inl rfl)).trans h3, h4⟩
theorem row_below {w w' : World} {b n : Nat} {v : Value} {xs : List Value} (h : w.ownsRow b 21 1 v n xs) (hk : Below w.heap.size w w') : w'.ownsRow b 21 1 v n xs := by
  refine ⟨h.1, ?_⟩
  rcases h.2 with h1 | ⟨g, cap, cur, h1, h2, h3, h4⟩
  · exact .inl h1
  · exact .inr ⟨g, cap, cur, h1, h2, (hk.block g (Array.getElem?_eq_some_iff.1 h3).1).trans h3, h4⟩
/-- A row of numbers, read. -/
theorem row_at {w : World} {b n k c : Nat} {A : Option Addr} {K : List Nat} (h : w.ownsRow b 21 1 (.slice A n c) n ((K.map fun i : Nat => (i : Int)).map encZ)) (hk : k < K.length) :
    ∃ G, A = some ⟨G, 0, none⟩ ∧ w.cell? ⟨G, k, none⟩ = some (.int .i32 (K[k] : Nat)) := by
  have hl := h.1
  simp only [List.length_map, Nat.mul_one] at hl
  rcases h.2 with ⟨h1, h2⟩ | ⟨g, cap, cur, h1, h2, h3, h4, h5, h6, h7⟩
  · omega
  · cases h1
    refine ⟨g, rfl, ?_⟩
    have h8 : cur.toList[k]? = some (.int .i32 (K[k] : Nat)) := by
      have h9 := congrArg (fun l : List Value => l[k]?) h7
      simp only [Nat.mul_one] at h9
      rw [List.getElem?_take_of_lt (by omega)] at h9
      rw [h9]
      simp [encZ, hk]
    simp only [World.cell?, h3]
    simpa using h8
/-- 'm[k]' at the map of blocks, in a function that yields. -/
theorem wpListIn_lookup_ptr {F : Fence} {nF : Nat} {P : Program} (w : World) {ops : Array Oper} {rest : List Oper} {o : Oper} {a : Act} {Q : Exit → Act → World → Prop}
    (hg : o.guard = none) (m x : Operand) (t : TypeId) (hop : o.op = Op.lookup t m x false)
    (k e : TypeId) (K : Keyed P k) (ht : P.underlying t = some (.map k e)) (hz : (zeroValue e).run P w = .ok (.pointer none) w) (b n : Nat) (D : DataW Unit)
    (hm : a.eval m = .map (some b)) (hown : w.ownsMap P k ptrE b n D) (key : Value) (kl : Lit) (hx : a.eval x = key) (hkey : keyOf P k key = some kl) (oo : Option Nat) (hat : D.atKey kl .nil = ptrD oo)
    (hK : wpListIn F nF P ops Q rest (a.put o.dst (.pointer (oo.map fun b => ⟨b, 0, none⟩))) w) :
    wpListIn F nF P ops Q (o :: rest) a w := by
  refine wpListIn_plain hg fun K' hK' => ?_
  obtain ⟨v, ps, hrun, hv⟩ := hown.lookup K ht hz ptrE_nil hkey
  rw [hat] at hv
  obtain rfl := ptrE_D hv
  unfold Oper.wpIn
  refine ⟨by simp [Oper.about, hop], ?_⟩
  rw [Oper.semAt_plain F _ _ (by rw [hop]; intro c hc'; cases hc')]
  simp [execOp, hop, hm, hx, hrun, Result.andThen]
  exact hK' _ _ hK
set_option maxRecDepth 100000 in
set_option maxHeartbeats 4000000 in
theorem told_iter (n n0 Bt base X M : Nat) (nn : Int) (g : Int → Int) (D : DataW Unit) (bm : Nat → Option Nat) (w : World) (h : TW w n0 Bt base X M nn g D bm) (hn0 : n0 ≤ w.heap.size) :
    SeqStopsK Fence.wide n Try.prog 50 #[.pointer (some ⟨Bt, 0, none⟩)] encT (KpT n0) (fun ys => ys = tolT g nn (keysL bm)) (fun pre => pre <+: tolT g nn (keysL bm)) (tolT g nn (keysL bm)).length w := fun l J Jx W hW hJ _ hY h0 => by
  obtain ⟨KK, hKK⟩ : ∃ KK, KK = keysL bm := ⟨_, rfl⟩
  rw [← hKK] at hY ⊢
  have HKK := Lib.hid hKK
  have hKl : KK.length ≤ 4352 := by rw [hKK]; exact keysL_len bm
  have hT := h.below hW hn0 h.box.lt
  have hWs := hW.size
  have cB := hT.box.c (i := 0) rfl
  have cX := hT.tb.blk.c (i := 1) rfl
  have HT := Lib.hid hT
  have HBt : Hid (Bt < W.heap.size) := Lib.hid hT.box.lt
  have hn1 : n0 ≤ W.heap.size := by omega
  obtain ⟨WA, hWA⟩ : ∃ x, x = W.alloc (.cells #[.map (some M)] 56) := ⟨_, rfl⟩
  have hbA : Below W.heap.size W WA := by rw [hWA]; exact (Below.refl _ W).alloc (Nat.le_refl _) _
  have hkA : Bk WA W.heap.size [.map (some M)] 56 := by rw [hWA]; exact ⟨heap_alloc_new W _⟩
  have HTA := Lib.hid (hT.below hbA hn1 HBt.out)
  have HS := Lib.hid (So.sorted_any 57 #[.pointer (some ⟨W.heap.size, 0, none⟩)] (enters_of Try.func57 (by kernel_rfl) rfl) (AllKeys D) (fun _ => True) (Maps.size D) (by have := size_le hT.mp hT.tb.mp; omega) WA
    (fun W2 hb2 => keys_iter 4 W.heap.size M (Maps.size D) D ptrE W2 (Nat.lt_of_lt_of_le hkA.lt hb2.size) ((hkA.below hb2).c (i := 0) rfl) (own_keep HTA.out.mp (hb2.block M HTA.out.mp.lt)))
    (fun ss hss => allKeys_len hT.tb.mp hss))
  clear hKK
  have HBA := Lib.hid hbA
  clear h hT hW hbA hkA
  refine callsIn_of_wp Try.func50 rfl trivial ?_ rfl
  simp only [Try.ntmps50, List.size_toArray, List.length_cons, List.length_nil, Nat.reduceAdd, Nat.reduceSub, Array.replicate_succ, Array.replicate_zero, List.push_toArray, List.append_toArray, List.nil_append, List.cons_append]
  gi_wp2
  refine ⟨trivial, fun h => (by cases h), (callsIn_wide.2 (keys_any _ _)).mono ?_⟩
  rintro e w1 ⟨rfl, rfl⟩
  gi_wp2
  rw [← hWA]
  refine ⟨trivial, fun h => (by cases h), (callsIn_wide.2 HS.out).mono ?_⟩
  rintro e w2 ⟨v, ss, ks, rfl, hss, hks, hkp, hrow, hbl⟩
  obtain rfl := allKeys_sorted HT.out.tb.mp hss hks hkp
  rw [List.length_map, ← HKK.out] at hrow
  obtain ⟨A, c, rfl, _⟩ := own_slice hrow
  have B2 := Lib.hid (HBA.out.trans (hbl.mono HBA.out.size))
  have R2 := Lib.hid hrow
  clear hss hks hkp hrow hbl
  gi_wp2
  have HKM : Hid (∀ i ∈ KK, i < 4352 ∧ ∃ b, bm i = some b) := Lib.hid fun i hi => keysL_mem (by rw [← HKK.out]; exact hi)
  clear HKK
  have HJ2 : J [] w2 := hJ [] W w2 none h0 ⟨B2.out.os, B2.out.tape, B2.out.output, B2.out.size, fun i hi _ => B2.out.block i hi⟩ (fun r e => by cases e)
  have HT2 := Lib.hid (HT.out.below B2.out hn1 HBt.out)
  obtain ⟨bs, hbs⟩ : ∃ bs, bs = WA.heap.size := ⟨_, rfl⟩
  rw [← hbs] at R2
  clear hbs hWA HTA HS HBA B2 cB cX HT
  gi_loopw [16] (fun vk wr => ∃ k : Nat, vk = .int .i64 k ∧ k ≤ KK.length ∧ Hid (TW wr n0 Bt base X M nn g D bm) ∧ Hid (wr.ownsRow bs 21 1 (.slice A KK.length c) KK.length ((KK.map fun i : Nat => (i : Int)).map encZ)) ∧ J (tolT g nn (KK.take k)) wr) (fun vk _ => KK.length - (intOf vk).toNat)
  case atStart => exact ⟨0, rfl, Nat.zero_le _, HT2, R2, HJ2⟩
  case round =>
    obtain ⟨k, rfl, hk, HTr, HRr, hJr⟩ := hrel
    by_cases hlt : k < KK.length
    · have hltI : (k : Int) < KK.length := by omega
      obtain ⟨i, hi⟩ : ∃ i, i = KK[k] := ⟨_, rfl⟩
      have hRow := row_at HRr.out hlt
      obtain ⟨GB, rfl, hcr⟩ := hRow
      rw [← hi] at hcr
      obtain ⟨hi2, b, hbm⟩ := HKM.out i (by rw [hi]; exact List.getElem_mem hlt)
      have HPre : Hid (∀ j, j ≤ 256 → tolT g nn (KK.take k) ++ blT g nn i j <+: tolT g nn KK) := Lib.hid fun j hj => by rw [hi]; exact tolT_prefix g nn KK k hlt j hj
      have HNext : Hid (tolT g nn (KK.take (k + 1)) = tolT g nn (KK.take k) ++ blT g nn i 256) := Lib.hid (by rw [hi]; exact tolT_next g nn KK k hlt)
      clear hi
      have cB := HTr.out.box.c (i := 0) rfl
      have cX := HTr.out.tb.blk.c (i := 1) rfl
      have hat := HTr.out.tb.mp.at_ i hi2
      rw [hbm] at hat
      have HK9 : keyOf Try.prog 21 (.int .i32 i) = some (.int .i32 i) := keyOf_int_mk Try.underlying21 (wf32 (by omega) (by omega))
      have HMP := Lib.hid HTr.out.mp
      have HAT := Lib.hid hat
      have HBM := Lib.hid hbm
      clear hat hbm
      gi_wp2_with (gi_at_lookup; refine wpListIn_lookup_ptr _ rfl _ _ 56 rfl 21 64 law21 Try.underlying56 (zero64 _) M (Maps.size D) D rfl HMP.out _ _ rfl HK9 (some b) HAT.out ?_)
      obtain ⟨wo, hwo⟩ : ∃ x, x = wr := ⟨_, rfl⟩
      subst hwo
      gi_loopw [26] (fun vj wx => ∃ j : Nat, vj = .int .i64 j ∧ j ≤ 256 ∧ Hid (TW wx n0 Bt base X M nn g D bm) ∧ Hid (wx.ownsRow bs 21 1 (.slice (some ⟨GB, 0, none⟩) KK.length c) KK.length ((KK.map fun i : Nat => (i : Int)).map encZ)) ∧ J (tolT g nn (KK.take k) ++ blT g nn i j) wx) (fun vj _ => 256 - (intOf vj).toNat)
      case atStart => exact ⟨0, rfl, Nat.zero_le _, HTr, HRr, by rw [blT, List.append_nil]; exact hJr⟩
      case round =>
        obtain ⟨j, rfl, hj, HTj, HRj, hJj⟩ := hrel
        by_cases hjl : j < 256
        · have hjlI : (j : Int) < 256 := by omega
          have hblk := (HTj.out.tb.at_ i b hi2 HBM.out).2
          obtain ⟨x, hx⟩ : ∃ x, x = i * 256 + j := ⟨_, rfl⟩
          have hxI : (i : Int) * 256 + j = x := by omega
          have hxl : x < 1114112 := by omega
          by_cases hv : g (x : Int) = nn
          · have c0 := hblk.c (i := j * 2) ((blkC_at _ j 0 hjl (by omega)).trans (by rw [celF, ← hx, if_pos hv]; rfl))
            have HB1 : Hid (blT g nn i (j + 1) = blT g nn i j) := Lib.hid (by rw [blT, ← hx, if_pos hv])
            clear hx hblk
            gi_wp2_with (refine wpListIn_skip (by rfl) (by rfl) ?_)
            go_roundw
            case rel => exact ⟨j + 1, by go_num, by omega, HTj, HRj, by rw [HB1.out]; exact hJj⟩
            case measure => simp [intOf]; omega
          · have c0 := hblk.c (i := j * 2) ((blkC_at _ j 0 hjl (by omega)).trans (by rw [celF, ← hx, if_neg hv]; rfl))
            have c1 := hblk.c (i := j * 2 + 1) ((blkC_at _ j 1 hjl (by omega)).trans (by rw [celF, ← hx, if_neg hv]; rfl))
            have HB1 : Hid (blT g nn i (j + 1) = blT g nn i j ++ [((x : Int), g x)]) := Lib.hid (by rw [blT, ← hx, if_neg hv])
            have HP := HPre.out (j + 1) (by omega)
            rw [HB1.out, ← List.append_assoc] at HP
            have hlen := HP.length_le
            rw [List.length_append, List.length_singleton] at hlen
            have HPP := Lib.hid HP
            clear hx hblk HP
            obtain ⟨fn, tmps, assign, body, hy, hR⟩ := hY _ ((x : Int), g x) wr hJj (by omega)
            clear hlen
            unfold encT at hy
            gi_wp2
            refine ⟨fun h => (by cases h), hR.mono ?_⟩
            rintro e W3 (⟨rfl, hJ3, hk3⟩ | ⟨rfl, hJx3⟩)
            · have HK3 := Lib.hid hk3
              clear hk3
              gi_wp2
              go_roundw
              case rel => exact ⟨j + 1, by go_num, by omega, Lib.hid (HTj.out.on HK3.out.low (HK3.out.row Bt _ 23 HTj.out.box (.inr rfl))), Lib.hid (row_kept HRj.out HK3.out), by rw [HB1.out, ← List.append_assoc]; exact hJ3⟩
              case measure => simp [intOf]; omega
            · gi_wp2
              refine bodyPost_ret (results_none rfl _ _ _) rfl ?_
              exact ⟨⟨_, rfl⟩, .inr ⟨_, HPP.out, hJx3⟩⟩
        · have hjlI : ¬ (j : Int) < 256 := by omega
          have hj6 : j = 256 := by omega
          rw [hj6] at hJj
          have HJ6 := Lib.hid hJj
          clear hJj hj6
          gi_wp2
          go_roundw
          case rel => exact ⟨k + 1, by go_num, by omega, HTj, HRj, by rw [HNext.out]; exact HJ6.out⟩
          case measure => simp [intOf]; omega
    · have hltI : ¬ (k : Int) < KK.length := by omega
      gi_wp2
      go_end0
      refine ⟨⟨_, rfl⟩, .inl ?_⟩
      have hke : k = KK.length := by omega
      rw [hke, List.take_length] at hJr
      exact hJr

end Go.Proofs.Ytfjckdjnnbpcnaa.Tr

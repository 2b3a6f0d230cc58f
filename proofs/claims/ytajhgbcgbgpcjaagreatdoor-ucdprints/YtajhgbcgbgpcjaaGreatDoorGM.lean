import Derived.Test.YtajhgbcgbgpcjaaGreatDoorGL
import Derived.Lib.OthersKept
namespace Go.Proofs.YtajhgbcgbgpcjaaGreatDoor.Uc
open Go.RowKit Fi

def lineS (x : Rw) : List UInt8 := if x.fr = x.tt then lnE x.fr x.nm x.ct x.cl x.kd x.into else lnE x.fr (60 :: (x.nm ++ firstE)) x.ct x.cl x.kd x.into ++ lnE x.tt (60 :: (x.nm ++ lastE)) x.ct x.cl x.kd x.into
/-- The first error of rows. -/
def chks : List Rw → Int
  | [] => 0
  | x :: r => if chkE x ≠ 0 then chkE x else chks r
theorem chks_on {l : List Rw} {k : Nat} (h : k < l.length) : chks (l.drop k) = if chkE l[k] ≠ 0 then chkE l[k] else chks (l.drop (k + 1)) := by
  rw [List.drop_eq_getElem_cons h, chks]
theorem chks_all : ∀ {l : List Rw}, chks l = 0 → ∀ x ∈ l, chkE x = 0
  | [], _, x, hx => by cases hx
  | y :: l, h, x, hx => by
    rw [chks] at h
    by_cases h1 : chkE y ≠ 0
    · rw [if_pos h1] at h; exact absurd h h1
    · rw [if_neg h1] at h
      rcases List.mem_cons.1 hx with rfl | hx
      · simpa using h1
      · exact chks_all h x hx
structure ChkOk (x : Rw) : Prop where
  fr : scal x.fr = true
  tt : scal x.tt = true
  le : x.fr ≤ x.tt
  cl0 : 0 ≤ x.cl
  cl1 : x.cl ≤ 254
  len : x.into.length ≤ 18
  sc : ∀ y ∈ x.into, scal y = true
  kd : ltrs x.kd = true
  kn : x.kd ≠ [] → x.into ≠ []
  nm : plB x.nm = true
  ct : plB x.ct = true
  ne : x.fr ≠ x.tt → x.into = []
  eq : x.fr = x.tt → rgN x.nm firstE = none ∧ rgN x.nm lastE = none
theorem chk_ok {x : Rw} (h : chkE x = 0) : ChkOk x := by
  unfold chkE at h
  by_cases h1 : rngB x.fr x.tt x.cl x.into = false
  · rw [if_pos h1] at h; exact absurd h (by decide)
  · rw [if_neg h1] at h
    by_cases h2 : frmB x.fr x.tt x.nm x.ct x.kd x.into.length = false
    · rw [if_pos h2] at h; exact absurd h (by decide)
    · have e1 : rngB x.fr x.tt x.cl x.into = true := by simpa using h1
      have e2 : frmB x.fr x.tt x.nm x.ct x.kd x.into.length = true := by simpa using h2
      unfold rngB at e1
      unfold frmB at e2
      simp only [Bool.and_eq_true, decide_eq_true_eq, List.all_eq_true] at e1
      simp only [Bool.and_eq_true, Bool.not_eq_true', Bool.and_eq_false_iff, decide_eq_false_iff_not] at e2
      obtain ⟨a1, a2, a3, a4, a5, a6, a7⟩ := e1
      obtain ⟨⟨b1, b2⟩, ⟨b3, b4⟩, b5⟩ := e2
      refine ⟨a1, a2, a3, a4, a5, a6, a7, b1, fun hk hi => ?_, b3, b4, fun hn => ?_, fun he => ?_⟩
      · rcases b2 with b2 | b2
        · exact b2 hk
        · exact b2 (by rw [hi]; rfl)
      · rw [if_pos hn] at b5
        exact List.eq_nil_of_length_eq_zero (by simpa using b5)
      · rw [if_neg (by simpa using he)] at b5
        simpa using b5
theorem plB_len {l : List UInt8} (h : plB l = true) : l.length ≤ 100 := by
  unfold plB at h
  simp only [Bool.and_eq_true, decide_eq_true_eq] at h
  exact h.2.1
theorem rise_take {l : List Rw} {k : Nat} (h : k < l.length) : Rise (l.take (k + 1)) ↔ Rise (l.take k) ∧ (∀ h0 : 0 < k, (l[k - 1]'(by omega)).tt < l[k].fr) := by
  rw [List.take_succ_eq_append_getElem h, rise_snoc]
  constructor
  · rintro ⟨a, b⟩
    refine ⟨a, fun h0 => ?_⟩
    have hne : l.take k ≠ [] := by intro h9; have h8 := congrArg List.length h9; rw [List.length_take, List.length_nil] at h8; omega
    have := b hne
    obtain ⟨j, rfl⟩ : ∃ j, k = j + 1 := ⟨k - 1, by omega⟩
    rw [List.take_succ_eq_append_getElem (by omega), lastR_snoc] at this
    exact this
  · rintro ⟨a, b⟩
    refine ⟨a, fun hne => ?_⟩
    have h0 : 0 < k := by rcases Nat.eq_zero_or_pos k with h9 | h9; subst h9; simp at hne; exact h9
    have := b h0
    obtain ⟨j, rfl⟩ : ∃ j, k = j + 1 := ⟨k - 1, by omega⟩
    rw [List.take_succ_eq_append_getElem (by omega), lastR_snoc]
    exact this
theorem rise_of_take {l : List Rw} {k : Nat} (h : Rise l) : Rise (l.take k) := fun i hi => by
  rw [List.length_take] at hi
  have := h i (by omega)
  rw [List.getElem_take, List.getElem_take]
  exact this
theorem bwrite (B b : Nat) (bs : List Value) (s : ByteArray) (w : World) (h : Lib.IsBuilderF 49 5 B b bs w) (hlen : bs.length + s.size ≤ 140737488355328) (hBw : B ≤ w.heap.size) :
    Calls Tryz.prog 20 #[.pointer (some ⟨b, 0, none⟩), .string s] w fun e w' => e = .returned (.tuple #[.int .i64 s.size, .nilIface]) ∧ (Lib.BuilderAtF 49 5 B b (.pointer (some ⟨b, 0, none⟩)) (bs ++ Lib.strCells s) w' ∧ Below B w w' ∧ Lib.OthersKept 5 (some b) w w') :=
  Any.Builder_WriteString_k (ρ := Tryz.lays156_ren) { Tryz.lays156 with } Tryz.Builder_Extra_156 B b bs s w h hlen hBw
theorem bld_on {B b : Nat} {bs : List Value} {w w' : World} (h : Lib.IsBuilderF 49 5 B b bs w) (hb : Below w.heap.size w w') : Lib.IsBuilderF 49 5 B b bs w' := by
  have key : ∀ p, Lib.BuilderAtF 49 5 B b p bs w → Lib.BuilderAtF 49 5 B b p bs w' := fun p ⟨h1, v, h2, h3, h4⟩ =>
    ⟨h1, v, (hb.block b (Array.getElem?_eq_some_iff.1 h2).1).trans h2, h3.kept (row := none) ⟨hb.os, hb.tape, hb.output, hb.size, fun k hk _ => hb.block k hk⟩ (by cases h9 : v.ownBlock with | none => exact .inl rfl | some z => exact .inr (by simp)), h4⟩
  exact h.elim (fun x => .inl (key _ x)) (fun x => .inr (key _ x))
theorem bk_kept {w w' : World} {R : Nat} {cs : List Value} {T : TypeId} {b : Nat} (h : Bk w R cs T) (hk : Lib.OthersKept 5 (some b) w w') (hne : R ≠ b) (hT : T ≠ 5) : Bk w' R cs T := ⟨hk R _ h.blk (fun e => hne (by injection e)) (fun c fz e => hT (by injection e))⟩
theorem bytes_app (a : List UInt8) (s : ByteArray) : Lib.byteCells a ++ Lib.strCells s = Lib.byteCells (a ++ s.data.toList) := by rw [Lib.strCells_eq, Lib.byteCells_append]
theorem bytes_len (a : List UInt8) : (Lib.byteCells a).length = a.length := Lib.byteCells_length a
theorem lnE_len {c : Int} {n g k : List UInt8} {cl : Int} {l : List Int} (h0 : 0 ≤ cl) (h1 : cl ≤ 254) : (lnE c n g cl k l).length ≤ n.length + g.length + k.length + 9 * l.length + 30 := by
  have a1 := hx4_len c.toNat
  have a2 := itoa_small h0 h1
  have a3 := inP_len k l
  unfold lnE
  simp only [Lib.join, List.intercalate]
  simp
  omega
theorem lineS_len {x : Rw} (h : ChkOk x) (hk : x.kd.length ≤ 1000) : (lineS x).length ≤ 4000 := by
  have a1 := plB_len h.nm
  have a2 := plB_len h.ct
  have a3 := h.len
  unfold lineS
  split
  · have := lnE_len (c := x.fr) (n := x.nm) (g := x.ct) (k := x.kd) (l := x.into) h.cl0 h.cl1
    omega
  · have b1 := lnE_len (c := x.fr) (n := 60 :: (x.nm ++ firstE)) (g := x.ct) (k := x.kd) (l := x.into) h.cl0 h.cl1
    have b2 := lnE_len (c := x.tt) (n := 60 :: (x.nm ++ lastE)) (g := x.ct) (k := x.kd) (l := x.into) h.cl0 h.cl1
    have e1 : firstE.length = 8 := rfl
    have e2 : lastE.length = 7 := rfl
    simp [e1, e2] at b1 b2 ⊢
    omega
theorem flat_len : ∀ {l : List Rw}, (∀ x ∈ l, (lineS x).length ≤ 4000) → (l.flatMap lineS).length ≤ 4000 * l.length
  | [], _ => by simp
  | x :: l, h => by
    have h1 := h x (by simp)
    have h2 := flat_len (l := l) (fun y hy => h y (by simp [hy]))
    rw [List.flatMap_cons, List.length_append, List.length_cons]
    omega
def PrP (w : World) (l : List Rw) (e : Ending) (w' : World) : Prop := (chks l ≠ 0 ∧ e = .returned (.tuple #[.string ⟨#[]⟩, .int .i64 (chks l)]) ∨ chks l = 0 ∧ ¬ Rise l ∧ e = .returned (.tuple #[.string ⟨#[]⟩, .int .i64 12]) ∨ chks l = 0 ∧ Rise l ∧ e = .returned (.tuple #[.string ⟨(l.flatMap lineS).toArray⟩, .int .i64 0])) ∧ Below w.heap.size w w'
structure PrR (w wr : World) (b k : Nat) (l : List Rw) : Prop where
  bel : Below w.heap.size w wr
  bld : Lib.IsBuilderF 49 5 w.heap.size b (Lib.byteCells ((l.take k).flatMap lineS)) wr
  rise : Rise (l.take k)
set_option maxRecDepth 100000 in
set_option maxHeartbeats 16000000 in
theorem print_any (A : Option Addr) (p : Nat) (l : List Rw) (w : World) (hR : Rws w A l) (hz : l.length ≤ 100) (hB : ∀ x ∈ l, x.nm.length ≤ 9223372036854775807 ∧ x.ct.length ≤ 9223372036854775807 ∧ x.kd.length ≤ 300) (hT : Tz w) (hP : Pw w) :
    Calls Tryz.prog 9 #[.slice A l.length p] w (PrP w l) := by
  have HR := Lib.hid hR
  have HB := Lib.hid hB
  have HT := Lib.hid hT
  have HP := Lib.hid hP
  clear hR hB hT hP
  go_enter Tryz.func9, Tryz.ntmps9
  go_wp2_with fail
  go_loopw [5, 6, 12] (fun _ _ i wr => ∃ k : Nat, i = .int .i64 k ∧ k ≤ l.length ∧ Hid (Below w.heap.size w wr ∧ chks (l.drop k) = chks l)) (fun _ _ i _ => l.length - (intOf i).toNat)
  case atStart => exact ⟨0, rfl, by omega, Below.refl _ _, rfl⟩
  case round =>
    obtain ⟨k, rfl, hk, HQ⟩ := hrel
    by_cases hlt : k < l.length
    · obtain ⟨b, off, v, rfl, hb, hv, p0, p1, p2, p3, p4, p5, p6⟩ := (HR.out.below HQ.out.1) k hlt
      have hon := chks_on hlt
      have hbb := HB.out l[k] (List.getElem_mem hlt)
      generalize l[k] = y at *
      obtain ⟨f, tt, nm, ct, cl, kd, into⟩ := y
      obtain ⟨A3, c3, rfl, hi3⟩ := hv
      simp only at p0 p1 p2 p3 p4 p5 p6 hi3 hbb
      have g2 : (k : Int) < l.length := by omega
      have D1 := Lib.hid (HQ.out.1.alloc HQ.out.1.size (.cells #[.int .i32 f, .int .i32 tt, .string ⟨nm.toArray⟩, .string ⟨ct.toArray⟩, .int .i64 cl, .string ⟨kd.toArray⟩, .slice A3 into.length c3] 27))
      have hC := check_any f tt cl ⟨nm.toArray⟩ ⟨ct.toArray⟩ ⟨kd.toArray⟩ A3 c3 into (wr.alloc (.cells #[.int .i32 f, .int .i32 tt, .string ⟨nm.toArray⟩, .string ⟨ct.toArray⟩, .int .i64 cl, .string ⟨kd.toArray⟩, .slice A3 into.length c3] 27)) (hi3.below ((Below.refl _ wr).alloc (Nat.le_refl _) _)) (by rw [size_mk]; exact hbb.1) (by rw [size_mk]; exact hbb.2.1) (by rw [size_mk]; omega)
      rw [lst_mk, lst_mk, lst_mk] at hC
      generalize chkE ⟨f, tt, nm, ct, cl, kd, into⟩ = er at *
      have HC := Lib.hid hC
      clear hC hi3
      by_cases h1 : er = 0
      · subst h1
        have HQ2 := Lib.hid (show chks (l.drop (k + 1)) = chks l by rw [← HQ.out.2, hon, if_neg (by simp)])
        clear hon
        go_wp2_with (go_at_call 7; refine HC.out.mono ?_; rintro e w2 ⟨rfl, hb2⟩; have D2 := Lib.hid (D1.out.trans (hb2.mono D1.out.size)); clear hb2)
        go_roundw
        case rel => exact ⟨k + 1, by go_num, by omega, D2.out, HQ2.out⟩
        case measure => simp [intOf]; omega
      · have HQ2 := Lib.hid (show chks l = er by rw [← HQ.out.2, hon, if_pos h1])
        have e1 : (er != 0) = true := by simpa using h1
        clear hon
        go_wp2_with (go_at_call 7; refine HC.out.mono ?_; rintro e w2 ⟨rfl, hb2⟩; have D2 := Lib.hid (D1.out.trans (hb2.mono D1.out.size)); clear hb2)
        go_ret2
        exact ⟨.inl ⟨by rw [HQ2.out]; exact h1, by rw [HQ2.out]; rfl⟩, D2.out⟩
    · have g1 : ¬ (k : Int) < l.length := by omega
      have HC0 := Lib.hid (show chks l = 0 by rw [← HQ.out.2, List.drop_eq_nil_of_le (by omega)]; rfl)
      have D0 := Lib.hid HQ.out.1
      clear HQ
      obtain ⟨w1, hw1⟩ : ∃ x, x = wr := ⟨_, rfl⟩
      subst hw1
      have HOK := Lib.hid (fun x hx => chk_ok (chks_all HC0.out x hx))
      have HLN := Lib.hid (fun (x : Rw) (hx : x ∈ l) => lineS_len (HOK.out x hx) (by have := (HB.out x hx).2.2; omega))
      go_wp2_with fail
      go_loopw [8, 9, 24] (fun _ _ i wx => ∃ k : Nat, i = .int .i64 k ∧ k ≤ l.length ∧ Hid (PrR w wx w1.heap.size k l)) (fun _ _ i _ => l.length - (intOf i).toNat)
      case atStart =>
        refine ⟨0, rfl, by omega, D0.out.alloc D0.out.size _, .inl ⟨D0.out.size, .slice none 0 0, heap_alloc_new w1 _, ?_, by intro h; cases h⟩, rise_nil⟩
        simpa [Lib.byteCells] using World.ownsRowF_nil _ _ _ _
      case round =>
        obtain ⟨k, rfl, hk, HQ⟩ := hrel
        have HQb := Lib.hid HQ.out.bel
        by_cases hlt : k < l.length
        · obtain ⟨b, off, v, rfl, hb, hv, p0, p1, p2, p3, p4, p5, p6⟩ := HR.out k hlt
          have x0 := (HQb.out.cell (p := ⟨b, off + k * 7, none⟩) hb).trans p0
          have x1 := (HQb.out.cell (p := ⟨b, off + k * 7 + 1, none⟩) hb).trans p1
          have x2 := (HQb.out.cell (p := ⟨b, off + k * 7 + 2, none⟩) hb).trans p2
          have x3 := (HQb.out.cell (p := ⟨b, off + k * 7 + 3, none⟩) hb).trans p3
          have x4 := (HQb.out.cell (p := ⟨b, off + k * 7 + 4, none⟩) hb).trans p4
          have x5 := (HQb.out.cell (p := ⟨b, off + k * 7 + 5, none⟩) hb).trans p5
          have x6 := (HQb.out.cell (p := ⟨b, off + k * 7 + 6, none⟩) hb).trans p6
          have hbb := (HB.out l[k] (List.getElem_mem hlt)).2.2
          have hok := HOK.out l[k] (List.getElem_mem hlt)
          have hrt := rise_take hlt
          have htk : (l.take (k + 1)).flatMap lineS = (l.take k).flatMap lineS ++ lineS l[k] := by rw [List.take_succ_eq_append_getElem hlt, List.flatMap_append]; simp
          have hfl := flat_len (l := l.take k) (fun x hx => HLN.out x (List.mem_of_mem_take hx))
          have hft := List.length_take_le k l
          have hpv : ∀ h0 : 0 < k, ∃ pt, (l[k - 1]'(by omega)).tt = pt ∧ wr.cell? ⟨b, off + (k - 1) * 7 + 1, none⟩ = some (.int .i32 pt) := fun h0 => by
            obtain ⟨b', off', v', e', hb', _, _, q1, _⟩ := HR.out (k - 1) (by omega)
            simp only [Option.some.injEq, Addr.mk.injEq] at e'
            obtain ⟨rfl, rfl, _⟩ := e'
            exact ⟨_, rfl, (HQb.out.cell (p := ⟨b, off + (k - 1) * 7 + 1, none⟩) hb').trans q1⟩
          have HPV := Lib.hid hpv
          have HRT := Lib.hid hrt
          have HTK := Lib.hid htk
          clear p0 p1 p2 p3 p4 p5 p6 hpv hrt htk
          generalize l[k] = y at *
          obtain ⟨f, tt, nm, ct, cl, kd, into⟩ := y
          obtain ⟨A3, c3, rfl, hi3⟩ := hv
          simp only at x0 x1 x2 x3 x4 x5 x6 hi3 hbb
          have hnl := plB_len hok.nm
          have hcl := plB_len hok.ct
          simp only at hnl hcl
          obtain ⟨nb, hnb⟩ : ∃ nb : ByteArray, nb = ⟨nm.toArray⟩ := ⟨_, rfl⟩
          obtain ⟨cb, hcb⟩ : ∃ cb : ByteArray, cb = ⟨ct.toArray⟩ := ⟨_, rfl⟩
          obtain ⟨kb, hkb⟩ : ∃ kb : ByteArray, kb = ⟨kd.toArray⟩ := ⟨_, rfl⟩
          have nz : nb.size ≤ 100 := by rw [hnb, size_mk]; exact hnl
          have cz : cb.size ≤ 100 := by rw [hcb, size_mk]; exact hcl
          have kz : kb.size ≤ 300 := by rw [hkb, size_mk]; exact hbb
          have hLo := fun W (h9 : Below w.heap.size w W) c (hc9 : scal c = true) (q : ByteArray) (hq : q.size ≤ 1000) => lineOf_any c f tt cl q nb cb kb A3 c3 into W (hi3.below h9) hc9 hok.sc hok.len hok.cl0 hok.cl1 hq (by omega) (by omega) (tz_on HT.out h9) (pw_on HP.out h9)
          rw [show cb.data.toList = ct by rw [hcb], show kb.data.toList = kd by rw [hkb]] at hLo
          rw [← hnb] at x2
          rw [← hcb] at x3
          rw [← hkb] at x5
          have HLo := Lib.hid hLo
          have HNB := Lib.hid (show nb.data.toList = nm by rw [hnb])
          have HOk := Lib.hid hok
          have zw : w.heap.size ≤ wr.heap.size := HQb.out.size
          have zb : w1.heap.size < wr.heap.size := by
            rcases HQ.out.bld with h9 | h9
            · exact h9.lt
            · exact h9.lt
          clear hLo hi3 hnb hcb hkb hok
          have g2 : (k : Int) < l.length := by omega
          have DA := Lib.hid ((Below.refl wr.heap.size wr).alloc (Nat.le_refl _) (.cells #[.int .i32 f, .int .i32 tt, .string nb, .string cb, .int .i64 cl, .string kb, .slice A3 into.length c3] 27))
          have RK0 := Lib.hid (show Bk (wr.alloc (.cells #[.int .i32 f, .int .i32 tt, .string nb, .string cb, .int .i64 cl, .string kb, .slice A3 into.length c3] 27)) wr.heap.size [.int .i32 f, .int .i32 tt, .string nb, .string cb, .int .i64 cl, .string kb, .slice A3 into.length c3] 27 from ⟨heap_alloc_new wr _⟩)
          rcases Nat.eq_zero_or_pos k with hk0 | hkp
          · subst hk0
            simp only [Nat.zero_mul, Nat.add_zero] at x0 x1 x2 x3 x4 x5 x6
            have HRS := Lib.hid (show Rise (l.take (0 + 1)) from HRT.out.2 ⟨HQ.out.rise, fun h0 => absurd h0 (by omega)⟩)
            go_upto_region 12 with fail
            go_quiet (fail)
            go_upto_region 14 with fail
            have B3 := Lib.hid (show Below wr.heap.size wr ((wr.alloc (.cells #[.int .i32 f, .int .i32 tt, .string nb, .string cb, .int .i64 cl, .string kb, .slice A3 into.length c3] 27)).drewN nq) from bel_drewN DA.out _)
            have RK3 := Lib.hid (show Bk ((wr.alloc (.cells #[.int .i32 f, .int .i32 tt, .string nb, .string cb, .int .i64 cl, .string kb, .slice A3 into.length c3] 27)).drewN nq) wr.heap.size [.int .i32 f, .int .i32 tt, .string nb, .string cb, .int .i64 cl, .string kb, .slice A3 into.length c3] 27 from RK0.out.drew nq)
            have DW3 := Lib.hid (HQb.out.trans (B3.out.mono HQb.out.size))
            have BL3 := Lib.hid (bld_on HQ.out.bld B3.out)
            generalize (wr.alloc (.cells #[.int .i32 f, .int .i32 tt, .string nb, .string cb, .int .i64 cl, .string kb, .slice A3 into.length c3] 27)).drewN nq = w3 at *
            clear x0 x1 x2 x3 x4 x5 x6 DA RK0
            have a0 := RK3.out.c (i := 0) rfl
            have a1 := RK3.out.c (i := 1) rfl
            have a2 := RK3.out.c (i := 2) rfl
            have a3 := RK3.out.c (i := 3) rfl
            have a4 := RK3.out.c (i := 4) rfl
            have a5 := RK3.out.c (i := 5) rfl
            have a6 := RK3.out.c (i := 6) rfl
            by_cases hft : f = tt
            · subst hft
              have hLn := HLo.out w3 DW3.out f HOk.out.fr nb (by omega)
              rw [HNB.out] at hLn
              have HLn := Lib.hid hLn
              have HLS := Lib.hid (show lineS ⟨f, f, nm, ct, cl, kd, into⟩ = lnE f nm ct cl kd into by unfold lineS; simp)
              have hll := lnE_len (c := f) (n := nm) (g := ct) (k := kd) (l := into) HOk.out.cl0 HOk.out.cl1
              have hil := HOk.out.len
              simp only at hil
              clear hLn
              go_wp2_with (first
                | (go_at_call 21; refine HLn.out.mono ?_; rintro e w4 ⟨rfl, hb4⟩; have D4 := Lib.hid (DW3.out.trans (hb4.mono DW3.out.size)); have BL4 := Lib.hid (bld_on BL3.out hb4); clear hb4)
                | (go_at_call 20; refine (bwrite _ _ _ _ _ BL4.out (by rw [bytes_len, size_mk]; omega) D4.out.size).mono ?_; rintro e w5 ⟨rfl, h5, hb5, _⟩; have D5 := Lib.hid (D4.out.trans hb5); have BL5 := Lib.hid h5; clear h5 hb5))
              go_roundw
              case rel =>
                refine ⟨0 + 1, by go_num, by omega, D5.out, .inr ?_, HRS.out⟩
                have h9 := BL5.out
                rw [bytes_app] at h9
                rw [HTK.out, HLS.out]
                exact h9
              case measure => simp [intOf]; omega
            · have ef : (f == tt) = false := by simpa using hft
              obtain ⟨q1, hq1⟩ : ∃ q1 : ByteArray, q1 = ⟨#[60]⟩ ++ nb ++ ⟨#[44, 32, 70, 105, 114, 115, 116, 62]⟩ := ⟨_, rfl⟩
              obtain ⟨q2, hq2⟩ : ∃ q2 : ByteArray, q2 = ⟨#[60]⟩ ++ nb ++ ⟨#[44, 32, 76, 97, 115, 116, 62]⟩ := ⟨_, rfl⟩
              have hl1 : q1.data.toList = 60 :: (nm ++ firstE) := by rw [hq1]; simp [HNB.out, firstE]
              have hl2 : q2.data.toList = 60 :: (nm ++ lastE) := by rw [hq2]; simp [HNB.out, lastE]
              have z1 : q1.size ≤ 200 := by rw [← lst_len, hl1, List.length_cons, List.length_append, show firstE.length = 8 from rfl]; omega
              have z2 : q2.size ≤ 200 := by rw [← lst_len, hl2, List.length_cons, List.length_append, show lastE.length = 7 from rfl]; omega
              have hL1 := HLo.out w3 DW3.out f HOk.out.fr q1 (by omega)
              have hL2 := fun W h9 => HLo.out W h9 tt HOk.out.tt q2 (by omega)
              rw [hl1, hq1] at hL1
              rw [hl2, hq2] at hL2
              have HL1 := Lib.hid hL1
              have HL2 := Lib.hid hL2
              have HLS := Lib.hid (show lineS ⟨f, tt, nm, ct, cl, kd, into⟩ = lnE f (60 :: (nm ++ firstE)) ct cl kd into ++ lnE tt (60 :: (nm ++ lastE)) ct cl kd into by unfold lineS; rw [if_neg hft])
              have hll := lnE_len (c := f) (n := 60 :: (nm ++ firstE)) (g := ct) (k := kd) (l := into) HOk.out.cl0 HOk.out.cl1
              have hlm := lnE_len (c := tt) (n := 60 :: (nm ++ lastE)) (g := ct) (k := kd) (l := into) HOk.out.cl0 HOk.out.cl1
              rw [List.length_cons, List.length_append, show firstE.length = 8 from rfl] at hll
              rw [List.length_cons, List.length_append, show lastE.length = 7 from rfl] at hlm
              have hil := HOk.out.len
              simp only at hil
              clear hL1 hL2 hl1 hl2 hq1 hq2 z1 z2 hft
              have d1 : ¬ 9223372036854775806 < nb.size := by omega
              have d2 : ¬ 9223372036854775807 < 1 + nb.size := by omega
              have d3 : ¬ 9223372036854775799 < 1 + nb.size := by omega
              have d4 : ¬ 9223372036854775800 < 1 + nb.size := by omega
              have d5 : ¬ 9223372036854775807 < 1 + nb.size + 8 := by omega
              have d6 : ¬ 9223372036854775807 < 1 + nb.size + 7 := by omega
              have M0 : Hid True := trivial
              go_wp2_with (first
                | (go_at_call 21; clear M0; refine HL1.out.mono ?_; rintro e w4 ⟨rfl, hb4⟩; have D4 := Lib.hid (DW3.out.trans (hb4.mono DW3.out.size)); have BL4 := Lib.hid (bld_on BL3.out hb4); have RK4 := Lib.hid (RK3.out.below hb4); have N0 : Hid True := trivial; clear hb4)
                | (go_at_call 20; clear N0; refine (bwrite _ _ _ _ _ BL4.out (by rw [bytes_len, size_mk]; omega) D4.out.size).mono ?_; rintro e w5 ⟨rfl, h5, hb5, hk5⟩; have D5 := Lib.hid (D4.out.trans hb5); have BL5 := Lib.hid (show Lib.IsBuilderF 49 5 w.heap.size w1.heap.size _ w5 from .inr (by rw [bytes_app] at h5; exact h5)); have RK5 := bk_kept RK4.out hk5 (by omega) (by decide); have y0 := RK5.c (i := 0) rfl; have y1 := RK5.c (i := 1) rfl; have y2 := RK5.c (i := 2) rfl; have y3 := RK5.c (i := 3) rfl; have y4 := RK5.c (i := 4) rfl; have y5 := RK5.c (i := 5) rfl; have y6 := RK5.c (i := 6) rfl; clear h5 hb5 hk5 RK5)
                | (go_at_call 21; refine (HL2.out _ D5.out).mono ?_; rintro e w6 ⟨rfl, hb6⟩; have D6 := Lib.hid (D5.out.trans (hb6.mono D5.out.size)); have BL6 := Lib.hid (bld_on BL5.out hb6); clear hb6)
                | (go_at_call 20; refine (bwrite _ _ _ _ _ BL6.out (by rw [bytes_len, List.length_append, size_mk]; omega) D6.out.size).mono ?_; rintro e w7 ⟨rfl, h7, hb7, _⟩; have D7 := Lib.hid (D6.out.trans hb7); have BL7 := Lib.hid h7; clear h7 hb7))
              go_roundw
              case rel =>
                refine ⟨0 + 1, by go_num, by omega, D7.out, .inr ?_, HRS.out⟩
                have h9 := BL7.out
                rw [bytes_app] at h9
                rw [HTK.out, HLS.out, ← List.append_assoc]
                exact h9
              case measure => simp [intOf]; omega
          · obtain ⟨pt, hpt, cp⟩ := HPV.out hkp
            have i0 : (0 : Int) < k := by omega
            have cp := Lib.cell?_alloc_some (.cells #[.int .i32 f, .int .i32 tt, .string nb, .string cb, .int .i64 cl, .string kb, .slice A3 into.length c3] 27) cp
            have j1 : ((k : Int) - 1).toNat = k - 1 := by omega
            have j2 : IntKind.i64.wrap ((k : Int) - 1) = ((k - 1 : Nat) : Int) := by rw [IntKind.wrap_i64]; omega
            have j3 : ((k - 1 : Nat) : Int) < l.length := by omega
            have j4 : (0 : Int) ≤ ((k - 1 : Nat) : Int) := by omega
            have j5 : (k : Int) - 1 < l.length := by omega
            have j6 : (0 : Int) ≤ (k : Int) - 1 := by omega
            by_cases hth : f ≤ pt
            · have HNR := Lib.hid (show ¬ Rise l from fun h9 => by
                have h8 := (HRT.out.1 (rise_of_take h9)).2 hkp
                rw [hpt] at h8
                simp only at h8
                omega)
              clear hpt
              go_upto_region 12 with fail
              go_quiet (fail)
              go_wp2_with fail
              go_ret2
              exact ⟨.inr (.inl ⟨HC0.out, HNR.out, rfl⟩), bel_drewN (HQb.out.alloc HQb.out.size _) _⟩
            · have HRS := Lib.hid (show Rise (l.take (k + 1)) from HRT.out.2 ⟨HQ.out.rise, fun _ => by rw [hpt]; show pt < f; omega⟩)
              clear hpt
              go_upto_region 12 with fail
              go_quiet (fail)
              go_upto_region 14 with fail
              have B3 := Lib.hid (show Below wr.heap.size wr ((wr.alloc (.cells #[.int .i32 f, .int .i32 tt, .string nb, .string cb, .int .i64 cl, .string kb, .slice A3 into.length c3] 27)).drewN nq) from bel_drewN DA.out _)
              have RK3 := Lib.hid (show Bk ((wr.alloc (.cells #[.int .i32 f, .int .i32 tt, .string nb, .string cb, .int .i64 cl, .string kb, .slice A3 into.length c3] 27)).drewN nq) wr.heap.size [.int .i32 f, .int .i32 tt, .string nb, .string cb, .int .i64 cl, .string kb, .slice A3 into.length c3] 27 from RK0.out.drew nq)
              have DW3 := Lib.hid (HQb.out.trans (B3.out.mono HQb.out.size))
              have BL3 := Lib.hid (bld_on HQ.out.bld B3.out)
              generalize (wr.alloc (.cells #[.int .i32 f, .int .i32 tt, .string nb, .string cb, .int .i64 cl, .string kb, .slice A3 into.length c3] 27)).drewN nq = w3 at *
              clear x0 x1 x2 x3 x4 x5 x6 DA RK0 cp i0 j1 j2 j3 j4 j5 j6
              have a0 := RK3.out.c (i := 0) rfl
              have a1 := RK3.out.c (i := 1) rfl
              have a2 := RK3.out.c (i := 2) rfl
              have a3 := RK3.out.c (i := 3) rfl
              have a4 := RK3.out.c (i := 4) rfl
              have a5 := RK3.out.c (i := 5) rfl
              have a6 := RK3.out.c (i := 6) rfl
              by_cases hft : f = tt
              · subst hft
                have hLn := HLo.out w3 DW3.out f HOk.out.fr nb (by omega)
                rw [HNB.out] at hLn
                have HLn := Lib.hid hLn
                have HLS := Lib.hid (show lineS ⟨f, f, nm, ct, cl, kd, into⟩ = lnE f nm ct cl kd into by unfold lineS; simp)
                have hll := lnE_len (c := f) (n := nm) (g := ct) (k := kd) (l := into) HOk.out.cl0 HOk.out.cl1
                have hil := HOk.out.len
                simp only at hil
                clear hLn
                go_wp2_with (first
                  | (go_at_call 21; refine HLn.out.mono ?_; rintro e w4 ⟨rfl, hb4⟩; have D4 := Lib.hid (DW3.out.trans (hb4.mono DW3.out.size)); have BL4 := Lib.hid (bld_on BL3.out hb4); clear hb4)
                  | (go_at_call 20; refine (bwrite _ _ _ _ _ BL4.out (by rw [bytes_len, size_mk]; omega) D4.out.size).mono ?_; rintro e w5 ⟨rfl, h5, hb5, _⟩; have D5 := Lib.hid (D4.out.trans hb5); have BL5 := Lib.hid h5; clear h5 hb5))
                go_roundw
                case rel =>
                  refine ⟨k + 1, by go_num, by omega, D5.out, .inr ?_, HRS.out⟩
                  have h9 := BL5.out
                  rw [bytes_app] at h9
                  rw [HTK.out, HLS.out]
                  exact h9
                case measure => simp [intOf]; omega
              · have ef : (f == tt) = false := by simpa using hft
                obtain ⟨q1, hq1⟩ : ∃ q1 : ByteArray, q1 = ⟨#[60]⟩ ++ nb ++ ⟨#[44, 32, 70, 105, 114, 115, 116, 62]⟩ := ⟨_, rfl⟩
                obtain ⟨q2, hq2⟩ : ∃ q2 : ByteArray, q2 = ⟨#[60]⟩ ++ nb ++ ⟨#[44, 32, 76, 97, 115, 116, 62]⟩ := ⟨_, rfl⟩
                have hl1 : q1.data.toList = 60 :: (nm ++ firstE) := by rw [hq1]; simp [HNB.out, firstE]
                have hl2 : q2.data.toList = 60 :: (nm ++ lastE) := by rw [hq2]; simp [HNB.out, lastE]
                have z1 : q1.size ≤ 200 := by rw [← lst_len, hl1, List.length_cons, List.length_append, show firstE.length = 8 from rfl]; omega
                have z2 : q2.size ≤ 200 := by rw [← lst_len, hl2, List.length_cons, List.length_append, show lastE.length = 7 from rfl]; omega
                have hL1 := HLo.out w3 DW3.out f HOk.out.fr q1 (by omega)
                have hL2 := fun W h9 => HLo.out W h9 tt HOk.out.tt q2 (by omega)
                rw [hl1, hq1] at hL1
                rw [hl2, hq2] at hL2
                have HL1 := Lib.hid hL1
                have HL2 := Lib.hid hL2
                have HLS := Lib.hid (show lineS ⟨f, tt, nm, ct, cl, kd, into⟩ = lnE f (60 :: (nm ++ firstE)) ct cl kd into ++ lnE tt (60 :: (nm ++ lastE)) ct cl kd into by unfold lineS; rw [if_neg hft])
                have hll := lnE_len (c := f) (n := 60 :: (nm ++ firstE)) (g := ct) (k := kd) (l := into) HOk.out.cl0 HOk.out.cl1
                have hlm := lnE_len (c := tt) (n := 60 :: (nm ++ lastE)) (g := ct) (k := kd) (l := into) HOk.out.cl0 HOk.out.cl1
                rw [List.length_cons, List.length_append, show firstE.length = 8 from rfl] at hll
                rw [List.length_cons, List.length_append, show lastE.length = 7 from rfl] at hlm
                have hil := HOk.out.len
                simp only at hil
                clear hL1 hL2 hl1 hl2 hq1 hq2 z1 z2 hft
                have d1 : ¬ 9223372036854775806 < nb.size := by omega
                have d2 : ¬ 9223372036854775807 < 1 + nb.size := by omega
                have d3 : ¬ 9223372036854775799 < 1 + nb.size := by omega
                have d4 : ¬ 9223372036854775800 < 1 + nb.size := by omega
                have d5 : ¬ 9223372036854775807 < 1 + nb.size + 8 := by omega
                have d6 : ¬ 9223372036854775807 < 1 + nb.size + 7 := by omega
                have M0 : Hid True := trivial
                go_wp2_with (first
                  | (go_at_call 21; clear M0; refine HL1.out.mono ?_; rintro e w4 ⟨rfl, hb4⟩; have D4 := Lib.hid (DW3.out.trans (hb4.mono DW3.out.size)); have BL4 := Lib.hid (bld_on BL3.out hb4); have RK4 := Lib.hid (RK3.out.below hb4); have N0 : Hid True := trivial; clear hb4)
                  | (go_at_call 20; clear N0; refine (bwrite _ _ _ _ _ BL4.out (by rw [bytes_len, size_mk]; omega) D4.out.size).mono ?_; rintro e w5 ⟨rfl, h5, hb5, hk5⟩; have D5 := Lib.hid (D4.out.trans hb5); have BL5 := Lib.hid (show Lib.IsBuilderF 49 5 w.heap.size w1.heap.size _ w5 from .inr (by rw [bytes_app] at h5; exact h5)); have RK5 := bk_kept RK4.out hk5 (by omega) (by decide); have y0 := RK5.c (i := 0) rfl; have y1 := RK5.c (i := 1) rfl; have y2 := RK5.c (i := 2) rfl; have y3 := RK5.c (i := 3) rfl; have y4 := RK5.c (i := 4) rfl; have y5 := RK5.c (i := 5) rfl; have y6 := RK5.c (i := 6) rfl; clear h5 hb5 hk5 RK5)
                  | (go_at_call 21; refine (HL2.out _ D5.out).mono ?_; rintro e w6 ⟨rfl, hb6⟩; have D6 := Lib.hid (D5.out.trans (hb6.mono D5.out.size)); have BL6 := Lib.hid (bld_on BL5.out hb6); clear hb6)
                  | (go_at_call 20; refine (bwrite _ _ _ _ _ BL6.out (by rw [bytes_len, List.length_append, size_mk]; omega) D6.out.size).mono ?_; rintro e w7 ⟨rfl, h7, hb7, _⟩; have D7 := Lib.hid (D6.out.trans hb7); have BL7 := Lib.hid h7; clear h7 hb7))
                go_roundw
                case rel =>
                  refine ⟨k + 1, by go_num, by omega, D7.out, .inr ?_, HRS.out⟩
                  have h9 := BL7.out
                  rw [bytes_app] at h9
                  rw [HTK.out, HLS.out, ← List.append_assoc]
                  exact h9
                case measure => simp [intOf]; omega
        · have g2 : ¬ (k : Int) < l.length := by omega
          obtain rfl : k = l.length := by omega
          have HRl := Lib.hid HQ.out.rise
          have hbl := HQ.out.bld
          rw [List.take_length] at HRl hbl
          have hS := Tryz.Builder_String_any_k w.heap.size w1.heap.size (l.flatMap lineS) wr hbl HQb.out.size
          have HS := Lib.hid hS
          clear hS hbl
          go_wp2_with (go_at_call 22; refine HS.out.mono ?_; rintro e w2 ⟨rfl, _, hb2, _⟩; have D2 := Lib.hid (HQb.out.trans hb2); clear hb2)
          go_ret2
          exact ⟨.inr (.inr ⟨HC0.out, HRl.out, rfl⟩), D2.out⟩

end Go.Proofs.YtajhgbcgbgpcjaaGreatDoor.Uc

import Derived.Test.YtajhgbcgbgpcjaaDoorFDa
import Derived.Laws.Runes
import Derived.WalkMore
namespace Go.Proofs.YtajhgbcgbgpcjaaDoor.Fi
open Go.RowKit

set_option maxRecDepth 100000 in
set_option maxHeartbeats 2000000 in
theorem idx_err (w : World) : Calls Tryd.prog 108 #[.string ⟨#[9, 13, 32]⟩, .int .i32 65533] w fun e w' => e = .returned (.int .i64 (-1)) ∧ Below w.heap.size w w' := by
  go_enter Tryd.func108, Tryd.ntmps108
  go_wp2_with fail
  go_loopg [4] 3 (fun gf s4 wx => s4 = .int .i64 0 ∧ ∃ pos : Nat, pos + gf = 3 ∧ wx.heap[w.heap.size]? = some (.stringIter ⟨#[9, 13, 32]⟩ pos) ∧ Below w.heap.size w wx)
  case atStart => exact ⟨rfl, 0, rfl, World.iter_heap w _ 0, (Below.refl _ w).alloc (Nat.le_refl _) _⟩
  case round =>
    obtain ⟨rfl, pos, hg, hit, hbw⟩ := hrel
    by_cases hlt : pos < 3
    · obtain ⟨g', rfl⟩ : ∃ g', gk = g' + 1 := ⟨gk - 1, by omega⟩
      have ha : ((⟨#[9, 13, 32]⟩ : ByteArray)[pos]'hlt).toNat < 128 := by
        have : pos = 0 ∨ pos = 1 ∨ pos = 2 := by omega
        rcases this with rfl | rfl | rfl
        · show (9 : UInt8).toNat < 128; decide
        · show (13 : UInt8).toNat < 128; decide
        · show (32 : UInt8).toNat < 128; decide
      have hnx : ∀ ty, (Instr.next (.pointer (some ⟨w.heap.size, 0, none⟩)) true ty).run Tryd.prog wr = _ := fun ty => Lib.run_next_ascii_at wr w.heap.size _ pos ty hit hlt ha
      have hit2 := Lib.hid (Lib.iterAt_heap wr w.heap.size _ pos (pos + 1) hit)
      have hbw2 := Lib.hid (Lib.below_iterAt hbw (k := w.heap.size) (Nat.le_refl _) ⟨#[9, 13, 32]⟩ (pos + 1))
      obtain ⟨c, hc⟩ : ∃ c, c = ((⟨#[9, 13, 32]⟩ : ByteArray)[pos]'hlt).toNat := ⟨_, rfl⟩
      obtain ⟨W, hW⟩ : ∃ W, W = wr.iterAt w.heap.size ⟨#[9, 13, 32]⟩ (pos + 1) := ⟨_, rfl⟩
      rw [← hc, ← hW] at hnx
      rw [← hc] at ha
      have HW := Lib.hid hW
      have hne : ((c : Int) == 65533) = false := beq_eq_false_iff_ne.2 (by omega)
      clear hit hbw hc hW
      go_wp2_with fail
      go_roundg g'
      case measure => omega
      case rel => exact ⟨rfl, pos + 1, by omega, by rw [HW.out]; exact hit2.out, by rw [HW.out]; exact hbw2.out⟩
    · have hnx : ∀ ty, (Instr.next (.pointer (some ⟨w.heap.size, 0, none⟩)) true ty).run Tryd.prog wr = _ := fun ty => Lib.run_next_end_at wr w.heap.size _ pos ty hit hlt
      have HB := Lib.hid hbw
      clear hit hbw
      go_wp2_with fail
      go_ret
      exact ⟨rfl, HB.out⟩

set_option maxRecDepth 100000 in
set_option maxHeartbeats 2000000 in
theorem idx_bad (x : Nat) (w : World) (h0 : 55296 ≤ x) (h1 : x ≤ 57343) : Calls Tryd.prog 108 #[.string ⟨#[9, 13, 32]⟩, .int .i32 x] w fun e w' => e = .returned (.int .i64 (-1)) ∧ Below w.heap.size w w' := by
  have hne : ((x : Int) == 65533) = false := beq_eq_false_iff_ne.2 (by omega)
  have g1 : ¬ (x : Int) < 128 := by omega
  have g2 : ¬ (x : Int) < 55296 := by omega
  have g3 : ¬ (57343 : Int) < x := by omega
  go_enter Tryd.func108, Tryd.ntmps108
  go_wp2_with go_in
  go_ret
  exact ⟨rfl, Below.refl _ _⟩

theorem iB_none (l : List UInt8) (c : UInt8) (h : ∀ b ∈ l, b ≠ c) : Lib.indexByte l c = -1 := by
  have := Lib.contains_iff_indexByte l c
  have hc : l.contains c = false := by
    rw [Bool.eq_false_iff]
    intro hh
    rw [List.contains_iff_mem] at hh
    exact h c hh rfl
  rw [hc] at this
  have := Lib.indexByte_ge l c
  simp at *
  omega

theorem quiet_add_same {P : Program} {f : FuncId} {args : Array Value} {w : World} {a n : Nat} {v : Value}
    (h : Calls P f args (w.drewN (a + n)) fun e w' => e = .returned v ∧ w' = w.drewN (a + n)) :
    Calls P f args (w.drewN (a + n)) fun e w'' => e = .returned v ∧ ∃ m, w'' = w.drewN (a + m) :=
  h.mono fun _ _ ⟨he, hm⟩ => ⟨he, n, hm⟩

set_option maxRecDepth 100000 in
set_option maxHeartbeats 2000000 in
theorem idx_ok (x : Nat) (w : World) (h0 : 128 ≤ x) (h1 : x < 55296 ∨ 57343 < x) (h2 : x ≤ 1114111) (h3 : x ≠ 65533) : Calls Tryd.prog 108 #[.string ⟨#[9, 13, 32]⟩, .int .i32 x] w fun e w' => e = .returned (.int .i64 (-1)) ∧ Below w.heap.size w w' := by
  have hv : Utf8.valid (x : Int) = true := by simp [Utf8.valid]; omega
  obtain ⟨f1, f2, f3⟩ := encode_facts (x : Int) hv (by omega)
  obtain ⟨rs, hrs⟩ : ∃ rs, rs = Utf8.encode (x : Int) := ⟨_, rfl⟩
  have hcv : ∀ W : World, (convert 21 9 (.int .i32 (x : Int))).run Tryd.prog W = .ok (.string rs) W := fun W => by rw [hrs]; exact run_convert_int_string W 21 9 .i32 x (by rw [Tryd.underlying21]; rfl) Tryd.underlying9
  rw [← hrs] at f1 f2
  have hV : Calls Tryd.prog 114 #[.int .i32 x] w fun e w' => e = .returned (.bool true) ∧ w = w' := by
    clear f1 f2 f3 hcv hv hrs
    rcases h1 with h1 | h1
    · have g2 : (x : Int) < 55296 := by omega
      go_enter Tryd.func114, Tryd.ntmps114
      go_wp2
      go_ret
      exact ⟨rfl, rfl⟩
    · have g2 : ¬ (x : Int) < 55296 := by omega
      have g3 : (57343 : Int) < x := by omega
      have g4 : (x : Int) ≤ 1114111 := by omega
      go_enter Tryd.func114, Tryd.ntmps114
      go_wp2
      go_ret
      exact ⟨rfl, rfl⟩
  have hne : ((x : Int) == 65533) = false := beq_eq_false_iff_ne.2 (by omega)
  have g1 : ¬ (x : Int) < 128 := by omega
  have hz : rs.size = 2 ∨ rs.size = 3 ∨ rs.size = 4 := by omega
  have HV := Lib.hid hV
  have hl : ∀ u : UInt8, rs.data.toList.getLast? = some u → 128 ≤ u.toNat := by
    intro u hu
    have hh : rs.size - 1 < rs.size := by omega
    have h5 := f3 (by rw [← hrs]; exact hh)
    have h6 : rs.data.toList[rs.size - 1]? = some (rs[rs.size - 1]'hh) := by
      rw [List.getElem?_eq_getElem (by simpa using hh)]; rfl
    rw [List.getLast?_eq_getElem?, lst_len, h6] at hu
    have h7 := Option.some.inj hu
    rw [← h7]
    simp only [hrs]
    exact h5
  clear hV f3 hrs hv h1 f1 f2
  rcases hz with hz | hz | hz
  · obtain ⟨⟨l⟩⟩ := rs
    have hln : l.length = 2 := by simpa [ByteArray.size] using hz
    match l, hln with
    | [a, b], _ =>
      have hb := hl b rfl
      have hb1 := UInt8.toNat_lt b
      have n1 : ((13 : Int) == (b.toNat : Int)) = false := beq_eq_false_iff_ne.2 (by omega)
      have n2 : ((13 : Int) != (b.toNat : Int)) = true := by simp; omega
      have HI := Lib.hid (fun W => show Calls Tryd.prog 113 #[.string ⟨#[32]⟩, .int .u8 b.toNat] W fun e w' => e = .returned (.int .i64 (-1)) ∧ w' = W from by
        have := Tryd.strings_IndexByte ⟨#[32]⟩ b.toNat W
        rw [iB_none _ _ (by intro q hq; simp at hq ; subst hq; intro hh; have := congrArg UInt8.toNat hh; simp at this; omega)] at this
        exact this)
      clear hz hl
      have q1 : ∀ h, ((⟨#[9, 13, 32]⟩ : ByteArray)[1]'h).toNat = 13 := fun _ => rfl
      have q2 : ∀ h, ((⟨⟨[a, b]⟩⟩ : ByteArray)[1]'h).toNat = b.toNat := fun _ => rfl
      go_enter Tryd.func108, Tryd.ntmps108
      go_wp2_with (go_at_call 114; refine HV.out.mono ?_; rintro e w' ⟨rfl, rfl⟩)
      go_step3
      go_wp2_with fail
      go_loop [9] (fun i => i = .int .i64 1) (fun _ => 1)
      case atStart => rfl
      case round =>
        subst hrel
        go_wp2_with fail
        go_step3
        go_wp2_with fail
        go_quiet (fail)
        go_wp2_with fail
        go_quiet ((go_at_call 113; exact quiet_add_same (HI.out _)))
        go_wp2_with fail
        rw [Exit.noGoto_ret]
        go_wp2_with fail
        repeat rw [Exit.noGoto_ret]
        go_ret
        exact ⟨rfl, bel_drewN (Below.refl _ _) _⟩
  · obtain ⟨⟨l⟩⟩ := rs
    have hln : l.length = 3 := by simpa [ByteArray.size] using hz
    match l, hln with
    | [a, a', b], _ =>
      have hb := hl b rfl
      have hb1 := UInt8.toNat_lt b
      have n1 : ((32 : Int) == (b.toNat : Int)) = false := beq_eq_false_iff_ne.2 (by omega)
      have n2 : ((32 : Int) != (b.toNat : Int)) = true := by simp; omega
      have HI := Lib.hid (fun W => show Calls Tryd.prog 113 #[.string ⟨#[]⟩, .int .u8 b.toNat] W fun e w' => e = .returned (.int .i64 (-1)) ∧ w' = W from by
        have := Tryd.strings_IndexByte ⟨#[]⟩ b.toNat W
        rw [iB_none _ _ (by intro q hq; simp at hq )] at this
        exact this)
      clear hz hl
      have q1 : ∀ h, ((⟨#[9, 13, 32]⟩ : ByteArray)[2]'h).toNat = 32 := fun _ => rfl
      have q2 : ∀ h, ((⟨⟨[a, a', b]⟩⟩ : ByteArray)[2]'h).toNat = b.toNat := fun _ => rfl
      go_enter Tryd.func108, Tryd.ntmps108
      go_wp2_with (go_at_call 114; refine HV.out.mono ?_; rintro e w' ⟨rfl, rfl⟩)
      go_step3
      go_wp2_with fail
      go_loop [9] (fun i => i = .int .i64 2) (fun _ => 1)
      case atStart => rfl
      case round =>
        subst hrel
        go_wp2_with fail
        go_step3
        go_wp2_with fail
        go_quiet (fail)
        go_wp2_with fail
        go_quiet ((go_at_call 113; exact quiet_add_same (HI.out _)))
        go_wp2_with fail
        rw [Exit.noGoto_ret]
        go_wp2_with fail
        repeat rw [Exit.noGoto_ret]
        go_ret
        exact ⟨rfl, bel_drewN (Below.refl _ _) _⟩
  · obtain ⟨⟨l⟩⟩ := rs
    have hln : l.length = 4 := by simpa [ByteArray.size] using hz
    match l, hln with
    | [a, a', a'', b], _ =>
      clear hz hl
      go_enter Tryd.func108, Tryd.ntmps108
      go_wp2_with (go_at_call 114; refine HV.out.mono ?_; rintro e w' ⟨rfl, rfl⟩)
      go_step3
      go_wp2_with fail
      go_loop [9] (fun i => i = .int .i64 3) (fun _ => 1)
      case atStart => rfl
      case round =>
        subst hrel
        go_wp2_with fail
        repeat rw [Exit.noGoto_ret]
        go_ret
        exact ⟨rfl, Below.refl _ _⟩

/-- A blank, as a number. -/
def blk (x : Nat) : Bool := x == 9 || x == 13 || x == 32
theorem blk_low (x : Nat) (h : x < 128) : decide (0 ≤ Lib.indexByte [9, 13, 32] (x : Int).toNat.toUInt8) = blk x := by
  rw [← Lib.contains_iff_indexByte]
  have : ∀ y : Fin 128, ([9, 13, 32] : List UInt8).contains (((y.val : Nat) : Int).toNat.toUInt8) = blk y.val := by decide
  exact this ⟨x, h⟩
theorem blk_high {x : Nat} (h : 128 ≤ x) : blk x = false := by simp [blk]; omega
set_option maxHeartbeats 400000 in
theorem isBlank_any (x : Nat) (w : World) (h : x ≤ 1114111) : Calls Tryd.prog 86 #[.int .i32 x] w fun e w' => e = .returned (.bool (blk x)) ∧ Below w.heap.size w w' := by
  by_cases h1 : x < 128
  · have HC := Lib.hid (show Calls Tryd.prog 100 #[.string ⟨#[9, 13, 32]⟩, .int .i32 x] w fun e w' => e = .returned (.bool (blk x)) ∧ w' = w from by
      have := Tryd.strings_ContainsRune_ascii ⟨#[9, 13, 32]⟩ x w (by omega) (by omega)
      rw [show (⟨#[9, 13, 32]⟩ : ByteArray).data.toList = [9, 13, 32] from rfl, blk_low x h1] at this
      exact this)
    go_enter Tryd.func86, Tryd.ntmps86
    go_wp2_with (go_at_call 100; refine HC.out.mono ?_; rintro e w' ⟨rfl, rfl⟩)
    go_ret
    exact ⟨rfl, Below.refl _ _⟩
  · have HI := Lib.hid (show Calls Tryd.prog 108 #[.string ⟨#[9, 13, 32]⟩, .int .i32 x] w fun e w' => e = .returned (.int .i64 (-1)) ∧ Below w.heap.size w w' from by
      by_cases h2 : x = 65533
      · subst h2; exact idx_err w
      · by_cases h3 : 55296 ≤ x ∧ x ≤ 57343
        · exact idx_bad x w h3.1 h3.2
        · exact idx_ok x w (by omega) (by omega) h h2)
    have H := Lib.hid (blk_high (x := x) (by omega))
    go_enter Tryd.func86, Tryd.ntmps86
    go_wp2_with (first
      | (go_at_call 108; refine HI.out.mono ?_; rintro e w' ⟨rfl, hb⟩; have B := Lib.hid hb; clear hb)
      | go_in)
    go_ret
    exact ⟨ret_bool H.out.symm, B.out⟩
theorem pred_blank (w : World) : PredGrows Tryd.prog 86 #[] blk w := fun W x hx _ => isBlank_any x W hx

end Go.Proofs.YtajhgbcgbgpcjaaDoor.Fi

import Derived.Test.YtimjggcfkkibbaaDoorJB
namespace Go.Proofs.YtimjggcfkkibbaaDoor.Ha
open Go.RowKit

def tl3 (r : Int) : Int := if tlN r = 0 then 0 else 4519 + tlN r
/-- A block told whole. -/
structure Bk (w : World) (X : Nat) (cs : List Value) (t : TypeId) : Prop where
  blk : w.heap[X]? = some (.cells cs.toArray t (0, 0))
theorem Bk.c {w : World} {X : Nat} {cs : List Value} {t : TypeId} (h : Bk w X cs t) {i : Nat} {v : Value} (hv : cs[i]? = some v) : w.cell? ⟨X, i, none⟩ = some v := by simp [World.cell?, h.blk, hv]
theorem Bk.fr {w : World} {X : Nat} {cs : List Value} {t : TypeId} (h : Bk w X cs t) (i : Nat) : w.frozen? ⟨X, i, none⟩ = false := by simp [World.frozen?, h.blk]
theorem Bk.lt {w : World} {X : Nat} {cs : List Value} {t : TypeId} (h : Bk w X cs t) : X < w.heap.size := (Array.getElem?_eq_some_iff.1 h.blk).1
theorem Bk.set {w : World} {X : Nat} {cs : List Value} {t : TypeId} (h : Bk w X cs t) (i : Nat) (x : Value) : Bk (w.setCell ⟨X, i, none⟩ x) X (cs.set i x) t := ⟨by simp [World.setCell, Array.getElem?_modify, h.blk]⟩
theorem Bk.drew {w : World} {X : Nat} {cs : List Value} {t : TypeId} (h : Bk w X cs t) (n : Nat) : Bk (w.drewN n) X cs t := ⟨h.blk⟩

/-- What madeOf has done so far, by the place. -/
structure MkR (w wr : World) (m0 m1 m2 : Int) : Prop where
  bel : Below w.heap.size w wr
  blk : Bk wr w.heap.size [.int .i32 m0, .int .i32 m1, .int .i32 m2] 37
theorem MkR.drew {w wr : World} {m0 m1 m2 : Int} (h : MkR w wr m0 m1 m2) (n : Nat) : MkR w (wr.drewN n) m0 m1 m2 := ⟨bel_drewN h.bel n, h.blk.drew n⟩
theorem MkR.drew1 {w wr : World} {m0 m1 m2 : Int} (h : MkR w wr m0 m1 m2) : MkR w wr.drew m0 m1 m2 := ⟨h.bel.drew, ⟨h.blk.blk⟩⟩
theorem MkR.set0 {w wr : World} {m0 m1 m2 : Int} (h : MkR w wr m0 m1 m2) (x : Int) : MkR w (wr.setCell ⟨w.heap.size, 0, none⟩ (.int .i32 x)) x m1 m2 := ⟨h.bel.setCell (Nat.le_refl _) _, h.blk.set 0 _⟩
theorem MkR.set1 {w wr : World} {m0 m1 m2 : Int} (h : MkR w wr m0 m1 m2) (x : Int) : MkR w (wr.setCell ⟨w.heap.size, 1, none⟩ (.int .i32 x)) m0 x m2 := ⟨h.bel.setCell (Nat.le_refl _) _, h.blk.set 1 _⟩
theorem MkR.set2 {w wr : World} {m0 m1 m2 : Int} (h : MkR w wr m0 m1 m2) (x : Int) : MkR w (wr.setCell ⟨w.heap.size, 2, none⟩ (.int .i32 x)) m0 m1 x := ⟨h.bel.setCell (Nat.le_refl _) _, h.blk.set 2 _⟩
set_option maxHeartbeats 4000000 in
set_option maxRecDepth 100000 in
theorem made_any (r : Int) (w : World) (hT : Tab w) (hr : isS r = true) :
    Calls Tryd.prog 22 #[.int .i32 r] w fun e w' => e = .returned (.agg #[.int .i32 (4352 + ldN r), .int .i32 (4449 + vwN r), .int .i32 (tl3 r)]) ∧ Below w.heap.size w w' := by
  have hpos := hT.pos
  have h1 := ldN_bd hr
  have h2 := vwN_bd r
  have h3 := tlN_bd r
  rw [isS_iff] at hr
  obtain ⟨x, hx⟩ : ∃ x, x = r - 44032 := ⟨_, rfl⟩
  have x0 : IntKind.i32.wrap (r - 44032) = x := by rw [IntKind.wrap_i32]; omega
  obtain ⟨a, ha⟩ : ∃ a, a = ldN r := ⟨_, rfl⟩
  obtain ⟨b, hb⟩ : ∃ b, b = vwN r := ⟨_, rfl⟩
  obtain ⟨c, hc⟩ : ∃ c, c = tlN r := ⟨_, rfl⟩
  obtain ⟨y, hy⟩ : ∃ y, y = x % 588 := ⟨_, rfl⟩
  have xa : x.tdiv 588 = a := by rw [Int.tdiv_eq_ediv_of_nonneg (by omega), ha]; unfold ldN; rw [hx]
  have xy : x.tmod 588 = y := by rw [Int.tmod_eq_emod_of_nonneg (by omega), hy]
  have yb : y.tdiv 28 = b := by rw [Int.tdiv_eq_ediv_of_nonneg (by omega), hb]; unfold vwN; rw [hy, hx]
  have yc : y.tmod 28 = c := by rw [Int.tmod_eq_emod_of_nonneg (by omega), hc]; unfold tlN; rw [hy, hx]
  have cd : c.tdiv 1 = c := by rw [Int.tdiv_one]
  have cm : c.tmod 1 = 0 := by rw [Int.tmod_one]
  have HF := Lib.hid (show tl3 r = if c = 0 then 0 else 4519 + c by rw [hc]; rfl)
  rw [← ha] at h1 ⊢
  rw [← hb] at h2 ⊢
  rw [← hc] at h3
  have hxb : 0 ≤ x ∧ x ≤ 11171 := by omega
  have hyb : 0 ≤ y ∧ y < 588 := by omega
  clear ha hb hc hy hx hr
  generalize tl3 r = tt at HF ⊢
  go_enter Tryd.func22, Tryd.ntmps22
  go_wp2_with fail
  go_loopw [3, 8] (fun left i wr => (i = .int .i64 0 ∧ left = .int .i32 x ∧ Hid (MkR w wr 0 0 0)) ∨ (i = .int .i64 1 ∧ left = .int .i32 y ∧ Hid (MkR w wr (4352 + a) 0 0)) ∨ (i = .int .i64 2 ∧ left = .int .i32 c ∧ Hid (MkR w wr (4352 + a) (4449 + b) 0)) ∨ (i = .int .i64 3 ∧ left = .int .i32 0 ∧ Hid (MkR w wr (4352 + a) (4449 + b) tt))) (fun _ i _ => 3 - (intOf i).toNat)
  case atStart => exact .inl ⟨rfl, rfl, (Below.refl _ w).alloc (Nat.le_refl _) _, ⟨heap_alloc_new w _⟩⟩
  case round =>
    rcases hrel with ⟨rfl, rfl, HM⟩ | ⟨rfl, rfl, HM⟩ | ⟨rfl, rfl, HM⟩ | ⟨rfl, rfl, HM⟩
    · have hTr := hT.on HM.out.bel
      obtain ⟨f0, -, c0, w0, -, -, -, -, -, -, -, -⟩ := hTr
      have d0 := HM.out.blk.c (i := 0) rfl
      have e0 := HM.out.blk.fr 0
      have n0 : ¬ a < 0 := by omega
      have n1 : IntKind.i32.wrap a = a := by rw [IntKind.wrap_i32]; omega
      have n2 : IntKind.i32.wrap y = y := by rw [IntKind.wrap_i32]; omega
      have n3 : IntKind.i32.wrap (4352 + a) = 4352 + a := by rw [IntKind.wrap_i32]; omega
      have n4 : IntKind.i32.wrap (4352 + a - 0) = 4352 + a := by rw [IntKind.wrap_i32]; omega
      go_wp2_with fail
      go_region
      go_wp2_with fail
      go_roundw
      case rel => exact .inr (.inl ⟨by go_num, rfl, (HM.out.set0 _).drew1⟩)
      case measure => simp [intOf]
    · have hTr := hT.on HM.out.bel
      obtain ⟨-, -, -, -, f0, -, c0, w0, -, -, -, -⟩ := hTr
      have d0 := HM.out.blk.c (i := 1) rfl
      have e0 := HM.out.blk.fr 1
      have n0 : ¬ b < 0 := by omega
      have n1 : IntKind.i32.wrap b = b := by rw [IntKind.wrap_i32]; omega
      have n2 : IntKind.i32.wrap c = c := by rw [IntKind.wrap_i32]; omega
      have n3 : IntKind.i32.wrap (4449 + b) = 4449 + b := by rw [IntKind.wrap_i32]; omega
      have n4 : IntKind.i32.wrap (4449 + b - 0) = 4449 + b := by rw [IntKind.wrap_i32]; omega
      go_wp2_with fail
      go_region
      go_wp2_with fail
      go_roundw
      case rel => exact .inr (.inr (.inl ⟨by go_num, rfl, (HM.out.set1 _).drew1⟩))
      case measure => simp [intOf]
    · have hTr := hT.on HM.out.bel
      obtain ⟨-, -, -, -, -, -, -, -, f0, -, c0, w0⟩ := hTr
      have d0 := HM.out.blk.c (i := 2) rfl
      have e0 := HM.out.blk.fr 2
      have n2 : IntKind.i32.wrap c = c := by rw [IntKind.wrap_i32]; omega
      by_cases hc0 : c = 0
      · have n0 : c < 1 := by omega
        have HE : Hid (tt = 0) := Lib.hid (by rw [HF.out, if_pos hc0])
        go_wp2_with fail
        go_roundw
        case rel => exact .inr (.inr (.inr ⟨by go_num, rfl, by rw [HE.out]; exact HM.out.set2 _⟩))
        case measure => simp [intOf]
      · have n0 : ¬ c < 1 := by omega
        have HE : Hid (tt = 4520 + c - 1) := Lib.hid (by rw [HF.out, if_neg hc0]; omega)
        have n3 : IntKind.i32.wrap (4520 + c) = 4520 + c := by rw [IntKind.wrap_i32]; omega
        have n4 : IntKind.i32.wrap (4520 + c - 1) = 4520 + c - 1 := by rw [IntKind.wrap_i32]; omega
        clear hc0
        go_wp2_with fail
        go_region
        go_wp2_with fail
        go_roundw
        case rel => exact .inr (.inr (.inr ⟨by go_num, rfl, by rw [HE.out]; exact (HM.out.set2 _).drew1⟩))
        case measure => simp [intOf]
    · have d0 := HM.out.blk.c (i := 0) rfl
      have d1 := HM.out.blk.c (i := 1) rfl
      have d2 := HM.out.blk.c (i := 2) rfl
      have e0 := HM.out.blk.fr 0
      have e1 := HM.out.blk.fr 1
      have e2 := HM.out.blk.fr 2
      go_wp2_with fail
      have HB := ((HM.out.blk.set 0 (.int .i32 (4352 + a))).set 1 (.int .i32 (4449 + b))).set 2 (.int .i32 tt)
      have q0 := HB.c (i := 0) rfl
      have q1 := HB.c (i := 1) rfl
      have q2 := HB.c (i := 2) rfl
      refine bodyPost_ret (v := .agg #[.int .i32 (4352 + a), .int .i32 (4449 + b), .int .i32 tt]) (by simp [results, Tryd.results22, go_sem, q0, q1, q2]) rfl ?_
      exact ⟨rfl, ((HM.out.bel.setCell (Nat.le_refl _) _).setCell (Nat.le_refl _) _).setCell (Nat.le_refl _) _⟩

end Go.Proofs.YtimjggcfkkibbaaDoor.Ha

import Derived.Test.YtagbeioooohbgaaGreatDoorM04
import Derived.Test.YtagbeioooohbgaaGreatDoorM03
section
namespace Go.Proofs.YtagbeioooohbgaaGreatDoor.Uc
open Go.RowKit Fi

theorem intT_1 {k s : List UInt8} {need : Bool} (h : (rnsE s).2 ≠ 0) : intT k s need = ([], [], (rnsE s).2) := by unfold intT; rw [if_pos h]
theorem intT_2 {k s : List UInt8} {need : Bool} (h : (rnsE s).2 = 0) (h2 : need = true ∧ (rnsE s).1 = []) : intT k s need = ([], [], 10) := by unfold intT; rw [if_neg (by simpa using h), if_pos h2]
theorem intT_3 {k s : List UInt8} {need : Bool} (h : (rnsE s).2 = 0) (h2 : ¬ (need = true ∧ (rnsE s).1 = [])) (h3 : 18 < (rnsE s).1.length) : intT k s need = ([], [], 11) := by unfold intT; rw [if_neg (by simpa using h), if_neg h2, if_pos h3]
theorem intT_4 {k s : List UInt8} {need : Bool} (h : (rnsE s).2 = 0) (h2 : ¬ (need = true ∧ (rnsE s).1 = [])) (h3 : ¬ 18 < (rnsE s).1.length) : intT k s need = (k, (rnsE s).1, 0) := by unfold intT; rw [if_neg (by simpa using h), if_neg h2, if_neg h3]

def PaP (w : World) (x : List UInt8 × List Int × Int) (e : Ending) (w' : World) : Prop := ∃ v, e = .returned (.tuple #[.string ⟨x.1.toArray⟩, v, .int .i64 x.2.2]) ∧ w'.ownsRow w.heap.size 21 1 v x.2.1.length (i32s x.2.1) ∧ Below w.heap.size w w'
set_option maxRecDepth 100000 in
set_option maxHeartbeats 4000000 in
theorem parts_no (s : ByteArray) (w : World) (hs : s.size ≤ 100000) (hp : Lib.hasPrefix s.data.toList [60] = false) :
    Calls Tryz.prog 73 #[.string s] w (PaP w (intE s.data.toList)) := by
  have h1 := fun W => Tryz.strings_CutPrefix s ⟨#[60]⟩ W
  rw [show (⟨#[60]⟩ : ByteArray).data.toList = [60] from rfl] at h1
  unfold Lib.trimPrefix at h1
  have HI := Lib.hid (show intE s.data.toList = intT [] s.data.toList false by unfold intE; rw [hp]; rfl)
  rw [hp] at h1
  simp only [Bool.false_eq_true, if_false] at h1
  rw [show (⟨s.data.toList.toArray⟩ : ByteArray) = s from rfl] at h1
  have H1 := Lib.hid h1
  clear h1 hp
  have hR := fun W => runes_sl s W hs
  have t1 := @intT_1 [] s.data.toList false
  have t2 := @intT_2 [] s.data.toList false
  have t3 := @intT_3 [] s.data.toList false
  have t4 := @intT_4 [] s.data.toList false
  generalize rnsE s.data.toList = x at *
  obtain ⟨xs, er⟩ := x
  unfold RnSl at hR
  simp only at hR
  have t1 : er ≠ 0 → intT [] s.data.toList false = ([], [], er) := t1
  have t2 : er = 0 → false = true ∧ xs = [] → intT [] s.data.toList false = ([], [], 10) := t2
  have t3 : er = 0 → ¬ (false = true ∧ xs = []) → 18 < xs.length → intT [] s.data.toList false = ([], [], 11) := t3
  have t4 : er = 0 → ¬ (false = true ∧ xs = []) → ¬ 18 < xs.length → intT [] s.data.toList false = ([], xs, 0) := t4
  have HR := Lib.hid hR
  clear hR
  by_cases h1 : er = 0
  · subst h1
    by_cases h2 : false = true ∧ xs = []
    · have H2 := Lib.hid (HI.out.trans (t2 rfl h2))
      clear t1 t2 t3 t4 HI
      obtain ⟨hn, rfl⟩ := h2
      cases hn
    · by_cases h3 : 18 < xs.length
      · have H2 := Lib.hid (HI.out.trans (t3 rfl h2 h3))
        clear t1 t2 t3 t4 HI
        have g1 : (18 : Int) < xs.length := by omega
        have e2 : ((xs.length : Int) == 0) = false := by have h9 : (xs.length : Int) ≠ 0 := (by omega); simpa using h9
        clear h2
        go_enter Tryz.func73, Tryz.ntmps73
        go_wp2_with (first
          | (go_at_call 74; refine (H1.out _).mono ?_; rintro e w1 ⟨rfl, rfl⟩)
          | (go_at_call 95; refine (HR.out _).mono ?_; rintro e w3 ⟨A3, c3, rfl, ho, hi, hb⟩; have O3 := Lib.hid ho; have B3 := Lib.hid hb; clear ho hi hb))
        refine bodyPost_ret (v := .tuple #[.string ⟨#[]⟩, .slice none 0 0, .int .i64 11]) (by simp [results, Tryz.results73, go_sem]) rfl ⟨_, by rw [H2.out], by rw [H2.out]; exact World.ownsRow_nil _ _ _ _, B3.out⟩
      · have H2 := Lib.hid (HI.out.trans (t4 rfl h2 h3))
        clear t1 t2 t3 t4 HI
        have g1 : ¬ (18 : Int) < xs.length := by omega
        clear h2
        go_enter Tryz.func73, Tryz.ntmps73
        go_wp2_with (first
          | (go_at_call 74; refine (H1.out _).mono ?_; rintro e w1 ⟨rfl, rfl⟩)
          | (go_at_call 95; refine (HR.out _).mono ?_; rintro e w3 ⟨A3, c3, rfl, ho, hi, hb⟩; have O3 := Lib.hid ho; have B3 := Lib.hid hb; clear ho hi hb))
        refine bodyPost_ret (v := .tuple #[.string ⟨#[]⟩, .slice A3 xs.length c3, .int .i64 0]) (by simp [results, Tryz.results73, go_sem]) rfl ⟨_, by rw [H2.out], by rw [H2.out]; exact own_low O3.out (Nat.le_refl _), B3.out⟩
  · have H2 := Lib.hid (HI.out.trans (t1 h1))
    clear t1 t2 t3 t4 HI
    have e1 : (er != 0) = true := by simpa using h1
    clear h1
    go_enter Tryz.func73, Tryz.ntmps73
    go_wp2_with (first
      | (go_at_call 74; refine (H1.out _).mono ?_; rintro e w1 ⟨rfl, rfl⟩)
      | (go_at_call 95; refine (HR.out _).mono ?_; rintro e w3 ⟨A3, c3, rfl, ho, hi, hb⟩; have O3 := Lib.hid ho; have B3 := Lib.hid hb; clear ho hi hb))
    refine bodyPost_ret (v := .tuple #[.string ⟨#[]⟩, .slice none 0 0, .int .i64 er]) (by simp [results, Tryz.results73, go_sem]) rfl ⟨_, by rw [H2.out], by rw [H2.out]; exact World.ownsRow_nil _ _ _ _, B3.out⟩
set_option maxRecDepth 100000 in
set_option maxHeartbeats 8000000 in
theorem parts_yes (s : ByteArray) (w : World) (hM : Ml w) (hs : s.size ≤ 100000) (hp : Lib.hasPrefix s.data.toList [60] = true) :
    Calls Tryz.prog 73 #[.string s] w (PaP w (intE s.data.toList)) := by
  have h1 := fun W => Tryz.strings_CutPrefix s ⟨#[60]⟩ W
  rw [show (⟨#[60]⟩ : ByteArray).data.toList = [60] from rfl] at h1
  unfold Lib.trimPrefix at h1
  rw [hp] at h1
  simp only [if_true, List.length_singleton] at h1
  obtain ⟨u, hu⟩ : ∃ u : ByteArray, u = ⟨(s.data.toList.drop 1).toArray⟩ := ⟨_, rfl⟩
  have hul : u.data.toList = s.data.toList.drop 1 := by rw [hu]
  have huz : u.size ≤ 100000 := by rw [← lst_len, hul, List.length_drop, lst_len]; omega
  rw [← hu] at h1
  have H1 := Lib.hid h1
  have hc := cut_any u ⟨#[62]⟩ w hM (by omega)
  rw [show (⟨#[62]⟩ : ByteArray).data.toList = [62] from rfl] at hc
  have HI0 := Lib.hid (show intE s.data.toList = if (Lib.cut u.data.toList [62]).2.2 = true ∧ (Lib.cut u.data.toList [62]).1 ≠ [] ∧ ltrs (Lib.cut u.data.toList [62]).1 = true then intT (Lib.cut u.data.toList [62]).1 (Lib.cut u.data.toList [62]).2.1 true else ([], [], 10) by rw [hul]; unfold intE; rw [hp]; rfl)
  obtain ⟨hl1, hl2⟩ := cut_le u.data.toList [62]
  rw [lst_len] at hl1 hl2
  clear h1 hp hul hu hM
  generalize Lib.cut u.data.toList [62] = x at *
  obtain ⟨kl, rl, f⟩ := x
  simp only at hc hl1 hl2 HI0
  obtain ⟨kb, hkb⟩ : ∃ kb : ByteArray, kb = ⟨kl.toArray⟩ := ⟨_, rfl⟩
  obtain ⟨rb, hrb⟩ : ∃ rb : ByteArray, rb = ⟨rl.toArray⟩ := ⟨_, rfl⟩
  have hkl : kb.data.toList = kl := by rw [hkb]
  have hrl : rb.data.toList = rl := by rw [hrb]
  have hkz : kb.size = kl.length := by rw [hkb, size_mk]
  have hrz : rb.size = rl.length := by rw [hrb, size_mk]
  rw [← hkb, ← hrb] at hc
  have HC := Lib.hid hc
  have HKB := Lib.hid hkb
  clear hc hkb hrb
  cases f with
  | false =>
    have H2 := Lib.hid (show intE s.data.toList = ([], [], 10) by rw [HI0.out, if_neg (fun h => by cases h.1)])
    clear HI0 hkl hrl
    go_enter Tryz.func73, Tryz.ntmps73
    go_wp2_with (first
      | (go_at_call 74; refine (H1.out _).mono ?_; rintro e w1 ⟨rfl, rfl⟩)
      | (go_at_call 76; refine HC.out.mono ?_; rintro e w2 ⟨rfl, hb⟩; have B2 := Lib.hid hb; clear hb))
    refine bodyPost_ret (v := .tuple #[.string ⟨#[]⟩, .slice none 0 0, .int .i64 10]) (by simp [results, Tryz.results73, go_sem]) rfl ⟨_, by rw [H2.out], by rw [H2.out]; exact World.ownsRow_nil _ _ _ _, B2.out⟩
  | true =>
    have key : kb.size = 0 ∨ 0 < kb.size := by omega
    rcases key with h0 | h0
    · have H2 := Lib.hid (show intE s.data.toList = ([], [], 10) by rw [HI0.out, if_neg (fun h => h.2.1 (List.eq_nil_of_length_eq_zero (by omega)))])
      obtain rfl := emp_yes h0
      clear HI0 hkl hrl
      go_enter Tryz.func73, Tryz.ntmps73
      go_wp2_with (first
        | (go_at_call 74; refine (H1.out _).mono ?_; rintro e w1 ⟨rfl, rfl⟩)
        | (go_at_call 76; refine HC.out.mono ?_; rintro e w2 ⟨rfl, hb⟩; have B2 := Lib.hid hb; clear hb))
      refine bodyPost_ret (v := .tuple #[.string ⟨#[]⟩, .slice none 0 0, .int .i64 10]) (by simp [results, Tryz.results73, go_sem]) rfl ⟨_, by rw [H2.out], by rw [H2.out]; exact World.ownsRow_nil _ _ _ _, B2.out⟩
    · have he := emp_no h0
      have hne := emp_ne h0
      have hL := fun W => letters_any kb W (by omega)
      rw [hkl] at hL
      cases hb : ltrs kl with
      | false =>
        have H2 := Lib.hid (show intE s.data.toList = ([], [], 10) by rw [HI0.out, if_neg (fun h => by rw [hb] at h; cases h.2.2)])
        rw [hb] at hL
        have HL := Lib.hid hL
        clear HI0 hkl hrl hL hb
        go_enter Tryz.func73, Tryz.ntmps73
        go_wp2_with (first
          | (go_at_call 74; refine (H1.out _).mono ?_; rintro e w1 ⟨rfl, rfl⟩)
          | (go_at_call 76; refine HC.out.mono ?_; rintro e w2 ⟨rfl, hb⟩; have B2 := Lib.hid hb; clear hb)
          | (go_at_call 94; refine (HL.out _).mono ?_; rintro e w4 ⟨rfl, rfl⟩))
        refine bodyPost_ret (v := .tuple #[.string ⟨#[]⟩, .slice none 0 0, .int .i64 10]) (by simp [results, Tryz.results73, go_sem]) rfl ⟨_, by rw [H2.out], by rw [H2.out]; exact World.ownsRow_nil _ _ _ _, B2.out⟩
      | true =>
        have HI := Lib.hid (show intE s.data.toList = intT kl rl true by rw [HI0.out, if_pos ⟨rfl, fun h => (by have h9 : kl.length = 0 := (by rw [h]; rfl); omega), hb⟩])
        rw [hb] at hL
        have HL := Lib.hid hL
        clear HI0 hL hb
        have hR := fun W => runes_sl rb W (by omega)
        rw [hrl] at hR
        have t1 := @intT_1 kl rl true
        have t2 := @intT_2 kl rl true
        have t3 := @intT_3 kl rl true
        have t4 := @intT_4 kl rl true
        generalize rnsE rl = x at *
        obtain ⟨xs, er⟩ := x
        unfold RnSl at hR
        simp only at hR
        have t1 : er ≠ 0 → intT kl rl true = ([], [], er) := t1
        have t2 : er = 0 → true = true ∧ xs = [] → intT kl rl true = ([], [], 10) := t2
        have t3 : er = 0 → ¬ (true = true ∧ xs = []) → 18 < xs.length → intT kl rl true = ([], [], 11) := t3
        have t4 : er = 0 → ¬ (true = true ∧ xs = []) → ¬ 18 < xs.length → intT kl rl true = (kl, xs, 0) := t4
        have HR := Lib.hid hR
        clear hR
        by_cases h1 : er = 0
        · subst h1
          by_cases h2 : true = true ∧ xs = []
          · have H2 := Lib.hid (HI.out.trans (t2 rfl h2))
            clear t1 t2 t3 t4 HI
            obtain ⟨hn, rfl⟩ := h2
            go_enter Tryz.func73, Tryz.ntmps73
            go_wp2_with (first
              | (go_at_call 74; refine (H1.out _).mono ?_; rintro e w1 ⟨rfl, rfl⟩)
              | (go_at_call 76; refine HC.out.mono ?_; rintro e w2 ⟨rfl, hb⟩; have B2 := Lib.hid hb; clear hb)
              | (go_at_call 94; refine (HL.out _).mono ?_; rintro e w4 ⟨rfl, rfl⟩)
              | (go_at_call 95; refine (HR.out _).mono ?_; rintro e w3 ⟨A3, c3, rfl, ho, hi, hb⟩; have O3 := Lib.hid ho; have B3 := Lib.hid hb; clear ho hi hb))
            refine bodyPost_ret (v := .tuple #[.string ⟨#[]⟩, .slice none 0 0, .int .i64 10]) (by simp [results, Tryz.results73, go_sem]) rfl ⟨_, by rw [H2.out], by rw [H2.out]; exact World.ownsRow_nil _ _ _ _, B2.out.trans (B3.out.mono B2.out.size)⟩
          · by_cases h3 : 18 < xs.length
            · have H2 := Lib.hid (HI.out.trans (t3 rfl h2 h3))
              clear t1 t2 t3 t4 HI
              have g1 : (18 : Int) < xs.length := by omega
              have e2 : ((xs.length : Int) == 0) = false := by have h9 : (xs.length : Int) ≠ 0 := (by omega); simpa using h9
              clear h2
              go_enter Tryz.func73, Tryz.ntmps73
              go_wp2_with (first
                | (go_at_call 74; refine (H1.out _).mono ?_; rintro e w1 ⟨rfl, rfl⟩)
                | (go_at_call 76; refine HC.out.mono ?_; rintro e w2 ⟨rfl, hb⟩; have B2 := Lib.hid hb; clear hb)
                | (go_at_call 94; refine (HL.out _).mono ?_; rintro e w4 ⟨rfl, rfl⟩)
                | (go_at_call 95; refine (HR.out _).mono ?_; rintro e w3 ⟨A3, c3, rfl, ho, hi, hb⟩; have O3 := Lib.hid ho; have B3 := Lib.hid hb; clear ho hi hb))
              refine bodyPost_ret (v := .tuple #[.string ⟨#[]⟩, .slice none 0 0, .int .i64 11]) (by simp [results, Tryz.results73, go_sem]) rfl ⟨_, by rw [H2.out], by rw [H2.out]; exact World.ownsRow_nil _ _ _ _, B2.out.trans (B3.out.mono B2.out.size)⟩
            · have H2 := Lib.hid (HI.out.trans (t4 rfl h2 h3))
              clear t1 t2 t3 t4 HI
              have g1 : ¬ (18 : Int) < xs.length := by omega
              have e2 : ((xs.length : Int) == 0) = false := by
                have h9 : xs ≠ [] := fun h => h2 ⟨rfl, h⟩
                simpa using h9
              clear h2
              go_enter Tryz.func73, Tryz.ntmps73
              go_wp2_with (first
                | (go_at_call 74; refine (H1.out _).mono ?_; rintro e w1 ⟨rfl, rfl⟩)
                | (go_at_call 76; refine HC.out.mono ?_; rintro e w2 ⟨rfl, hb⟩; have B2 := Lib.hid hb; clear hb)
                | (go_at_call 94; refine (HL.out _).mono ?_; rintro e w4 ⟨rfl, rfl⟩)
                | (go_at_call 95; refine (HR.out _).mono ?_; rintro e w3 ⟨A3, c3, rfl, ho, hi, hb⟩; have O3 := Lib.hid ho; have B3 := Lib.hid hb; clear ho hi hb))
              refine bodyPost_ret (v := .tuple #[.string kb, .slice A3 xs.length c3, .int .i64 0]) (by simp [results, Tryz.results73, go_sem]) rfl ⟨_, by rw [H2.out, ← HKB.out], by rw [H2.out]; exact own_low O3.out (B2.out.size), B2.out.trans (B3.out.mono B2.out.size)⟩
        · have H2 := Lib.hid (HI.out.trans (t1 h1))
          clear t1 t2 t3 t4 HI
          have e1 : (er != 0) = true := by simpa using h1
          clear h1
          go_enter Tryz.func73, Tryz.ntmps73
          go_wp2_with (first
            | (go_at_call 74; refine (H1.out _).mono ?_; rintro e w1 ⟨rfl, rfl⟩)
            | (go_at_call 76; refine HC.out.mono ?_; rintro e w2 ⟨rfl, hb⟩; have B2 := Lib.hid hb; clear hb)
            | (go_at_call 94; refine (HL.out _).mono ?_; rintro e w4 ⟨rfl, rfl⟩)
            | (go_at_call 95; refine (HR.out _).mono ?_; rintro e w3 ⟨A3, c3, rfl, ho, hi, hb⟩; have O3 := Lib.hid ho; have B3 := Lib.hid hb; clear ho hi hb))
          refine bodyPost_ret (v := .tuple #[.string ⟨#[]⟩, .slice none 0 0, .int .i64 er]) (by simp [results, Tryz.results73, go_sem]) rfl ⟨_, by rw [H2.out], by rw [H2.out]; exact World.ownsRow_nil _ _ _ _, B2.out.trans (B3.out.mono B2.out.size)⟩
theorem parts_any (s : ByteArray) (w : World) (hM : Ml w) (hs : s.size ≤ 100000) : Calls Tryz.prog 73 #[.string s] w (PaP w (intE s.data.toList)) := by
  cases hp : Lib.hasPrefix s.data.toList [60] with
  | false => exact parts_no s w hs hp
  | true => exact parts_yes s w hM hs hp

end Go.Proofs.YtagbeioooohbgaaGreatDoor.Uc
end
section
namespace Go.Proofs.YtagbeioooohbgaaGreatDoor.Uc
open Go.RowKit Fi

/-- A block that is told whole. -/
structure Bk (w : World) (X : Nat) (cs : List Value) (t : TypeId) : Prop where
  blk : w.heap[X]? = some (.cells cs.toArray t (0, 0))
theorem Bk.c {w : World} {X : Nat} {cs : List Value} {t : TypeId} (h : Bk w X cs t) {i : Nat} {v : Value} (hv : cs[i]? = some v) : w.cell? ⟨X, i, none⟩ = some v := by simp [World.cell?, h.blk, hv]
theorem Bk.fr {w : World} {X : Nat} {cs : List Value} {t : TypeId} (h : Bk w X cs t) (i : Nat) : w.frozen? ⟨X, i, none⟩ = false := by simp [World.frozen?, h.blk]
theorem Bk.lt {w : World} {X : Nat} {cs : List Value} {t : TypeId} (h : Bk w X cs t) : X < w.heap.size := (Array.getElem?_eq_some_iff.1 h.blk).1
theorem Bk.below {w w' : World} {X : Nat} {cs : List Value} {t : TypeId} (h : Bk w X cs t) (hb : Below w.heap.size w w') : Bk w' X cs t := ⟨(hb.block X h.lt).trans h.blk⟩
theorem Bk.set {w : World} {X : Nat} {cs : List Value} {t : TypeId} (h : Bk w X cs t) (i : Nat) (x : Value) : Bk (w.setCell ⟨X, i, none⟩ x) X (cs.set i x) t := ⟨by simp [World.setCell, Array.getElem?_modify, h.blk]⟩
theorem Bk.drew {w : World} {X : Nat} {cs : List Value} {t : TypeId} (h : Bk w X cs t) (n : Nat) : Bk (w.drewN n) X cs t := ⟨h.blk⟩
theorem Bk.drew1 {w : World} {X : Nat} {cs : List Value} {t : TypeId} (h : Bk w X cs t) : Bk w.drew X cs t := ⟨h.blk⟩
theorem Bk.ne {w : World} {X : Nat} {cs : List Value} {t : TypeId} (h : Bk w X cs t) {b e z n : Nat} {v' : Value} {xs : List Value} (ho : w.ownsRow b e z v' n xs) (ht : t ≠ e) : v'.ownBlock ≠ some X := by
  intro he
  rcases ho.2 with ⟨rfl, _⟩ | ⟨g, cap, cur, rfl, _, hg, _⟩
  · cases he
  · have : g = X := by injection he
    subst this
    rw [h.blk] at hg
    simp at hg
    exact ht hg.2
theorem own_drew1 {w : World} {b e z n : Nat} {v : Value} {xs : List Value} (h : w.ownsRow b e z v n xs) : w.drew.ownsRow b e z v n xs := h
theorem own_sets {w : World} {X : Nat} {cs : List Value} {t : TypeId} {b e z n : Nat} {v' : Value} {xs : List Value} {u0 u1 u2 u3 u4 u5 u6 : Value} (ho : w.ownsRow b e z v' n xs) (h : Bk w X cs t) (ht : t ≠ e) :
    (((((((w.setCell ⟨X, 0, none⟩ u0).setCell ⟨X, 1, none⟩ u1).setCell ⟨X, 2, none⟩ u2).setCell ⟨X, 3, none⟩ u3).setCell ⟨X, 4, none⟩ u4).setCell ⟨X, 5, none⟩ u5).setCell ⟨X, 6, none⟩ u6).drew.ownsRow b e z v' n xs := by
  have hn := h.ne ho ht
  exact own_drew1 (own_set (own_set (own_set (own_set (own_set (own_set (own_set ho hn _) hn _) hn _) hn _) hn _) hn _) hn _)
def zC : List Value := [.int .i32 0, .int .i32 0, .string ⟨#[]⟩, .string ⟨#[]⟩, .int .i64 0, .string ⟨#[]⟩, .slice none 0 0]

def ReP (w : World) (x : Rw × Int) (e : Ending) (w' : World) : Prop := ∃ v, e = .returned (.tuple #[rV x.1 v, .int .i64 x.2]) ∧ w'.ownsRow w.heap.size 21 1 v x.1.into.length (i32s x.1.into) ∧ Below w.heap.size w w'
theorem txs_six {w : World} {A : Option Addr} {ls : List (List UInt8)} (h : Txs w A ls) (h6 : 6 ≤ ls.length) : ∃ b off, A = some ⟨b, off, none⟩ ∧ b < w.heap.size ∧ w.cell? ⟨b, off, none⟩ = some (.string ⟨(ls.getD 0 []).toArray⟩) ∧ w.cell? ⟨b, off + 1, none⟩ = some (.string ⟨(ls.getD 1 []).toArray⟩) ∧ w.cell? ⟨b, off + 2, none⟩ = some (.string ⟨(ls.getD 2 []).toArray⟩) ∧ w.cell? ⟨b, off + 3, none⟩ = some (.string ⟨(ls.getD 3 []).toArray⟩) ∧ w.cell? ⟨b, off + 5, none⟩ = some (.string ⟨(ls.getD 5 []).toArray⟩) := by
  obtain ⟨b, off, rfl, hb, h0⟩ := h 0 (by omega)
  have hk : ∀ i (hi : i < ls.length), w.cell? ⟨b, off + i, none⟩ = some (.string ⟨(ls.getD i []).toArray⟩) := fun i hi => by
    obtain ⟨b', off', e, _, hc⟩ := h i hi
    simp only [Option.some.injEq, Addr.mk.injEq] at e
    obtain ⟨rfl, rfl, _⟩ := e
    rw [hc, List.getD_eq_getElem?_getD, List.getElem?_eq_getElem hi]
    rfl
  exact ⟨b, off, rfl, hb, hk 0 (by omega), hk 1 (by omega), hk 2 (by omega), hk 3 (by omega), hk 5 (by omega)⟩
theorem fld_mem (l : List UInt8) (i : Nat) : ((fld l).getD i []).length ≤ l.length := by
  rw [List.getD_eq_getElem?_getD]
  cases h : (fld l)[i]? with
  | none => simp
  | some x =>
    have hx := List.mem_of_getElem? h
    unfold fld at hx
    obtain ⟨y, hy, rfl⟩ := List.mem_map.1 hx
    have h1 := spl_mem 59 l [] y hy
    have h2 := bareL_le y
    simp at h1
    show (bareL y).length ≤ l.length
    omega
theorem rowF_1 {f : List (List UInt8)} (h : (hexE (f.getD 0 [])).2 ≠ 0) : rowF f = (z0, (hexE (f.getD 0 [])).2) := by unfold rowF; rw [if_pos h]
theorem rowF_2 {f : List (List UInt8)} (h0 : (hexE (f.getD 0 [])).2 = 0) (h : (nmE (f.getD 3 [])).2 ≠ 0) : rowF f = (z0, (nmE (f.getD 3 [])).2) := by unfold rowF; rw [if_neg (by simpa using h0), if_pos h]
theorem rowF_3 {f : List (List UInt8)} (h0 : (hexE (f.getD 0 [])).2 = 0) (h3 : (nmE (f.getD 3 [])).2 = 0) (h : 254 < (nmE (f.getD 3 [])).1) : rowF f = (z0, 11) := by unfold rowF; rw [if_neg (by simpa using h0), if_neg (by simpa using h3), if_pos h]
theorem rowF_4 {f : List (List UInt8)} (h0 : (hexE (f.getD 0 [])).2 = 0) (h3 : (nmE (f.getD 3 [])).2 = 0) (hc : ¬ 254 < (nmE (f.getD 3 [])).1) (h : (intE (f.getD 5 [])).2.2 ≠ 0) : rowF f = (z0, (intE (f.getD 5 [])).2.2) := by unfold rowF; rw [if_neg (by simpa using h0), if_neg (by simpa using h3), if_neg hc, if_pos h]
theorem rowF_5 {f : List (List UInt8)} (h0 : (hexE (f.getD 0 [])).2 = 0) (h3 : (nmE (f.getD 3 [])).2 = 0) (hc : ¬ 254 < (nmE (f.getD 3 [])).1) (h : (intE (f.getD 5 [])).2.2 = 0) : rowF f = (⟨(hexE (f.getD 0 [])).1, (hexE (f.getD 0 [])).1, f.getD 1 [], f.getD 2 [], (nmE (f.getD 3 [])).1, (intE (f.getD 5 [])).1, (intE (f.getD 5 [])).2.1⟩, 0) := by unfold rowF; rw [if_neg (by simpa using h0), if_neg (by simpa using h3), if_neg hc, if_neg (by simpa using h)]
set_option maxRecDepth 100000 in
set_option maxHeartbeats 8000000 in
theorem read_any (s : ByteArray) (w : World) (hM : Ml w) (hs : s.size ≤ 100000) : Calls Tryz.prog 44 #[.string s] w (ReP w (rowE s.data.toList)) := by
  have hS := fsplit_any s 59 (w.alloc (.cells zC.toArray 91)) (hM.on ((Below.refl _ w).alloc (Nat.le_refl _) _)) hs
  have B0 := Lib.hid (show Bk (w.alloc (.cells zC.toArray 91)) w.heap.size zC 91 from ⟨heap_alloc_new w _⟩)
  have D0 := Lib.hid ((Below.refl _ w).alloc (Nat.le_refl _) (.cells zC.toArray 91))
  have HML := Lib.hid hM
  clear hM
  by_cases h6 : (fld s.data.toList).length < 6
  · have H := Lib.hid (show rowE s.data.toList = (z0, 10) by unfold rowE; rw [if_pos h6])
    change Calls Tryz.prog _ _ _ (CutP _ (fld s.data.toList)) at hS
    generalize fld s.data.toList = ls at *
    have HS := Lib.hid hS
    have g1 : (ls.length : Int) < 6 := by omega
    clear hS h6
    go_enter Tryz.func44, Tryz.ntmps44
    go_wp2_with fail
    refine HS.out.mono ?_
    rintro e w1 ⟨v1, rfl, ho, hb⟩
    obtain ⟨A1, c1, rfl, hx⟩ := own_txs ho
    have K1 := B0.out.below hb
    have D1 := Lib.hid (D0.out.trans (hb.mono D0.out.size))
    clear ho hb HS B0
    have K7 := Lib.hid ((((((((K1).set 0 (.int .i32 0)).set 1 (.int .i32 0)).set 2 (.string ⟨#[]⟩)).set 3 (.string ⟨#[]⟩)).set 4 (.int .i64 0)).set 5 (.string ⟨#[]⟩)).set 6 (.slice none 0 0))
    have a0 := K1.c (i := 0) rfl
    have a1 := K1.c (i := 1) rfl
    have a2 := K1.c (i := 2) rfl
    have a3 := K1.c (i := 3) rfl
    have a4 := K1.c (i := 4) rfl
    have a5 := K1.c (i := 5) rfl
    have a6 := K1.c (i := 6) rfl
    have f0 := K1.fr 0
    have f1 := K1.fr 1
    have f2 := K1.fr 2
    have f3 := K1.fr 3
    have f4 := K1.fr 4
    have f5 := K1.fr 5
    have f6 := K1.fr 6
    go_wp2_with fail
    have b0 := K7.out.c (i := 0) rfl
    have b1 := K7.out.c (i := 1) rfl
    have b2 := K7.out.c (i := 2) rfl
    have b3 := K7.out.c (i := 3) rfl
    have b4 := K7.out.c (i := 4) rfl
    have b5 := K7.out.c (i := 5) rfl
    have b6 := K7.out.c (i := 6) rfl
    refine bodyPost_ret (v := .tuple #[rV z0 (.slice none 0 0), .int .i64 10]) (by simp [results, Tryz.results44, go_sem, b0, b1, b2, b3, b4, b5, b6, rV, z0]) rfl ⟨_, by rw [H.out], by rw [H.out]; exact World.ownsRow_nil _ _ _ _, (((((((D1.out).setCell (Nat.le_refl _) _).setCell (Nat.le_refl _) _).setCell (Nat.le_refl _) _).setCell (Nat.le_refl _) _).setCell (Nat.le_refl _) _).setCell (Nat.le_refl _) _).setCell (Nat.le_refl _) _⟩
  · have hr := Lib.hid (show rowE s.data.toList = rowF (fld s.data.toList) by unfold rowE; rw [if_neg h6])
    have hm := fld_mem s.data.toList
    rw [lst_len] at hm
    change Calls Tryz.prog _ _ _ (CutP _ (fld s.data.toList)) at hS
    generalize fld s.data.toList = ls at *
    have HS := Lib.hid hS
    have g1 : ¬ (ls.length : Int) < 6 := by omega
    have hls : 6 ≤ ls.length := by omega
    have hm0 := hm 0
    have hm3 := hm 3
    have hm5 := hm 5
    clear hS h6 hm
    have e1 := @rowF_1 ls
    have e2 := @rowF_2 ls
    have e3 := @rowF_3 ls
    have e4 := @rowF_4 ls
    have e5 := @rowF_5 ls
    obtain ⟨x0, hx0⟩ : ∃ x : ByteArray, x = ⟨(ls.getD 0 []).toArray⟩ := ⟨_, rfl⟩
    obtain ⟨x1, hx1⟩ : ∃ x : ByteArray, x = ⟨(ls.getD 1 []).toArray⟩ := ⟨_, rfl⟩
    obtain ⟨x2, hx2⟩ : ∃ x : ByteArray, x = ⟨(ls.getD 2 []).toArray⟩ := ⟨_, rfl⟩
    obtain ⟨x3, hx3⟩ : ∃ x : ByteArray, x = ⟨(ls.getD 3 []).toArray⟩ := ⟨_, rfl⟩
    obtain ⟨x5, hx5⟩ : ∃ x : ByteArray, x = ⟨(ls.getD 5 []).toArray⟩ := ⟨_, rfl⟩
    have y0 := fun W => hex_any x0 W (by rw [hx0, size_mk]; omega)
    have y3 := fun W => number_any x3 W (by rw [hx3, size_mk]; omega)
    have y5 := fun W hW => parts_any x5 W hW (by rw [hx5, size_mk]; omega)
    rw [show x0.data.toList = ls.getD 0 [] by rw [hx0]] at y0
    rw [show x3.data.toList = ls.getD 3 [] by rw [hx3]] at y3
    rw [show x5.data.toList = ls.getD 5 [] by rw [hx5]] at y5
    generalize hexE (ls.getD 0 []) = z at *
    obtain ⟨r, er0⟩ := z
    have hnb := nmE_bd (ls.getD 3 [])
    generalize nmE (ls.getD 3 []) = z at *
    obtain ⟨cl, er3⟩ := z
    have hin := intE_len (ls.getD 5 [])
    generalize intE (ls.getD 5 []) = z at *
    obtain ⟨kl, inl, er5⟩ := z
    unfold reV at y0
    unfold niV at y3
    unfold PaP at y5
    simp only at y0 y3 y5 hnb hin
    have HX0 := Lib.hid y0
    have HX3 := Lib.hid y3
    have HX5 := Lib.hid y5
    have q0 := Lib.hid hx0
    have q1 := Lib.hid hx1
    have q2 := Lib.hid hx2
    have q3 := Lib.hid hx3
    have q5 := Lib.hid hx5
    clear y0 y3 y5 hm0 hm3 hm5 hx0 hx1 hx2 hx3 hx5
    by_cases h0 : er0 = 0
    · subst h0
      by_cases h3 : er3 = 0
      · subst h3
        by_cases hc : 254 < cl
        · have H := Lib.hid (hr.out.trans (e3 rfl rfl hc))
          clear hr e1 e2 e3 e4 e5 HX5
          have g2 : (254 : Int) < cl := hc
          go_enter Tryz.func44, Tryz.ntmps44
          go_wp2_with fail
          refine HS.out.mono ?_
          rintro e w1 ⟨v1, rfl, ho, hb⟩
          obtain ⟨A1, c1, rfl, hx⟩ := own_txs ho
          have K1 := B0.out.below hb
          have D1 := Lib.hid (D0.out.trans (hb.mono D0.out.size))
          clear ho hb HS B0
          obtain ⟨tb, tf, rfl, htb, t0, t1, t2, t3, t5⟩ := txs_six hx hls
          rw [← q0.out] at t0
          rw [← q1.out] at t1
          rw [← q2.out] at t2
          rw [← q3.out] at t3
          rw [← q5.out] at t5
          clear hx
          go_wp2_with fail
          refine (HX0.out _).mono ?_
          rintro e w2 ⟨rfl, hb⟩
          have K2 := K1.below hb
          have D2 := Lib.hid (D1.out.trans (hb.mono D1.out.size))
          have t1 := (hb.cell (p := ⟨tb, tf + 1, none⟩) htb).trans t1
          have t2 := (hb.cell (p := ⟨tb, tf + 2, none⟩) htb).trans t2
          have t3 := (hb.cell (p := ⟨tb, tf + 3, none⟩) htb).trans t3
          have t5 := (hb.cell (p := ⟨tb, tf + 5, none⟩) htb).trans t5
          have htb := Nat.lt_of_lt_of_le htb hb.size
          clear hb K1 D1
          go_wp2_with fail
          refine (HX3.out _).mono ?_
          rintro e w3 ⟨rfl, hb⟩
          have K3 := K2.below hb
          have D3 := Lib.hid (D2.out.trans (hb.mono D2.out.size))
          have t1 := (hb.cell (p := ⟨tb, tf + 1, none⟩) htb).trans t1
          have t2 := (hb.cell (p := ⟨tb, tf + 2, none⟩) htb).trans t2
          have t5 := (hb.cell (p := ⟨tb, tf + 5, none⟩) htb).trans t5
          have htb := Nat.lt_of_lt_of_le htb hb.size
          clear hb K2 D2
          have K7 := Lib.hid ((((((((K3).set 0 (.int .i32 0)).set 1 (.int .i32 0)).set 2 (.string ⟨#[]⟩)).set 3 (.string ⟨#[]⟩)).set 4 (.int .i64 0)).set 5 (.string ⟨#[]⟩)).set 6 (.slice none 0 0))
          have a0 := K3.c (i := 0) rfl
          have a1 := K3.c (i := 1) rfl
          have a2 := K3.c (i := 2) rfl
          have a3 := K3.c (i := 3) rfl
          have a4 := K3.c (i := 4) rfl
          have a5 := K3.c (i := 5) rfl
          have a6 := K3.c (i := 6) rfl
          have f0 := K3.fr 0
          have f1 := K3.fr 1
          have f2 := K3.fr 2
          have f3 := K3.fr 3
          have f4 := K3.fr 4
          have f5 := K3.fr 5
          have f6 := K3.fr 6
          go_wp2_with fail
          have b0 := K7.out.c (i := 0) rfl
          have b1 := K7.out.c (i := 1) rfl
          have b2 := K7.out.c (i := 2) rfl
          have b3 := K7.out.c (i := 3) rfl
          have b4 := K7.out.c (i := 4) rfl
          have b5 := K7.out.c (i := 5) rfl
          have b6 := K7.out.c (i := 6) rfl
          refine bodyPost_ret (v := .tuple #[rV z0 (.slice none 0 0), .int .i64 11]) (by simp [results, Tryz.results44, go_sem, b0, b1, b2, b3, b4, b5, b6, rV, z0]) rfl ⟨_, by rw [H.out], by rw [H.out]; exact World.ownsRow_nil _ _ _ _, (((((((D3.out).setCell (Nat.le_refl _) _).setCell (Nat.le_refl _) _).setCell (Nat.le_refl _) _).setCell (Nat.le_refl _) _).setCell (Nat.le_refl _) _).setCell (Nat.le_refl _) _).setCell (Nat.le_refl _) _⟩
        · have g2 : ¬ (254 : Int) < cl := hc
          by_cases h5 : er5 = 0
          · subst h5
            have H := Lib.hid (hr.out.trans (e5 rfl rfl hc rfl))
            clear hr e1 e2 e3 e4 e5
            go_enter Tryz.func44, Tryz.ntmps44
            go_wp2_with fail
            refine HS.out.mono ?_
            rintro e w1 ⟨v1, rfl, ho, hb⟩
            obtain ⟨A1, c1, rfl, hx⟩ := own_txs ho
            have K1 := B0.out.below hb
            have D1 := Lib.hid (D0.out.trans (hb.mono D0.out.size))
            clear ho hb HS B0
            obtain ⟨tb, tf, rfl, htb, t0, t1, t2, t3, t5⟩ := txs_six hx hls
            rw [← q0.out] at t0
            rw [← q1.out] at t1
            rw [← q2.out] at t2
            rw [← q3.out] at t3
            rw [← q5.out] at t5
            clear hx
            go_wp2_with fail
            refine (HX0.out _).mono ?_
            rintro e w2 ⟨rfl, hb⟩
            have K2 := K1.below hb
            have D2 := Lib.hid (D1.out.trans (hb.mono D1.out.size))
            have t1 := (hb.cell (p := ⟨tb, tf + 1, none⟩) htb).trans t1
            have t2 := (hb.cell (p := ⟨tb, tf + 2, none⟩) htb).trans t2
            have t3 := (hb.cell (p := ⟨tb, tf + 3, none⟩) htb).trans t3
            have t5 := (hb.cell (p := ⟨tb, tf + 5, none⟩) htb).trans t5
            have htb := Nat.lt_of_lt_of_le htb hb.size
            clear hb K1 D1
            go_wp2_with fail
            refine (HX3.out _).mono ?_
            rintro e w3 ⟨rfl, hb⟩
            have K3 := K2.below hb
            have D3 := Lib.hid (D2.out.trans (hb.mono D2.out.size))
            have t1 := (hb.cell (p := ⟨tb, tf + 1, none⟩) htb).trans t1
            have t2 := (hb.cell (p := ⟨tb, tf + 2, none⟩) htb).trans t2
            have t5 := (hb.cell (p := ⟨tb, tf + 5, none⟩) htb).trans t5
            have htb := Nat.lt_of_lt_of_le htb hb.size
            clear hb K2 D2
            go_wp2_with fail
            refine (HX5.out _ (HML.out.on D3.out)).mono ?_
            rintro e w4 ⟨v4, rfl, ho, hb⟩
            obtain ⟨A4, c4, rfl, _⟩ := own_ints ho
            have O4 := Lib.hid (own_low ho D3.out.size)
            clear ho
            have K4 := K3.below hb
            have D4 := Lib.hid (D3.out.trans (hb.mono D3.out.size))
            have t1 := (hb.cell (p := ⟨tb, tf + 1, none⟩) htb).trans t1
            have t2 := (hb.cell (p := ⟨tb, tf + 2, none⟩) htb).trans t2
            have htb := Nat.lt_of_lt_of_le htb hb.size
            clear hb K3 D3
            have a0 := K4.c (i := 0) rfl
            have a1 := K4.c (i := 1) rfl
            have a2 := K4.c (i := 2) rfl
            have a3 := K4.c (i := 3) rfl
            have a4 := K4.c (i := 4) rfl
            have a5 := K4.c (i := 5) rfl
            have a6 := K4.c (i := 6) rfl
            have f0 := K4.fr 0
            have f1 := K4.fr 1
            have f2 := K4.fr 2
            have f3 := K4.fr 3
            have f4 := K4.fr 4
            have f5 := K4.fr 5
            have f6 := K4.fr 6
            have K7 := Lib.hid (Bk.drew1 ((((((((K4).set 0 (.int .i32 r)).set 1 (.int .i32 r)).set 2 (.string x1)).set 3 (.string x2)).set 4 (.int .i64 cl)).set 5 (.string ⟨kl.toArray⟩)).set 6 (.slice A4 inl.length c4)))
            have O7 := Lib.hid (own_sets (u0 := .int .i32 r) (u1 := .int .i32 r) (u2 := .string x1) (u3 := .string x2) (u4 := .int .i64 cl) (u5 := .string ⟨kl.toArray⟩) (u6 := .slice A4 inl.length c4) O4.out K4 (by decide))
            clear HX0 HX3 HX5 htb K4
            have j1 : (1 : Int) < ls.length := by omega
            have j2 : (2 : Int) < ls.length := by omega
            go_wp2_with fail
            go_region
            clear a0 a1 a2 a3 a4 a5 a6 f0 f1 f2 f3 f4 f5 f6
            go_wp2_with fail
            have b0 := K7.out.c (i := 0) rfl
            have b1 := K7.out.c (i := 1) rfl
            have b2 := K7.out.c (i := 2) rfl
            have b3 := K7.out.c (i := 3) rfl
            have b4 := K7.out.c (i := 4) rfl
            have b5 := K7.out.c (i := 5) rfl
            have b6 := K7.out.c (i := 6) rfl
            refine bodyPost_ret (v := .tuple #[.agg #[.int .i32 r, .int .i32 r, .string x1, .string x2, .int .i64 cl, .string ⟨kl.toArray⟩, .slice A4 inl.length c4], .int .i64 0]) (by simp [results, Tryz.results44, go_sem, b0, b1, b2, b3, b4, b5, b6]) rfl ⟨.slice A4 inl.length c4, by rw [H.out, q1.out, q2.out]; rfl, by rw [H.out]; exact O7.out, ((((((((D4.out).setCell (Nat.le_refl _) _).setCell (Nat.le_refl _) _).setCell (Nat.le_refl _) _).setCell (Nat.le_refl _) _).setCell (Nat.le_refl _) _).setCell (Nat.le_refl _) _).setCell (Nat.le_refl _) _).drew⟩
          · have H := Lib.hid (hr.out.trans (e4 rfl rfl hc h5))
            clear hr e1 e2 e3 e4 e5
            have n5 : (er5 != 0) = true := by simpa using h5
            go_enter Tryz.func44, Tryz.ntmps44
            go_wp2_with fail
            refine HS.out.mono ?_
            rintro e w1 ⟨v1, rfl, ho, hb⟩
            obtain ⟨A1, c1, rfl, hx⟩ := own_txs ho
            have K1 := B0.out.below hb
            have D1 := Lib.hid (D0.out.trans (hb.mono D0.out.size))
            clear ho hb HS B0
            obtain ⟨tb, tf, rfl, htb, t0, t1, t2, t3, t5⟩ := txs_six hx hls
            rw [← q0.out] at t0
            rw [← q1.out] at t1
            rw [← q2.out] at t2
            rw [← q3.out] at t3
            rw [← q5.out] at t5
            clear hx
            go_wp2_with fail
            refine (HX0.out _).mono ?_
            rintro e w2 ⟨rfl, hb⟩
            have K2 := K1.below hb
            have D2 := Lib.hid (D1.out.trans (hb.mono D1.out.size))
            have t1 := (hb.cell (p := ⟨tb, tf + 1, none⟩) htb).trans t1
            have t2 := (hb.cell (p := ⟨tb, tf + 2, none⟩) htb).trans t2
            have t3 := (hb.cell (p := ⟨tb, tf + 3, none⟩) htb).trans t3
            have t5 := (hb.cell (p := ⟨tb, tf + 5, none⟩) htb).trans t5
            have htb := Nat.lt_of_lt_of_le htb hb.size
            clear hb K1 D1
            go_wp2_with fail
            refine (HX3.out _).mono ?_
            rintro e w3 ⟨rfl, hb⟩
            have K3 := K2.below hb
            have D3 := Lib.hid (D2.out.trans (hb.mono D2.out.size))
            have t1 := (hb.cell (p := ⟨tb, tf + 1, none⟩) htb).trans t1
            have t2 := (hb.cell (p := ⟨tb, tf + 2, none⟩) htb).trans t2
            have t5 := (hb.cell (p := ⟨tb, tf + 5, none⟩) htb).trans t5
            have htb := Nat.lt_of_lt_of_le htb hb.size
            clear hb K2 D2
            go_wp2_with fail
            refine (HX5.out _ (HML.out.on D3.out)).mono ?_
            rintro e w4 ⟨v4, rfl, ho, hb⟩
            obtain ⟨A4, c4, rfl, _⟩ := own_ints ho
            have O4 := Lib.hid (own_low ho D3.out.size)
            clear ho
            have K4 := K3.below hb
            have D4 := Lib.hid (D3.out.trans (hb.mono D3.out.size))
            have t1 := (hb.cell (p := ⟨tb, tf + 1, none⟩) htb).trans t1
            have t2 := (hb.cell (p := ⟨tb, tf + 2, none⟩) htb).trans t2
            have htb := Nat.lt_of_lt_of_le htb hb.size
            clear hb K3 D3
            have K7 := Lib.hid ((((((((K4).set 0 (.int .i32 0)).set 1 (.int .i32 0)).set 2 (.string ⟨#[]⟩)).set 3 (.string ⟨#[]⟩)).set 4 (.int .i64 0)).set 5 (.string ⟨#[]⟩)).set 6 (.slice none 0 0))
            have a0 := K4.c (i := 0) rfl
            have a1 := K4.c (i := 1) rfl
            have a2 := K4.c (i := 2) rfl
            have a3 := K4.c (i := 3) rfl
            have a4 := K4.c (i := 4) rfl
            have a5 := K4.c (i := 5) rfl
            have a6 := K4.c (i := 6) rfl
            have f0 := K4.fr 0
            have f1 := K4.fr 1
            have f2 := K4.fr 2
            have f3 := K4.fr 3
            have f4 := K4.fr 4
            have f5 := K4.fr 5
            have f6 := K4.fr 6
            go_wp2_with fail
            have b0 := K7.out.c (i := 0) rfl
            have b1 := K7.out.c (i := 1) rfl
            have b2 := K7.out.c (i := 2) rfl
            have b3 := K7.out.c (i := 3) rfl
            have b4 := K7.out.c (i := 4) rfl
            have b5 := K7.out.c (i := 5) rfl
            have b6 := K7.out.c (i := 6) rfl
            refine bodyPost_ret (v := .tuple #[rV z0 (.slice none 0 0), .int .i64 er5]) (by simp [results, Tryz.results44, go_sem, b0, b1, b2, b3, b4, b5, b6, rV, z0]) rfl ⟨_, by rw [H.out], by rw [H.out]; exact World.ownsRow_nil _ _ _ _, (((((((D4.out).setCell (Nat.le_refl _) _).setCell (Nat.le_refl _) _).setCell (Nat.le_refl _) _).setCell (Nat.le_refl _) _).setCell (Nat.le_refl _) _).setCell (Nat.le_refl _) _).setCell (Nat.le_refl _) _⟩
      · have H := Lib.hid (hr.out.trans (e2 rfl h3))
        clear hr e1 e2 e3 e4 e5 HX5
        have n3 : (er3 != 0) = true := by simpa using h3
        go_enter Tryz.func44, Tryz.ntmps44
        go_wp2_with fail
        refine HS.out.mono ?_
        rintro e w1 ⟨v1, rfl, ho, hb⟩
        obtain ⟨A1, c1, rfl, hx⟩ := own_txs ho
        have K1 := B0.out.below hb
        have D1 := Lib.hid (D0.out.trans (hb.mono D0.out.size))
        clear ho hb HS B0
        obtain ⟨tb, tf, rfl, htb, t0, t1, t2, t3, t5⟩ := txs_six hx hls
        rw [← q0.out] at t0
        rw [← q1.out] at t1
        rw [← q2.out] at t2
        rw [← q3.out] at t3
        rw [← q5.out] at t5
        clear hx
        go_wp2_with fail
        refine (HX0.out _).mono ?_
        rintro e w2 ⟨rfl, hb⟩
        have K2 := K1.below hb
        have D2 := Lib.hid (D1.out.trans (hb.mono D1.out.size))
        have t1 := (hb.cell (p := ⟨tb, tf + 1, none⟩) htb).trans t1
        have t2 := (hb.cell (p := ⟨tb, tf + 2, none⟩) htb).trans t2
        have t3 := (hb.cell (p := ⟨tb, tf + 3, none⟩) htb).trans t3
        have t5 := (hb.cell (p := ⟨tb, tf + 5, none⟩) htb).trans t5
        have htb := Nat.lt_of_lt_of_le htb hb.size
        clear hb K1 D1
        go_wp2_with fail
        refine (HX3.out _).mono ?_
        rintro e w3 ⟨rfl, hb⟩
        have K3 := K2.below hb
        have D3 := Lib.hid (D2.out.trans (hb.mono D2.out.size))
        have t1 := (hb.cell (p := ⟨tb, tf + 1, none⟩) htb).trans t1
        have t2 := (hb.cell (p := ⟨tb, tf + 2, none⟩) htb).trans t2
        have t5 := (hb.cell (p := ⟨tb, tf + 5, none⟩) htb).trans t5
        have htb := Nat.lt_of_lt_of_le htb hb.size
        clear hb K2 D2
        have K7 := Lib.hid ((((((((K3).set 0 (.int .i32 0)).set 1 (.int .i32 0)).set 2 (.string ⟨#[]⟩)).set 3 (.string ⟨#[]⟩)).set 4 (.int .i64 0)).set 5 (.string ⟨#[]⟩)).set 6 (.slice none 0 0))
        have a0 := K3.c (i := 0) rfl
        have a1 := K3.c (i := 1) rfl
        have a2 := K3.c (i := 2) rfl
        have a3 := K3.c (i := 3) rfl
        have a4 := K3.c (i := 4) rfl
        have a5 := K3.c (i := 5) rfl
        have a6 := K3.c (i := 6) rfl
        have f0 := K3.fr 0
        have f1 := K3.fr 1
        have f2 := K3.fr 2
        have f3 := K3.fr 3
        have f4 := K3.fr 4
        have f5 := K3.fr 5
        have f6 := K3.fr 6
        go_wp2_with fail
        have b0 := K7.out.c (i := 0) rfl
        have b1 := K7.out.c (i := 1) rfl
        have b2 := K7.out.c (i := 2) rfl
        have b3 := K7.out.c (i := 3) rfl
        have b4 := K7.out.c (i := 4) rfl
        have b5 := K7.out.c (i := 5) rfl
        have b6 := K7.out.c (i := 6) rfl
        refine bodyPost_ret (v := .tuple #[rV z0 (.slice none 0 0), .int .i64 er3]) (by simp [results, Tryz.results44, go_sem, b0, b1, b2, b3, b4, b5, b6, rV, z0]) rfl ⟨_, by rw [H.out], by rw [H.out]; exact World.ownsRow_nil _ _ _ _, (((((((D3.out).setCell (Nat.le_refl _) _).setCell (Nat.le_refl _) _).setCell (Nat.le_refl _) _).setCell (Nat.le_refl _) _).setCell (Nat.le_refl _) _).setCell (Nat.le_refl _) _).setCell (Nat.le_refl _) _⟩
    · have H := Lib.hid (hr.out.trans (e1 h0))
      clear hr e1 e2 e3 e4 e5 HX5 HX3
      have n0 : (er0 != 0) = true := by simpa using h0
      go_enter Tryz.func44, Tryz.ntmps44
      go_wp2_with fail
      refine HS.out.mono ?_
      rintro e w1 ⟨v1, rfl, ho, hb⟩
      obtain ⟨A1, c1, rfl, hx⟩ := own_txs ho
      have K1 := B0.out.below hb
      have D1 := Lib.hid (D0.out.trans (hb.mono D0.out.size))
      clear ho hb HS B0
      obtain ⟨tb, tf, rfl, htb, t0, t1, t2, t3, t5⟩ := txs_six hx hls
      rw [← q0.out] at t0
      rw [← q1.out] at t1
      rw [← q2.out] at t2
      rw [← q3.out] at t3
      rw [← q5.out] at t5
      clear hx
      go_wp2_with fail
      refine (HX0.out _).mono ?_
      rintro e w2 ⟨rfl, hb⟩
      have K2 := K1.below hb
      have D2 := Lib.hid (D1.out.trans (hb.mono D1.out.size))
      have t1 := (hb.cell (p := ⟨tb, tf + 1, none⟩) htb).trans t1
      have t2 := (hb.cell (p := ⟨tb, tf + 2, none⟩) htb).trans t2
      have t3 := (hb.cell (p := ⟨tb, tf + 3, none⟩) htb).trans t3
      have t5 := (hb.cell (p := ⟨tb, tf + 5, none⟩) htb).trans t5
      have htb := Nat.lt_of_lt_of_le htb hb.size
      clear hb K1 D1
      have K7 := Lib.hid ((((((((K2).set 0 (.int .i32 0)).set 1 (.int .i32 0)).set 2 (.string ⟨#[]⟩)).set 3 (.string ⟨#[]⟩)).set 4 (.int .i64 0)).set 5 (.string ⟨#[]⟩)).set 6 (.slice none 0 0))
      have a0 := K2.c (i := 0) rfl
      have a1 := K2.c (i := 1) rfl
      have a2 := K2.c (i := 2) rfl
      have a3 := K2.c (i := 3) rfl
      have a4 := K2.c (i := 4) rfl
      have a5 := K2.c (i := 5) rfl
      have a6 := K2.c (i := 6) rfl
      have f0 := K2.fr 0
      have f1 := K2.fr 1
      have f2 := K2.fr 2
      have f3 := K2.fr 3
      have f4 := K2.fr 4
      have f5 := K2.fr 5
      have f6 := K2.fr 6
      go_wp2_with fail
      have b0 := K7.out.c (i := 0) rfl
      have b1 := K7.out.c (i := 1) rfl
      have b2 := K7.out.c (i := 2) rfl
      have b3 := K7.out.c (i := 3) rfl
      have b4 := K7.out.c (i := 4) rfl
      have b5 := K7.out.c (i := 5) rfl
      have b6 := K7.out.c (i := 6) rfl
      refine bodyPost_ret (v := .tuple #[rV z0 (.slice none 0 0), .int .i64 er0]) (by simp [results, Tryz.results44, go_sem, b0, b1, b2, b3, b4, b5, b6, rV, z0]) rfl ⟨_, by rw [H.out], by rw [H.out]; exact World.ownsRow_nil _ _ _ _, (((((((D2.out).setCell (Nat.le_refl _) _).setCell (Nat.le_refl _) _).setCell (Nat.le_refl _) _).setCell (Nat.le_refl _) _).setCell (Nat.le_refl _) _).setCell (Nat.le_refl _) _).setCell (Nat.le_refl _) _⟩
end Go.Proofs.YtagbeioooohbgaaGreatDoor.Uc
end
section
namespace Go.Proofs.YtagbeioooohbgaaGreatDoor.Uc
open Go.RowKit Fi

theorem str_lst (s : ByteArray) : s.toList = s.data.toList := Lib.toList_data s
theorem str_ne {s t : ByteArray} (h : s ≠ t) : (s.toList == t.toList) = false := by
  rw [str_lst, str_lst]
  simpa using fun h2 => h (str_eq (Array.toList_inj.2 h2))
theorem str_ne2 {s t : ByteArray} (h : s ≠ t) : ¬ s.toList = t.toList := by
  rw [str_lst, str_lst]
  exact fun h2 => h (str_eq h2)
theorem mk_inj {a b : List UInt8} : (⟨a.toArray⟩ : ByteArray) = ⟨b.toArray⟩ ↔ a = b := by simp
def endR (o : Option (List UInt8)) (n2 g1 g2 : ByteArray) (c1 c2 : Int) (l1 l2 : Nat) (f1 f2 : Int) : Bool := match o with
  | none => false
  | some n => decide ((⟨n.toArray⟩ : ByteArray) = n2) && (decide (g1 = g2) && (decide (c1 = c2) && (decide (l1 = 0) && (decide (l2 = 0) && decide (f2 ≤ f1)))))
theorem endR_eq (x y : Rw) : endR (rgN x.nm lastE) ⟨y.nm.toArray⟩ ⟨x.ct.toArray⟩ ⟨y.ct.toArray⟩ x.cl y.cl x.into.length y.into.length x.fr y.fr = endB x y := by
  unfold endR endB
  cases rgN x.nm lastE with
  | none => rfl
  | some n => simp only [mk_inj]
set_option maxRecDepth 100000 in
set_option maxHeartbeats 4000000 in
theorem ends_raw (f1 t1 f2 t2 c1 c2 : Int) (n1 g1 k1 n2 g2 k2 : ByteArray) (A1 A2 : Option Addr) (l1 p1 l2 p2 : Nat) (w : World) (hs : n1.size ≤ 9223372036854775807) :
    Calls Tryz.prog 46 #[.agg #[.int .i32 f1, .int .i32 t1, .string n1, .string g1, .int .i64 c1, .string k1, .slice A1 l1 p1], .agg #[.int .i32 f2, .int .i32 t2, .string n2, .string g2, .int .i64 c2, .string k2, .slice A2 l2 p2]] w
      fun e w' => e = .returned (.bool (endR (rgN n1.data.toList lastE) n2 g1 g2 c1 c2 l1 l2 f1 f2)) ∧ Below w.heap.size w w' := by
  have hR := fun W => range_name n1 ⟨#[44, 32, 76, 97, 115, 116, 62]⟩ W hs
  rw [show (⟨#[44, 32, 76, 97, 115, 116, 62]⟩ : ByteArray).data.toList = lastE from rfl] at hR
  have D := Lib.hid (((Below.refl w.heap.size w).alloc (Nat.le_refl _) (.cells #[.int .i32 f1, .int .i32 t1, .string n1, .string g1, .int .i64 c1, .string k1, .slice A1 l1 p1] 91)).alloc (by simp) (.cells #[.int .i32 f2, .int .i32 t2, .string n2, .string g2, .int .i64 c2, .string k2, .slice A2 l2 p2] 91))
  cases ho : rgN n1.data.toList lastE with
  | none =>
    rw [ho] at hR
    have HR := Lib.hid (show ∀ W, Calls Tryz.prog 45 #[.string n1, .string ⟨#[44, 32, 76, 97, 115, 116, 62]⟩] W fun e w' => e = .returned (.tuple #[.string ⟨#[]⟩, .bool false]) ∧ W = w' from hR)
    clear hR ho
    go_enter Tryz.func46, Tryz.ntmps46
    go_wp2_with (go_at_call 45; refine (HR.out _).mono ?_; rintro e w1 ⟨rfl, rfl⟩)
    go_ret
    exact ⟨rfl, D.out⟩
  | some n =>
    rw [ho] at hR
    obtain ⟨nb, hnb⟩ : ∃ nb : ByteArray, nb = ⟨n.toArray⟩ := ⟨_, rfl⟩
    have hR2 : ∀ W, Calls Tryz.prog 45 #[.string n1, .string ⟨#[44, 32, 76, 97, 115, 116, 62]⟩] W fun e w' => e = .returned (.tuple #[.string ⟨n.toArray⟩, .bool true]) ∧ W = w' := hR
    rw [← hnb] at hR2
    have HR := Lib.hid hR2
    have HE := Lib.hid (show endR (some n) n2 g1 g2 c1 c2 l1 l2 f1 f2 = (decide (nb = n2) && (decide (g1 = g2) && (decide (c1 = c2) && (decide (l1 = 0) && (decide (l2 = 0) && decide (f2 ≤ f1)))))) by rw [hnb]; rfl)
    clear hR hR2 ho hnb
    by_cases q1 : nb = n2
    · subst q1
      by_cases q2 : g1 = g2
      · subst q2
        by_cases q3 : c1 = c2
        · subst q3
          by_cases q4 : l1 = 0
          · subst q4
            by_cases q5 : l2 = 0
            · subst q5
              by_cases q6 : f2 ≤ f1
              · go_enter Tryz.func46, Tryz.ntmps46
                go_wp2_with (go_at_call 45; refine (HR.out _).mono ?_; rintro e w1 ⟨rfl, rfl⟩)
                go_ret
                exact ⟨ret_bool (by rw [HE.out]; simp [q6]), D.out⟩
              · go_enter Tryz.func46, Tryz.ntmps46
                go_wp2_with (go_at_call 45; refine (HR.out _).mono ?_; rintro e w1 ⟨rfl, rfl⟩)
                go_ret
                exact ⟨ret_bool (by rw [HE.out]; simp), D.out⟩
            · have e5 : ((l2 : Int) == 0) = false := by simpa using q5
              go_enter Tryz.func46, Tryz.ntmps46
              go_wp2_with (go_at_call 45; refine (HR.out _).mono ?_; rintro e w1 ⟨rfl, rfl⟩)
              go_ret
              exact ⟨ret_bool (by rw [HE.out]; simp [q5]), D.out⟩
          · have e4 : ((l1 : Int) == 0) = false := by simpa using q4
            go_enter Tryz.func46, Tryz.ntmps46
            go_wp2_with (go_at_call 45; refine (HR.out _).mono ?_; rintro e w1 ⟨rfl, rfl⟩)
            go_ret
            exact ⟨ret_bool (by rw [HE.out]; simp [q4]), D.out⟩
        · have e3 : (c1 == c2) = false := by simpa using q3
          go_enter Tryz.func46, Tryz.ntmps46
          go_wp2_with (go_at_call 45; refine (HR.out _).mono ?_; rintro e w1 ⟨rfl, rfl⟩)
          go_ret
          exact ⟨ret_bool (by rw [HE.out]; simp [q3]), D.out⟩
      · have e2 := str_ne q2
        have e2' := str_ne2 q2
        go_enter Tryz.func46, Tryz.ntmps46
        go_wp2_with (go_at_call 45; refine (HR.out _).mono ?_; rintro e w1 ⟨rfl, rfl⟩)
        go_ret
        exact ⟨ret_bool (by rw [HE.out]; simp [q2]), D.out⟩
    · have e1 := str_ne q1
      have e1' := str_ne2 q1
      go_enter Tryz.func46, Tryz.ntmps46
      go_wp2_with (go_at_call 45; refine (HR.out _).mono ?_; rintro e w1 ⟨rfl, rfl⟩)
      go_ret
      exact ⟨ret_bool (by rw [HE.out]; simp [q1]), D.out⟩

end Go.Proofs.YtagbeioooohbgaaGreatDoor.Uc
end
section
namespace Go.Proofs.YtagbeioooohbgaaGreatDoor.Uc
open Go.RowKit Fi

/-- slices.BinarySearch: the place, and whether it is there. -/
def SfP (w : World) (n : Nat) (f : Bool) (e : Ending) (w' : World) : Prop := e = .returned (.tuple #[.int .i64 (n : Int), .bool f]) ∧ Below w.heap.size w w'
theorem there_iff {s : List Int} {x : Int} (h : s.Pairwise (· < ·)) : x ∈ s ↔ cnt s x < s.length ∧ s.getD (cnt s x) 0 = x := by
  obtain ⟨a, b, e, c, ha, hb⟩ := cnt_split x h
  rw [c]
  have e2 : s.getD a.length 0 = b.getD 0 0 := by rw [e, List.getD_eq_getElem?_getD, List.getD_eq_getElem?_getD, List.getElem?_append_right (Nat.le_refl _), Nat.sub_self]
  have e3 : s.length = a.length + b.length := by rw [e, List.length_append]
  rw [e2, e3]
  constructor
  · intro hx
    rw [e] at hx
    rcases List.mem_append.1 hx with hx | hx
    · have := ha x hx; omega
    · obtain ⟨j, hj, ej⟩ := List.mem_iff_getElem.1 hx
      refine ⟨by omega, ?_⟩
      have h0 : 0 < b.length := by omega
      have h1 := hb b[0] (List.getElem_mem h0)
      rw [e, List.pairwise_append] at h
      have h2 := List.pairwise_iff_getElem.1 h.2.1
      simp only [List.getD_eq_getElem?_getD, List.getElem?_eq_getElem h0, Option.getD_some]
      by_cases hj0 : j = 0
      · subst hj0; exact ej
      · have := h2 0 j h0 hj (by omega)
        omega
  · rintro ⟨h1, h2⟩
    have h0 : 0 < b.length := by omega
    simp only [List.getD_eq_getElem?_getD, List.getElem?_eq_getElem h0, Option.getD_some] at h2
    rw [e]
    refine List.mem_append.2 (.inr ?_)
    rw [← h2]
    exact List.getElem_mem h0
set_option maxHeartbeats 4000000 in
set_option maxRecDepth 100000 in
theorem found_some (b off c : Nat) (s : List Int) (x : Int) (w : World) (hl : Ints .i32 w (some ⟨b, off, none⟩) s) (hz : s.length ≤ 10000) (hr : s.Pairwise (· < ·)) :
    Calls Tryz.prog 50 #[.slice (some ⟨b, off, none⟩) s.length c, .int .i32 x] w (SfP w (cnt s x) (decide (x ∈ s))) := by
  have hc : ∀ j, j < s.length → w.cell? ⟨b, off + j, none⟩ = some (.int .i32 (s.getD j 0)) := fun j hj => by
    obtain ⟨b', off', e, _, h⟩ := hl j hj
    cases e
    exact h
  have HC := Lib.hid hc
  have S := Lib.hid (rise_at hr)
  have HF := Lib.hid (fun (i : Nat) (hi : i ≤ s.length) (h1 : ∀ k, k < i → s.getD k 0 < x) (h2 : ∀ k, i ≤ k → k < s.length → x ≤ s.getD k 0) => cnt_at hi h1 h2)
  have HT := Lib.hid (there_iff (x := x) hr)
  clear hc hl hr
  obtain ⟨n, hn⟩ : ∃ n, n = s.length := ⟨_, rfl⟩
  rw [← hn] at hz HC S HF HT ⊢
  obtain ⟨fd, hfd⟩ : ∃ fd, fd = decide (x ∈ s) := ⟨_, rfl⟩
  rw [← hfd]
  have HFD := Lib.hid hfd
  clear hfd
  clear hn
  generalize cnt s x = ct at *
  go_enter Tryz.func50, Tryz.ntmps50
  go_wp2_with fail
  go_loopw [7, 8] (fun s7 s8 wr => ∃ lo hi : Nat, s7 = .int .i64 lo ∧ s8 = .int .i64 hi ∧ lo ≤ hi ∧ hi ≤ n ∧ wr = w ∧ Hid ((∀ t, t < lo → s.getD t 0 < x) ∧ (∀ t, hi ≤ t → t < n → x ≤ s.getD t 0))) (fun s7 s8 _ => (intOf s8).toNat - (intOf s7).toNat)
  case atStart => exact ⟨0, n, rfl, rfl, Nat.zero_le _, Nat.le_refl _, rfl, fun t ht => absurd ht (Nat.not_lt_zero _), fun t h1 h2 => by omega⟩
  case round =>
    obtain ⟨lo, hi, rfl, rfl, hlh, hin, rfl, I⟩ := hrel
    by_cases hlt : lo < hi
    · have cm := HC.out ((lo + hi) / 2) (by omega)
      generalize hy : s.getD ((lo + hi) / 2) 0 = y at cm
      have Y := Lib.hid hy
      clear hy
      by_cases hyx : y < x
      · go_wp2_with (go_at_call 80; refine (less_any _ _ _).mono ?_; rintro e w' ⟨rfl, rfl⟩)
        go_roundw
        case measure => simp [intOf]; omega
        case rel =>
          refine ⟨(lo + hi) / 2 + 1, hi, by go_num, rfl, by omega, hin, trivial, fun t ht => ?_, I.out.2⟩
          have := S.out t ((lo + hi) / 2) (by omega) (by omega)
          rw [Y.out] at this
          omega
      · go_wp2_with (go_at_call 80; refine (less_any _ _ _).mono ?_; rintro e w' ⟨rfl, rfl⟩)
        go_roundw
        case measure => simp [intOf]; omega
        case rel =>
          refine ⟨lo, (lo + hi) / 2, rfl, by go_num, by omega, by omega, trivial, I.out.1, fun t h1 h2 => ?_⟩
          have := S.out ((lo + hi) / 2) t h1 h2
          rw [Y.out] at this
          omega
    · obtain rfl : lo = hi := by omega
      have E := HF.out lo hin I.out.1 I.out.2
      subst E
      by_cases hn : ct < n
      · have cm := HC.out ct hn
        generalize hy : s.getD ct 0 = y at cm
        have HY := Lib.hid hy
        clear hy
        by_cases hyx : y = x
        · have hq : (y == x) = true := by simpa using hyx
          have HE : Hid (fd = true) := Lib.hid (by rw [HFD.out]; simpa using HT.out.2 ⟨hn, by rw [HY.out, hyx]⟩)
          clear hyx
          go_wp2_with (go_at_call 81; refine (snan_any _ _).mono ?_; rintro e w' ⟨rfl, rfl⟩)
          all_goals (go_ret2; exact ⟨by rw [HE.out]; rfl, Below.refl _ _⟩)
        · have hq : (y == x) = false := by simpa using hyx
          have HE : Hid (fd = false) := Lib.hid (by rw [HFD.out]; simpa using fun h => hyx (by rw [← HY.out]; exact (HT.out.1 h).2))
          clear hyx
          go_wp2_with (go_at_call 81; refine (snan_any _ _).mono ?_; rintro e w' ⟨rfl, rfl⟩)
          all_goals (go_ret2; exact ⟨by rw [HE.out]; rfl, Below.refl _ _⟩)
      · have HE : Hid (fd = false) := Lib.hid (by rw [HFD.out]; simpa using fun h => hn (HT.out.1 h).1)
        go_wp2_with fail
        all_goals (go_ret2; exact ⟨by rw [HE.out]; rfl, Below.refl _ _⟩)
set_option maxHeartbeats 4000000 in
set_option maxRecDepth 100000 in
theorem found_none (A : Option Addr) (c : Nat) (x : Int) (w : World) :
    Calls Tryz.prog 50 #[.slice A 0 c, .int .i32 x] w (SfP w 0 false) := by
  go_enter Tryz.func50, Tryz.ntmps50
  go_wp2_with fail
  go_loopw [7, 8] (fun s7 s8 wr => s7 = .int .i64 0 ∧ s8 = .int .i64 0 ∧ wr = w) (fun _ _ _ => 0)
  case atStart => exact ⟨rfl, rfl, rfl⟩
  case round =>
    obtain ⟨rfl, rfl, rfl⟩ := hrel
    go_wp2_with fail
    go_ret2
    exact ⟨rfl, Below.refl _ _⟩
theorem found_any (A : Option Addr) (c : Nat) (s : List Int) (x : Int) (w : World) (hl : Ints .i32 w A s) (hz : s.length ≤ 10000) (hr : s.Pairwise (· < ·)) :
    Calls Tryz.prog 50 #[.slice A s.length c, .int .i32 x] w (SfP w (cnt s x) (decide (x ∈ s))) := by
  cases s with
  | nil => exact found_none A c x w
  | cons y s =>
    obtain ⟨b, off, rfl, _⟩ := hl 0 (by simp)
    exact found_some b off c (y :: s) x w hl hz hr

end Go.Proofs.YtagbeioooohbgaaGreatDoor.Uc
end

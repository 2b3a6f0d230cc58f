import Derived.Test.YtajhgbcgbgpcjaaDoorGC
import Derived.Test.YtajhgbcgbgpcjaaDoorFSa
namespace Go.Proofs.YtajhgbcgbgpcjaaDoor.Uc
open Go.RowKit Fi

theorem intT_1 {k s : List UInt8} {need : Bool} (h : (rnsE s).2 ≠ 0) : intT k s need = ([], [], (rnsE s).2) := by unfold intT; rw [if_pos h]
theorem intT_2 {k s : List UInt8} {need : Bool} (h : (rnsE s).2 = 0) (h2 : need = true ∧ (rnsE s).1 = []) : intT k s need = ([], [], 10) := by unfold intT; rw [if_neg (by simpa using h), if_pos h2]
theorem intT_3 {k s : List UInt8} {need : Bool} (h : (rnsE s).2 = 0) (h2 : ¬ (need = true ∧ (rnsE s).1 = [])) (h3 : 18 < (rnsE s).1.length) : intT k s need = ([], [], 11) := by unfold intT; rw [if_neg (by simpa using h), if_neg h2, if_pos h3]
theorem intT_4 {k s : List UInt8} {need : Bool} (h : (rnsE s).2 = 0) (h2 : ¬ (need = true ∧ (rnsE s).1 = [])) (h3 : ¬ 18 < (rnsE s).1.length) : intT k s need = (k, (rnsE s).1, 0) := by unfold intT; rw [if_neg (by simpa using h), if_neg h2, if_neg h3]

def PaP (w : World) (x : List UInt8 × List Int × Int) (e : Ending) (w' : World) : Prop := ∃ v, e = .returned (.tuple #[.string ⟨x.1.toArray⟩, v, .int .i64 x.2.2]) ∧ w'.ownsRow w.heap.size 21 1 v x.2.1.length (i32s x.2.1) ∧ Below w.heap.size w w'
set_option maxRecDepth 100000 in
set_option maxHeartbeats 4000000 in
theorem parts_no (s : ByteArray) (w : World) (hs : s.size ≤ 100000) (hp : Lib.hasPrefix s.data.toList [60] = false) :
    Calls Tryd.prog 38 #[.string s] w (PaP w (intE s.data.toList)) := by
  have h1 := fun W => Tryd.strings_CutPrefix s ⟨#[60]⟩ W
  rw [show (⟨#[60]⟩ : ByteArray).data.toList = [60] from rfl] at h1
  unfold Lib.trimPrefix at h1
  have HI := Lib.hid (show intE s.data.toList = intT [] s.data.toList false by unfold intE; rw [hp]; rfl)
  rw [hp] at h1
  simp only [Bool.false_eq_true, if_false] at h1
  rw [show (⟨s.data.toList.toArray⟩ : ByteArray) = s from rfl] at h1
  have H1 := Lib.hid h1
  clear h1 hp
  have hR := fun W => runes_sl s W hs
  have t1 := @intT_1 [] s.data.toList false
  have t2 := @intT_2 [] s.data.toList false
  have t3 := @intT_3 [] s.data.toList false
  have t4 := @intT_4 [] s.data.toList false
  generalize rnsE s.data.toList = x at *
  obtain ⟨xs, er⟩ := x
  unfold RnSl at hR
  simp only at hR
  have t1 : er ≠ 0 → intT [] s.data.toList false = ([], [], er) := t1
  have t2 : er = 0 → false = true ∧ xs = [] → intT [] s.data.toList false = ([], [], 10) := t2
  have t3 : er = 0 → ¬ (false = true ∧ xs = []) → 18 < xs.length → intT [] s.data.toList false = ([], [], 11) := t3
  have t4 : er = 0 → ¬ (false = true ∧ xs = []) → ¬ 18 < xs.length → intT [] s.data.toList false = ([], xs, 0) := t4
  have HR := Lib.hid hR
  clear hR
  by_cases h1 : er = 0
  · subst h1
    by_cases h2 : false = true ∧ xs = []
    · have H2 := Lib.hid (HI.out.trans (t2 rfl h2))
      clear t1 t2 t3 t4 HI
      obtain ⟨hn, rfl⟩ := h2
      cases hn
    · by_cases h3 : 18 < xs.length
      · have H2 := Lib.hid (HI.out.trans (t3 rfl h2 h3))
        clear t1 t2 t3 t4 HI
        have g1 : (18 : Int) < xs.length := by omega
        have e2 : ((xs.length : Int) == 0) = false := by have h9 : (xs.length : Int) ≠ 0 := (by omega); simpa using h9
        clear h2
        go_enter Tryd.func38, Tryd.ntmps38
        go_wp2_with (first
          | (go_at_call 39; refine (H1.out _).mono ?_; rintro e w1 ⟨rfl, rfl⟩)
          | (go_at_call 63; refine (HR.out _).mono ?_; rintro e w3 ⟨A3, c3, rfl, ho, hi, hb⟩; have O3 := Lib.hid ho; have B3 := Lib.hid hb; clear ho hi hb))
        refine bodyPost_ret (v := .tuple #[.string ⟨#[]⟩, .slice none 0 0, .int .i64 11]) (by simp [results, Tryd.results38, go_sem]) rfl ⟨_, by rw [H2.out], by rw [H2.out]; exact World.ownsRow_nil _ _ _ _, B3.out⟩
      · have H2 := Lib.hid (HI.out.trans (t4 rfl h2 h3))
        clear t1 t2 t3 t4 HI
        have g1 : ¬ (18 : Int) < xs.length := by omega
        clear h2
        go_enter Tryd.func38, Tryd.ntmps38
        go_wp2_with (first
          | (go_at_call 39; refine (H1.out _).mono ?_; rintro e w1 ⟨rfl, rfl⟩)
          | (go_at_call 63; refine (HR.out _).mono ?_; rintro e w3 ⟨A3, c3, rfl, ho, hi, hb⟩; have O3 := Lib.hid ho; have B3 := Lib.hid hb; clear ho hi hb))
        refine bodyPost_ret (v := .tuple #[.string ⟨#[]⟩, .slice A3 xs.length c3, .int .i64 0]) (by simp [results, Tryd.results38, go_sem]) rfl ⟨_, by rw [H2.out], by rw [H2.out]; exact own_low O3.out (Nat.le_refl _), B3.out⟩
  · have H2 := Lib.hid (HI.out.trans (t1 h1))
    clear t1 t2 t3 t4 HI
    have e1 : (er != 0) = true := by simpa using h1
    clear h1
    go_enter Tryd.func38, Tryd.ntmps38
    go_wp2_with (first
      | (go_at_call 39; refine (H1.out _).mono ?_; rintro e w1 ⟨rfl, rfl⟩)
      | (go_at_call 63; refine (HR.out _).mono ?_; rintro e w3 ⟨A3, c3, rfl, ho, hi, hb⟩; have O3 := Lib.hid ho; have B3 := Lib.hid hb; clear ho hi hb))
    refine bodyPost_ret (v := .tuple #[.string ⟨#[]⟩, .slice none 0 0, .int .i64 er]) (by simp [results, Tryd.results38, go_sem]) rfl ⟨_, by rw [H2.out], by rw [H2.out]; exact World.ownsRow_nil _ _ _ _, B3.out⟩
set_option maxRecDepth 100000 in
set_option maxHeartbeats 8000000 in
theorem parts_yes (s : ByteArray) (w : World) (hM : Ml w) (hs : s.size ≤ 100000) (hp : Lib.hasPrefix s.data.toList [60] = true) :
    Calls Tryd.prog 38 #[.string s] w (PaP w (intE s.data.toList)) := by
  have h1 := fun W => Tryd.strings_CutPrefix s ⟨#[60]⟩ W
  rw [show (⟨#[60]⟩ : ByteArray).data.toList = [60] from rfl] at h1
  unfold Lib.trimPrefix at h1
  rw [hp] at h1
  simp only [if_true, List.length_singleton] at h1
  obtain ⟨u, hu⟩ : ∃ u : ByteArray, u = ⟨(s.data.toList.drop 1).toArray⟩ := ⟨_, rfl⟩
  have hul : u.data.toList = s.data.toList.drop 1 := by rw [hu]
  have huz : u.size ≤ 100000 := by rw [← lst_len, hul, List.length_drop, lst_len]; omega
  rw [← hu] at h1
  have H1 := Lib.hid h1
  have hc := cut_any u ⟨#[62]⟩ w hM (by omega)
  rw [show (⟨#[62]⟩ : ByteArray).data.toList = [62] from rfl] at hc
  have HI0 := Lib.hid (show intE s.data.toList = if (Lib.cut u.data.toList [62]).2.2 = true ∧ (Lib.cut u.data.toList [62]).1 ≠ [] ∧ ltrs (Lib.cut u.data.toList [62]).1 = true then intT (Lib.cut u.data.toList [62]).1 (Lib.cut u.data.toList [62]).2.1 true else ([], [], 10) by rw [hul]; unfold intE; rw [hp]; rfl)
  obtain ⟨hl1, hl2⟩ := cut_le u.data.toList [62]
  rw [lst_len] at hl1 hl2
  clear h1 hp hul hu hM
  generalize Lib.cut u.data.toList [62] = x at *
  obtain ⟨kl, rl, f⟩ := x
  simp only at hc hl1 hl2 HI0
  obtain ⟨kb, hkb⟩ : ∃ kb : ByteArray, kb = ⟨kl.toArray⟩ := ⟨_, rfl⟩
  obtain ⟨rb, hrb⟩ : ∃ rb : ByteArray, rb = ⟨rl.toArray⟩ := ⟨_, rfl⟩
  have hkl : kb.data.toList = kl := by rw [hkb]
  have hrl : rb.data.toList = rl := by rw [hrb]
  have hkz : kb.size = kl.length := by rw [hkb, size_mk]
  have hrz : rb.size = rl.length := by rw [hrb, size_mk]
  rw [← hkb, ← hrb] at hc
  have HC := Lib.hid hc
  have HKB := Lib.hid hkb
  clear hc hkb hrb
  cases f with
  | false =>
    have H2 := Lib.hid (show intE s.data.toList = ([], [], 10) by rw [HI0.out, if_neg (fun h => by cases h.1)])
    clear HI0 hkl hrl
    go_enter Tryd.func38, Tryd.ntmps38
    go_wp2_with (first
      | (go_at_call 39; refine (H1.out _).mono ?_; rintro e w1 ⟨rfl, rfl⟩)
      | (go_at_call 47; refine HC.out.mono ?_; rintro e w2 ⟨rfl, hb⟩; have B2 := Lib.hid hb; clear hb))
    refine bodyPost_ret (v := .tuple #[.string ⟨#[]⟩, .slice none 0 0, .int .i64 10]) (by simp [results, Tryd.results38, go_sem]) rfl ⟨_, by rw [H2.out], by rw [H2.out]; exact World.ownsRow_nil _ _ _ _, B2.out⟩
  | true =>
    have key : kb.size = 0 ∨ 0 < kb.size := by omega
    rcases key with h0 | h0
    · have H2 := Lib.hid (show intE s.data.toList = ([], [], 10) by rw [HI0.out, if_neg (fun h => h.2.1 (List.eq_nil_of_length_eq_zero (by omega)))])
      obtain rfl := emp_yes h0
      clear HI0 hkl hrl
      go_enter Tryd.func38, Tryd.ntmps38
      go_wp2_with (first
        | (go_at_call 39; refine (H1.out _).mono ?_; rintro e w1 ⟨rfl, rfl⟩)
        | (go_at_call 47; refine HC.out.mono ?_; rintro e w2 ⟨rfl, hb⟩; have B2 := Lib.hid hb; clear hb))
      refine bodyPost_ret (v := .tuple #[.string ⟨#[]⟩, .slice none 0 0, .int .i64 10]) (by simp [results, Tryd.results38, go_sem]) rfl ⟨_, by rw [H2.out], by rw [H2.out]; exact World.ownsRow_nil _ _ _ _, B2.out⟩
    · have he := emp_no h0
      have hne := emp_ne h0
      have hL := fun W => letters_any kb W (by omega)
      rw [hkl] at hL
      cases hb : ltrs kl with
      | false =>
        have H2 := Lib.hid (show intE s.data.toList = ([], [], 10) by rw [HI0.out, if_neg (fun h => by rw [hb] at h; cases h.2.2)])
        rw [hb] at hL
        have HL := Lib.hid hL
        clear HI0 hkl hrl hL hb
        go_enter Tryd.func38, Tryd.ntmps38
        go_wp2_with (first
          | (go_at_call 39; refine (H1.out _).mono ?_; rintro e w1 ⟨rfl, rfl⟩)
          | (go_at_call 47; refine HC.out.mono ?_; rintro e w2 ⟨rfl, hb⟩; have B2 := Lib.hid hb; clear hb)
          | (go_at_call 57; refine (HL.out _).mono ?_; rintro e w4 ⟨rfl, rfl⟩))
        refine bodyPost_ret (v := .tuple #[.string ⟨#[]⟩, .slice none 0 0, .int .i64 10]) (by simp [results, Tryd.results38, go_sem]) rfl ⟨_, by rw [H2.out], by rw [H2.out]; exact World.ownsRow_nil _ _ _ _, B2.out⟩
      | true =>
        have HI := Lib.hid (show intE s.data.toList = intT kl rl true by rw [HI0.out, if_pos ⟨rfl, fun h => (by have h9 : kl.length = 0 := (by rw [h]; rfl); omega), hb⟩])
        rw [hb] at hL
        have HL := Lib.hid hL
        clear HI0 hL hb
        have hR := fun W => runes_sl rb W (by omega)
        rw [hrl] at hR
        have t1 := @intT_1 kl rl true
        have t2 := @intT_2 kl rl true
        have t3 := @intT_3 kl rl true
        have t4 := @intT_4 kl rl true
        generalize rnsE rl = x at *
        obtain ⟨xs, er⟩ := x
        unfold RnSl at hR
        simp only at hR
        have t1 : er ≠ 0 → intT kl rl true = ([], [], er) := t1
        have t2 : er = 0 → true = true ∧ xs = [] → intT kl rl true = ([], [], 10) := t2
        have t3 : er = 0 → ¬ (true = true ∧ xs = []) → 18 < xs.length → intT kl rl true = ([], [], 11) := t3
        have t4 : er = 0 → ¬ (true = true ∧ xs = []) → ¬ 18 < xs.length → intT kl rl true = (kl, xs, 0) := t4
        have HR := Lib.hid hR
        clear hR
        by_cases h1 : er = 0
        · subst h1
          by_cases h2 : true = true ∧ xs = []
          · have H2 := Lib.hid (HI.out.trans (t2 rfl h2))
            clear t1 t2 t3 t4 HI
            obtain ⟨hn, rfl⟩ := h2
            go_enter Tryd.func38, Tryd.ntmps38
            go_wp2_with (first
              | (go_at_call 39; refine (H1.out _).mono ?_; rintro e w1 ⟨rfl, rfl⟩)
              | (go_at_call 47; refine HC.out.mono ?_; rintro e w2 ⟨rfl, hb⟩; have B2 := Lib.hid hb; clear hb)
              | (go_at_call 57; refine (HL.out _).mono ?_; rintro e w4 ⟨rfl, rfl⟩)
              | (go_at_call 63; refine (HR.out _).mono ?_; rintro e w3 ⟨A3, c3, rfl, ho, hi, hb⟩; have O3 := Lib.hid ho; have B3 := Lib.hid hb; clear ho hi hb))
            refine bodyPost_ret (v := .tuple #[.string ⟨#[]⟩, .slice none 0 0, .int .i64 10]) (by simp [results, Tryd.results38, go_sem]) rfl ⟨_, by rw [H2.out], by rw [H2.out]; exact World.ownsRow_nil _ _ _ _, B2.out.trans (B3.out.mono B2.out.size)⟩
          · by_cases h3 : 18 < xs.length
            · have H2 := Lib.hid (HI.out.trans (t3 rfl h2 h3))
              clear t1 t2 t3 t4 HI
              have g1 : (18 : Int) < xs.length := by omega
              have e2 : ((xs.length : Int) == 0) = false := by have h9 : (xs.length : Int) ≠ 0 := (by omega); simpa using h9
              clear h2
              go_enter Tryd.func38, Tryd.ntmps38
              go_wp2_with (first
                | (go_at_call 39; refine (H1.out _).mono ?_; rintro e w1 ⟨rfl, rfl⟩)
                | (go_at_call 47; refine HC.out.mono ?_; rintro e w2 ⟨rfl, hb⟩; have B2 := Lib.hid hb; clear hb)
                | (go_at_call 57; refine (HL.out _).mono ?_; rintro e w4 ⟨rfl, rfl⟩)
                | (go_at_call 63; refine (HR.out _).mono ?_; rintro e w3 ⟨A3, c3, rfl, ho, hi, hb⟩; have O3 := Lib.hid ho; have B3 := Lib.hid hb; clear ho hi hb))
              refine bodyPost_ret (v := .tuple #[.string ⟨#[]⟩, .slice none 0 0, .int .i64 11]) (by simp [results, Tryd.results38, go_sem]) rfl ⟨_, by rw [H2.out], by rw [H2.out]; exact World.ownsRow_nil _ _ _ _, B2.out.trans (B3.out.mono B2.out.size)⟩
            · have H2 := Lib.hid (HI.out.trans (t4 rfl h2 h3))
              clear t1 t2 t3 t4 HI
              have g1 : ¬ (18 : Int) < xs.length := by omega
              have e2 : ((xs.length : Int) == 0) = false := by
                have h9 : xs ≠ [] := fun h => h2 ⟨rfl, h⟩
                simpa using h9
              clear h2
              go_enter Tryd.func38, Tryd.ntmps38
              go_wp2_with (first
                | (go_at_call 39; refine (H1.out _).mono ?_; rintro e w1 ⟨rfl, rfl⟩)
                | (go_at_call 47; refine HC.out.mono ?_; rintro e w2 ⟨rfl, hb⟩; have B2 := Lib.hid hb; clear hb)
                | (go_at_call 57; refine (HL.out _).mono ?_; rintro e w4 ⟨rfl, rfl⟩)
                | (go_at_call 63; refine (HR.out _).mono ?_; rintro e w3 ⟨A3, c3, rfl, ho, hi, hb⟩; have O3 := Lib.hid ho; have B3 := Lib.hid hb; clear ho hi hb))
              refine bodyPost_ret (v := .tuple #[.string kb, .slice A3 xs.length c3, .int .i64 0]) (by simp [results, Tryd.results38, go_sem]) rfl ⟨_, by rw [H2.out, ← HKB.out], by rw [H2.out]; exact own_low O3.out (B2.out.size), B2.out.trans (B3.out.mono B2.out.size)⟩
        · have H2 := Lib.hid (HI.out.trans (t1 h1))
          clear t1 t2 t3 t4 HI
          have e1 : (er != 0) = true := by simpa using h1
          clear h1
          go_enter Tryd.func38, Tryd.ntmps38
          go_wp2_with (first
            | (go_at_call 39; refine (H1.out _).mono ?_; rintro e w1 ⟨rfl, rfl⟩)
            | (go_at_call 47; refine HC.out.mono ?_; rintro e w2 ⟨rfl, hb⟩; have B2 := Lib.hid hb; clear hb)
            | (go_at_call 57; refine (HL.out _).mono ?_; rintro e w4 ⟨rfl, rfl⟩)
            | (go_at_call 63; refine (HR.out _).mono ?_; rintro e w3 ⟨A3, c3, rfl, ho, hi, hb⟩; have O3 := Lib.hid ho; have B3 := Lib.hid hb; clear ho hi hb))
          refine bodyPost_ret (v := .tuple #[.string ⟨#[]⟩, .slice none 0 0, .int .i64 er]) (by simp [results, Tryd.results38, go_sem]) rfl ⟨_, by rw [H2.out], by rw [H2.out]; exact World.ownsRow_nil _ _ _ _, B2.out.trans (B3.out.mono B2.out.size)⟩
theorem parts_any (s : ByteArray) (w : World) (hM : Ml w) (hs : s.size ≤ 100000) : Calls Tryd.prog 38 #[.string s] w (PaP w (intE s.data.toList)) := by
  cases hp : Lib.hasPrefix s.data.toList [60] with
  | false => exact parts_no s w hs hp
  | true => exact parts_yes s w hM hs hp

end Go.Proofs.YtajhgbcgbgpcjaaDoor.Uc

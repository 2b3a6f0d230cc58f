import Derived.Test.YtajhgbcgbgpcjaaDoorFDa
namespace Go.Proofs.YtajhgbcgbgpcjaaDoor.Fi
open Go.RowKit

set_option maxHeartbeats 2000000 in
theorem range_any (s : ByteArray) (w : World) (hM : Ml w) (hs : s.size < 4294967281) :
    Calls Tryd.prog 26 #[.string s] w fun e w' => e = .returned (r3V (rngE s.data.toList)) ∧ Below w.heap.size w w' := by
  have hc := cut_any s ⟨#[46, 46]⟩ w hM hs
  have HX := Lib.hid (fun W => hex_any s W (by omega))
  rw [show (⟨#[46, 46]⟩ : ByteArray).data.toList = [46, 46] from rfl] at hc
  have hl1 := (cut_le s.data.toList [46, 46]).1
  have hl2 := (cut_le s.data.toList [46, 46]).2
  rw [lst_len] at hl1 hl2
  clear hM
  obtain ⟨x, hx⟩ : ∃ x, x = Lib.cut s.data.toList [46, 46] := ⟨_, rfl⟩
  obtain ⟨a, b, f⟩ := x
  rw [← hx] at hc hl1 hl2
  simp only at hc hl1 hl2
  have HC := Lib.hid hc
  clear hc
  cases f with
  | false =>
    have H := Lib.hid (show rngE s.data.toList = ((hexE s.data.toList).1, (hexE s.data.toList).1, (hexE s.data.toList).2) by unfold rngE; rw [← hx]; rfl)
    clear hx hl1 hl2
    obtain ⟨y, hy⟩ : ∃ y, y = hexE s.data.toList := ⟨_, rfl⟩
    obtain ⟨r, e⟩ := y
    have hX := HX.out
    have hH := H.out
    rw [← hy] at hX hH
    have HX := Lib.hid hX
    have H := Lib.hid hH
    clear hX hH hy
    unfold reV at HX
    go_enter Tryd.func26, Tryd.ntmps26
    go_wp2_with (first
      | (go_at_call 47; refine HC.out.mono ?_; rintro e w1 ⟨rfl, hb⟩; have B1 := Lib.hid hb; clear hb)
      | (go_at_call 36; refine (HX.out _).mono ?_; rintro e w2 ⟨rfl, hb⟩; have B2 := Lib.hid hb; clear hb))
    refine bodyPost_ret (v := .tuple #[.int .i32 r, .int .i32 r, .int .i64 e]) (by simp [results, Tryd.results26, go_sem]) rfl ⟨ret_eq (by rw [H.out]; rfl), B1.out.trans (B2.out.mono B1.out.size)⟩
  | true =>
    have H := Lib.hid (show rngE s.data.toList = (if (hexE (bareL a)).2 ≠ 0 then (0, 0, (hexE (bareL a)).2) else if (hexE (bareL b)).2 ≠ 0 then (0, 0, (hexE (bareL b)).2) else if (hexE (bareL b)).1 < (hexE (bareL a)).1 then (0, 0, 11) else ((hexE (bareL a)).1, (hexE (bareL b)).1, 0)) by unfold rngE; rw [← hx]; rfl)
    clear hx HX
    have HBa := Lib.hid (fun W => bare_any ⟨a.toArray⟩ W (by rw [size_mk]; omega))
    have HBb := Lib.hid (fun W => bare_any ⟨b.toArray⟩ W (by rw [size_mk]; omega))
    have hba := bareL_le a
    have hbb := bareL_le b
    have ha := hexE_cases (bareL a)
    have hb := hexE_cases (bareL b)
    have hXa := fun W => hex_any ⟨(bareL a).toArray⟩ W (by rw [size_mk]; omega)
    have hXb := fun W => hex_any ⟨(bareL b).toArray⟩ W (by rw [size_mk]; omega)
    simp only at hXa hXb
    obtain ⟨y, hy⟩ : ∃ y, y = hexE (bareL a) := ⟨_, rfl⟩
    obtain ⟨z, hz⟩ : ∃ z, z = hexE (bareL b) := ⟨_, rfl⟩
    have hH := H.out
    rw [← hy, ← hz] at hH
    rw [← hy] at ha hXa
    rw [← hz] at hb hXb
    obtain ⟨r, e⟩ := y
    obtain ⟨q, f⟩ := z
    unfold reV at hXa hXb
    simp only at ha hb hXa hXb hH
    simp only at HBa HBb
    clear hy hz H hba hbb hl1 hl2
    have H := Lib.hid hH
    have HXa := Lib.hid hXa
    have HXb := Lib.hid hXb
    clear hH hXa hXb
    rcases ha with ⟨rfl, har⟩ | ⟨rfl, hae⟩
    · obtain ⟨har0, har1⟩ := scal_bd har
      clear har
      rcases hb with ⟨rfl, hbr⟩ | ⟨rfl, hbe⟩
      · obtain ⟨hbr0, hbr1⟩ := scal_bd hbr
        clear hbr
        by_cases hlt : q < r
        · have H := Lib.hid (show rngE s.data.toList = (0, 0, 11) by rw [H.out]; simp [hlt])
          go_enter Tryd.func26, Tryd.ntmps26
          go_wp2_with fail
          refine HC.out.mono ?_; rintro e w1 ⟨rfl, hb⟩; have B1 := Lib.hid hb; clear hb
          go_wp2_with fail
          refine (HBa.out _).mono ?_; rintro e w2 ⟨rfl, hb⟩; have B2 := Lib.hid hb; clear hb
          go_wp2_with fail
          refine (HXa.out _).mono ?_; rintro e w3 ⟨rfl, hb⟩; have B3 := Lib.hid hb; clear hb
          go_wp2_with fail
          refine (HBb.out _).mono ?_; rintro e w4 ⟨rfl, hb⟩; have B4 := Lib.hid hb; clear hb
          go_wp2_with fail
          refine (HXb.out _).mono ?_; rintro e w5 ⟨rfl, hb⟩; have B5 := Lib.hid hb; clear hb
          go_wp2_with fail
          have b2 := B1.out.trans (B2.out.mono B1.out.size)
          have b3 := b2.trans (B3.out.mono b2.size)
          have b4 := b3.trans (B4.out.mono b3.size)
          have b5 := b4.trans (B5.out.mono b4.size)
          refine bodyPost_ret (v := .tuple #[.int .i32 0, .int .i32 0, .int .i64 11]) (by simp [results, Tryd.results26, go_sem]) rfl ⟨ret_eq (by rw [H.out]; rfl), b5⟩
        · have H := Lib.hid (show rngE s.data.toList = (r, q, 0) by rw [H.out]; simp [hlt])
          go_enter Tryd.func26, Tryd.ntmps26
          go_wp2_with fail
          refine HC.out.mono ?_; rintro e w1 ⟨rfl, hb⟩; have B1 := Lib.hid hb; clear hb
          go_wp2_with fail
          refine (HBa.out _).mono ?_; rintro e w2 ⟨rfl, hb⟩; have B2 := Lib.hid hb; clear hb
          go_wp2_with fail
          refine (HXa.out _).mono ?_; rintro e w3 ⟨rfl, hb⟩; have B3 := Lib.hid hb; clear hb
          go_wp2_with fail
          refine (HBb.out _).mono ?_; rintro e w4 ⟨rfl, hb⟩; have B4 := Lib.hid hb; clear hb
          go_wp2_with fail
          refine (HXb.out _).mono ?_; rintro e w5 ⟨rfl, hb⟩; have B5 := Lib.hid hb; clear hb
          go_wp2_with fail
          have b2 := B1.out.trans (B2.out.mono B1.out.size)
          have b3 := b2.trans (B3.out.mono b2.size)
          have b4 := b3.trans (B4.out.mono b3.size)
          have b5 := b4.trans (B5.out.mono b4.size)
          refine bodyPost_ret (v := .tuple #[.int .i32 r, .int .i32 q, .int .i64 0]) (by simp [results, Tryd.results26, go_sem]) rfl ⟨ret_eq (by rw [H.out]; rfl), b5⟩
      · have H := Lib.hid (show rngE s.data.toList = (0, 0, f) by rw [H.out]; rcases hbe with rfl | rfl <;> simp)
        rcases hbe with rfl | rfl
        all_goals
          go_enter Tryd.func26, Tryd.ntmps26
          go_wp2_with fail
          refine HC.out.mono ?_; rintro e w1 ⟨rfl, hb⟩; have B1 := Lib.hid hb; clear hb
          go_wp2_with fail
          refine (HBa.out _).mono ?_; rintro e w2 ⟨rfl, hb⟩; have B2 := Lib.hid hb; clear hb
          go_wp2_with fail
          refine (HXa.out _).mono ?_; rintro e w3 ⟨rfl, hb⟩; have B3 := Lib.hid hb; clear hb
          go_wp2_with fail
          refine (HBb.out _).mono ?_; rintro e w4 ⟨rfl, hb⟩; have B4 := Lib.hid hb; clear hb
          go_wp2_with fail
          refine (HXb.out _).mono ?_; rintro e w5 ⟨rfl, hb⟩; have B5 := Lib.hid hb; clear hb
          go_wp2_with fail
          have b2 := B1.out.trans (B2.out.mono B1.out.size)
          have b3 := b2.trans (B3.out.mono b2.size)
          have b4 := b3.trans (B4.out.mono b3.size)
          have b5 := b4.trans (B5.out.mono b4.size)
          refine bodyPost_ret (v := .tuple #[.int .i32 0, .int .i32 0, .int .i64 _]) (by simp [results, Tryd.results26, go_sem]; rfl) rfl ⟨ret_eq (by rw [H.out]; rfl), b5⟩
    · have H := Lib.hid (show rngE s.data.toList = (0, 0, e) by rw [H.out]; rcases hae with rfl | rfl <;> simp)
      clear hb HXb HBb
      rcases hae with rfl | rfl
      all_goals
        go_enter Tryd.func26, Tryd.ntmps26
        go_wp2_with fail
        refine HC.out.mono ?_; rintro e w1 ⟨rfl, hb⟩; have B1 := Lib.hid hb; clear hb
        go_wp2_with fail
        refine (HBa.out _).mono ?_; rintro e w2 ⟨rfl, hb⟩; have B2 := Lib.hid hb; clear hb
        go_wp2_with fail
        refine (HXa.out _).mono ?_; rintro e w3 ⟨rfl, hb⟩; have B3 := Lib.hid hb; clear hb
        go_wp2_with fail
        have b2 := B1.out.trans (B2.out.mono B1.out.size)
        have b3 := b2.trans (B3.out.mono b2.size)
        refine bodyPost_ret (v := .tuple #[.int .i32 0, .int .i32 0, .int .i64 _]) (by simp [results, Tryd.results26, go_sem]; rfl) rfl ⟨ret_eq (by rw [H.out]; rfl), b3⟩

end Go.Proofs.YtajhgbcgbgpcjaaDoor.Fi

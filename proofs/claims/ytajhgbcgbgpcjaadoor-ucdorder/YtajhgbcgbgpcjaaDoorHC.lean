import Derived.Test.YtajhgbcgbgpcjaaDoorHA
import Derived.Test.YtajhgbcgbgpcjaaDoorFL
namespace Go.Proofs.YtajhgbcgbgpcjaaDoor.Uc
open Go.RowKit Fi

theorem chP_len (f : Int) : ∀ n, (chP f n).length ≤ n
  | 0 => by simp [chP]
  | n + 1 => by
    have ih := chP_len f n
    cases h : scal (f + n) with
    | true => rw [chP_yes h]; simp; omega
    | false => rw [chP_no h]; omega
theorem r_info : (Tryd.prog.info? 21).map (fun i => (i.zero, i.size, i.bytes)) = some (some (.int .i32 0), 1, 4) := by kernel_rfl
def ChP (w : World) (l : List Int) (e : Ending) (w' : World) : Prop := ∃ v, e = .returned v ∧ w'.ownsRow w.heap.size 21 1 v l.length (i32s l) ∧ Below w.heap.size w w'
/-- What characters answers: all of the range, or as many as may be. -/
structure ChE (f t : Int) (m : Nat) (l : List Int) : Prop where
  pre : ∃ n : Nat, (n : Int) ≤ t - f + 1 ∧ l = chP f n
  most : l.length ≤ m
  all : l.length < m → l = chs f t
set_option maxHeartbeats 4000000 in
set_option maxRecDepth 100000 in
theorem chars_any (f t : Int) (m : Nat) (w : World) (h0 : 0 ≤ f) (h1 : f ≤ t) (h2 : t ≤ 1114111) (hm : m ≤ 10000) :
    Calls Tryd.prog 29 #[.int .i32 f, .int .i32 t, .int .i64 m] w fun e w' => ∃ l, ChE f t m l ∧ ChP w l e w' := by
  obtain ⟨i0, hi0, hz0, hz1, hz2⟩ := info_parts r_info
  have I0 := Lib.hid hi0
  have I1 := Lib.hid hz0
  have I2 := Lib.hid hz1
  have I3 := Lib.hid hz2
  clear hi0 hz0 hz1 hz2
  go_enter Tryd.func29, Tryd.ntmps29
  go_wp2_with fail
  go_loopw [7, 8] (fun s7 s8 wr => ∃ n : Nat, s8 = .int .i32 (f + n) ∧ (n : Int) ≤ t - f + 1 ∧ (chP f n).length ≤ m ∧ Hid (wr.ownsRow w.heap.size 21 1 s7 (chP f n).length (i32s (chP f n)) ∧ Below w.heap.size w wr)) (fun _ s8 _ => (t + 1 - intOf s8).toNat)
  case atStart => exact ⟨0, by simp, by omega, by simp [chP], by rw [chP_zero]; exact World.ownsRow_nil _ _ _ _, Below.refl _ _⟩
  case round =>
    obtain ⟨n, rfl, hn, hl, HQ⟩ := hrel
    obtain ⟨A, c, rfl, _⟩ := own_ints HQ.out.1
    by_cases hlt : f + n ≤ t
    · by_cases hlm : (chP f n).length < m
      · have g1 : ((chP f n).length : Int) < (m : Int) := by omega
        have HS := Lib.hid (fun W => scalar_any (f + n) W)
        rcases (Bool.eq_false_or_eq_true (scal (f + n))).symm with hs | hs
        · have HS' := Lib.hid (fun W => by have := HS.out W; rw [hs] at this; exact this)
          have HN := Lib.hid (chP_no hs)
          clear hs HS
          go_wp2_with (go_at_call 15; refine (HS'.out _).mono ?_; rintro e w' ⟨rfl, rfl⟩)
          go_roundw
          case measure => simp [intOf]; omega
          case rel => exact ⟨n + 1, by simp [Int.add_assoc], by omega, by rw [HN.out]; exact hl, by rw [HN.out]; exact HQ.out⟩
        · have HS' := Lib.hid (fun W => by have := HS.out W; rw [hs] at this; exact this)
          have HN := Lib.hid (chP_yes hs)
          have hl2 := chP_len f n
          clear hs HS
          go_wp2_with (first
            | (go_at_call 15; refine (HS'.out _).mono ?_; rintro e w' ⟨rfl, rfl⟩)
            | (at_builtin; refine wpList_append_own_at _ rfl (.tmp 23) (.tmp 25) _ rfl w.heap.size 21 i0 _ 1 4 Tryd.underlying31 I0.out I1.out I2.out I3.out rfl (by omega) _ (chP f n).length _ rfl (HQ.out.1.alloc _) ⟨wr.heap.size, 0, none⟩ 1 1 [.int .i32 (f + n)] rfl rfl (World.news_of_block (cs := #[.int .i32 (f + n)]) (t := 21) (fr := (0, 0)) (heap_alloc_new wr _)) (by simp [Value.oneCell']) (by unfold maxLen; omega) (by omega) (by have := HQ.out.2.size; simp; omega) ?_; intro v6 w6 ho6 hg6 hn6 ha6; have O6 := Lib.hid ho6; have B6 := Lib.hid ((HQ.out.2.alloc HQ.out.2.size (.cells #[.int .i32 (f + n)] 21)).grown hg6 (by have := HQ.out.2.size; simp; omega) (fun z hz => (HQ.out.1.lt z hz).1)); clear ho6 hg6 hn6 ha6))
          go_roundw
          case measure => simp [intOf]; omega
          case rel =>
            refine ⟨n + 1, by simp [Int.add_assoc], by omega, by rw [HN.out]; simp; omega, ?_, B6.out⟩
            rw [HN.out]
            have := O6.out
            simpa [i32s] using this
      · have g1 : ¬ ((chP f n).length : Int) < (m : Int) := by omega
        go_wp2_with fail
        go_ret
        exact ⟨_, ⟨⟨n, hn, rfl⟩, hl, fun h => absurd h hlm⟩, _, rfl, HQ.out.1, HQ.out.2⟩
    · go_wp2_with fail
      go_ret
      have e : n = (t - f + 1).toNat := by omega
      exact ⟨_, ⟨⟨n, hn, rfl⟩, hl, fun _ => by rw [e]; rfl⟩, _, rfl, HQ.out.1, HQ.out.2⟩

end Go.Proofs.YtajhgbcgbgpcjaaDoor.Uc

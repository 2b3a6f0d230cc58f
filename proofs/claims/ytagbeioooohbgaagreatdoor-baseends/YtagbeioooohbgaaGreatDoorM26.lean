import Derived.Test.YtagbeioooohbgaaGreatDoorM23
import Derived.Test.YtagbeioooohbgaaGreatDoorM25
section
namespace Go.Proofs.YtagbeioooohbgaaGreatDoor.So
open Go.RowKit Go.Sort Tr

/-! slices.Sort, slices.Collect, slices.Sorted at runes. -/
set_option maxHeartbeats 4000000 in
set_option maxRecDepth 100000 in
theorem ins_nil (w : World) : Calls Tryz.prog 107 #[.slice none 0 0, .int .i64 0, .int .i64 0] w fun e w' => e = .returned (.tuple #[]) ∧ Below w.heap.size w w' := by
  go_enter Tryz.func107, Tryz.ntmps107
  go_wp2_with fail
  go_loopw [6] (fun vi wr => vi = .int .i64 1 ∧ Below w.heap.size w wr) (fun _ _ => 0)
  case atStart => exact ⟨rfl, Below.refl _ _⟩
  case round =>
    obtain ⟨rfl, HB⟩ := hrel
    go_wp2_with fail
    go_end0
    exact ⟨rfl, HB⟩
set_option maxHeartbeats 4000000 in
set_option maxRecDepth 100000 in
theorem pdq_nil (w : World) (lim : Int) : Calls Tryz.prog 88 #[.slice none 0 0, .int .i64 0, .int .i64 0, .int .i64 lim] w fun e w' => e = .returned (.tuple #[]) ∧ Below w.heap.size w w' := by
  go_enter Tryz.func88, Tryz.ntmps88
  go_wp2_with fail
  go_loopw [1, 2, 3, 8, 9] (fun va vb vl v8 v9 wr => va = .int .i64 0 ∧ vb = .int .i64 0 ∧ vl = .int .i64 lim ∧ v8 = .bool true ∧ v9 = .bool true ∧ wr = w) (fun _ _ _ _ _ _ => 0)
  case atStart => exact ⟨rfl, rfl, rfl, rfl, rfl, rfl⟩
  case round =>
    obtain ⟨rfl, rfl, rfl, rfl, rfl, rfl⟩ := hrel
    go_wp2_with fail
    refine (ins_nil _).mono ?_
    rintro e w2 ⟨rfl, hb⟩
    go_wp2_with fail
    exact bodyPost_ret (results_none rfl _ _ _) rfl ⟨rfl, hb⟩

end Go.Proofs.YtagbeioooohbgaaGreatDoor.So
end
section
namespace Go.Proofs.YtagbeioooohbgaaGreatDoor.So
open Go.RowKit Go.Sort Tr

/-! slices.Sort at a row of the call's own. -/
theorem bitLen_100 (n : Nat) (h : n ≤ 100000) : Lib.bitLen n ≤ 64 := Lib.bitLen_le n 64 (Nat.le_refl _) (by omega)
set_option maxHeartbeats 4000000 in
set_option maxRecDepth 100000 in
theorem sort_nil (w : World) : Calls Tryz.prog 64 #[.slice none 0 0] w fun e w' => e = .returned (.tuple #[]) ∧ Below w.heap.size w w' := by
  go_enter Tryz.func64, Tryz.ntmps64
  go_wp2_with (go_at_call 89; refine (Tryz.bits_Len _ _ (by omega) (by omega)).mono ?_; rintro e w' ⟨rfl, rfl⟩)
  refine (pdq_nil _ _).mono ?_
  rintro e w2 ⟨rfl, hb⟩
  go_wp2_with fail
  go_end0
  exact ⟨rfl, hb⟩
set_option maxHeartbeats 4000000 in
set_option maxRecDepth 100000 in
theorem sort_row {w0 w : World} {g : Nat} {sp : List Value} {d : Array Int} (cap : Nat) (h : SR w0 w g [] sp d) (hsz : d.size ≤ 100000) :
    Calls Tryz.prog 64 #[.slice (some ⟨g, 0, none⟩) d.size cap] w fun e w' => e = .returned (.tuple #[]) ∧ ∃ d', PermIn 0 d.size d d' ∧ SortedIn ltInt 0 d.size d' ∧ SR w0 w' g [] sp d' := by
  obtain ⟨n, hn⟩ : ∃ n, n = d.size := ⟨_, rfl⟩
  rw [← hn]
  rw [← hn] at hsz
  have HN := Lib.hid hn
  obtain ⟨k, hk⟩ : ∃ k, k = Lib.bitLen n := ⟨_, rfl⟩
  have hk64 : k ≤ 64 := by rw [hk]; exact bitLen_100 n hsz
  have HC := Lib.hid (pdq_all (n + 1) w0 w g [] sp d cap 0 n (k : Int) h (Nat.zero_le _) (by omega) (by omega) (.inl rfl) (by omega) (by omega) (by omega))
  rw [← hn] at HC
  clear hn h
  go_enter Tryz.func64, Tryz.ntmps64
  go_wp2_with (go_at_call 89; refine (Tryz.bits_Len _ _ (by omega) (by omega)).mono ?_; rintro e w' ⟨rfl, rfl⟩)
  rw [← hk]
  refine HC.out.mono ?_
  rintro e w2 ⟨rfl, h2⟩
  have H2 := Lib.hid h2
  clear h2
  go_wp2_with fail
  go_end0
  exact ⟨rfl, H2.out⟩
theorem sort_any (base : Nat) (v : Value) (ss : List Int) (w : World) (h : w.ownsRow base 21 1 v ss.length (ss.map encZ)) (hb : base ≤ w.heap.size) (hlen : ss.length ≤ 100000) :
    Calls Tryz.prog 64 #[v] w fun e w' => e = .returned (.tuple #[]) ∧ ∃ ks : List Int, ks.Perm ss ∧ ks.Pairwise (· ≤ ·) ∧ w'.ownsRow base 21 1 v ks.length (ks.map encZ) ∧ Below base w w' := by
  rcases h with ⟨hl, ⟨rfl, hn⟩ | ⟨g, cap, cur, rfl, hbg, hg, hnc, hcm, hcs, htk⟩⟩
  · have hs0 : ss = [] := List.length_eq_zero_iff.1 hn
    subst hs0
    refine (sort_nil w).mono ?_
    rintro e w' ⟨rfl, hb'⟩
    exact ⟨rfl, [], List.Perm.refl _, List.Pairwise.nil, World.ownsRow_nil _ _ _ _, hb'.mono hb⟩
  · have hbk : Bk w g (rowC [] ss.toArray (cur.toList.drop ss.length)) 21 := ⟨by
      rw [hg]
      have h1 : rowC [] ss.toArray (cur.toList.drop ss.length) = cur.toList := by
        show [] ++ (ss.map encZ ++ _) = _
        rw [List.nil_append, ← htk, Nat.mul_one, List.take_append_drop]
      rw [h1]⟩
    have h2 := sort_row cap (SR.start hbk) (by simpa using hlen)
    rw [List.size_toArray] at h2
    refine h2.mono ?_
    rintro e w' ⟨rfl, d', hp, hs, hr⟩
    have hd : d'.size = ss.length := by rw [hp.1, List.size_toArray]
    refine ⟨rfl, d'.toList, ?_, ?_, ?_, hr.mv.below (fun k hk => hk ▸ hbg) hb⟩
    · have h3 := hp.2.2
      have h4 : d'.extract 0 ss.length = d' := by rw [← hd]; simp
      have h5 : ss.toArray.extract 0 ss.length = ss.toArray := by simp
      rw [h4, h5] at h3
      exact h3
    · rw [List.pairwise_iff_getElem]
      intro i j hi hj hij
      have h3 := hs i j (Nat.zero_le _) hij (by rw [← hd]; simpa using hj)
      rw [getElem!_pos d' i (by simpa using hi), getElem!_pos d' j (by simpa using hj)] at h3
      rw [Array.getElem_toList, Array.getElem_toList]
      simp [ltInt] at h3
      exact h3
    · have hd2 : d'.toList.length = ss.length := by rw [Array.length_toList, hd]
      rw [hd2]
      refine ⟨by rw [List.length_map, hd2, Nat.mul_one], .inr ⟨g, cap, (rowC [] d' (cur.toList.drop ss.length)).toArray, rfl, hbg, hr.blk.blk, hnc, hcm, ?_, ?_⟩⟩
      · simp only [rowC, List.nil_append, List.size_toArray, List.length_append, List.length_map, List.length_drop, Array.length_toList, hd]
        omega
      · show ([] ++ (d'.toList.map encZ ++ _)).take _ = _
        rw [List.nil_append, List.take_left' (by rw [List.length_map, hd2, Nat.mul_one])]
set_option maxHeartbeats 4000000 in
set_option maxRecDepth 100000 in
theorem collect_any (G : Nat) (lb : Array Value) (eG : ∀ args w, (callFunc G args).run Tryz.prog w = .ok (.enter G args) w) (S Sp : List Int → Prop) (N : Nat) (hN : N ≤ 100000) (w : World)
    (hs : ∀ W, Below w.heap.size w W → SeqStops Fence.wide 4 Tryz.prog G lb encZ S Sp N W) :
    Calls Tryz.prog 63 #[.func (.func G) #[] lb] w fun e w' => ∃ (v : Value) (ss : List Int), e = .returned v ∧ S ss ∧ w'.ownsRow w.heap.size 21 1 v ss.length (ss.map encZ) ∧ Below w.heap.size w w' := by
  have HC := Lib.hid (appendSeq_any G lb eG S Sp N hN w hs)
  clear hs eG
  go_enter Tryz.func63, Tryz.ntmps63
  go_wp2_with fail
  refine HC.out.mono ?_
  rintro e w2 ⟨v, ss, rfl, h1, h2, h3, h4⟩
  have H2 := Lib.hid (And.intro h1 (And.intro h2 h4))
  clear h1 h2 h3 h4
  go_wp2_with fail
  go_ret
  exact ⟨v, ss, rfl, H2.out⟩
set_option maxHeartbeats 4000000 in
set_option maxRecDepth 100000 in
theorem sorted_any (G : Nat) (lb : Array Value) (eG : ∀ args w, (callFunc G args).run Tryz.prog w = .ok (.enter G args) w) (S Sp : List Int → Prop) (N : Nat) (hN : N ≤ 100000) (w : World)
    (hs : ∀ W, Below w.heap.size w W → SeqStops Fence.wide 4 Tryz.prog G lb encZ S Sp N W) (hS : ∀ ss, S ss → ss.length ≤ 100000) :
    Calls Tryz.prog 36 #[.func (.func G) #[] lb] w fun e w' => ∃ (v : Value) (ss ks : List Int), e = .returned v ∧ S ss ∧ ks.Perm ss ∧ ks.Pairwise (· ≤ ·) ∧ w'.ownsRow w.heap.size 21 1 v ks.length (ks.map encZ) ∧ Below w.heap.size w w' := by
  have HC := Lib.hid (collect_any G lb eG S Sp N hN w hs)
  clear hs eG
  go_enter Tryz.func36, Tryz.ntmps36
  go_wp2_with fail
  refine HC.out.mono ?_
  rintro e w2 ⟨v, ss, rfl, h1, h2, h4⟩
  have HD := Lib.hid (sort_any w.heap.size v ss w2 h2 h4.size (hS ss h1))
  have H2 := Lib.hid (And.intro h1 h4)
  clear h1 h2 h4
  go_wp2_with fail
  refine HD.out.mono ?_
  rintro e w3 ⟨rfl, ks, k1, k2, k3, k4⟩
  have H3 := Lib.hid (And.intro k1 (And.intro k2 (And.intro k3 (H2.out.2.trans k4))))
  clear k1 k2 k3 k4
  go_wp2_with fail
  go_ret
  exact ⟨v, ss, ks, rfl, H2.out.1, H3.out⟩

end Go.Proofs.YtagbeioooohbgaaGreatDoor.So
end

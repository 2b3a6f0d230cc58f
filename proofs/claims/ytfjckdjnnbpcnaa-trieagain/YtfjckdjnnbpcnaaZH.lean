import Derived.Test.YtfjckdjnnbpcnaaZB
namespace Go.Proofs.Ytfjckdjnnbpcnaa.So
open Go.RowKit Go.Sort Tr
variable {w0 w : World} {g : Nat} {pf sp : List Value} {d : Array Int}

theorem siftDown_size (hi first r : Nat) (d : Array Int) : (siftDown ltInt hi first r d).size = d.size := by
  fun_induction siftDown ltInt hi first r d <;> simp_all [size_swp]
set_option maxHeartbeats 8000000 in
set_option maxRecDepth 100000 in
theorem heap_any (cap a b : Nat) (h : SR w0 w g pf sp d) (hab : a < b) (hb : b ≤ d.size) (hsz : d.size ≤ 100000) :
    Calls Try.prog 63 #[.slice (some ⟨g, pf.length, none⟩) d.size cap, .int .i64 a, .int .i64 b] w fun e w' =>
      e = .returned (.tuple #[]) ∧ SR w0 w' g pf sp (heapSort ltInt d a b) := by
  obtain ⟨n, hn⟩ : ∃ n, n = d.size := ⟨_, rfl⟩
  obtain ⟨off, hoff⟩ : ∃ off, off = pf.length := ⟨_, rfl⟩
  rw [← hn, ← hoff]
  rw [← hn] at hb hsz
  have HN := Lib.hid hn
  have HF := Lib.hid hoff
  have HR := Lib.hid h
  clear hn hoff h
  obtain ⟨hi, hhi⟩ : ∃ hi, hi = b - a := ⟨_, rfl⟩
  have hhiI : (b : Int) - a = hi := by omega
  obtain ⟨k0, hk0⟩ : ∃ k0, k0 = (hi - 1) / 2 := ⟨_, rfl⟩
  have hk0I : ((hi : Int) - 1) / 2 = k0 := by omega
  have hpos : (1 : Int) ≤ hi := by omega
  have hhn : a + hi ≤ n := by omega
  have HE : Hid (heapSort ltInt d a b = heapPop ltInt a hi (heapBuild ltInt hi a (k0 + 1) d)) := Lib.hid (by unfold heapSort; rw [← hhi, ← hk0])
  have hk9 : k0 ≤ hi := by omega
  clear hhi hk0
  have CS : ∀ (wr : World) (dk : Array Int) (lo h2 : Nat), SR w0 wr g pf sp dk → dk.size = n → lo ≤ 100000 → a + h2 ≤ n →
      Calls Try.prog 73 #[.slice (some ⟨g, off, none⟩) n cap, .int .i64 lo, .int .i64 h2, .int .i64 a] wr fun e w' => e = .returned (.tuple #[]) ∧ SR w0 w' g pf sp (siftDown ltInt h2 a lo dk) := fun wr dk lo h2 hs hd hl hh => by
    have h9 := sift_any (d := dk) cap lo h2 a hs hl (by omega) (by omega)
    rw [hd, ← HF.out] at h9
    exact h9
  have HCS := Lib.hid CS
  have HK0I := Lib.hid hk0I
  clear CS hk0I
  go_enter Try.func63, Try.ntmps63
  go_wp2_with fail
  go_loopw [9] (fun vi wr => ∃ (k : Nat) (dk : Array Int), vi = .int .i64 ((k : Int) - 1) ∧ k ≤ k0 + 1 ∧ Hid (dk.size = n) ∧ Hid (SR w0 wr g pf sp dk) ∧ Hid (heapBuild ltInt hi a k dk = heapBuild ltInt hi a (k0 + 1) d)) (fun vi _ => (intOf vi + 1).toNat)
  case atStart => exact ⟨k0 + 1, d, by rw [HK0I.out]; congr 1; omega, Nat.le_refl _, HN.out.symm, HR, rfl⟩
  case round =>
    obtain ⟨k, dk, rfl, hk, HK, HS, HO⟩ := hrel
    cases k with
    | succ k =>
      have hkI : ((k + 1 : Nat) : Int) - 1 = k := by omega
      rw [hkI]
      clear hkI
      have hk1 : k ≤ 100000 := by omega
      go_wp2_with fail
      refine (HCS.out _ dk k hi HS.out HK.out hk1 hhn).mono ?_
      rintro e w2 ⟨rfl, hs2⟩
      have S2 := Lib.hid hs2
      clear hs2
      go_wp2_with fail
      go_roundw
      case measure => simp [intOf] <;> omega
      case rel =>
        first
          | exact ⟨k, _, rfl, by omega, Lib.hid ((siftDown_size _ _ _ _).trans HK.out), S2, Lib.hid HO.out⟩
          | (repeat apply Exists.intro
             exact ⟨⟨k, _, rfl, by omega, Lib.hid ((siftDown_size _ _ _ _).trans HK.out), S2, Lib.hid HO.out⟩, rfl⟩)
    | zero =>
      have hkI : ((0 : Nat) : Int) - 1 = -1 := by omega
      rw [hkI]
      clear hkI
      go_wp2_with fail
      go_loopw [10] (fun vi wr => ∃ (k : Nat) (dk : Array Int), vi = .int .i64 ((k : Int) - 1) ∧ k ≤ hi ∧ Hid (dk.size = n) ∧ Hid (SR w0 wr g pf sp dk) ∧ Hid (heapPop ltInt a k dk = heapSort ltInt d a b)) (fun vi _ => (intOf vi + 1).toNat)
      case atStart => exact ⟨hi, dk, rfl, Nat.le_refl _, HK, HS, Lib.hid (by rw [HE.out, ← HO.out]; rfl)⟩
      case round =>
        obtain ⟨k, dj, rfl, hk2, HKj, HSj, HOj⟩ := hrel
        cases k with
        | succ k =>
          have hkI : ((k + 1 : Nat) : Int) - 1 = k := by omega
          rw [hkI]
          clear hkI
          have hk1 : a + k ≤ n := by omega
          obtain ⟨G, hG⟩ : ∃ G : Nat → Int, ∀ t, G t = dj[t]! := ⟨fun t => dj[t]!, fun _ => rfl⟩
          have hcw : ∀ t, t < n → wr.cell? ⟨g, off + t, none⟩ = some (.int .i32 (G t)) := fun t ht => by rw [hG, HF.out]; exact HSj.out.cell t (by rw [HKj.out]; exact ht)
          have hfw : ∀ t, t < n → wr.frozen? ⟨g, off + t, none⟩ = false := fun t ht => by rw [HF.out]; exact HSj.out.fr t (by rw [HKj.out]; exact ht)
          have HG := Lib.hid hG
          clear hG
          have b0 : a < n := by omega
          obtain ⟨p, hp⟩ : ∃ p, p = a + k := ⟨_, rfl⟩
          have hpI : (a : Int) + k = p := by omega
          have b1 : p < n := by omega
          have q1 : IntKind.i64.wrap (p : Int) = p := IntWalk.i64_in _ (by omega)
          have HP := Lib.hid hp
          by_cases hak : 0 < k
          · have hap : a < p := by omega
            clear hp
            go_wp2_with fail
            go_region
            all_goals
              go_wp2_with fail
              refine (HCS.out _ (swp dj a p) 0 k ((HSj.out.swapG _ HF.out HKj.out b0 b1 HG.out).out) (by rw [size_swp]; exact HKj.out) (by omega) hk1).mono ?_
              rintro e w2 ⟨rfl, hs2⟩
              have S2 := Lib.hid hs2
              clear hs2
              go_wp2_with fail
              go_roundw
              case measure => simp [intOf] <;> omega
              case rel =>
                first
                  | exact ⟨k, _, rfl, by omega, Lib.hid ((siftDown_size _ _ _ _).trans ((size_swp _ _ _).trans HKj.out)), S2, Lib.hid (by rw [← HOj.out, HP.out]; rfl)⟩
                  | (repeat apply Exists.intro
                     exact ⟨⟨k, _, rfl, by omega, Lib.hid ((siftDown_size _ _ _ _).trans ((size_swp _ _ _).trans HKj.out)), S2, Lib.hid (by rw [← HOj.out, HP.out]; rfl)⟩, rfl⟩)
          · have hk00 : (k : Int) = 0 := by omega
            rw [hk00]
            have HK0 : Hid (k = 0) := Lib.hid (by omega)
            clear hp hpI q1 b1 HP hk00 hak hk1 hk2
            obtain rfl := HK0.out
            go_wp2_with fail
            go_region
            all_goals
              go_wp2_with fail
              refine (HCS.out _ (swp dj a a) 0 0 ((HSj.out.swapG _ HF.out HKj.out b0 b0 HG.out).out) (by rw [size_swp]; exact HKj.out) (by omega) (by omega)).mono ?_
              rintro e w2 ⟨rfl, hs2⟩
              have S2 := Lib.hid hs2
              clear hs2
              go_wp2_with fail
              go_roundw
              case measure => simp [intOf] <;> omega
              case rel =>
                first
                  | exact ⟨0, _, rfl, by omega, Lib.hid ((siftDown_size _ _ _ _).trans ((size_swp _ _ _).trans HKj.out)), S2, Lib.hid (by rw [← HOj.out]; rfl)⟩
                  | (repeat apply Exists.intro
                     exact ⟨⟨0, _, rfl, by omega, Lib.hid ((siftDown_size _ _ _ _).trans ((size_swp _ _ _).trans HKj.out)), S2, Lib.hid (by rw [← HOj.out]; rfl)⟩, rfl⟩)
        | zero =>
          have hkI : ((0 : Nat) : Int) - 1 = -1 := by omega
          rw [hkI]
          clear hkI
          go_wp2_with fail
          go_end0
          refine ⟨rfl, ?_⟩
          rw [← HOj.out]
          exact HSj.out

end Go.Proofs.Ytfjckdjnnbpcnaa.So

import Derived.Test.YtfjckdjnnbpcnaaYW
namespace Go.Proofs.Ytfjckdjnnbpcnaa.Tr
open Go.RowKit Go.Maps Go.Shelf

/-- All of a table: what it goes through lies in blocks of the call's own. -/
theorem tab_far (w : World) (base X : Nat) (nn : Int) (g : Int → Int) (h : Tab w base X nn g) :
    Calls Try.prog 16 #[.pointer (some ⟨X, 0, none⟩)] w fun e w' => ∃ G lb, e = .returned (.func (.func G) #[] lb) ∧ (∀ args W', (callFunc G args).run Try.prog W' = .ok (.enter G args) W') ∧
    (∀ W : World, w'.heap.size ≤ W.heap.size → (∀ k, w.heap.size ≤ k → k < w'.heap.size → W.heap[k]? = w'.heap[k]?) → SeqStopsK Fence.wide 4 Try.prog G lb encS (Below W.heap.size) (fun ys => ys = allG g nn) (fun pre => pre <+: allG g nn) (allG g nn).length W) ∧ Below w.heap.size w w' := by
  have HS := Lib.hid (spans_any w base X nn g h)
  clear h
  go_enter Try.func16, Try.ntmps16
  go_wp2_with fail
  refine HS.out.mono ?_
  rintro e w1 ⟨v, rfl, ho, hb⟩
  have hlow : ∀ k, v.ownBlock = some k → w.heap.size ≤ k := fun k hk => (ho.lt k hk).1
  obtain ⟨A, c, rfl, hs⟩ := own_spsP ho
  have HLO := Lib.hid hlow
  have HB := Lib.hid hb
  have HP := Lib.hid hs
  clear hb hs ho hlow
  go_wp2_with fail
  go_ret
  have ha : Below w1.heap.size w1 (w1.alloc (.cells #[.slice A (allG g nn).length c] 69)) := (Below.refl _ _).alloc (Nat.le_refl _) _
  have hBk : Bk (w1.alloc (.cells #[.slice A (allG g nn).length c] 69)) w1.heap.size [.slice A (allG g nn).length c] 69 := ⟨heap_alloc_new w1 _⟩
  have hP2 := HP.out.below ha
  have hzz := HB.out.size
  refine ⟨_, _, rfl, enters_of Try.func33 (by kernel_rfl) rfl, fun W hW hk => ?_, HB.out.alloc HB.out.size _⟩
  refine all_iter 4 w1.heap.size A c _ W (Nat.lt_of_lt_of_le hBk.lt hW) ((hBk.on (hk _ hzz hBk.lt)).c (i := 0) rfl) (fun i hi => ?_) (scan_len _ _ _)
  obtain ⟨b, off, rfl, hbl, q0, q1, q2⟩ := hP2 i hi
  have hbb : W.heap[b]? = (w1.alloc (.cells #[.slice (some ⟨b, off, none⟩) (allG g nn).length c] 69)).heap[b]? := hk b (HLO.out b rfl) hbl
  have hc : ∀ j, W.cell? ⟨b, off + i * 3 + j, none⟩ = (w1.alloc (.cells #[.slice (some ⟨b, off, none⟩) (allG g nn).length c] 69)).cell? ⟨b, off + i * 3 + j, none⟩ := fun j => by unfold World.cell?; simp only [hbb]
  exact ⟨b, off, rfl, Nat.lt_of_lt_of_le hbl hW, (hc 0).trans q0, (hc 1).trans q1, (hc 2).trans q2⟩

end Go.Proofs.Ytfjckdjnnbpcnaa.Tr

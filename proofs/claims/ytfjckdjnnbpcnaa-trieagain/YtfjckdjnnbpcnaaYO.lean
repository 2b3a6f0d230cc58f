import Derived.Test.YtfjckdjnnbpcnaaYI
import Derived.Test.YtfjckdjnnbpcnaaZU
namespace Go.Proofs.Ytfjckdjnnbpcnaa.Tr
open Go.RowKit Go.Maps Go.Shelf

attribute [local go_sem] Oper.semAt_some

/-! What a table tells: its blocks' numbers in order, and in each what is told. -/
def keysL (bm : Nat → Option Nat) : List Nat := (List.range 4352).filter fun i => (bm i).isSome
theorem keysL_mem {bm : Nat → Option Nat} {i : Nat} (h : i ∈ keysL bm) : i < 4352 ∧ ∃ b, bm i = some b := by
  obtain ⟨h1, h2⟩ := List.mem_filter.1 h
  exact ⟨List.mem_range.1 h1, Option.isSome_iff_exists.1 h2⟩
theorem keysL_len (bm : Nat → Option Nat) : (keysL bm).length ≤ 4352 := by
  have := List.length_filter_le (fun i => (bm i).isSome) (List.range 4352)
  simpa [keysL] using this
theorem allKeys_perm {D : DataW Unit} {bm : Nat → Option Nat} {ss : List Int} (hm : MapIs D bm) (h : AllKeys D ss) : ss.Perm ((keysL bm).map fun i : Nat => (i : Int)) := by
  have h2 : ((keysL bm).map fun i : Nat => (i : Int)).Nodup := by
    rw [List.nodup_iff_pairwise_ne, List.pairwise_map]
    exact (List.nodup_range.filter _).imp fun hne e => hne (by omega)
  refine (List.perm_ext_iff_of_nodup h.1 h2).2 fun x => ?_
  rw [h.2 x, List.mem_map]
  constructor
  · intro hh
    obtain ⟨i, rfl, hi⟩ := hm.key x hh
    exact ⟨i, List.mem_filter.2 ⟨List.mem_range.2 hi, (hm.has i hi).symm.trans hh⟩, rfl⟩
  · rintro ⟨i, hi, rfl⟩
    obtain ⟨h3, h4⟩ := List.mem_filter.1 hi
    rw [hm.has i (List.mem_range.1 h3)]
    exact h4
theorem allKeys_len {D : DataW Unit} {bm : Nat → Option Nat} {ss : List Int} (hm : MapIs D bm) (h : AllKeys D ss) : ss.length ≤ 100000 := by
  have h1 := (allKeys_perm hm h).length_eq
  rw [List.length_map] at h1
  have := keysL_len bm
  omega
theorem allKeys_sorted {D : DataW Unit} {bm : Nat → Option Nat} {ss ks : List Int} (hm : MapIs D bm) (h : AllKeys D ss) (hp : ks.Perm ss) (hs : ks.Pairwise (· ≤ ·)) : ks = (keysL bm).map fun i : Nat => (i : Int) := by
  refine List.Perm.eq_of_pairwise (le := (· ≤ ·)) (fun a b _ _ h1 h2 => Int.le_antisymm h1 h2) hs ?_ (hp.trans (allKeys_perm hm h))
  rw [List.pairwise_map]
  exact (List.Pairwise.filter _ List.pairwise_le_range).imp fun h => by omega
/-- What the first n cells of a block tell. -/
def blT (g : Int → Int) (nn : Int) (i : Nat) : Nat → List (Int × Int)
  | 0 => []
  | n + 1 => if g ((i * 256 + n : Nat) : Int) = nn then blT g nn i n else blT g nn i n ++ [(((i * 256 + n : Nat) : Int), g ((i * 256 + n : Nat) : Int))]
def tolT (g : Int → Int) (nn : Int) (ks : List Nat) : List (Int × Int) := ks.flatMap fun i => blT g nn i 256
theorem blT_mono (g : Int → Int) (nn : Int) (i : Nat) {m : Nat} : ∀ d : Nat, blT g nn i m <+: blT g nn i (m + d)
  | 0 => List.prefix_refl _
  | d + 1 => by
    refine (blT_mono g nn i d).trans ?_
    show _ <+: blT g nn i ((m + d) + 1)
    rw [blT]
    split
    · exact List.prefix_refl _
    · exact List.prefix_append _ _
theorem tolT_prefix (g : Int → Int) (nn : Int) (ks : List Nat) (k : Nat) (hk : k < ks.length) (j : Nat) (hj : j ≤ 256) : tolT g nn (ks.take k) ++ blT g nn ks[k] j <+: tolT g nn ks := by
  have h1 : ks = ks.take k ++ (ks[k] :: ks.drop (k + 1)) := by rw [← List.drop_eq_getElem_cons hk, List.take_append_drop]
  have h2 : tolT g nn ks = tolT g nn (ks.take k) ++ (blT g nn ks[k] 256 ++ tolT g nn (ks.drop (k + 1))) := by
    conv => lhs; rw [h1]
    unfold tolT
    rw [List.flatMap_append, List.flatMap_cons]
  rw [h2]
  have h3 := blT_mono g nn ks[k] (m := j) (256 - j)
  rw [show j + (256 - j) = 256 by omega] at h3
  exact (List.prefix_append_right_inj _).2 (h3.trans (List.prefix_append _ _))
theorem tolT_next (g : Int → Int) (nn : Int) (ks : List Nat) (k : Nat) (hk : k < ks.length) : tolT g nn (ks.take (k + 1)) = tolT g nn (ks.take k) ++ blT g nn ks[k] 256 := by
  unfold tolT
  rw [List.take_succ_eq_append_getElem hk, List.flatMap_append]
  simp

end Go.Proofs.Ytfjckdjnnbpcnaa.Tr

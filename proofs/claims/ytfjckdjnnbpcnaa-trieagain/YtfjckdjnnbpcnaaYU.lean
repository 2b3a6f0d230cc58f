import Derived.Test.YtfjckdjnnbpcnaaTC
namespace Go.Proofs.Ytfjckdjnnbpcnaa.Tr

def updS (g : Int → Int) (s : Sp) : Int → Int := if okS s then fun r => if inS s r then s.2.2 else g r else g
theorem updS_getL (nn : Int) (L : List Sp) (s : Sp) : updS (getL nn L) s = getL nn (setL L s) := by
  unfold updS setL
  split
  · funext r; rw [getL_snoc]
  · rfl
def setAll (L l : List Sp) : List Sp := l.foldl setL L
theorem setAll_take {L l : List Sp} {j : Nat} (h : j < l.length) : setAll L (l.take (j + 1)) = setL (setAll L (l.take j)) l[j] := by
  rw [List.take_succ_eq_append_getElem h]
  unfold setAll
  rw [List.foldl_append]
  rfl
theorem setL_ok {L : List Sp} {s : Sp} (h : ∀ x ∈ L, okS x = true) : ∀ x ∈ setL L s, okS x = true := by
  unfold setL
  split
  · rename_i hs
    intro x hx
    rcases List.mem_append.1 hx with hx | hx
    · exact h x hx
    · simp only [List.mem_singleton] at hx; subst hx; exact hs
  · exact h
theorem setAll_ok : ∀ (l L : List Sp), (∀ x ∈ L, okS x = true) → ∀ x ∈ setAll L l, okS x = true
  | [], _, h => h
  | s :: l, L, h => setAll_ok l (setL L s) (setL_ok h)
theorem setL_len (L : List Sp) (s : Sp) : (setL L s).length ≤ L.length + 1 := by unfold setL; split <;> simp
theorem setAll_len : ∀ (l L : List Sp), (setAll L l).length ≤ L.length + l.length
  | [], L => by simp [setAll]
  | s :: l, L => by
    have h1 := setAll_len l (setL L s)
    have h2 := setL_len L s
    have e : setAll L (s :: l) = setAll (setL L s) l := rfl
    rw [e, List.length_cons]
    omega

end Go.Proofs.Ytfjckdjnnbpcnaa.Tr

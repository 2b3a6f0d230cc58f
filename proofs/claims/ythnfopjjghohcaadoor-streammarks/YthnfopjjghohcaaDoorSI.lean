import Derived.Test.YthnfopjjghohcaaDoorSH5
import Derived.Test.YthnfopjjghohcaaDoorSHW
namespace Go.Proofs.YthnfopjjghohcaaDoor.St
open Go.RowKit

/-- What comes of bytes that are read. -/
def RdP (w : World) (base B : Nat) (fv : Value) (p : Nat) (wt : ByteArray) (fl : List (Nat × Nat)) (k : Nat) (pol : Int) (gs ov : Bool) (d : List Int × List (Nat × Nat) × Int) (e : Ending) (w' : World) : Prop :=
  ∃ fv' v1, e = .returned (.tuple #[v1, .int .i64 d.2.2]) ∧ w'.ownsRow w.heap.size 21 1 v1 d.1.length (i32s d.1) ∧ Dc w' base B fv' p wt fl k pol gs ov ∧ Stp B w fv w' fv'
theorem read_any (base B : Nat) (fv : Value) (p : Nat) (wt : ByteArray) (fl : List (Nat × Nat)) (k : Nat) (pol : Int) (gs ov : Bool) (n : Nat) (w : World) (h : Dc w base B fv p wt fl k pol gs ov) (hT : Tabs w) (hp : 0 + 1 + 1 ≤ base) (h1 : 1 ≤ k) (h5 : k ≤ 5) (hq : pol = 1 ∨ pol = 2 ∨ pol = 3) (hw : wt.size ≤ p) (hpp : p ≤ 100000) (hn : n ≤ wt.size) (hfl : fl.length ≤ 100000) :
    Calls Tryd.prog 34 #[.pointer (some ⟨B, 0, none⟩), .int .i64 (n : Int)] w (RdP w base B fv p (wt.extract n wt.size) (fl ++ shL (p - wt.size) (Dg.dec (Dg.nx5 k) pol 0 ((bs wt).take n)).2.1) k pol gs ov (Dg.dec (Dg.nx5 k) pol 0 ((bs wt).take n))) := by
  by_cases hk : k = 5
  · subst hk
    exact read5 base B fv p wt fl pol gs ov n w h hT.u (by omega) hq hw hpp hn hfl
  · exact readW base B fv p wt fl k pol gs ov n w h hT.d (by omega) h1 (by omega) hq hw hpp hn hfl
theorem shL_shL (a b : Nat) (l : List (Nat × Nat)) : shL a (shL b l) = shL (a + b) l := by
  simp [shL, Nat.add_assoc]
theorem ext_ext (s : ByteArray) (a b : Nat) : (s.extract a s.size).extract b (s.extract a s.size).size = s.extract (a + b) s.size := bs_inj (by rw [bs_from, bs_from, bs_from, List.drop_drop])
end Go.Proofs.YthnfopjjghohcaaDoor.St

import Derived.Test.YtfjckdjnnbpcnaaZR
namespace Go.Proofs.Ytfjckdjnnbpcnaa.So
open Go.RowKit Go.Sort Tr

/-! pdqsort, whole. -/
theorem brk_ok : BrkOk := fun _ _ _ _ _ _ cap a b h hab hb hsz => brk_any cap a b h hab hb hsz
theorem pdq_all : ∀ (m : Nat) (w0 w : World) (g : Nat) (pf sp : List Value) (d : Array Int) (cap a b : Nat) (lim : Int), SR w0 w g pf sp d → a ≤ b → b ≤ d.size → d.size ≤ 100000 → Go.Sort.Below ltInt a b d → 0 ≤ lim → lim ≤ 100 → b - a < m →
    Calls Try.prog 60 #[.slice (some ⟨g, pf.length, none⟩) d.size cap, .int .i64 a, .int .i64 b, .int .i64 lim] w (PdqE w0 g pf sp a b d)
  | 0 => fun _ _ _ _ _ _ _ _ _ _ _ _ _ _ _ _ _ h => absurd h (by omega)
  | m + 1 => fun _ _ _ _ _ _ cap a b lim h hab hb hsz hB hl0 hl1 hm => pdq_step brk_ok m (pdq_all m) cap a b lim h hab hb hsz hB hl0 hl1 (by omega)

end Go.Proofs.Ytfjckdjnnbpcnaa.So

import Derived.Test.YtajhgbcgbgpcjaaGreatDoorGV
import Derived.Test.YtajhgbcgbgpcjaaGreatDoorGX
import Derived.Test.YtajhgbcgbgpcjaaGreatDoorGM
namespace Go.Proofs.YtajhgbcgbgpcjaaGreatDoor.Uc
open Go.RowKit Fi

set_option maxRecDepth 100000 in
set_option maxHeartbeats 1000000 in
theorem plain_any (f t c : Int) (n g k : ByteArray) (A : Option Addr) (l p : Nat) (w : World) :
    Calls Tryz.prog 6 #[.agg #[.int .i32 f, .int .i32 t, .string n, .string g, .int .i64 c, .string k, .slice A l p]] w fun e w' => e = .returned (.agg #[.int .i32 f, .int .i32 t, .string n, .string g, .int .i64 c, .string k, .slice A l p]) ∧ Below w.heap.size w w' := by
  go_enter Tryz.func6, Tryz.ntmps6
  go_wp2_with fail
  refine bodyPost_ret (v := .agg #[.int .i32 f, .int .i32 t, .string n, .string g, .int .i64 c, .string k, .slice A l p]) (by simp [results, Tryz.results6, go_sem]) rfl ⟨rfl, ((Below.refl _ w).alloc (Nat.le_refl _) _).alloc (by simp) _⟩

end Go.Proofs.YtajhgbcgbgpcjaaGreatDoor.Uc
namespace Go.Proofs.YtajhgbcgbgpcjaaGreatDoor
open Go.ChangeShapes Go.WideShapes Go.ChangeAt Go.WideMaps Go.WideElems Go.RowKit
/-- The library's table of powers, out of what is laid. -/
theorem pw_of {W : World} (h : laidMetH Tryz.prog laid2 W) : Uc.Pw W := by
  rw [MakeChecks.laidMetH_plain _ _ _ (by kernel_rfl)] at h
  have h2 : laidMet Tryz.prog (("internal/strconv.uint64pow10", Lib.tabData .u64 Lib.pow10Tab) :: _) W := h.tail.tail
  exact Lib.tabIs_of_head (g := 1) (t := 144) (e := 115) (n := 20) (by kernel_rfl) (by kernel_rfl) Tryz.underlying144 Tryz.underlying115 (by kernel_rfl) (by kernel_rfl) h2
end Go.Proofs.YtajhgbcgbgpcjaaGreatDoor

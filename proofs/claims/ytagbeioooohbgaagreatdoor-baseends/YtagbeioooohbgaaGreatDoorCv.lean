import Derived.Test.YtagbeioooohbgaaGreatDoorM29
import Derived.RegionTactic
namespace Go.Proofs.YtagbeioooohbgaaGreatDoor
open Go Go.RowKit

/-- A region that draws its order, in a round of a range over a function, by whatever shows it for all orders. -/
theorem wpIn_round_any {P : Program} {id l9 n9 : Nat} {Q : Exit → Act → World → Prop} {a : Act} {w : World} {l : List Oper} (hm : P.follows .mixedOrders = true) (hnd : l.all noDefer = true)
    (h : wpAny P .any l.toArray (normQ Q) l.toArray.size (Array.replicate l.toArray.size false) a w.drew) : (Code.region id l.toArray true).wpIn (Fence.wide.inRound l9) n9 P Q a w :=
  wpIn_region_any hm (any_roundW (fun i o ho => List.all_eq_true.1 hnd o (by
    rw [List.getElem?_toArray] at ho
    exact List.mem_of_getElem? ho)) _ _ _ _ h)

end Go.Proofs.YtagbeioooohbgaaGreatDoor

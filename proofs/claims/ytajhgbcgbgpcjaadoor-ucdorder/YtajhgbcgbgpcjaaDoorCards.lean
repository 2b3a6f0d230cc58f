/-
  DERIVED. GIVEN WITH THE SEED: THE CARDS: each row of YtajhgbcgbgpcjaaDoorRows.lean that lists a variable, with what it lists TIED to the program's text (the seventh form; the later family's looks); each row that meets fmt, with fmt's text TOLD by the authors' own Lean function (tested against real Go, not proved from fmt's source: count such statements apart). THE CARD IS WHAT COUNTS. Prove the row's statement (the work); the ties are given (YtajhgbcgbgpcjaaDoorTie.lean); close each card by the builder's one call (the guide's Derived/Test/ToyasCard.lean, 'card_holds'). Laid BY PROGRAM, IN A SANDBOX (cutbox-door.mjs). By AI agents, Wed Nov 11 2026. No macro, syntax, notation, axiom, sorry.
-/
import Derived.Test.YtajhgbcgbgpcjaaDoorRows
import GoSem.ClaimSeven
namespace Go.Proofs.YtajhgbcgbgpcjaaDoor
namespace Rows

/-- THE TIED CARD OF 'inkhornlaw05.UcdRows'. -/
def ucdRowsCard : Claim7 := { stood := { row := ucdRowsRow, standIns := [], harness := (true, "4ddcdabbc1ad5423092a822b834ac87adeda4d2544063fc5dc5336be87ae95df"), looks := false }, kinds := [], alts := [], laidByText := true, laidKinds := [.data, .pinned], laidTests := true, laidLooks := .later }
def UcdRowsCardSaid : Prop := Claim7.holds Tryd.pinned (.plain (OpenSpec.ofChange ucdRowsSpec)) ucdRowsCard

/-- THE TIED CARD OF 'inkhornlaw05.UcdSets'. -/
def ucdSetsCard : Claim7 := { stood := { row := ucdSetsRow, standIns := [], harness := (true, "4ddcdabbc1ad5423092a822b834ac87adeda4d2544063fc5dc5336be87ae95df"), looks := false }, kinds := [], alts := [], laidByText := true, laidKinds := [.data, .pinned], laidTests := true, laidLooks := .later }
def UcdSetsCardSaid : Prop := Claim7.holds Tryd.pinned (.plain (OpenSpec.ofChange ucdSetsSpec)) ucdSetsCard

/-- THE TIED CARD OF 'inkhornlaw05.UcdOrder'. -/
def ucdOrderCard : Claim7 := { stood := { row := ucdOrderRow, standIns := [], harness := (true, "4ddcdabbc1ad5423092a822b834ac87adeda4d2544063fc5dc5336be87ae95df"), looks := false }, kinds := [], alts := [], laidByText := true, laidKinds := [.data, .pinned], laidTests := true, laidLooks := .later }
def UcdOrderCardSaid : Prop := Claim7.holds Tryd.pinned (.plain (OpenSpec.ofChange ucdOrderSpec)) ucdOrderCard

/-- THE TIED CARD OF 'inkhornlaw05.UcdJoins'. -/
def ucdJoinsCard : Claim7 := { stood := { row := ucdJoinsRow, standIns := [], harness := (true, "4ddcdabbc1ad5423092a822b834ac87adeda4d2544063fc5dc5336be87ae95df"), looks := false }, kinds := [], alts := [], laidByText := true, laidKinds := [.data, .pinned], laidTests := true, laidLooks := .later }
def UcdJoinsCardSaid : Prop := Claim7.holds Tryd.pinned (.plain (OpenSpec.ofChange ucdJoinsSpec)) ucdJoinsCard

/-- THE SECOND FORM's CARD OF 'inkhornlaw05.UcdRows'. -/
def ucdRowsUptoCard : Claim7 := { stood := { row := ucdRowsUptoRow, standIns := [], harness := (true, "4ddcdabbc1ad5423092a822b834ac87adeda4d2544063fc5dc5336be87ae95df"), looks := false }, kinds := [], alts := [], laidByText := true, laidKinds := [.data, .pinned], laidTests := true, laidLooks := .later }
def UcdRowsUptoCardSaid : Prop := Claim7.holds Tryd.pinned (.plain (OpenSpec.upto ucdRowsSpec)) ucdRowsUptoCard

/-- THE SECOND FORM's CARD OF 'inkhornlaw05.UcdSets'. -/
def ucdSetsUptoCard : Claim7 := { stood := { row := ucdSetsUptoRow, standIns := [], harness := (true, "4ddcdabbc1ad5423092a822b834ac87adeda4d2544063fc5dc5336be87ae95df"), looks := false }, kinds := [], alts := [], laidByText := true, laidKinds := [.data, .pinned], laidTests := true, laidLooks := .later }
def UcdSetsUptoCardSaid : Prop := Claim7.holds Tryd.pinned (.plain (OpenSpec.upto ucdSetsSpec)) ucdSetsUptoCard

/-- THE SECOND FORM's CARD OF 'inkhornlaw05.UcdOrder'. -/
def ucdOrderUptoCard : Claim7 := { stood := { row := ucdOrderUptoRow, standIns := [], harness := (true, "4ddcdabbc1ad5423092a822b834ac87adeda4d2544063fc5dc5336be87ae95df"), looks := false }, kinds := [], alts := [], laidByText := true, laidKinds := [.data, .pinned], laidTests := true, laidLooks := .later }
def UcdOrderUptoCardSaid : Prop := Claim7.holds Tryd.pinned (.plain (OpenSpec.upto ucdOrderSpec)) ucdOrderUptoCard

/-- THE SECOND FORM's CARD OF 'inkhornlaw05.UcdJoins'. -/
def ucdJoinsUptoCard : Claim7 := { stood := { row := ucdJoinsUptoRow, standIns := [], harness := (true, "4ddcdabbc1ad5423092a822b834ac87adeda4d2544063fc5dc5336be87ae95df"), looks := false }, kinds := [], alts := [], laidByText := true, laidKinds := [.data, .pinned], laidTests := true, laidLooks := .later }
def UcdJoinsUptoCardSaid : Prop := Claim7.holds Tryd.pinned (.plain (OpenSpec.upto ucdJoinsSpec)) ucdJoinsUptoCard
end Rows
end Go.Proofs.YtajhgbcgbgpcjaaDoor

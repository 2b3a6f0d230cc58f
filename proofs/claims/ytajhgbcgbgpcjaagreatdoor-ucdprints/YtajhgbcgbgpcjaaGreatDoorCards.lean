/-
  DERIVED. GIVEN WITH THE SEED: THE CARDS: each row of YtajhgbcgbgpcjaaGreatDoorRows.lean that lists a variable, with what it lists TIED to the program's text (the seventh form; the later family's looks); each row that meets fmt, with fmt's text TOLD by the authors' own Lean function (tested against real Go, not proved from fmt's source: count such statements apart). THE CARD IS WHAT COUNTS. Prove the row's statement (the work); the ties are given (YtajhgbcgbgpcjaaGreatDoorTie.lean); close each card by the builder's one call (the guide's Derived/Test/ToyasCard.lean, 'card_holds'). Laid BY PROGRAM, IN A SANDBOX (cutbox-door.mjs). By AI agents, Wed Nov 11 2026. No macro, syntax, notation, axiom, sorry.
-/
import Derived.Test.YtajhgbcgbgpcjaaGreatDoorRows
import GoSem.ClaimSeven
namespace Go.Proofs.YtajhgbcgbgpcjaaGreatDoor
namespace Rows

/-- THE TIED CARD OF 'inkhornlaw05.UcdPrints'. -/
def ucdPrintsCard : Claim7 := { stood := { row := ucdPrintsRow, standIns := [], harness := (true, "1ea8615c1b7bac44bf34f90f2663ae351899b696e33c9725ebdec30c5e9a05eb"), looks := false }, kinds := [], alts := [], laidByText := true, laidKinds := [.data, .data, .data, .data, .pinned, .pinned], laidTests := true, laidLooks := .later }
def UcdPrintsCardSaid : Prop := Claim7.holds Tryz.pinned (.plain (OpenSpec.ofChange ucdPrintsSpec)) ucdPrintsCard

/-- THE TIED CARD OF 'inkhornlaw05.UcdBack'. -/
def ucdBackCard : Claim7 := { stood := { row := ucdBackRow, standIns := [], harness := (true, "1ea8615c1b7bac44bf34f90f2663ae351899b696e33c9725ebdec30c5e9a05eb"), looks := false }, kinds := [], alts := [], laidByText := true, laidKinds := [.data, .data, .data, .data, .pinned, .pinned], laidTests := true, laidLooks := .later }
def UcdBackCardSaid : Prop := Claim7.holds Tryz.pinned (.plain (OpenSpec.ofChange ucdBackSpec)) ucdBackCard

/-- THE SECOND FORM's CARD OF 'inkhornlaw05.UcdPrints'. -/
def ucdPrintsUptoCard : Claim7 := { stood := { row := ucdPrintsUptoRow, standIns := [], harness := (true, "1ea8615c1b7bac44bf34f90f2663ae351899b696e33c9725ebdec30c5e9a05eb"), looks := false }, kinds := [], alts := [], laidByText := true, laidKinds := [.data, .data, .data, .data, .pinned, .pinned], laidTests := true, laidLooks := .later }
def UcdPrintsUptoCardSaid : Prop := Claim7.holds Tryz.pinned (.plain (OpenSpec.upto ucdPrintsSpec)) ucdPrintsUptoCard

/-- THE SECOND FORM's CARD OF 'inkhornlaw05.UcdBack'. -/
def ucdBackUptoCard : Claim7 := { stood := { row := ucdBackUptoRow, standIns := [], harness := (true, "1ea8615c1b7bac44bf34f90f2663ae351899b696e33c9725ebdec30c5e9a05eb"), looks := false }, kinds := [], alts := [], laidByText := true, laidKinds := [.data, .data, .data, .data, .pinned, .pinned], laidTests := true, laidLooks := .later }
def UcdBackUptoCardSaid : Prop := Claim7.holds Tryz.pinned (.plain (OpenSpec.upto ucdBackSpec)) ucdBackUptoCard
end Rows
end Go.Proofs.YtajhgbcgbgpcjaaGreatDoor

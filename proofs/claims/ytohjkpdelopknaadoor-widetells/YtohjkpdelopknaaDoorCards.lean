/-
  DERIVED. GIVEN WITH THE SEED: THE CARDS: each row of YtohjkpdelopknaaDoorRows.lean that lists a variable, with what it lists TIED to the program's text (the seventh form; the later family's looks); each row that meets fmt, with fmt's text TOLD by the authors' own Lean function (tested against real Go, not proved from fmt's source: count such statements apart). THE CARD IS WHAT COUNTS. Prove the row's statement (the work); the ties are given (YtohjkpdelopknaaDoorTie.lean); close each card by the builder's one call (the guide's Derived/Test/ToyasCard.lean, 'card_holds'). Laid BY PROGRAM, IN A SANDBOX (cutbox-door.mjs). By AI agents, Wed Nov 11 2026. No macro, syntax, notation, axiom, sorry.
-/
import Derived.Test.YtohjkpdelopknaaDoorRows
import GoSem.ClaimSeven
namespace Go.Proofs.YtohjkpdelopknaaDoor
namespace Rows

/-- THE TIED CARD OF 'inkhornlaw02.WideNext'. -/
def wideNextCard : Claim7 := { stood := { row := wideNextRow, standIns := [], harness := (true, "797a8ab15426412edcb6babac3006ee703f8b38d8e9c9f5caa4cc50af7cbe0e1"), looks := false }, kinds := [], alts := [], laidByText := true, laidKinds := [.data], laidTests := true, laidLooks := .later }
def WideNextCardSaid : Prop := Claim7.holds Tryd.pinned (.plain (OpenSpec.ofChange wideNextSpec)) wideNextCard

/-- THE TIED CARD OF 'inkhornlaw02.WideBytes'. -/
def wideBytesCard : Claim7 := { stood := { row := wideBytesRow, standIns := [], harness := (true, "797a8ab15426412edcb6babac3006ee703f8b38d8e9c9f5caa4cc50af7cbe0e1"), looks := false }, kinds := [], alts := [], laidByText := true, laidKinds := [.data], laidTests := true, laidLooks := .later }
def WideBytesCardSaid : Prop := Claim7.holds Tryd.pinned (.plain (OpenSpec.ofChange wideBytesSpec)) wideBytesCard

/-- THE TIED CARD OF 'inkhornlaw02.WideDecodes'. -/
def wideDecodesCard : Claim7 := { stood := { row := wideDecodesRow, standIns := [], harness := (true, "797a8ab15426412edcb6babac3006ee703f8b38d8e9c9f5caa4cc50af7cbe0e1"), looks := false }, kinds := [], alts := [], laidByText := true, laidKinds := [.data], laidTests := true, laidLooks := .later }
def WideDecodesCardSaid : Prop := Claim7.holds Tryd.pinned (.plain (OpenSpec.ofChange wideDecodesSpec)) wideDecodesCard

/-- THE TIED CARD OF 'inkhornlaw02.WideTells'. -/
def wideTellsCard : Claim7 := { stood := { row := wideTellsRow, standIns := [], harness := (true, "797a8ab15426412edcb6babac3006ee703f8b38d8e9c9f5caa4cc50af7cbe0e1"), looks := false }, kinds := [], alts := [], laidByText := true, laidKinds := [.data], laidTests := true, laidLooks := .later }
def WideTellsCardSaid : Prop := Claim7.holds Tryd.pinned (.plain (OpenSpec.ofChange wideTellsSpec)) wideTellsCard

/-- THE TIED CARD OF 'inkhornlaw02.WideBack'. -/
def wideBackCard : Claim7 := { stood := { row := wideBackRow, standIns := [], harness := (true, "797a8ab15426412edcb6babac3006ee703f8b38d8e9c9f5caa4cc50af7cbe0e1"), looks := false }, kinds := [], alts := [], laidByText := true, laidKinds := [.data], laidTests := true, laidLooks := .later }
def WideBackCardSaid : Prop := Claim7.holds Tryd.pinned (.plain (OpenSpec.ofChange wideBackSpec)) wideBackCard

/-- THE TIED CARD OF 'inkhornlaw02.WideKinds'. -/
def wideKindsCard : Claim7 := { stood := { row := wideKindsRow, standIns := [], harness := (true, "797a8ab15426412edcb6babac3006ee703f8b38d8e9c9f5caa4cc50af7cbe0e1"), looks := false }, kinds := [], alts := [], laidByText := true, laidKinds := [.data], laidTests := true, laidLooks := .later }
def WideKindsCardSaid : Prop := Claim7.holds Tryd.pinned (.plain (OpenSpec.ofChange wideKindsSpec)) wideKindsCard

/-- THE TIED CARD OF 'inkhornlaw02.WideParts'. -/
def widePartsCard : Claim7 := { stood := { row := widePartsRow, standIns := [], harness := (true, "797a8ab15426412edcb6babac3006ee703f8b38d8e9c9f5caa4cc50af7cbe0e1"), looks := false }, kinds := [], alts := [], laidByText := true, laidKinds := [.data], laidTests := true, laidLooks := .later }
def WidePartsCardSaid : Prop := Claim7.holds Tryd.pinned (.plain (OpenSpec.ofChange widePartsSpec)) widePartsCard

/-- THE TIED CARD OF 'inkhornlaw02.WideJoins'. -/
def wideJoinsCard : Claim7 := { stood := { row := wideJoinsRow, standIns := [], harness := (true, "797a8ab15426412edcb6babac3006ee703f8b38d8e9c9f5caa4cc50af7cbe0e1"), looks := false }, kinds := [], alts := [], laidByText := true, laidKinds := [.data], laidTests := true, laidLooks := .later }
def WideJoinsCardSaid : Prop := Claim7.holds Tryd.pinned (.plain (OpenSpec.ofChange wideJoinsSpec)) wideJoinsCard

/-- THE SECOND FORM's CARD OF 'inkhornlaw02.WideNext'. -/
def wideNextUptoCard : Claim7 := { stood := { row := wideNextUptoRow, standIns := [], harness := (true, "797a8ab15426412edcb6babac3006ee703f8b38d8e9c9f5caa4cc50af7cbe0e1"), looks := false }, kinds := [], alts := [], laidByText := true, laidKinds := [.data], laidTests := true, laidLooks := .later }
def WideNextUptoCardSaid : Prop := Claim7.holds Tryd.pinned (.plain (OpenSpec.upto wideNextSpec)) wideNextUptoCard

/-- THE SECOND FORM's CARD OF 'inkhornlaw02.WideBytes'. -/
def wideBytesUptoCard : Claim7 := { stood := { row := wideBytesUptoRow, standIns := [], harness := (true, "797a8ab15426412edcb6babac3006ee703f8b38d8e9c9f5caa4cc50af7cbe0e1"), looks := false }, kinds := [], alts := [], laidByText := true, laidKinds := [.data], laidTests := true, laidLooks := .later }
def WideBytesUptoCardSaid : Prop := Claim7.holds Tryd.pinned (.plain (OpenSpec.upto wideBytesSpec)) wideBytesUptoCard

/-- THE SECOND FORM's CARD OF 'inkhornlaw02.WideDecodes'. -/
def wideDecodesUptoCard : Claim7 := { stood := { row := wideDecodesUptoRow, standIns := [], harness := (true, "797a8ab15426412edcb6babac3006ee703f8b38d8e9c9f5caa4cc50af7cbe0e1"), looks := false }, kinds := [], alts := [], laidByText := true, laidKinds := [.data], laidTests := true, laidLooks := .later }
def WideDecodesUptoCardSaid : Prop := Claim7.holds Tryd.pinned (.plain (OpenSpec.upto wideDecodesSpec)) wideDecodesUptoCard

/-- THE SECOND FORM's CARD OF 'inkhornlaw02.WideTells'. -/
def wideTellsUptoCard : Claim7 := { stood := { row := wideTellsUptoRow, standIns := [], harness := (true, "797a8ab15426412edcb6babac3006ee703f8b38d8e9c9f5caa4cc50af7cbe0e1"), looks := false }, kinds := [], alts := [], laidByText := true, laidKinds := [.data], laidTests := true, laidLooks := .later }
def WideTellsUptoCardSaid : Prop := Claim7.holds Tryd.pinned (.plain (OpenSpec.upto wideTellsSpec)) wideTellsUptoCard

/-- THE SECOND FORM's CARD OF 'inkhornlaw02.WideBack'. -/
def wideBackUptoCard : Claim7 := { stood := { row := wideBackUptoRow, standIns := [], harness := (true, "797a8ab15426412edcb6babac3006ee703f8b38d8e9c9f5caa4cc50af7cbe0e1"), looks := false }, kinds := [], alts := [], laidByText := true, laidKinds := [.data], laidTests := true, laidLooks := .later }
def WideBackUptoCardSaid : Prop := Claim7.holds Tryd.pinned (.plain (OpenSpec.upto wideBackSpec)) wideBackUptoCard

/-- THE SECOND FORM's CARD OF 'inkhornlaw02.WideKinds'. -/
def wideKindsUptoCard : Claim7 := { stood := { row := wideKindsUptoRow, standIns := [], harness := (true, "797a8ab15426412edcb6babac3006ee703f8b38d8e9c9f5caa4cc50af7cbe0e1"), looks := false }, kinds := [], alts := [], laidByText := true, laidKinds := [.data], laidTests := true, laidLooks := .later }
def WideKindsUptoCardSaid : Prop := Claim7.holds Tryd.pinned (.plain (OpenSpec.upto wideKindsSpec)) wideKindsUptoCard

/-- THE SECOND FORM's CARD OF 'inkhornlaw02.WideParts'. -/
def widePartsUptoCard : Claim7 := { stood := { row := widePartsUptoRow, standIns := [], harness := (true, "797a8ab15426412edcb6babac3006ee703f8b38d8e9c9f5caa4cc50af7cbe0e1"), looks := false }, kinds := [], alts := [], laidByText := true, laidKinds := [.data], laidTests := true, laidLooks := .later }
def WidePartsUptoCardSaid : Prop := Claim7.holds Tryd.pinned (.plain (OpenSpec.upto widePartsSpec)) widePartsUptoCard

/-- THE SECOND FORM's CARD OF 'inkhornlaw02.WideJoins'. -/
def wideJoinsUptoCard : Claim7 := { stood := { row := wideJoinsUptoRow, standIns := [], harness := (true, "797a8ab15426412edcb6babac3006ee703f8b38d8e9c9f5caa4cc50af7cbe0e1"), looks := false }, kinds := [], alts := [], laidByText := true, laidKinds := [.data], laidTests := true, laidLooks := .later }
def WideJoinsUptoCardSaid : Prop := Claim7.holds Tryd.pinned (.plain (OpenSpec.upto wideJoinsSpec)) wideJoinsUptoCard
end Rows
end Go.Proofs.YtohjkpdelopknaaDoor

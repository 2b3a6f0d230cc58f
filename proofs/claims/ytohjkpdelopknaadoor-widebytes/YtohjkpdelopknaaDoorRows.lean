/-
  NARROWER THAN 'FOR EVERY INPUT', by the rows' own cells (each row's printed sentence says how): WideNext: laid · WideBytes: laid · WideDecodes: laid · WideTells: laid · WideBack: laid · WideKinds: laid · WideParts: laid · WideJoins: laid.
  DERIVED. THE GIVEN ROWS OF THIS SEAT. 8 by the template 'for every input the law returns true; each argument reads behind the call as it read before'; 0 by the template 'total and deterministic' (their statements: YtohjkpdelopknaaDoorTotals.lean).
  GIVEN WITH THE SEED: the statements are not yours to turn. If you find one false, say at which input.
  Laid BY PROGRAM, IN A SANDBOX (cutbox-rows.mjs): the forced cells as the released guide's own fill.sh prints them over the translation 7ec07548d791d3e5… (all of the seat's roots in one cut). By AI agents, Wed Nov 11 2026. No macro, syntax, notation, axiom, sorry.
-/
import Derived.Test.YtohjkpdelopknaaDoorChecked
import GoSem.Claim
import GoSem.ClaimJoined
import GoSem.ClaimMapViews
import Derived.JoinedTies
import Derived.KernelRfl
namespace Go.Proofs.YtohjkpdelopknaaDoor
/- THE CELL 'sum', in the pinned program and in every row, IS THE sha256 OF THE DUMP (.gsa) THAT YtohjkpdelopknaaDoorProg.lean LOADS. Nothing in Lean hashes anything: it is a label: what it is worth is what the hold of that sum in a sandbox is worth. -/
noncomputable def Tryd.pinned : Pinned := { name := "ytohjkpdelopknaadoor", sum := "7ec07548d791d3e5491424c28ae6ab3170c8e4b0d83dfcaccbf0a3c0c71d6d69", checked := Tryd.checked }
namespace Rows
def none {H : Type} : Left H := { results := [], args := [] }

/- WHAT THE LISTED PACKAGE-LEVEL VARIABLES READ AS WHEN THE CALL BEGINS. Each datum BY PROGRAM (the guide's laid-datum.mjs) off the statement by which the dump's own 'gosem.cut.vars' lays the variable. In a bare row this is a premise. The card (YtohjkpdelopknaaDoorCards.lean) ties it to the program's text. -/
def laid_inkhorn_wide_layouts {H : Type} : DataW H := .agg [.agg [.lit (.int .i64 0), .lit (.bool false), .lit (.bool false)], .agg [.lit (.int .i64 2), .lit (.bool true), .lit (.bool true)], .agg [.lit (.int .i64 2), .lit (.bool false), .lit (.bool true)], .agg [.lit (.int .i64 4), .lit (.bool true), .lit (.bool false)], .agg [.lit (.int .i64 4), .lit (.bool false), .lit (.bool false)]]

/-- 'inkhornlaw02.WideNext': WHATEVER THE INPUT: true; the input reads as it did. -/
def wideNextSpec : ChangeSpec := { name := "wideNext", fn := fun _ => fun
  | [d1, d2] => { results := [.lit (.bool true)], args := [d1, d2] }
  | _ => none }
def wideNextRow : OpenClaim := { program := "ytohjkpdelopknaadoor", sum := "7ec07548d791d3e5491424c28ae6ab3170c8e4b0d83dfcaccbf0a3c0c71d6d69", func := "inkhorn/inkhornlaw02.WideNext", spec := "wideNext", named := ["inkhorn/wide.layouts"], apart := false, laid := [("inkhorn/wide.layouts", laid_inkhorn_wide_layouts)] }
def WideNextSaid : Prop := wideNextRow.holds Tryd.pinned (OpenSpec.ofChange wideNextSpec)

/-- ITS FALSE NEIGHBOUR: 'it returns false'. Refute it at one input. -/
def wideNextWrong : ChangeSpec := { name := "wideNext", fn := fun _ => fun
  | [d1, d2] => { results := [.lit (.bool false)], args := [d1, d2] }
  | _ => none }
def WideNextWrongFalsely : Prop := wideNextRow.holds Tryd.pinned (OpenSpec.ofChange wideNextWrong)

/-- 'inkhornlaw02.WideBytes': WHATEVER THE INPUT: true; the input reads as it did. -/
def wideBytesSpec : ChangeSpec := { name := "wideBytes", fn := fun _ => fun
  | [d1, d2] => { results := [.lit (.bool true)], args := [d1, d2] }
  | _ => none }
def wideBytesRow : OpenClaim := { program := "ytohjkpdelopknaadoor", sum := "7ec07548d791d3e5491424c28ae6ab3170c8e4b0d83dfcaccbf0a3c0c71d6d69", func := "inkhorn/inkhornlaw02.WideBytes", spec := "wideBytes", named := ["inkhorn/wide.layouts"], apart := false, laid := [("inkhorn/wide.layouts", laid_inkhorn_wide_layouts)] }
def WideBytesSaid : Prop := wideBytesRow.holds Tryd.pinned (OpenSpec.ofChange wideBytesSpec)

/-- ITS FALSE NEIGHBOUR: 'it returns false'. Refute it at one input. -/
def wideBytesWrong : ChangeSpec := { name := "wideBytes", fn := fun _ => fun
  | [d1, d2] => { results := [.lit (.bool false)], args := [d1, d2] }
  | _ => none }
def WideBytesWrongFalsely : Prop := wideBytesRow.holds Tryd.pinned (OpenSpec.ofChange wideBytesWrong)

/-- 'inkhornlaw02.WideDecodes': WHATEVER THE INPUT: true; the input reads as it did. -/
def wideDecodesSpec : ChangeSpec := { name := "wideDecodes", fn := fun _ => fun
  | [d1, d2, d3] => { results := [.lit (.bool true)], args := [d1, d2, d3] }
  | _ => none }
def wideDecodesRow : OpenClaim := { program := "ytohjkpdelopknaadoor", sum := "7ec07548d791d3e5491424c28ae6ab3170c8e4b0d83dfcaccbf0a3c0c71d6d69", func := "inkhorn/inkhornlaw02.WideDecodes", spec := "wideDecodes", inPlace := ["internal/abi.NoEscape", "internal/bytealg.MakeNoZero"], named := ["inkhorn/wide.layouts"], apart := false, laid := [("inkhorn/wide.layouts", laid_inkhorn_wide_layouts)] }
def WideDecodesSaid : Prop := wideDecodesRow.holds Tryd.pinned (OpenSpec.ofChange wideDecodesSpec)

/-- ITS FALSE NEIGHBOUR: 'it returns false'. Refute it at one input. -/
def wideDecodesWrong : ChangeSpec := { name := "wideDecodes", fn := fun _ => fun
  | [d1, d2, d3] => { results := [.lit (.bool false)], args := [d1, d2, d3] }
  | _ => none }
def WideDecodesWrongFalsely : Prop := wideDecodesRow.holds Tryd.pinned (OpenSpec.ofChange wideDecodesWrong)

/-- 'inkhornlaw02.WideTells': WHATEVER THE INPUT: true; the input reads as it did. -/
def wideTellsSpec : ChangeSpec := { name := "wideTells", fn := fun _ => fun
  | [d1, d2] => { results := [.lit (.bool true)], args := [d1, d2] }
  | _ => none }
def wideTellsRow : OpenClaim := { program := "ytohjkpdelopknaadoor", sum := "7ec07548d791d3e5491424c28ae6ab3170c8e4b0d83dfcaccbf0a3c0c71d6d69", func := "inkhorn/inkhornlaw02.WideTells", spec := "wideTells", named := ["inkhorn/wide.layouts"], apart := false, laid := [("inkhorn/wide.layouts", laid_inkhorn_wide_layouts)] }
def WideTellsSaid : Prop := wideTellsRow.holds Tryd.pinned (OpenSpec.ofChange wideTellsSpec)

/-- ITS FALSE NEIGHBOUR: 'it returns false'. Refute it at one input. -/
def wideTellsWrong : ChangeSpec := { name := "wideTells", fn := fun _ => fun
  | [d1, d2] => { results := [.lit (.bool false)], args := [d1, d2] }
  | _ => none }
def WideTellsWrongFalsely : Prop := wideTellsRow.holds Tryd.pinned (OpenSpec.ofChange wideTellsWrong)

/-- 'inkhornlaw02.WideBack': WHATEVER THE INPUT: true; the input reads as it did. -/
def wideBackSpec : ChangeSpec := { name := "wideBack", fn := fun _ => fun
  | [d1, d2, d3] => { results := [.lit (.bool true)], args := [d1, d2, d3] }
  | _ => none }
def wideBackRow : OpenClaim := { program := "ytohjkpdelopknaadoor", sum := "7ec07548d791d3e5491424c28ae6ab3170c8e4b0d83dfcaccbf0a3c0c71d6d69", func := "inkhorn/inkhornlaw02.WideBack", spec := "wideBack", inPlace := ["internal/abi.NoEscape", "internal/bytealg.MakeNoZero"], named := ["inkhorn/wide.layouts"], apart := false, laid := [("inkhorn/wide.layouts", laid_inkhorn_wide_layouts)] }
def WideBackSaid : Prop := wideBackRow.holds Tryd.pinned (OpenSpec.ofChange wideBackSpec)

/-- ITS FALSE NEIGHBOUR: 'it returns false'. Refute it at one input. -/
def wideBackWrong : ChangeSpec := { name := "wideBack", fn := fun _ => fun
  | [d1, d2, d3] => { results := [.lit (.bool false)], args := [d1, d2, d3] }
  | _ => none }
def WideBackWrongFalsely : Prop := wideBackRow.holds Tryd.pinned (OpenSpec.ofChange wideBackWrong)

/-- 'inkhornlaw02.WideKinds': WHATEVER THE INPUT: true; the input reads as it did. -/
def wideKindsSpec : ChangeSpec := { name := "wideKinds", fn := fun _ => fun
  | [d1, d2] => { results := [.lit (.bool true)], args := [d1, d2] }
  | _ => none }
def wideKindsRow : OpenClaim := { program := "ytohjkpdelopknaadoor", sum := "7ec07548d791d3e5491424c28ae6ab3170c8e4b0d83dfcaccbf0a3c0c71d6d69", func := "inkhorn/inkhornlaw02.WideKinds", spec := "wideKinds", inPlace := ["internal/abi.NoEscape", "internal/bytealg.MakeNoZero"], named := ["inkhorn/wide.layouts"], apart := false, laid := [("inkhorn/wide.layouts", laid_inkhorn_wide_layouts)] }
def WideKindsSaid : Prop := wideKindsRow.holds Tryd.pinned (OpenSpec.ofChange wideKindsSpec)

/-- ITS FALSE NEIGHBOUR: 'it returns false'. Refute it at one input. -/
def wideKindsWrong : ChangeSpec := { name := "wideKinds", fn := fun _ => fun
  | [d1, d2] => { results := [.lit (.bool false)], args := [d1, d2] }
  | _ => none }
def WideKindsWrongFalsely : Prop := wideKindsRow.holds Tryd.pinned (OpenSpec.ofChange wideKindsWrong)

/-- 'inkhornlaw02.WideParts': WHATEVER THE INPUT: true; the input reads as it did. -/
def widePartsSpec : ChangeSpec := { name := "wideParts", fn := fun _ => fun
  | [d1, d2, d3] => { results := [.lit (.bool true)], args := [d1, d2, d3] }
  | _ => none }
def widePartsRow : OpenClaim := { program := "ytohjkpdelopknaadoor", sum := "7ec07548d791d3e5491424c28ae6ab3170c8e4b0d83dfcaccbf0a3c0c71d6d69", func := "inkhorn/inkhornlaw02.WideParts", spec := "wideParts", inPlace := ["internal/abi.NoEscape", "internal/bytealg.MakeNoZero"], named := ["inkhorn/wide.layouts"], apart := false, laid := [("inkhorn/wide.layouts", laid_inkhorn_wide_layouts)] }
def WidePartsSaid : Prop := widePartsRow.holds Tryd.pinned (OpenSpec.ofChange widePartsSpec)

/-- ITS FALSE NEIGHBOUR: 'it returns false'. Refute it at one input. -/
def widePartsWrong : ChangeSpec := { name := "wideParts", fn := fun _ => fun
  | [d1, d2, d3] => { results := [.lit (.bool false)], args := [d1, d2, d3] }
  | _ => none }
def WidePartsWrongFalsely : Prop := widePartsRow.holds Tryd.pinned (OpenSpec.ofChange widePartsWrong)

/-- 'inkhornlaw02.WideJoins': WHATEVER THE INPUT: true; the input reads as it did. -/
def wideJoinsSpec : ChangeSpec := { name := "wideJoins", fn := fun _ => fun
  | [d1, d2, d3] => { results := [.lit (.bool true)], args := [d1, d2, d3] }
  | _ => none }
def wideJoinsRow : OpenClaim := { program := "ytohjkpdelopknaadoor", sum := "7ec07548d791d3e5491424c28ae6ab3170c8e4b0d83dfcaccbf0a3c0c71d6d69", func := "inkhorn/inkhornlaw02.WideJoins", spec := "wideJoins", inPlace := ["internal/abi.NoEscape", "internal/bytealg.MakeNoZero"], named := ["inkhorn/wide.layouts"], apart := false, laid := [("inkhorn/wide.layouts", laid_inkhorn_wide_layouts)] }
def WideJoinsSaid : Prop := wideJoinsRow.holds Tryd.pinned (OpenSpec.ofChange wideJoinsSpec)

/-- ITS FALSE NEIGHBOUR: 'it returns false'. Refute it at one input. -/
def wideJoinsWrong : ChangeSpec := { name := "wideJoins", fn := fun _ => fun
  | [d1, d2, d3] => { results := [.lit (.bool false)], args := [d1, d2, d3] }
  | _ => none }
def WideJoinsWrongFalsely : Prop := wideJoinsRow.holds Tryd.pinned (OpenSpec.ofChange wideJoinsWrong)

/- THE SECOND FORM. 'bulk': how many values and letters a reading holds, each counted each time it is reached (what is shared counts as often as it is met; a slice's spare places count too). A statement '..UptoSaid' is the law's where the arguments, and the package variables that the reading takes, are together of bulk at most 1048576: NARROWER than '..Said'. Prove '..Said' where nothing that the law and all that it calls make is longer than what came in: it says more and counts as full. Else prove '..UptoSaid'. A law counts once. -/
mutual
def uptoBulk {H : Type} : DataW H → Nat
  | .lit (.string bytes) => bytes.length + 1
  | .lit _ => 1
  | .nil => 1
  | .ptr d => uptoBulk d + 1
  | .slice elems spare => uptoBulkAll elems + uptoBulkAll spare + 1
  | .agg parts => uptoBulkAll parts + 1
  | .iface _ d => uptoBulk d + 1
  | .map entries => uptoBulkEntries entries + 1
  | .held _ => 1
def uptoBulkAll {H : Type} : List (DataW H) → Nat
  | [] => 0
  | d :: r => uptoBulk d + uptoBulkAll r
def uptoBulkEntries {H : Type} : List (Lit × DataW H) → Nat
  | [] => 0
  | x :: r => uptoBulkEntry x + uptoBulkEntries r
def uptoBulkEntry {H : Type} : Lit × DataW H → Nat
  | (.string bytes, d) => bytes.length + uptoBulk d + 1
  | (_, d) => uptoBulk d + 1
 end
def uptoSmall : (H : Type) → List (DataW H) → Bool := fun _ ds => decide (uptoBulkAll ds ≤ 1048576)
def OpenSpec.upto (s : _root_.Go.ChangeSpec) : _root_.Go.OpenSpec := { _root_.Go.OpenSpec.ofChange s with cond := some uptoSmall }

/-- 'inkhornlaw02.WideNext', WHERE WHAT IT READS IS OF BULK AT MOST 1048576: true; the input reads as it did. -/
def wideNextUptoRow : OpenClaim := { program := "ytohjkpdelopknaadoor", sum := "7ec07548d791d3e5491424c28ae6ab3170c8e4b0d83dfcaccbf0a3c0c71d6d69", func := "inkhorn/inkhornlaw02.WideNext", spec := "wideNext", named := ["inkhorn/wide.layouts"], apart := false, laid := [("inkhorn/wide.layouts", laid_inkhorn_wide_layouts)], narrowed := true }
def WideNextUptoSaid : Prop := wideNextUptoRow.holds Tryd.pinned (OpenSpec.upto wideNextSpec)

/-- 'inkhornlaw02.WideBytes', WHERE WHAT IT READS IS OF BULK AT MOST 1048576: true; the input reads as it did. -/
def wideBytesUptoRow : OpenClaim := { program := "ytohjkpdelopknaadoor", sum := "7ec07548d791d3e5491424c28ae6ab3170c8e4b0d83dfcaccbf0a3c0c71d6d69", func := "inkhorn/inkhornlaw02.WideBytes", spec := "wideBytes", named := ["inkhorn/wide.layouts"], apart := false, laid := [("inkhorn/wide.layouts", laid_inkhorn_wide_layouts)], narrowed := true }
def WideBytesUptoSaid : Prop := wideBytesUptoRow.holds Tryd.pinned (OpenSpec.upto wideBytesSpec)

/-- 'inkhornlaw02.WideDecodes', WHERE WHAT IT READS IS OF BULK AT MOST 1048576: true; the input reads as it did. -/
def wideDecodesUptoRow : OpenClaim := { program := "ytohjkpdelopknaadoor", sum := "7ec07548d791d3e5491424c28ae6ab3170c8e4b0d83dfcaccbf0a3c0c71d6d69", func := "inkhorn/inkhornlaw02.WideDecodes", spec := "wideDecodes", inPlace := ["internal/abi.NoEscape", "internal/bytealg.MakeNoZero"], named := ["inkhorn/wide.layouts"], apart := false, laid := [("inkhorn/wide.layouts", laid_inkhorn_wide_layouts)], narrowed := true }
def WideDecodesUptoSaid : Prop := wideDecodesUptoRow.holds Tryd.pinned (OpenSpec.upto wideDecodesSpec)

/-- 'inkhornlaw02.WideTells', WHERE WHAT IT READS IS OF BULK AT MOST 1048576: true; the input reads as it did. -/
def wideTellsUptoRow : OpenClaim := { program := "ytohjkpdelopknaadoor", sum := "7ec07548d791d3e5491424c28ae6ab3170c8e4b0d83dfcaccbf0a3c0c71d6d69", func := "inkhorn/inkhornlaw02.WideTells", spec := "wideTells", named := ["inkhorn/wide.layouts"], apart := false, laid := [("inkhorn/wide.layouts", laid_inkhorn_wide_layouts)], narrowed := true }
def WideTellsUptoSaid : Prop := wideTellsUptoRow.holds Tryd.pinned (OpenSpec.upto wideTellsSpec)

/-- 'inkhornlaw02.WideBack', WHERE WHAT IT READS IS OF BULK AT MOST 1048576: true; the input reads as it did. -/
def wideBackUptoRow : OpenClaim := { program := "ytohjkpdelopknaadoor", sum := "7ec07548d791d3e5491424c28ae6ab3170c8e4b0d83dfcaccbf0a3c0c71d6d69", func := "inkhorn/inkhornlaw02.WideBack", spec := "wideBack", inPlace := ["internal/abi.NoEscape", "internal/bytealg.MakeNoZero"], named := ["inkhorn/wide.layouts"], apart := false, laid := [("inkhorn/wide.layouts", laid_inkhorn_wide_layouts)], narrowed := true }
def WideBackUptoSaid : Prop := wideBackUptoRow.holds Tryd.pinned (OpenSpec.upto wideBackSpec)

/-- 'inkhornlaw02.WideKinds', WHERE WHAT IT READS IS OF BULK AT MOST 1048576: true; the input reads as it did. -/
def wideKindsUptoRow : OpenClaim := { program := "ytohjkpdelopknaadoor", sum := "7ec07548d791d3e5491424c28ae6ab3170c8e4b0d83dfcaccbf0a3c0c71d6d69", func := "inkhorn/inkhornlaw02.WideKinds", spec := "wideKinds", inPlace := ["internal/abi.NoEscape", "internal/bytealg.MakeNoZero"], named := ["inkhorn/wide.layouts"], apart := false, laid := [("inkhorn/wide.layouts", laid_inkhorn_wide_layouts)], narrowed := true }
def WideKindsUptoSaid : Prop := wideKindsUptoRow.holds Tryd.pinned (OpenSpec.upto wideKindsSpec)

/-- 'inkhornlaw02.WideParts', WHERE WHAT IT READS IS OF BULK AT MOST 1048576: true; the input reads as it did. -/
def widePartsUptoRow : OpenClaim := { program := "ytohjkpdelopknaadoor", sum := "7ec07548d791d3e5491424c28ae6ab3170c8e4b0d83dfcaccbf0a3c0c71d6d69", func := "inkhorn/inkhornlaw02.WideParts", spec := "wideParts", inPlace := ["internal/abi.NoEscape", "internal/bytealg.MakeNoZero"], named := ["inkhorn/wide.layouts"], apart := false, laid := [("inkhorn/wide.layouts", laid_inkhorn_wide_layouts)], narrowed := true }
def WidePartsUptoSaid : Prop := widePartsUptoRow.holds Tryd.pinned (OpenSpec.upto widePartsSpec)

/-- 'inkhornlaw02.WideJoins', WHERE WHAT IT READS IS OF BULK AT MOST 1048576: true; the input reads as it did. -/
def wideJoinsUptoRow : OpenClaim := { program := "ytohjkpdelopknaadoor", sum := "7ec07548d791d3e5491424c28ae6ab3170c8e4b0d83dfcaccbf0a3c0c71d6d69", func := "inkhorn/inkhornlaw02.WideJoins", spec := "wideJoins", inPlace := ["internal/abi.NoEscape", "internal/bytealg.MakeNoZero"], named := ["inkhorn/wide.layouts"], apart := false, laid := [("inkhorn/wide.layouts", laid_inkhorn_wide_layouts)], narrowed := true }
def WideJoinsUptoSaid : Prop := wideJoinsUptoRow.holds Tryd.pinned (OpenSpec.upto wideJoinsSpec)

end Rows
end Go.Proofs.YtohjkpdelopknaaDoor

/-
  NARROWER THAN 'FOR EVERY INPUT', by the rows' own cells (each row's printed sentence says how): StreamWhole: laid · StreamFeeds: laid · StreamParts: laid · StreamMarks: laid · StreamNil: laid · StreamSure: laid.
  DERIVED. THE GIVEN ROWS OF THIS SEAT. 6 by the template 'for every input the law returns true; each argument reads behind the call as it read before'; 0 by the template 'total and deterministic' (their statements: YthnfopjjghohcaaDoorTotals.lean).
  GIVEN WITH THE SEED: the statements are not yours to turn. If you find one false, say at which input.
  Laid BY PROGRAM, IN A SANDBOX (cutbox-rows.mjs): the forced cells as the released guide's own fill.sh prints them over the translation 3d00f1bad2850933… (all of the seat's roots in one cut). By AI agents, Wed Nov 11 2026. No macro, syntax, notation, axiom, sorry.
-/
import Derived.Test.YthnfopjjghohcaaDoorChecked
import GoSem.Claim
import GoSem.ClaimJoined
import GoSem.ClaimMapViews
import Derived.JoinedTies
import Derived.KernelRfl
namespace Go.Proofs.YthnfopjjghohcaaDoor
/- THE CELL 'sum', in the pinned program and in every row, IS THE sha256 OF THE DUMP (.gsa) THAT YthnfopjjghohcaaDoorProg.lean LOADS. Nothing in Lean hashes anything: it is a label: what it is worth is what the hold of that sum in a sandbox is worth. -/
noncomputable def Tryd.pinned : Pinned := { name := "ythnfopjjghohcaadoor", sum := "3d00f1bad28509333d5a3d499a028e6f9bfa8ba38027e3c24a2350ae3c262c49", checked := Tryd.checked }
namespace Rows
def none {H : Type} : Left H := { results := [], args := [] }

/- WHAT THE LISTED PACKAGE-LEVEL VARIABLES READ AS WHEN THE CALL BEGINS. Each datum BY PROGRAM (the guide's laid-datum.mjs) off the statement by which the dump's own 'gosem.cut.vars' lays the variable. In a bare row this is a premise. The card (YthnfopjjghohcaaDoorCards.lean) ties it to the program's text. -/
def laid_inkhorn_utf8_shapes {H : Type} : DataW H := .agg [.agg [.lit (.int .i32 (-1)), .lit (.int .u8 0), .lit (.int .i64 0)], .agg [.lit (.int .i32 127), .lit (.int .u8 0), .lit (.int .i64 7)], .agg [.lit (.int .i32 2047), .lit (.int .u8 192), .lit (.int .i64 5)], .agg [.lit (.int .i32 65535), .lit (.int .u8 224), .lit (.int .i64 4)], .agg [.lit (.int .i32 1114111), .lit (.int .u8 240), .lit (.int .i64 3)]]
def laid_inkhorn_wide_layouts {H : Type} : DataW H := .agg [.agg [.lit (.int .i64 0), .lit (.bool false), .lit (.bool false)], .agg [.lit (.int .i64 2), .lit (.bool true), .lit (.bool true)], .agg [.lit (.int .i64 2), .lit (.bool false), .lit (.bool true)], .agg [.lit (.int .i64 4), .lit (.bool true), .lit (.bool false)], .agg [.lit (.int .i64 4), .lit (.bool false), .lit (.bool false)]]

/-- 'inkhornlaw03.StreamWhole': WHATEVER THE INPUT: true; the input reads as it did. -/
def streamWholeSpec : ChangeSpec := { name := "streamWhole", fn := fun _ => fun
  | [d1, d2] => { results := [.lit (.bool true)], args := [d1, d2] }
  | _ => none }
def streamWholeRow : OpenClaim := { program := "ythnfopjjghohcaadoor", sum := "3d00f1bad28509333d5a3d499a028e6f9bfa8ba38027e3c24a2350ae3c262c49", func := "inkhorn/inkhornlaw03.StreamWhole", spec := "streamWhole", inPlace := ["internal/abi.NoEscape", "internal/bytealg.MakeNoZero"], unfollowed := true, recurses := true, named := ["inkhorn/utf8.shapes", "inkhorn/wide.layouts"], apart := false, laid := [("inkhorn/utf8.shapes", laid_inkhorn_utf8_shapes), ("inkhorn/wide.layouts", laid_inkhorn_wide_layouts)] }
def StreamWholeSaid : Prop := streamWholeRow.holds Tryd.pinned (OpenSpec.ofChange streamWholeSpec)

/-- ITS FALSE NEIGHBOUR: 'it returns false'. Refute it at one input. -/
def streamWholeWrong : ChangeSpec := { name := "streamWhole", fn := fun _ => fun
  | [d1, d2] => { results := [.lit (.bool false)], args := [d1, d2] }
  | _ => none }
def StreamWholeWrongFalsely : Prop := streamWholeRow.holds Tryd.pinned (OpenSpec.ofChange streamWholeWrong)

/-- 'inkhornlaw03.StreamFeeds': WHATEVER THE INPUT: true; the input reads as it did. -/
def streamFeedsSpec : ChangeSpec := { name := "streamFeeds", fn := fun _ => fun
  | [d1, d2] => { results := [.lit (.bool true)], args := [d1, d2] }
  | _ => none }
def streamFeedsRow : OpenClaim := { program := "ythnfopjjghohcaadoor", sum := "3d00f1bad28509333d5a3d499a028e6f9bfa8ba38027e3c24a2350ae3c262c49", func := "inkhorn/inkhornlaw03.StreamFeeds", spec := "streamFeeds", inPlace := ["internal/abi.NoEscape", "internal/bytealg.MakeNoZero"], unfollowed := true, recurses := true, named := ["inkhorn/utf8.shapes", "inkhorn/wide.layouts"], apart := false, laid := [("inkhorn/utf8.shapes", laid_inkhorn_utf8_shapes), ("inkhorn/wide.layouts", laid_inkhorn_wide_layouts)] }
def StreamFeedsSaid : Prop := streamFeedsRow.holds Tryd.pinned (OpenSpec.ofChange streamFeedsSpec)

/-- ITS FALSE NEIGHBOUR: 'it returns false'. Refute it at one input. -/
def streamFeedsWrong : ChangeSpec := { name := "streamFeeds", fn := fun _ => fun
  | [d1, d2] => { results := [.lit (.bool false)], args := [d1, d2] }
  | _ => none }
def StreamFeedsWrongFalsely : Prop := streamFeedsRow.holds Tryd.pinned (OpenSpec.ofChange streamFeedsWrong)

/-- 'inkhornlaw03.StreamParts': WHATEVER THE INPUT: true; the input reads as it did. -/
def streamPartsSpec : ChangeSpec := { name := "streamParts", fn := fun _ => fun
  | [d1, d2] => { results := [.lit (.bool true)], args := [d1, d2] }
  | _ => none }
def streamPartsRow : OpenClaim := { program := "ythnfopjjghohcaadoor", sum := "3d00f1bad28509333d5a3d499a028e6f9bfa8ba38027e3c24a2350ae3c262c49", func := "inkhorn/inkhornlaw03.StreamParts", spec := "streamParts", inPlace := ["internal/abi.NoEscape", "internal/bytealg.MakeNoZero"], unfollowed := true, recurses := true, named := ["inkhorn/utf8.shapes", "inkhorn/wide.layouts"], apart := false, laid := [("inkhorn/utf8.shapes", laid_inkhorn_utf8_shapes), ("inkhorn/wide.layouts", laid_inkhorn_wide_layouts)] }
def StreamPartsSaid : Prop := streamPartsRow.holds Tryd.pinned (OpenSpec.ofChange streamPartsSpec)

/-- ITS FALSE NEIGHBOUR: 'it returns false'. Refute it at one input. -/
def streamPartsWrong : ChangeSpec := { name := "streamParts", fn := fun _ => fun
  | [d1, d2] => { results := [.lit (.bool false)], args := [d1, d2] }
  | _ => none }
def StreamPartsWrongFalsely : Prop := streamPartsRow.holds Tryd.pinned (OpenSpec.ofChange streamPartsWrong)

/-- 'inkhornlaw03.StreamMarks': WHATEVER THE INPUT: true; the input reads as it did. -/
def streamMarksSpec : ChangeSpec := { name := "streamMarks", fn := fun _ => fun
  | [d1, d2, d3] => { results := [.lit (.bool true)], args := [d1, d2, d3] }
  | _ => none }
def streamMarksRow : OpenClaim := { program := "ythnfopjjghohcaadoor", sum := "3d00f1bad28509333d5a3d499a028e6f9bfa8ba38027e3c24a2350ae3c262c49", func := "inkhorn/inkhornlaw03.StreamMarks", spec := "streamMarks", inPlace := ["internal/abi.NoEscape", "internal/bytealg.MakeNoZero"], unfollowed := true, recurses := true, named := ["inkhorn/utf8.shapes", "inkhorn/wide.layouts"], apart := false, laid := [("inkhorn/utf8.shapes", laid_inkhorn_utf8_shapes), ("inkhorn/wide.layouts", laid_inkhorn_wide_layouts)] }
def StreamMarksSaid : Prop := streamMarksRow.holds Tryd.pinned (OpenSpec.ofChange streamMarksSpec)

/-- ITS FALSE NEIGHBOUR: 'it returns false'. Refute it at one input. -/
def streamMarksWrong : ChangeSpec := { name := "streamMarks", fn := fun _ => fun
  | [d1, d2, d3] => { results := [.lit (.bool false)], args := [d1, d2, d3] }
  | _ => none }
def StreamMarksWrongFalsely : Prop := streamMarksRow.holds Tryd.pinned (OpenSpec.ofChange streamMarksWrong)

/-- 'inkhornlaw03.StreamNil': WHATEVER THE INPUT: true; the input reads as it did. -/
def streamNilSpec : ChangeSpec := { name := "streamNil", fn := fun _ => fun
  | [d] => { results := [.lit (.bool true)], args := [d] }
  | _ => none }
def streamNilRow : OpenClaim := { program := "ythnfopjjghohcaadoor", sum := "3d00f1bad28509333d5a3d499a028e6f9bfa8ba38027e3c24a2350ae3c262c49", func := "inkhorn/inkhornlaw03.StreamNil", spec := "streamNil", inPlace := ["internal/abi.NoEscape", "internal/bytealg.MakeNoZero"], unfollowed := true, recurses := true, named := ["inkhorn/utf8.shapes", "inkhorn/wide.layouts"], apart := false, laid := [("inkhorn/utf8.shapes", laid_inkhorn_utf8_shapes), ("inkhorn/wide.layouts", laid_inkhorn_wide_layouts)] }
def StreamNilSaid : Prop := streamNilRow.holds Tryd.pinned (OpenSpec.ofChange streamNilSpec)

/-- ITS FALSE NEIGHBOUR: 'it returns false'. Refute it at one input. -/
def streamNilWrong : ChangeSpec := { name := "streamNil", fn := fun _ => fun
  | [d] => { results := [.lit (.bool false)], args := [d] }
  | _ => none }
def StreamNilWrongFalsely : Prop := streamNilRow.holds Tryd.pinned (OpenSpec.ofChange streamNilWrong)

/-- 'inkhornlaw03.StreamSure': WHATEVER THE INPUT: true; the input reads as it did. -/
def streamSureSpec : ChangeSpec := { name := "streamSure", fn := fun _ => fun
  | [d1, d2, d3] => { results := [.lit (.bool true)], args := [d1, d2, d3] }
  | _ => none }
def streamSureRow : OpenClaim := { program := "ythnfopjjghohcaadoor", sum := "3d00f1bad28509333d5a3d499a028e6f9bfa8ba38027e3c24a2350ae3c262c49", func := "inkhorn/inkhornlaw03.StreamSure", spec := "streamSure", inPlace := ["internal/abi.NoEscape", "internal/bytealg.MakeNoZero"], unfollowed := true, recurses := true, named := ["inkhorn/utf8.shapes", "inkhorn/wide.layouts"], apart := false, laid := [("inkhorn/utf8.shapes", laid_inkhorn_utf8_shapes), ("inkhorn/wide.layouts", laid_inkhorn_wide_layouts)] }
def StreamSureSaid : Prop := streamSureRow.holds Tryd.pinned (OpenSpec.ofChange streamSureSpec)

/-- ITS FALSE NEIGHBOUR: 'it returns false'. Refute it at one input. -/
def streamSureWrong : ChangeSpec := { name := "streamSure", fn := fun _ => fun
  | [d1, d2, d3] => { results := [.lit (.bool false)], args := [d1, d2, d3] }
  | _ => none }
def StreamSureWrongFalsely : Prop := streamSureRow.holds Tryd.pinned (OpenSpec.ofChange streamSureWrong)

/- THE SECOND FORM. 'bulk': how many values and letters a reading holds, each counted each time it is reached (what is shared counts as often as it is met; a slice's spare places count too). A statement '..UptoSaid' is the law's where the arguments, and the package variables that the reading takes, are together of bulk at most 1048576: NARROWER than '..Said'. Prove '..Said' where nothing that the law and all that it calls make is longer than what came in: it says more and counts as full. Else prove '..UptoSaid'. A law counts once. -/
mutual
def uptoBulk {H : Type} : DataW H → Nat
  | .lit (.string bytes) => bytes.length + 1
  | .lit _ => 1
  | .nil => 1
  | .ptr d => uptoBulk d + 1
  | .slice elems spare => uptoBulkAll elems + uptoBulkAll spare + 1
  | .agg parts => uptoBulkAll parts + 1
  | .iface _ d => uptoBulk d + 1
  | .map entries => uptoBulkEntries entries + 1
  | .held _ => 1
def uptoBulkAll {H : Type} : List (DataW H) → Nat
  | [] => 0
  | d :: r => uptoBulk d + uptoBulkAll r
def uptoBulkEntries {H : Type} : List (Lit × DataW H) → Nat
  | [] => 0
  | x :: r => uptoBulkEntry x + uptoBulkEntries r
def uptoBulkEntry {H : Type} : Lit × DataW H → Nat
  | (.string bytes, d) => bytes.length + uptoBulk d + 1
  | (_, d) => uptoBulk d + 1
 end
def uptoSmall : (H : Type) → List (DataW H) → Bool := fun _ ds => decide (uptoBulkAll ds ≤ 1048576)
def OpenSpec.upto (s : _root_.Go.ChangeSpec) : _root_.Go.OpenSpec := { _root_.Go.OpenSpec.ofChange s with cond := some uptoSmall }

/-- 'inkhornlaw03.StreamWhole', WHERE WHAT IT READS IS OF BULK AT MOST 1048576: true; the input reads as it did. -/
def streamWholeUptoRow : OpenClaim := { program := "ythnfopjjghohcaadoor", sum := "3d00f1bad28509333d5a3d499a028e6f9bfa8ba38027e3c24a2350ae3c262c49", func := "inkhorn/inkhornlaw03.StreamWhole", spec := "streamWhole", inPlace := ["internal/abi.NoEscape", "internal/bytealg.MakeNoZero"], unfollowed := true, recurses := true, named := ["inkhorn/utf8.shapes", "inkhorn/wide.layouts"], apart := false, laid := [("inkhorn/utf8.shapes", laid_inkhorn_utf8_shapes), ("inkhorn/wide.layouts", laid_inkhorn_wide_layouts)], narrowed := true }
def StreamWholeUptoSaid : Prop := streamWholeUptoRow.holds Tryd.pinned (OpenSpec.upto streamWholeSpec)

/-- 'inkhornlaw03.StreamFeeds', WHERE WHAT IT READS IS OF BULK AT MOST 1048576: true; the input reads as it did. -/
def streamFeedsUptoRow : OpenClaim := { program := "ythnfopjjghohcaadoor", sum := "3d00f1bad28509333d5a3d499a028e6f9bfa8ba38027e3c24a2350ae3c262c49", func := "inkhorn/inkhornlaw03.StreamFeeds", spec := "streamFeeds", inPlace := ["internal/abi.NoEscape", "internal/bytealg.MakeNoZero"], unfollowed := true, recurses := true, named := ["inkhorn/utf8.shapes", "inkhorn/wide.layouts"], apart := false, laid := [("inkhorn/utf8.shapes", laid_inkhorn_utf8_shapes), ("inkhorn/wide.layouts", laid_inkhorn_wide_layouts)], narrowed := true }
def StreamFeedsUptoSaid : Prop := streamFeedsUptoRow.holds Tryd.pinned (OpenSpec.upto streamFeedsSpec)

/-- 'inkhornlaw03.StreamParts', WHERE WHAT IT READS IS OF BULK AT MOST 1048576: true; the input reads as it did. -/
def streamPartsUptoRow : OpenClaim := { program := "ythnfopjjghohcaadoor", sum := "3d00f1bad28509333d5a3d499a028e6f9bfa8ba38027e3c24a2350ae3c262c49", func := "inkhorn/inkhornlaw03.StreamParts", spec := "streamParts", inPlace := ["internal/abi.NoEscape", "internal/bytealg.MakeNoZero"], unfollowed := true, recurses := true, named := ["inkhorn/utf8.shapes", "inkhorn/wide.layouts"], apart := false, laid := [("inkhorn/utf8.shapes", laid_inkhorn_utf8_shapes), ("inkhorn/wide.layouts", laid_inkhorn_wide_layouts)], narrowed := true }
def StreamPartsUptoSaid : Prop := streamPartsUptoRow.holds Tryd.pinned (OpenSpec.upto streamPartsSpec)

/-- 'inkhornlaw03.StreamMarks', WHERE WHAT IT READS IS OF BULK AT MOST 1048576: true; the input reads as it did. -/
def streamMarksUptoRow : OpenClaim := { program := "ythnfopjjghohcaadoor", sum := "3d00f1bad28509333d5a3d499a028e6f9bfa8ba38027e3c24a2350ae3c262c49", func := "inkhorn/inkhornlaw03.StreamMarks", spec := "streamMarks", inPlace := ["internal/abi.NoEscape", "internal/bytealg.MakeNoZero"], unfollowed := true, recurses := true, named := ["inkhorn/utf8.shapes", "inkhorn/wide.layouts"], apart := false, laid := [("inkhorn/utf8.shapes", laid_inkhorn_utf8_shapes), ("inkhorn/wide.layouts", laid_inkhorn_wide_layouts)], narrowed := true }
def StreamMarksUptoSaid : Prop := streamMarksUptoRow.holds Tryd.pinned (OpenSpec.upto streamMarksSpec)

/-- 'inkhornlaw03.StreamNil', WHERE WHAT IT READS IS OF BULK AT MOST 1048576: true; the input reads as it did. -/
def streamNilUptoRow : OpenClaim := { program := "ythnfopjjghohcaadoor", sum := "3d00f1bad28509333d5a3d499a028e6f9bfa8ba38027e3c24a2350ae3c262c49", func := "inkhorn/inkhornlaw03.StreamNil", spec := "streamNil", inPlace := ["internal/abi.NoEscape", "internal/bytealg.MakeNoZero"], unfollowed := true, recurses := true, named := ["inkhorn/utf8.shapes", "inkhorn/wide.layouts"], apart := false, laid := [("inkhorn/utf8.shapes", laid_inkhorn_utf8_shapes), ("inkhorn/wide.layouts", laid_inkhorn_wide_layouts)], narrowed := true }
def StreamNilUptoSaid : Prop := streamNilUptoRow.holds Tryd.pinned (OpenSpec.upto streamNilSpec)

/-- 'inkhornlaw03.StreamSure', WHERE WHAT IT READS IS OF BULK AT MOST 1048576: true; the input reads as it did. -/
def streamSureUptoRow : OpenClaim := { program := "ythnfopjjghohcaadoor", sum := "3d00f1bad28509333d5a3d499a028e6f9bfa8ba38027e3c24a2350ae3c262c49", func := "inkhorn/inkhornlaw03.StreamSure", spec := "streamSure", inPlace := ["internal/abi.NoEscape", "internal/bytealg.MakeNoZero"], unfollowed := true, recurses := true, named := ["inkhorn/utf8.shapes", "inkhorn/wide.layouts"], apart := false, laid := [("inkhorn/utf8.shapes", laid_inkhorn_utf8_shapes), ("inkhorn/wide.layouts", laid_inkhorn_wide_layouts)], narrowed := true }
def StreamSureUptoSaid : Prop := streamSureUptoRow.holds Tryd.pinned (OpenSpec.upto streamSureSpec)

end Rows
end Go.Proofs.YthnfopjjghohcaaDoor

/-
  NARROWER THAN 'FOR EVERY INPUT', by the rows' own cells (each row's printed sentence says how): BasePairs: laid · BaseEnds: laid · BaseNil: laid · BaseOut: laid.
  DERIVED. THE GIVEN ROWS OF THIS SEAT. 4 by the template 'for every input the law returns true; each argument reads behind the call as it read before'; 0 by the template 'total and deterministic' (their statements: YtagbeioooohbgaaGreatDoorTotals.lean).
  GIVEN WITH THE SEED: the statements are not yours to turn. If you find one false, say at which input.
  Laid BY PROGRAM, IN A SANDBOX (cutbox-rows.mjs): the forced cells as the released guide's own fill.sh prints them over the translation b62875933fc28647… (all of the seat's roots in one cut). By AI agents, Wed Nov 11 2026. No macro, syntax, notation, axiom, sorry.
-/
import Derived.Test.YtagbeioooohbgaaGreatDoorChecked
import GoSem.PinnedTables
import GoSem.Claim
import GoSem.ClaimJoined
import GoSem.ClaimMapViews
import Derived.JoinedTies
import Derived.KernelRfl
namespace Go.Proofs.YtagbeioooohbgaaGreatDoor
/- THE CELL 'sum', in the pinned program and in every row, IS THE sha256 OF THE DUMP (.gsa) THAT YtagbeioooohbgaaGreatDoorProg.lean LOADS. Nothing in Lean hashes anything: it is a label: what it is worth is what the hold of that sum in a sandbox is worth. -/
noncomputable def Tryz.pinned : Pinned := { name := "ytagbeioooohbgaagreatdoor", sum := "b62875933fc28647707e07a9b2c573bf6555515402530e4506677ab35a4eae19", checked := Tryz.checked }
namespace Rows
def none {H : Type} : Left H := { results := [], args := [] }

/- WHAT THE LISTED PACKAGE-LEVEL VARIABLES READ AS WHEN THE CALL BEGINS. Each datum BY PROGRAM (the guide's laid-datum.mjs) off the statement by which the dump's own 'gosem.cut.vars' lays the variable. In a bare row this is a premise. The card (YtagbeioooohbgaaGreatDoorCards.lean) ties it to the program's text. -/
def laid_inkhorn_hangul_places {H : Type} : DataW H := .agg [.agg [.lit (.int .i32 4352), .lit (.int .i32 4370), .lit (.int .i32 0), .lit (.int .i32 588)], .agg [.lit (.int .i32 4449), .lit (.int .i32 4469), .lit (.int .i32 0), .lit (.int .i32 28)], .agg [.lit (.int .i32 4520), .lit (.int .i32 4546), .lit (.int .i32 1), .lit (.int .i32 1)]]
def laid_unicode_utf8_acceptRanges {H : Type} : DataW H := .agg [.agg [.lit (.int .u8 128), .lit (.int .u8 191)], .agg [.lit (.int .u8 160), .lit (.int .u8 191)], .agg [.lit (.int .u8 128), .lit (.int .u8 159)], .agg [.lit (.int .u8 144), .lit (.int .u8 191)], .agg [.lit (.int .u8 128), .lit (.int .u8 143)], .agg [.lit (.int .u8 0), .lit (.int .u8 0)], .agg [.lit (.int .u8 0), .lit (.int .u8 0)], .agg [.lit (.int .u8 0), .lit (.int .u8 0)], .agg [.lit (.int .u8 0), .lit (.int .u8 0)], .agg [.lit (.int .u8 0), .lit (.int .u8 0)], .agg [.lit (.int .u8 0), .lit (.int .u8 0)], .agg [.lit (.int .u8 0), .lit (.int .u8 0)], .agg [.lit (.int .u8 0), .lit (.int .u8 0)], .agg [.lit (.int .u8 0), .lit (.int .u8 0)], .agg [.lit (.int .u8 0), .lit (.int .u8 0)], .agg [.lit (.int .u8 0), .lit (.int .u8 0)]]
/-- One of Go's own tables, pinned by name: the form's constant. -/
def laid_unicode_utf8_first : DataW Unit := Go.Pinned.utf8First

/-- 'inkhornlaw08.BasePairs': WHATEVER THE INPUT: true; the input reads as it did. -/
def basePairsSpec : ChangeSpec := { name := "basePairs", fn := fun _ => fun
  | [d1, d2, d3] => { results := [.lit (.bool true)], args := [d1, d2, d3] }
  | _ => none }
def basePairsRow : OpenClaim := { program := "ytagbeioooohbgaagreatdoor", sum := "b62875933fc28647707e07a9b2c573bf6555515402530e4506677ab35a4eae19", func := "inkhorn/inkhornlaw08.BasePairs", spec := "basePairs", inPlace := ["internal/bytealg.CountString", "internal/bytealg.IndexByteString", "internal/bytealg.IndexString", "slices.overlaps[rune]"], unfollowed := true, recurses := true, named := ["unicode/utf8.first", "unicode/utf8.acceptRanges", "internal/bytealg.MaxLen", "inkhorn/hangul.places"], plainKeys := false, apart := false, laid := [("inkhorn/hangul.places", laid_inkhorn_hangul_places), ("unicode/utf8.acceptRanges", laid_unicode_utf8_acceptRanges), ("unicode/utf8.first", laid_unicode_utf8_first)] }
def BasePairsSaid : Prop := basePairsRow.holds Tryz.pinned (OpenSpec.ofChange basePairsSpec)

/-- ITS FALSE NEIGHBOUR: 'it returns false'. Refute it at one input. -/
def basePairsWrong : ChangeSpec := { name := "basePairs", fn := fun _ => fun
  | [d1, d2, d3] => { results := [.lit (.bool false)], args := [d1, d2, d3] }
  | _ => none }
def BasePairsWrongFalsely : Prop := basePairsRow.holds Tryz.pinned (OpenSpec.ofChange basePairsWrong)

/-- 'inkhornlaw08.BaseEnds': WHATEVER THE INPUT: true; the input reads as it did. -/
def baseEndsSpec : ChangeSpec := { name := "baseEnds", fn := fun _ => fun
  | [d] => { results := [.lit (.bool true)], args := [d] }
  | _ => none }
def baseEndsRow : OpenClaim := { program := "ytagbeioooohbgaagreatdoor", sum := "b62875933fc28647707e07a9b2c573bf6555515402530e4506677ab35a4eae19", func := "inkhorn/inkhornlaw08.BaseEnds", spec := "baseEnds", inPlace := ["internal/bytealg.CountString", "internal/bytealg.IndexByteString", "internal/bytealg.IndexString", "slices.overlaps[rune]"], unfollowed := true, recurses := true, named := ["unicode/utf8.first", "unicode/utf8.acceptRanges", "internal/bytealg.MaxLen", "inkhorn/hangul.places"], plainKeys := false, apart := false, laid := [("inkhorn/hangul.places", laid_inkhorn_hangul_places), ("unicode/utf8.acceptRanges", laid_unicode_utf8_acceptRanges), ("unicode/utf8.first", laid_unicode_utf8_first)] }
def BaseEndsSaid : Prop := baseEndsRow.holds Tryz.pinned (OpenSpec.ofChange baseEndsSpec)

/-- ITS FALSE NEIGHBOUR: 'it returns false'. Refute it at one input. -/
def baseEndsWrong : ChangeSpec := { name := "baseEnds", fn := fun _ => fun
  | [d] => { results := [.lit (.bool false)], args := [d] }
  | _ => none }
def BaseEndsWrongFalsely : Prop := baseEndsRow.holds Tryz.pinned (OpenSpec.ofChange baseEndsWrong)

/-- 'inkhornlaw08.BaseNil': WHATEVER THE INPUT: true; the input reads as it did. -/
def baseNilSpec : ChangeSpec := { name := "baseNil", fn := fun _ => fun
  | [d1, d2] => { results := [.lit (.bool true)], args := [d1, d2] }
  | _ => none }
def baseNilRow : OpenClaim := { program := "ytagbeioooohbgaagreatdoor", sum := "b62875933fc28647707e07a9b2c573bf6555515402530e4506677ab35a4eae19", func := "inkhorn/inkhornlaw08.BaseNil", spec := "baseNil", inPlace := ["internal/bytealg.CountString", "internal/bytealg.IndexByteString", "internal/bytealg.IndexString", "slices.overlaps[rune]"], unfollowed := true, recurses := true, named := ["inkhorn/hangul.places", "unicode/utf8.first", "unicode/utf8.acceptRanges", "internal/bytealg.MaxLen"], plainKeys := false, apart := false, laid := [("inkhorn/hangul.places", laid_inkhorn_hangul_places), ("unicode/utf8.acceptRanges", laid_unicode_utf8_acceptRanges), ("unicode/utf8.first", laid_unicode_utf8_first)] }
def BaseNilSaid : Prop := baseNilRow.holds Tryz.pinned (OpenSpec.ofChange baseNilSpec)

/-- ITS FALSE NEIGHBOUR: 'it returns false'. Refute it at one input. -/
def baseNilWrong : ChangeSpec := { name := "baseNil", fn := fun _ => fun
  | [d1, d2] => { results := [.lit (.bool false)], args := [d1, d2] }
  | _ => none }
def BaseNilWrongFalsely : Prop := baseNilRow.holds Tryz.pinned (OpenSpec.ofChange baseNilWrong)

/-- 'inkhornlaw08.BaseOut': WHATEVER THE INPUT: true; the input reads as it did. -/
def baseOutSpec : ChangeSpec := { name := "baseOut", fn := fun _ => fun
  | [d1, d2, d3] => { results := [.lit (.bool true)], args := [d1, d2, d3] }
  | _ => none }
def baseOutRow : OpenClaim := { program := "ytagbeioooohbgaagreatdoor", sum := "b62875933fc28647707e07a9b2c573bf6555515402530e4506677ab35a4eae19", func := "inkhorn/inkhornlaw08.BaseOut", spec := "baseOut", inPlace := ["internal/bytealg.CountString", "internal/bytealg.IndexByteString", "internal/bytealg.IndexString", "slices.overlaps[rune]"], unfollowed := true, recurses := true, named := ["unicode/utf8.first", "unicode/utf8.acceptRanges", "internal/bytealg.MaxLen", "inkhorn/hangul.places"], plainKeys := false, apart := false, laid := [("inkhorn/hangul.places", laid_inkhorn_hangul_places), ("unicode/utf8.acceptRanges", laid_unicode_utf8_acceptRanges), ("unicode/utf8.first", laid_unicode_utf8_first)] }
def BaseOutSaid : Prop := baseOutRow.holds Tryz.pinned (OpenSpec.ofChange baseOutSpec)

/-- ITS FALSE NEIGHBOUR: 'it returns false'. Refute it at one input. -/
def baseOutWrong : ChangeSpec := { name := "baseOut", fn := fun _ => fun
  | [d1, d2, d3] => { results := [.lit (.bool false)], args := [d1, d2, d3] }
  | _ => none }
def BaseOutWrongFalsely : Prop := baseOutRow.holds Tryz.pinned (OpenSpec.ofChange baseOutWrong)

/- THE SECOND FORM. 'bulk': how many values and letters a reading holds, each counted each time it is reached (what is shared counts as often as it is met; a slice's spare places count too). A statement '..UptoSaid' is the law's where the arguments, and the package variables that the reading takes, are together of bulk at most 1048576: NARROWER than '..Said'. Prove '..Said' where nothing that the law and all that it calls make is longer than what came in: it says more and counts as full. Else prove '..UptoSaid'. A law counts once. -/
mutual
def uptoBulk {H : Type} : DataW H → Nat
  | .lit (.string bytes) => bytes.length + 1
  | .lit _ => 1
  | .nil => 1
  | .ptr d => uptoBulk d + 1
  | .slice elems spare => uptoBulkAll elems + uptoBulkAll spare + 1
  | .agg parts => uptoBulkAll parts + 1
  | .iface _ d => uptoBulk d + 1
  | .map entries => uptoBulkEntries entries + 1
  | .held _ => 1
def uptoBulkAll {H : Type} : List (DataW H) → Nat
  | [] => 0
  | d :: r => uptoBulk d + uptoBulkAll r
def uptoBulkEntries {H : Type} : List (Lit × DataW H) → Nat
  | [] => 0
  | x :: r => uptoBulkEntry x + uptoBulkEntries r
def uptoBulkEntry {H : Type} : Lit × DataW H → Nat
  | (.string bytes, d) => bytes.length + uptoBulk d + 1
  | (_, d) => uptoBulk d + 1
 end
def uptoSmall : (H : Type) → List (DataW H) → Bool := fun _ ds => decide (uptoBulkAll ds ≤ 1048576)
def OpenSpec.upto (s : _root_.Go.ChangeSpec) : _root_.Go.OpenSpec := { _root_.Go.OpenSpec.ofChange s with cond := some uptoSmall }

/-- 'inkhornlaw08.BasePairs', WHERE WHAT IT READS IS OF BULK AT MOST 1048576: true; the input reads as it did. -/
def basePairsUptoRow : OpenClaim := { program := "ytagbeioooohbgaagreatdoor", sum := "b62875933fc28647707e07a9b2c573bf6555515402530e4506677ab35a4eae19", func := "inkhorn/inkhornlaw08.BasePairs", spec := "basePairs", inPlace := ["internal/bytealg.CountString", "internal/bytealg.IndexByteString", "internal/bytealg.IndexString", "slices.overlaps[rune]"], unfollowed := true, recurses := true, named := ["unicode/utf8.first", "unicode/utf8.acceptRanges", "internal/bytealg.MaxLen", "inkhorn/hangul.places"], plainKeys := false, apart := false, laid := [("inkhorn/hangul.places", laid_inkhorn_hangul_places), ("unicode/utf8.acceptRanges", laid_unicode_utf8_acceptRanges), ("unicode/utf8.first", laid_unicode_utf8_first)], narrowed := true }
def BasePairsUptoSaid : Prop := basePairsUptoRow.holds Tryz.pinned (OpenSpec.upto basePairsSpec)

/-- 'inkhornlaw08.BaseEnds', WHERE WHAT IT READS IS OF BULK AT MOST 1048576: true; the input reads as it did. -/
def baseEndsUptoRow : OpenClaim := { program := "ytagbeioooohbgaagreatdoor", sum := "b62875933fc28647707e07a9b2c573bf6555515402530e4506677ab35a4eae19", func := "inkhorn/inkhornlaw08.BaseEnds", spec := "baseEnds", inPlace := ["internal/bytealg.CountString", "internal/bytealg.IndexByteString", "internal/bytealg.IndexString", "slices.overlaps[rune]"], unfollowed := true, recurses := true, named := ["unicode/utf8.first", "unicode/utf8.acceptRanges", "internal/bytealg.MaxLen", "inkhorn/hangul.places"], plainKeys := false, apart := false, laid := [("inkhorn/hangul.places", laid_inkhorn_hangul_places), ("unicode/utf8.acceptRanges", laid_unicode_utf8_acceptRanges), ("unicode/utf8.first", laid_unicode_utf8_first)], narrowed := true }
def BaseEndsUptoSaid : Prop := baseEndsUptoRow.holds Tryz.pinned (OpenSpec.upto baseEndsSpec)

/-- 'inkhornlaw08.BaseNil', WHERE WHAT IT READS IS OF BULK AT MOST 1048576: true; the input reads as it did. -/
def baseNilUptoRow : OpenClaim := { program := "ytagbeioooohbgaagreatdoor", sum := "b62875933fc28647707e07a9b2c573bf6555515402530e4506677ab35a4eae19", func := "inkhorn/inkhornlaw08.BaseNil", spec := "baseNil", inPlace := ["internal/bytealg.CountString", "internal/bytealg.IndexByteString", "internal/bytealg.IndexString", "slices.overlaps[rune]"], unfollowed := true, recurses := true, named := ["inkhorn/hangul.places", "unicode/utf8.first", "unicode/utf8.acceptRanges", "internal/bytealg.MaxLen"], plainKeys := false, apart := false, laid := [("inkhorn/hangul.places", laid_inkhorn_hangul_places), ("unicode/utf8.acceptRanges", laid_unicode_utf8_acceptRanges), ("unicode/utf8.first", laid_unicode_utf8_first)], narrowed := true }
def BaseNilUptoSaid : Prop := baseNilUptoRow.holds Tryz.pinned (OpenSpec.upto baseNilSpec)

/-- 'inkhornlaw08.BaseOut', WHERE WHAT IT READS IS OF BULK AT MOST 1048576: true; the input reads as it did. -/
def baseOutUptoRow : OpenClaim := { program := "ytagbeioooohbgaagreatdoor", sum := "b62875933fc28647707e07a9b2c573bf6555515402530e4506677ab35a4eae19", func := "inkhorn/inkhornlaw08.BaseOut", spec := "baseOut", inPlace := ["internal/bytealg.CountString", "internal/bytealg.IndexByteString", "internal/bytealg.IndexString", "slices.overlaps[rune]"], unfollowed := true, recurses := true, named := ["unicode/utf8.first", "unicode/utf8.acceptRanges", "internal/bytealg.MaxLen", "inkhorn/hangul.places"], plainKeys := false, apart := false, laid := [("inkhorn/hangul.places", laid_inkhorn_hangul_places), ("unicode/utf8.acceptRanges", laid_unicode_utf8_acceptRanges), ("unicode/utf8.first", laid_unicode_utf8_first)], narrowed := true }
def BaseOutUptoSaid : Prop := baseOutUptoRow.holds Tryz.pinned (OpenSpec.upto baseOutSpec)

end Rows
end Go.Proofs.YtagbeioooohbgaaGreatDoor

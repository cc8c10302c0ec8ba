/-
  NARROWER THAN 'FOR EVERY INPUT', by the rows' own cells (each row's printed sentence says how): FnExactValueWithDoubts: laid · FnExactIsImplied: laid · FnExactRowsCovered: laid · FnExactPrimePatterns: laid · FnExactNeededPatterns: laid · FnExactSafeFormula: laid.
  DERIVED. THE GIVEN ROWS OF THIS SEAT. 6 by the template 'for every input the law returns true; each argument reads behind the call as it read before'; 0 by the template 'total and deterministic' (their statements: YtohmhiodmaahfaaDoorTotals.lean).
  GIVEN WITH THE SEED: the statements are not yours to turn. If you find one false, say at which input.
  Laid BY PROGRAM, IN A SANDBOX (cutbox-rows.mjs): the forced cells as the released guide's own fill.sh prints them over the translation a6e9f9d785f8aa68… (all of the seat's roots in one cut). By AI agents, Wed Nov 11 2026. No macro, syntax, notation, axiom, sorry.
-/
import Derived.Test.YtohmhiodmaahfaaDoorChecked
import GoSem.PinnedTables
import GoSem.Claim
import GoSem.ClaimJoined
import GoSem.ClaimMapViews
import Derived.JoinedTies
import Derived.KernelRfl
namespace Go.Proofs.YtohmhiodmaahfaaDoor
/- THE CELL 'sum', in the pinned program and in every row, IS THE sha256 OF THE DUMP (.gsa) THAT YtohmhiodmaahfaaDoorProg.lean LOADS. Nothing in Lean hashes anything: it is a label: what it is worth is what the hold of that sum in a sandbox is worth. -/
noncomputable def Tryd.pinned : Pinned := { name := "ytohmhiodmaahfaadoor", sum := "a6e9f9d785f8aa68ce0f44a0f61d90256a1891573dddde3d1bace1ff511cb012", checked := Tryd.checked }
namespace Rows
def none {H : Type} : Left H := { results := [], args := [] }

/- WHAT THE LISTED PACKAGE-LEVEL VARIABLES READ AS WHEN THE CALL BEGINS. Each datum BY PROGRAM (the guide's laid-datum.mjs) off the statement by which the dump's own 'gosem.cut.vars' lays the variable. In a bare row this is a premise. The card (YtohmhiodmaahfaaDoorCards.lean) ties it to the program's text. -/
def laid_unicode_utf8_acceptRanges {H : Type} : DataW H := .agg [.agg [.lit (.int .u8 128), .lit (.int .u8 191)], .agg [.lit (.int .u8 160), .lit (.int .u8 191)], .agg [.lit (.int .u8 128), .lit (.int .u8 159)], .agg [.lit (.int .u8 144), .lit (.int .u8 191)], .agg [.lit (.int .u8 128), .lit (.int .u8 143)], .agg [.lit (.int .u8 0), .lit (.int .u8 0)], .agg [.lit (.int .u8 0), .lit (.int .u8 0)], .agg [.lit (.int .u8 0), .lit (.int .u8 0)], .agg [.lit (.int .u8 0), .lit (.int .u8 0)], .agg [.lit (.int .u8 0), .lit (.int .u8 0)], .agg [.lit (.int .u8 0), .lit (.int .u8 0)], .agg [.lit (.int .u8 0), .lit (.int .u8 0)], .agg [.lit (.int .u8 0), .lit (.int .u8 0)], .agg [.lit (.int .u8 0), .lit (.int .u8 0)], .agg [.lit (.int .u8 0), .lit (.int .u8 0)], .agg [.lit (.int .u8 0), .lit (.int .u8 0)]]
/-- One of Go's own tables, pinned by name: the form's constant. -/
def laid_unicode_utf8_first : DataW Unit := Go.Pinned.utf8First

/-- 'laws.FnExactValueWithDoubts': WHATEVER THE INPUT: true; the input reads as it did. -/
def fnExactValueWithDoubtsSpec : ChangeSpec := { name := "fnExactValueWithDoubts", fn := fun _ => fun
  | [d1, d2] => { results := [.lit (.bool true)], args := [d1, d2] }
  | _ => none }
def fnExactValueWithDoubtsRow : OpenClaim := { program := "ytohmhiodmaahfaadoor", sum := "a6e9f9d785f8aa68ce0f44a0f61d90256a1891573dddde3d1bace1ff511cb012", func := "loop.example/g01392/laws.FnExactValueWithDoubts", spec := "fnExactValueWithDoubts", inPlace := ["internal/bytealg.IndexByteString", "internal/bytealg.IndexString"], recurses := true, named := ["unicode/utf8.first", "unicode/utf8.acceptRanges", "internal/bytealg.MaxLen"], apart := false, laid := [("unicode/utf8.acceptRanges", laid_unicode_utf8_acceptRanges), ("unicode/utf8.first", laid_unicode_utf8_first)] }
def FnExactValueWithDoubtsSaid : Prop := fnExactValueWithDoubtsRow.holds Tryd.pinned (OpenSpec.ofChange fnExactValueWithDoubtsSpec)

/-- ITS FALSE NEIGHBOUR: 'it returns false'. Refute it at one input. -/
def fnExactValueWithDoubtsWrong : ChangeSpec := { name := "fnExactValueWithDoubts", fn := fun _ => fun
  | [d1, d2] => { results := [.lit (.bool false)], args := [d1, d2] }
  | _ => none }
def FnExactValueWithDoubtsWrongFalsely : Prop := fnExactValueWithDoubtsRow.holds Tryd.pinned (OpenSpec.ofChange fnExactValueWithDoubtsWrong)

/-- 'laws.FnExactIsImplied': WHATEVER THE INPUT: true; the input reads as it did. -/
def fnExactIsImpliedSpec : ChangeSpec := { name := "fnExactIsImplied", fn := fun _ => fun
  | [d1, d2] => { results := [.lit (.bool true)], args := [d1, d2] }
  | _ => none }
def fnExactIsImpliedRow : OpenClaim := { program := "ytohmhiodmaahfaadoor", sum := "a6e9f9d785f8aa68ce0f44a0f61d90256a1891573dddde3d1bace1ff511cb012", func := "loop.example/g01392/laws.FnExactIsImplied", spec := "fnExactIsImplied", inPlace := ["internal/bytealg.IndexByteString", "internal/bytealg.IndexString", "internal/abi.NoEscape", "internal/bytealg.MakeNoZero"], named := ["unicode/utf8.first", "unicode/utf8.acceptRanges", "internal/bytealg.MaxLen"], apart := false, laid := [("unicode/utf8.acceptRanges", laid_unicode_utf8_acceptRanges), ("unicode/utf8.first", laid_unicode_utf8_first)] }
def FnExactIsImpliedSaid : Prop := fnExactIsImpliedRow.holds Tryd.pinned (OpenSpec.ofChange fnExactIsImpliedSpec)

/-- ITS FALSE NEIGHBOUR: 'it returns false'. Refute it at one input. -/
def fnExactIsImpliedWrong : ChangeSpec := { name := "fnExactIsImplied", fn := fun _ => fun
  | [d1, d2] => { results := [.lit (.bool false)], args := [d1, d2] }
  | _ => none }
def FnExactIsImpliedWrongFalsely : Prop := fnExactIsImpliedRow.holds Tryd.pinned (OpenSpec.ofChange fnExactIsImpliedWrong)

/-- 'laws.FnExactRowsCovered': WHATEVER THE INPUT: true; the input reads as it did. -/
def fnExactRowsCoveredSpec : ChangeSpec := { name := "fnExactRowsCovered", fn := fun _ => fun
  | [d] => { results := [.lit (.bool true)], args := [d] }
  | _ => none }
def fnExactRowsCoveredRow : OpenClaim := { program := "ytohmhiodmaahfaadoor", sum := "a6e9f9d785f8aa68ce0f44a0f61d90256a1891573dddde3d1bace1ff511cb012", func := "loop.example/g01392/laws.FnExactRowsCovered", spec := "fnExactRowsCovered", inPlace := ["internal/bytealg.IndexByteString", "internal/bytealg.IndexString", "internal/abi.NoEscape", "internal/bytealg.MakeNoZero"], named := ["unicode/utf8.first", "unicode/utf8.acceptRanges", "internal/bytealg.MaxLen"], apart := false, laid := [("unicode/utf8.acceptRanges", laid_unicode_utf8_acceptRanges), ("unicode/utf8.first", laid_unicode_utf8_first)] }
def FnExactRowsCoveredSaid : Prop := fnExactRowsCoveredRow.holds Tryd.pinned (OpenSpec.ofChange fnExactRowsCoveredSpec)

/-- ITS FALSE NEIGHBOUR: 'it returns false'. Refute it at one input. -/
def fnExactRowsCoveredWrong : ChangeSpec := { name := "fnExactRowsCovered", fn := fun _ => fun
  | [d] => { results := [.lit (.bool false)], args := [d] }
  | _ => none }
def FnExactRowsCoveredWrongFalsely : Prop := fnExactRowsCoveredRow.holds Tryd.pinned (OpenSpec.ofChange fnExactRowsCoveredWrong)

/-- 'laws.FnExactPrimePatterns': WHATEVER THE INPUT: true; the input reads as it did. -/
def fnExactPrimePatternsSpec : ChangeSpec := { name := "fnExactPrimePatterns", fn := fun _ => fun
  | [d] => { results := [.lit (.bool true)], args := [d] }
  | _ => none }
def fnExactPrimePatternsRow : OpenClaim := { program := "ytohmhiodmaahfaadoor", sum := "a6e9f9d785f8aa68ce0f44a0f61d90256a1891573dddde3d1bace1ff511cb012", func := "loop.example/g01392/laws.FnExactPrimePatterns", spec := "fnExactPrimePatterns", inPlace := ["internal/bytealg.CountString", "internal/bytealg.IndexByteString", "internal/bytealg.IndexString", "internal/abi.NoEscape", "internal/bytealg.MakeNoZero"], named := ["unicode/utf8.first", "unicode/utf8.acceptRanges", "internal/bytealg.MaxLen"], apart := false, laid := [("unicode/utf8.acceptRanges", laid_unicode_utf8_acceptRanges), ("unicode/utf8.first", laid_unicode_utf8_first)] }
def FnExactPrimePatternsSaid : Prop := fnExactPrimePatternsRow.holds Tryd.pinned (OpenSpec.ofChange fnExactPrimePatternsSpec)

/-- ITS FALSE NEIGHBOUR: 'it returns false'. Refute it at one input. -/
def fnExactPrimePatternsWrong : ChangeSpec := { name := "fnExactPrimePatterns", fn := fun _ => fun
  | [d] => { results := [.lit (.bool false)], args := [d] }
  | _ => none }
def FnExactPrimePatternsWrongFalsely : Prop := fnExactPrimePatternsRow.holds Tryd.pinned (OpenSpec.ofChange fnExactPrimePatternsWrong)

/-- 'laws.FnExactNeededPatterns': WHATEVER THE INPUT: true; the input reads as it did. -/
def fnExactNeededPatternsSpec : ChangeSpec := { name := "fnExactNeededPatterns", fn := fun _ => fun
  | [d] => { results := [.lit (.bool true)], args := [d] }
  | _ => none }
def fnExactNeededPatternsRow : OpenClaim := { program := "ytohmhiodmaahfaadoor", sum := "a6e9f9d785f8aa68ce0f44a0f61d90256a1891573dddde3d1bace1ff511cb012", func := "loop.example/g01392/laws.FnExactNeededPatterns", spec := "fnExactNeededPatterns", inPlace := ["internal/bytealg.CountString", "internal/bytealg.IndexByteString", "internal/bytealg.IndexString", "internal/abi.NoEscape", "internal/bytealg.MakeNoZero"], unfollowed := true, recurses := true, named := ["unicode/utf8.first", "unicode/utf8.acceptRanges", "internal/bytealg.MaxLen"], apart := false, laid := [("unicode/utf8.acceptRanges", laid_unicode_utf8_acceptRanges), ("unicode/utf8.first", laid_unicode_utf8_first)] }
def FnExactNeededPatternsSaid : Prop := fnExactNeededPatternsRow.holds Tryd.pinned (OpenSpec.ofChange fnExactNeededPatternsSpec)

/-- ITS FALSE NEIGHBOUR: 'it returns false'. Refute it at one input. -/
def fnExactNeededPatternsWrong : ChangeSpec := { name := "fnExactNeededPatterns", fn := fun _ => fun
  | [d] => { results := [.lit (.bool false)], args := [d] }
  | _ => none }
def FnExactNeededPatternsWrongFalsely : Prop := fnExactNeededPatternsRow.holds Tryd.pinned (OpenSpec.ofChange fnExactNeededPatternsWrong)

/-- 'laws.FnExactSafeFormula': WHATEVER THE INPUT: true; the input reads as it did. -/
def fnExactSafeFormulaSpec : ChangeSpec := { name := "fnExactSafeFormula", fn := fun _ => fun
  | [d] => { results := [.lit (.bool true)], args := [d] }
  | _ => none }
def fnExactSafeFormulaRow : OpenClaim := { program := "ytohmhiodmaahfaadoor", sum := "a6e9f9d785f8aa68ce0f44a0f61d90256a1891573dddde3d1bace1ff511cb012", func := "loop.example/g01392/laws.FnExactSafeFormula", spec := "fnExactSafeFormula", inPlace := ["internal/bytealg.CountString", "internal/bytealg.IndexByteString", "internal/bytealg.IndexString", "internal/abi.NoEscape", "internal/bytealg.MakeNoZero"], recurses := true, named := ["unicode/utf8.first", "unicode/utf8.acceptRanges", "internal/bytealg.MaxLen"], apart := false, laid := [("unicode/utf8.acceptRanges", laid_unicode_utf8_acceptRanges), ("unicode/utf8.first", laid_unicode_utf8_first)] }
def FnExactSafeFormulaSaid : Prop := fnExactSafeFormulaRow.holds Tryd.pinned (OpenSpec.ofChange fnExactSafeFormulaSpec)

/-- ITS FALSE NEIGHBOUR: 'it returns false'. Refute it at one input. -/
def fnExactSafeFormulaWrong : ChangeSpec := { name := "fnExactSafeFormula", fn := fun _ => fun
  | [d] => { results := [.lit (.bool false)], args := [d] }
  | _ => none }
def FnExactSafeFormulaWrongFalsely : Prop := fnExactSafeFormulaRow.holds Tryd.pinned (OpenSpec.ofChange fnExactSafeFormulaWrong)

/- THE SECOND FORM. 'bulk': how many values and letters a reading holds, each counted each time it is reached (what is shared counts as often as it is met; a slice's spare places count too). A statement '..UptoSaid' is the law's where the arguments, and the package variables that the reading takes, are together of bulk at most 1048576: NARROWER than '..Said'. Prove '..Said' where nothing that the law and all that it calls make is longer than what came in: it says more and counts as full. Else prove '..UptoSaid'. A law counts once. -/
mutual
def uptoBulk {H : Type} : DataW H → Nat
  | .lit (.string bytes) => bytes.length + 1
  | .lit _ => 1
  | .nil => 1
  | .ptr d => uptoBulk d + 1
  | .slice elems spare => uptoBulkAll elems + uptoBulkAll spare + 1
  | .agg parts => uptoBulkAll parts + 1
  | .iface _ d => uptoBulk d + 1
  | .map entries => uptoBulkEntries entries + 1
  | .held _ => 1
def uptoBulkAll {H : Type} : List (DataW H) → Nat
  | [] => 0
  | d :: r => uptoBulk d + uptoBulkAll r
def uptoBulkEntries {H : Type} : List (Lit × DataW H) → Nat
  | [] => 0
  | x :: r => uptoBulkEntry x + uptoBulkEntries r
def uptoBulkEntry {H : Type} : Lit × DataW H → Nat
  | (.string bytes, d) => bytes.length + uptoBulk d + 1
  | (_, d) => uptoBulk d + 1
 end
def uptoSmall : (H : Type) → List (DataW H) → Bool := fun _ ds => decide (uptoBulkAll ds ≤ 1048576)
def OpenSpec.upto (s : _root_.Go.ChangeSpec) : _root_.Go.OpenSpec := { _root_.Go.OpenSpec.ofChange s with cond := some uptoSmall }

/-- 'laws.FnExactValueWithDoubts', WHERE WHAT IT READS IS OF BULK AT MOST 1048576: true; the input reads as it did. -/
def fnExactValueWithDoubtsUptoRow : OpenClaim := { program := "ytohmhiodmaahfaadoor", sum := "a6e9f9d785f8aa68ce0f44a0f61d90256a1891573dddde3d1bace1ff511cb012", func := "loop.example/g01392/laws.FnExactValueWithDoubts", spec := "fnExactValueWithDoubts", inPlace := ["internal/bytealg.IndexByteString", "internal/bytealg.IndexString"], recurses := true, named := ["unicode/utf8.first", "unicode/utf8.acceptRanges", "internal/bytealg.MaxLen"], apart := false, laid := [("unicode/utf8.acceptRanges", laid_unicode_utf8_acceptRanges), ("unicode/utf8.first", laid_unicode_utf8_first)], narrowed := true }
def FnExactValueWithDoubtsUptoSaid : Prop := fnExactValueWithDoubtsUptoRow.holds Tryd.pinned (OpenSpec.upto fnExactValueWithDoubtsSpec)

/-- 'laws.FnExactIsImplied', WHERE WHAT IT READS IS OF BULK AT MOST 1048576: true; the input reads as it did. -/
def fnExactIsImpliedUptoRow : OpenClaim := { program := "ytohmhiodmaahfaadoor", sum := "a6e9f9d785f8aa68ce0f44a0f61d90256a1891573dddde3d1bace1ff511cb012", func := "loop.example/g01392/laws.FnExactIsImplied", spec := "fnExactIsImplied", inPlace := ["internal/bytealg.IndexByteString", "internal/bytealg.IndexString", "internal/abi.NoEscape", "internal/bytealg.MakeNoZero"], named := ["unicode/utf8.first", "unicode/utf8.acceptRanges", "internal/bytealg.MaxLen"], apart := false, laid := [("unicode/utf8.acceptRanges", laid_unicode_utf8_acceptRanges), ("unicode/utf8.first", laid_unicode_utf8_first)], narrowed := true }
def FnExactIsImpliedUptoSaid : Prop := fnExactIsImpliedUptoRow.holds Tryd.pinned (OpenSpec.upto fnExactIsImpliedSpec)

/-- 'laws.FnExactRowsCovered', WHERE WHAT IT READS IS OF BULK AT MOST 1048576: true; the input reads as it did. -/
def fnExactRowsCoveredUptoRow : OpenClaim := { program := "ytohmhiodmaahfaadoor", sum := "a6e9f9d785f8aa68ce0f44a0f61d90256a1891573dddde3d1bace1ff511cb012", func := "loop.example/g01392/laws.FnExactRowsCovered", spec := "fnExactRowsCovered", inPlace := ["internal/bytealg.IndexByteString", "internal/bytealg.IndexString", "internal/abi.NoEscape", "internal/bytealg.MakeNoZero"], named := ["unicode/utf8.first", "unicode/utf8.acceptRanges", "internal/bytealg.MaxLen"], apart := false, laid := [("unicode/utf8.acceptRanges", laid_unicode_utf8_acceptRanges), ("unicode/utf8.first", laid_unicode_utf8_first)], narrowed := true }
def FnExactRowsCoveredUptoSaid : Prop := fnExactRowsCoveredUptoRow.holds Tryd.pinned (OpenSpec.upto fnExactRowsCoveredSpec)

/-- 'laws.FnExactPrimePatterns', WHERE WHAT IT READS IS OF BULK AT MOST 1048576: true; the input reads as it did. -/
def fnExactPrimePatternsUptoRow : OpenClaim := { program := "ytohmhiodmaahfaadoor", sum := "a6e9f9d785f8aa68ce0f44a0f61d90256a1891573dddde3d1bace1ff511cb012", func := "loop.example/g01392/laws.FnExactPrimePatterns", spec := "fnExactPrimePatterns", inPlace := ["internal/bytealg.CountString", "internal/bytealg.IndexByteString", "internal/bytealg.IndexString", "internal/abi.NoEscape", "internal/bytealg.MakeNoZero"], named := ["unicode/utf8.first", "unicode/utf8.acceptRanges", "internal/bytealg.MaxLen"], apart := false, laid := [("unicode/utf8.acceptRanges", laid_unicode_utf8_acceptRanges), ("unicode/utf8.first", laid_unicode_utf8_first)], narrowed := true }
def FnExactPrimePatternsUptoSaid : Prop := fnExactPrimePatternsUptoRow.holds Tryd.pinned (OpenSpec.upto fnExactPrimePatternsSpec)

/-- 'laws.FnExactNeededPatterns', WHERE WHAT IT READS IS OF BULK AT MOST 1048576: true; the input reads as it did. -/
def fnExactNeededPatternsUptoRow : OpenClaim := { program := "ytohmhiodmaahfaadoor", sum := "a6e9f9d785f8aa68ce0f44a0f61d90256a1891573dddde3d1bace1ff511cb012", func := "loop.example/g01392/laws.FnExactNeededPatterns", spec := "fnExactNeededPatterns", inPlace := ["internal/bytealg.CountString", "internal/bytealg.IndexByteString", "internal/bytealg.IndexString", "internal/abi.NoEscape", "internal/bytealg.MakeNoZero"], unfollowed := true, recurses := true, named := ["unicode/utf8.first", "unicode/utf8.acceptRanges", "internal/bytealg.MaxLen"], apart := false, laid := [("unicode/utf8.acceptRanges", laid_unicode_utf8_acceptRanges), ("unicode/utf8.first", laid_unicode_utf8_first)], narrowed := true }
def FnExactNeededPatternsUptoSaid : Prop := fnExactNeededPatternsUptoRow.holds Tryd.pinned (OpenSpec.upto fnExactNeededPatternsSpec)

/-- 'laws.FnExactSafeFormula', WHERE WHAT IT READS IS OF BULK AT MOST 1048576: true; the input reads as it did. -/
def fnExactSafeFormulaUptoRow : OpenClaim := { program := "ytohmhiodmaahfaadoor", sum := "a6e9f9d785f8aa68ce0f44a0f61d90256a1891573dddde3d1bace1ff511cb012", func := "loop.example/g01392/laws.FnExactSafeFormula", spec := "fnExactSafeFormula", inPlace := ["internal/bytealg.CountString", "internal/bytealg.IndexByteString", "internal/bytealg.IndexString", "internal/abi.NoEscape", "internal/bytealg.MakeNoZero"], recurses := true, named := ["unicode/utf8.first", "unicode/utf8.acceptRanges", "internal/bytealg.MaxLen"], apart := false, laid := [("unicode/utf8.acceptRanges", laid_unicode_utf8_acceptRanges), ("unicode/utf8.first", laid_unicode_utf8_first)], narrowed := true }
def FnExactSafeFormulaUptoSaid : Prop := fnExactSafeFormulaUptoRow.holds Tryd.pinned (OpenSpec.upto fnExactSafeFormulaSpec)

end Rows
end Go.Proofs.YtohmhiodmaahfaaDoor

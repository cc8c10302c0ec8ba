/-
  No cell of these rows narrows 'for every input' (looked for: loops, veiled, ifaces, maps, wideKeys, modest, calm, conditions, laid).
  DERIVED. THE GIVEN ROWS OF THIS SEAT. 6 by the template 'for every input the law returns true; each argument reads behind the call as it read before'; 0 by the template 'total and deterministic' (their statements: YtohmhiodmaahfaaTotals.lean).
  GIVEN WITH THE SEED: the statements are not yours to turn. If you find one false, say at which input.
  Laid BY PROGRAM, IN A SANDBOX (cutbox-rows.mjs): the forced cells as the released guide's own fill.sh prints them over the translation bedaff0618ef12bf… (all of the seat's roots in one cut). By AI agents, Wed Nov 11 2026. No macro, syntax, notation, axiom, sorry.
-/
import Derived.Test.YtohmhiodmaahfaaChecked
import GoSem.Claim
import GoSem.ClaimJoined
import GoSem.ClaimMapViews
import Derived.JoinedTies
import Derived.KernelRfl
namespace Go.Proofs.Ytohmhiodmaahfaa
/- THE CELL 'sum', in the pinned program and in every row, IS THE sha256 OF THE DUMP (.gsa) THAT YtohmhiodmaahfaaProg.lean LOADS. Nothing in Lean hashes anything: it is a label: what it is worth is what the hold of that sum in a sandbox is worth. -/
noncomputable def Try.pinned : Pinned := { name := "ytohmhiodmaahfaa", sum := "bedaff0618ef12bf92c8f0f3e3587522c6c51d6c382c7bb97cdc7fd320501e5e", checked := Try.checked }
namespace Rows
def none {H : Type} : Left H := { results := [], args := [] }

/-- 'laws.FnExactValueInGap': WHATEVER THE INPUT: true; the input reads as it did. -/
def fnExactValueInGapSpec : ChangeSpec := { name := "fnExactValueInGap", fn := fun _ => fun
  | [d1, d2, d3] => { results := [.lit (.bool true)], args := [d1, d2, d3] }
  | _ => none }
def fnExactValueInGapRow : OpenClaim := { program := "ytohmhiodmaahfaa", sum := "bedaff0618ef12bf92c8f0f3e3587522c6c51d6c382c7bb97cdc7fd320501e5e", func := "loop.example/g01392/laws.FnExactValueInGap", spec := "fnExactValueInGap", unfollowed := true, recurses := true, apart := false }
def FnExactValueInGapSaid : Prop := fnExactValueInGapRow.holds Try.pinned (OpenSpec.ofChange fnExactValueInGapSpec)

/-- ITS FALSE NEIGHBOUR: 'it returns false'. Refute it at one input. -/
def fnExactValueInGapWrong : ChangeSpec := { name := "fnExactValueInGap", fn := fun _ => fun
  | [d1, d2, d3] => { results := [.lit (.bool false)], args := [d1, d2, d3] }
  | _ => none }
def FnExactValueInGapWrongFalsely : Prop := fnExactValueInGapRow.holds Try.pinned (OpenSpec.ofChange fnExactValueInGapWrong)

/-- 'laws.FnExactValueInBridge': WHATEVER THE INPUT: true; the input reads as it did. -/
def fnExactValueInBridgeSpec : ChangeSpec := { name := "fnExactValueInBridge", fn := fun _ => fun
  | [d1, d2, d3] => { results := [.lit (.bool true)], args := [d1, d2, d3] }
  | _ => none }
def fnExactValueInBridgeRow : OpenClaim := { program := "ytohmhiodmaahfaa", sum := "bedaff0618ef12bf92c8f0f3e3587522c6c51d6c382c7bb97cdc7fd320501e5e", func := "loop.example/g01392/laws.FnExactValueInBridge", spec := "fnExactValueInBridge", unfollowed := true, recurses := true, apart := false }
def FnExactValueInBridgeSaid : Prop := fnExactValueInBridgeRow.holds Try.pinned (OpenSpec.ofChange fnExactValueInBridgeSpec)

/-- ITS FALSE NEIGHBOUR: 'it returns false'. Refute it at one input. -/
def fnExactValueInBridgeWrong : ChangeSpec := { name := "fnExactValueInBridge", fn := fun _ => fun
  | [d1, d2, d3] => { results := [.lit (.bool false)], args := [d1, d2, d3] }
  | _ => none }
def FnExactValueInBridgeWrongFalsely : Prop := fnExactValueInBridgeRow.holds Try.pinned (OpenSpec.ofChange fnExactValueInBridgeWrong)

/-- 'laws.FnExactFlickersOf': WHATEVER THE INPUT: true; the input reads as it did. -/
def fnExactFlickersOfSpec : ChangeSpec := { name := "fnExactFlickersOf", fn := fun _ => fun
  | [d1, d2] => { results := [.lit (.bool true)], args := [d1, d2] }
  | _ => none }
def fnExactFlickersOfRow : OpenClaim := { program := "ytohmhiodmaahfaa", sum := "bedaff0618ef12bf92c8f0f3e3587522c6c51d6c382c7bb97cdc7fd320501e5e", func := "loop.example/g01392/laws.FnExactFlickersOf", spec := "fnExactFlickersOf", unfollowed := true, recurses := true, apart := false }
def FnExactFlickersOfSaid : Prop := fnExactFlickersOfRow.holds Try.pinned (OpenSpec.ofChange fnExactFlickersOfSpec)

/-- ITS FALSE NEIGHBOUR: 'it returns false'. Refute it at one input. -/
def fnExactFlickersOfWrong : ChangeSpec := { name := "fnExactFlickersOf", fn := fun _ => fun
  | [d1, d2] => { results := [.lit (.bool false)], args := [d1, d2] }
  | _ => none }
def FnExactFlickersOfWrongFalsely : Prop := fnExactFlickersOfRow.holds Try.pinned (OpenSpec.ofChange fnExactFlickersOfWrong)

/-- 'laws.FnExactIsSafe': WHATEVER THE INPUT: true; the input reads as it did. -/
def fnExactIsSafeSpec : ChangeSpec := { name := "fnExactIsSafe", fn := fun _ => fun
  | [d] => { results := [.lit (.bool true)], args := [d] }
  | _ => none }
def fnExactIsSafeRow : OpenClaim := { program := "ytohmhiodmaahfaa", sum := "bedaff0618ef12bf92c8f0f3e3587522c6c51d6c382c7bb97cdc7fd320501e5e", func := "loop.example/g01392/laws.FnExactIsSafe", spec := "fnExactIsSafe", unfollowed := true, recurses := true, apart := false }
def FnExactIsSafeSaid : Prop := fnExactIsSafeRow.holds Try.pinned (OpenSpec.ofChange fnExactIsSafeSpec)

/-- ITS FALSE NEIGHBOUR: 'it returns false'. Refute it at one input. -/
def fnExactIsSafeWrong : ChangeSpec := { name := "fnExactIsSafe", fn := fun _ => fun
  | [d] => { results := [.lit (.bool false)], args := [d] }
  | _ => none }
def FnExactIsSafeWrongFalsely : Prop := fnExactIsSafeRow.holds Try.pinned (OpenSpec.ofChange fnExactIsSafeWrong)

/-- 'laws.FnExactFormulaValue': WHATEVER THE INPUT: true; the input reads as it did. -/
def fnExactFormulaValueSpec : ChangeSpec := { name := "fnExactFormulaValue", fn := fun _ => fun
  | [d1, d2] => { results := [.lit (.bool true)], args := [d1, d2] }
  | _ => none }
def fnExactFormulaValueRow : OpenClaim := { program := "ytohmhiodmaahfaa", sum := "bedaff0618ef12bf92c8f0f3e3587522c6c51d6c382c7bb97cdc7fd320501e5e", func := "loop.example/g01392/laws.FnExactFormulaValue", spec := "fnExactFormulaValue", recurses := true, apart := false }
def FnExactFormulaValueSaid : Prop := fnExactFormulaValueRow.holds Try.pinned (OpenSpec.ofChange fnExactFormulaValueSpec)

/-- ITS FALSE NEIGHBOUR: 'it returns false'. Refute it at one input. -/
def fnExactFormulaValueWrong : ChangeSpec := { name := "fnExactFormulaValue", fn := fun _ => fun
  | [d1, d2] => { results := [.lit (.bool false)], args := [d1, d2] }
  | _ => none }
def FnExactFormulaValueWrongFalsely : Prop := fnExactFormulaValueRow.holds Try.pinned (OpenSpec.ofChange fnExactFormulaValueWrong)

/-- 'laws.FnExactTableOfFormula': WHATEVER THE INPUT: true; the input reads as it did. -/
def fnExactTableOfFormulaSpec : ChangeSpec := { name := "fnExactTableOfFormula", fn := fun _ => fun
  | [d1, d2] => { results := [.lit (.bool true)], args := [d1, d2] }
  | _ => none }
def fnExactTableOfFormulaRow : OpenClaim := { program := "ytohmhiodmaahfaa", sum := "bedaff0618ef12bf92c8f0f3e3587522c6c51d6c382c7bb97cdc7fd320501e5e", func := "loop.example/g01392/laws.FnExactTableOfFormula", spec := "fnExactTableOfFormula", unfollowed := true, recurses := true, apart := false }
def FnExactTableOfFormulaSaid : Prop := fnExactTableOfFormulaRow.holds Try.pinned (OpenSpec.ofChange fnExactTableOfFormulaSpec)

/-- ITS FALSE NEIGHBOUR: 'it returns false'. Refute it at one input. -/
def fnExactTableOfFormulaWrong : ChangeSpec := { name := "fnExactTableOfFormula", fn := fun _ => fun
  | [d1, d2] => { results := [.lit (.bool false)], args := [d1, d2] }
  | _ => none }
def FnExactTableOfFormulaWrongFalsely : Prop := fnExactTableOfFormulaRow.holds Try.pinned (OpenSpec.ofChange fnExactTableOfFormulaWrong)

/- THE SECOND FORM. 'bulk': how many values and letters a reading holds, each counted each time it is reached (what is shared counts as often as it is met; a slice's spare places count too). A statement '..UptoSaid' is the law's where the arguments, and the package variables that the reading takes, are together of bulk at most 1048576: NARROWER than '..Said'. Prove '..Said' where nothing that the law and all that it calls make is longer than what came in: it says more and counts as full. Else prove '..UptoSaid'. A law counts once. -/
mutual
def uptoBulk {H : Type} : DataW H → Nat
  | .lit (.string bytes) => bytes.length + 1
  | .lit _ => 1
  | .nil => 1
  | .ptr d => uptoBulk d + 1
  | .slice elems spare => uptoBulkAll elems + uptoBulkAll spare + 1
  | .agg parts => uptoBulkAll parts + 1
  | .iface _ d => uptoBulk d + 1
  | .map entries => uptoBulkEntries entries + 1
  | .held _ => 1
def uptoBulkAll {H : Type} : List (DataW H) → Nat
  | [] => 0
  | d :: r => uptoBulk d + uptoBulkAll r
def uptoBulkEntries {H : Type} : List (Lit × DataW H) → Nat
  | [] => 0
  | x :: r => uptoBulkEntry x + uptoBulkEntries r
def uptoBulkEntry {H : Type} : Lit × DataW H → Nat
  | (.string bytes, d) => bytes.length + uptoBulk d + 1
  | (_, d) => uptoBulk d + 1
 end
def uptoSmall : (H : Type) → List (DataW H) → Bool := fun _ ds => decide (uptoBulkAll ds ≤ 1048576)
def OpenSpec.upto (s : _root_.Go.ChangeSpec) : _root_.Go.OpenSpec := { _root_.Go.OpenSpec.ofChange s with cond := some uptoSmall }

/-- 'laws.FnExactValueInGap', WHERE WHAT IT READS IS OF BULK AT MOST 1048576: true; the input reads as it did. -/
def fnExactValueInGapUptoRow : OpenClaim := { program := "ytohmhiodmaahfaa", sum := "bedaff0618ef12bf92c8f0f3e3587522c6c51d6c382c7bb97cdc7fd320501e5e", func := "loop.example/g01392/laws.FnExactValueInGap", spec := "fnExactValueInGap", unfollowed := true, recurses := true, apart := false, narrowed := true }
def FnExactValueInGapUptoSaid : Prop := fnExactValueInGapUptoRow.holds Try.pinned (OpenSpec.upto fnExactValueInGapSpec)

/-- 'laws.FnExactValueInBridge', WHERE WHAT IT READS IS OF BULK AT MOST 1048576: true; the input reads as it did. -/
def fnExactValueInBridgeUptoRow : OpenClaim := { program := "ytohmhiodmaahfaa", sum := "bedaff0618ef12bf92c8f0f3e3587522c6c51d6c382c7bb97cdc7fd320501e5e", func := "loop.example/g01392/laws.FnExactValueInBridge", spec := "fnExactValueInBridge", unfollowed := true, recurses := true, apart := false, narrowed := true }
def FnExactValueInBridgeUptoSaid : Prop := fnExactValueInBridgeUptoRow.holds Try.pinned (OpenSpec.upto fnExactValueInBridgeSpec)

/-- 'laws.FnExactFlickersOf', WHERE WHAT IT READS IS OF BULK AT MOST 1048576: true; the input reads as it did. -/
def fnExactFlickersOfUptoRow : OpenClaim := { program := "ytohmhiodmaahfaa", sum := "bedaff0618ef12bf92c8f0f3e3587522c6c51d6c382c7bb97cdc7fd320501e5e", func := "loop.example/g01392/laws.FnExactFlickersOf", spec := "fnExactFlickersOf", unfollowed := true, recurses := true, apart := false, narrowed := true }
def FnExactFlickersOfUptoSaid : Prop := fnExactFlickersOfUptoRow.holds Try.pinned (OpenSpec.upto fnExactFlickersOfSpec)

/-- 'laws.FnExactIsSafe', WHERE WHAT IT READS IS OF BULK AT MOST 1048576: true; the input reads as it did. -/
def fnExactIsSafeUptoRow : OpenClaim := { program := "ytohmhiodmaahfaa", sum := "bedaff0618ef12bf92c8f0f3e3587522c6c51d6c382c7bb97cdc7fd320501e5e", func := "loop.example/g01392/laws.FnExactIsSafe", spec := "fnExactIsSafe", unfollowed := true, recurses := true, apart := false, narrowed := true }
def FnExactIsSafeUptoSaid : Prop := fnExactIsSafeUptoRow.holds Try.pinned (OpenSpec.upto fnExactIsSafeSpec)

/-- 'laws.FnExactFormulaValue', WHERE WHAT IT READS IS OF BULK AT MOST 1048576: true; the input reads as it did. -/
def fnExactFormulaValueUptoRow : OpenClaim := { program := "ytohmhiodmaahfaa", sum := "bedaff0618ef12bf92c8f0f3e3587522c6c51d6c382c7bb97cdc7fd320501e5e", func := "loop.example/g01392/laws.FnExactFormulaValue", spec := "fnExactFormulaValue", recurses := true, apart := false, narrowed := true }
def FnExactFormulaValueUptoSaid : Prop := fnExactFormulaValueUptoRow.holds Try.pinned (OpenSpec.upto fnExactFormulaValueSpec)

/-- 'laws.FnExactTableOfFormula', WHERE WHAT IT READS IS OF BULK AT MOST 1048576: true; the input reads as it did. -/
def fnExactTableOfFormulaUptoRow : OpenClaim := { program := "ytohmhiodmaahfaa", sum := "bedaff0618ef12bf92c8f0f3e3587522c6c51d6c382c7bb97cdc7fd320501e5e", func := "loop.example/g01392/laws.FnExactTableOfFormula", spec := "fnExactTableOfFormula", unfollowed := true, recurses := true, apart := false, narrowed := true }
def FnExactTableOfFormulaUptoSaid : Prop := fnExactTableOfFormulaUptoRow.holds Try.pinned (OpenSpec.upto fnExactTableOfFormulaSpec)

end Rows
end Go.Proofs.Ytohmhiodmaahfaa

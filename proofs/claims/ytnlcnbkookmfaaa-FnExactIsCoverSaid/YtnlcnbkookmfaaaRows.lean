/-
  No cell of these rows narrows 'for every input' (looked for: loops, veiled, ifaces, maps, wideKeys, modest, calm, conditions, laid).
  DERIVED. THE GIVEN ROWS OF THIS SEAT. 12 by the template 'for every input the law returns true; each argument reads behind the call as it read before'; 0 by the template 'total and deterministic' (their statements: YtnlcnbkookmfaaaTotals.lean).
  GIVEN WITH THE SEED: the statements are not yours to turn. If you find one false, say at which input.
  Laid BY PROGRAM, IN A SANDBOX (cutbox-rows.mjs): the forced cells as the released guide's own fill.sh prints them over the translation 5de63ff2b120294f… (all of the seat's roots in one cut). By AI agents, Wed Nov 11 2026. No macro, syntax, notation, axiom, sorry.
-/
import Derived.Test.YtnlcnbkookmfaaaChecked
import GoSem.Claim
import GoSem.ClaimJoined
import GoSem.ClaimMapViews
import Derived.JoinedTies
import Derived.KernelRfl
namespace Go.Proofs.Ytnlcnbkookmfaaa
/- THE CELL 'sum', in the pinned program and in every row, IS THE sha256 OF THE DUMP (.gsa) THAT YtnlcnbkookmfaaaProg.lean LOADS. Nothing in Lean hashes anything: it is a label: what it is worth is what the hold of that sum in a sandbox is worth. -/
noncomputable def Try.pinned : Pinned := { name := "ytnlcnbkookmfaaa", sum := "5de63ff2b120294fb981aa4d47bbc06351dff3bfdc3f3534415780b01ebd8ea9", checked := Try.checked }
namespace Rows
def none {H : Type} : Left H := { results := [], args := [] }

/-- 'laws.FnExactIsChart': WHATEVER THE INPUT: true; the input reads as it did. -/
def fnExactIsChartSpec : ChangeSpec := { name := "fnExactIsChart", fn := fun _ => fun
  | [d] => { results := [.lit (.bool true)], args := [d] }
  | _ => none }
def fnExactIsChartRow : OpenClaim := { program := "ytnlcnbkookmfaaa", sum := "5de63ff2b120294fb981aa4d47bbc06351dff3bfdc3f3534415780b01ebd8ea9", func := "loop.example/g01392/laws.FnExactIsChart", spec := "fnExactIsChart", unfollowed := true, recurses := true, apart := false }
def FnExactIsChartSaid : Prop := fnExactIsChartRow.holds Try.pinned (OpenSpec.ofChange fnExactIsChartSpec)

/-- ITS FALSE NEIGHBOUR: 'it returns false'. Refute it at one input. -/
def fnExactIsChartWrong : ChangeSpec := { name := "fnExactIsChart", fn := fun _ => fun
  | [d] => { results := [.lit (.bool false)], args := [d] }
  | _ => none }
def FnExactIsChartWrongFalsely : Prop := fnExactIsChartRow.holds Try.pinned (OpenSpec.ofChange fnExactIsChartWrong)

/-- 'laws.FnExactStayingPlaces': WHATEVER THE INPUT: true; the input reads as it did. -/
def fnExactStayingPlacesSpec : ChangeSpec := { name := "fnExactStayingPlaces", fn := fun _ => fun
  | [d] => { results := [.lit (.bool true)], args := [d] }
  | _ => none }
def fnExactStayingPlacesRow : OpenClaim := { program := "ytnlcnbkookmfaaa", sum := "5de63ff2b120294fb981aa4d47bbc06351dff3bfdc3f3534415780b01ebd8ea9", func := "loop.example/g01392/laws.FnExactStayingPlaces", spec := "fnExactStayingPlaces", unfollowed := true, recurses := true, apart := false }
def FnExactStayingPlacesSaid : Prop := fnExactStayingPlacesRow.holds Try.pinned (OpenSpec.ofChange fnExactStayingPlacesSpec)

/-- ITS FALSE NEIGHBOUR: 'it returns false'. Refute it at one input. -/
def fnExactStayingPlacesWrong : ChangeSpec := { name := "fnExactStayingPlaces", fn := fun _ => fun
  | [d] => { results := [.lit (.bool false)], args := [d] }
  | _ => none }
def FnExactStayingPlacesWrongFalsely : Prop := fnExactStayingPlacesRow.holds Try.pinned (OpenSpec.ofChange fnExactStayingPlacesWrong)

/-- 'laws.FnExactChainFrom': WHATEVER THE INPUT: true; the input reads as it did. -/
def fnExactChainFromSpec : ChangeSpec := { name := "fnExactChainFrom", fn := fun _ => fun
  | [d1, d2, d3] => { results := [.lit (.bool true)], args := [d1, d2, d3] }
  | _ => none }
def fnExactChainFromRow : OpenClaim := { program := "ytnlcnbkookmfaaa", sum := "5de63ff2b120294fb981aa4d47bbc06351dff3bfdc3f3534415780b01ebd8ea9", func := "loop.example/g01392/laws.FnExactChainFrom", spec := "fnExactChainFrom", unfollowed := true, recurses := true, apart := false }
def FnExactChainFromSaid : Prop := fnExactChainFromRow.holds Try.pinned (OpenSpec.ofChange fnExactChainFromSpec)

/-- ITS FALSE NEIGHBOUR: 'it returns false'. Refute it at one input. -/
def fnExactChainFromWrong : ChangeSpec := { name := "fnExactChainFrom", fn := fun _ => fun
  | [d1, d2, d3] => { results := [.lit (.bool false)], args := [d1, d2, d3] }
  | _ => none }
def FnExactChainFromWrongFalsely : Prop := fnExactChainFromRow.holds Try.pinned (OpenSpec.ofChange fnExactChainFromWrong)

/-- 'laws.FnExactRunOver': WHATEVER THE INPUT: true; the input reads as it did. -/
def fnExactRunOverSpec : ChangeSpec := { name := "fnExactRunOver", fn := fun _ => fun
  | [d1, d2, d3] => { results := [.lit (.bool true)], args := [d1, d2, d3] }
  | _ => none }
def fnExactRunOverRow : OpenClaim := { program := "ytnlcnbkookmfaaa", sum := "5de63ff2b120294fb981aa4d47bbc06351dff3bfdc3f3534415780b01ebd8ea9", func := "loop.example/g01392/laws.FnExactRunOver", spec := "fnExactRunOver", unfollowed := true, recurses := true, apart := false }
def FnExactRunOverSaid : Prop := fnExactRunOverRow.holds Try.pinned (OpenSpec.ofChange fnExactRunOverSpec)

/-- ITS FALSE NEIGHBOUR: 'it returns false'. Refute it at one input. -/
def fnExactRunOverWrong : ChangeSpec := { name := "fnExactRunOver", fn := fun _ => fun
  | [d1, d2, d3] => { results := [.lit (.bool false)], args := [d1, d2, d3] }
  | _ => none }
def FnExactRunOverWrongFalsely : Prop := fnExactRunOverRow.holds Try.pinned (OpenSpec.ofChange fnExactRunOverWrong)

/-- 'laws.FnExactPairsTogether': WHATEVER THE INPUT: true; the input reads as it did. -/
def fnExactPairsTogetherSpec : ChangeSpec := { name := "fnExactPairsTogether", fn := fun _ => fun
  | [d] => { results := [.lit (.bool true)], args := [d] }
  | _ => none }
def fnExactPairsTogetherRow : OpenClaim := { program := "ytnlcnbkookmfaaa", sum := "5de63ff2b120294fb981aa4d47bbc06351dff3bfdc3f3534415780b01ebd8ea9", func := "loop.example/g01392/laws.FnExactPairsTogether", spec := "fnExactPairsTogether", unfollowed := true, recurses := true, apart := false }
def FnExactPairsTogetherSaid : Prop := fnExactPairsTogetherRow.holds Try.pinned (OpenSpec.ofChange fnExactPairsTogetherSpec)

/-- ITS FALSE NEIGHBOUR: 'it returns false'. Refute it at one input. -/
def fnExactPairsTogetherWrong : ChangeSpec := { name := "fnExactPairsTogether", fn := fun _ => fun
  | [d] => { results := [.lit (.bool false)], args := [d] }
  | _ => none }
def FnExactPairsTogetherWrongFalsely : Prop := fnExactPairsTogetherRow.holds Try.pinned (OpenSpec.ofChange fnExactPairsTogetherWrong)

/-- 'laws.FnExactGoTogether': WHATEVER THE INPUT: true; the input reads as it did. -/
def fnExactGoTogetherSpec : ChangeSpec := { name := "fnExactGoTogether", fn := fun _ => fun
  | [d1, d2] => { results := [.lit (.bool true)], args := [d1, d2] }
  | _ => none }
def fnExactGoTogetherRow : OpenClaim := { program := "ytnlcnbkookmfaaa", sum := "5de63ff2b120294fb981aa4d47bbc06351dff3bfdc3f3534415780b01ebd8ea9", func := "loop.example/g01392/laws.FnExactGoTogether", spec := "fnExactGoTogether", unfollowed := true, recurses := true, apart := false }
def FnExactGoTogetherSaid : Prop := fnExactGoTogetherRow.holds Try.pinned (OpenSpec.ofChange fnExactGoTogetherSpec)

/-- ITS FALSE NEIGHBOUR: 'it returns false'. Refute it at one input. -/
def fnExactGoTogetherWrong : ChangeSpec := { name := "fnExactGoTogether", fn := fun _ => fun
  | [d1, d2] => { results := [.lit (.bool false)], args := [d1, d2] }
  | _ => none }
def FnExactGoTogetherWrongFalsely : Prop := fnExactGoTogetherRow.holds Try.pinned (OpenSpec.ofChange fnExactGoTogetherWrong)

/-- 'laws.FnExactGreatestSets': WHATEVER THE INPUT: true; the input reads as it did. -/
def fnExactGreatestSetsSpec : ChangeSpec := { name := "fnExactGreatestSets", fn := fun _ => fun
  | [d] => { results := [.lit (.bool true)], args := [d] }
  | _ => none }
def fnExactGreatestSetsRow : OpenClaim := { program := "ytnlcnbkookmfaaa", sum := "5de63ff2b120294fb981aa4d47bbc06351dff3bfdc3f3534415780b01ebd8ea9", func := "loop.example/g01392/laws.FnExactGreatestSets", spec := "fnExactGreatestSets", unfollowed := true, recurses := true, apart := false }
def FnExactGreatestSetsSaid : Prop := fnExactGreatestSetsRow.holds Try.pinned (OpenSpec.ofChange fnExactGreatestSetsSpec)

/-- ITS FALSE NEIGHBOUR: 'it returns false'. Refute it at one input. -/
def fnExactGreatestSetsWrong : ChangeSpec := { name := "fnExactGreatestSets", fn := fun _ => fun
  | [d] => { results := [.lit (.bool false)], args := [d] }
  | _ => none }
def FnExactGreatestSetsWrongFalsely : Prop := fnExactGreatestSetsRow.holds Try.pinned (OpenSpec.ofChange fnExactGreatestSetsWrong)

/-- 'laws.FnExactIsCover': WHATEVER THE INPUT: true; the input reads as it did. -/
def fnExactIsCoverSpec : ChangeSpec := { name := "fnExactIsCover", fn := fun _ => fun
  | [d1, d2] => { results := [.lit (.bool true)], args := [d1, d2] }
  | _ => none }
def fnExactIsCoverRow : OpenClaim := { program := "ytnlcnbkookmfaaa", sum := "5de63ff2b120294fb981aa4d47bbc06351dff3bfdc3f3534415780b01ebd8ea9", func := "loop.example/g01392/laws.FnExactIsCover", spec := "fnExactIsCover", unfollowed := true, recurses := true, apart := false }
def FnExactIsCoverSaid : Prop := fnExactIsCoverRow.holds Try.pinned (OpenSpec.ofChange fnExactIsCoverSpec)

/-- ITS FALSE NEIGHBOUR: 'it returns false'. Refute it at one input. -/
def fnExactIsCoverWrong : ChangeSpec := { name := "fnExactIsCover", fn := fun _ => fun
  | [d1, d2] => { results := [.lit (.bool false)], args := [d1, d2] }
  | _ => none }
def FnExactIsCoverWrongFalsely : Prop := fnExactIsCoverRow.holds Try.pinned (OpenSpec.ofChange fnExactIsCoverWrong)

/-- 'laws.FnExactFewestSets': WHATEVER THE INPUT: true; the input reads as it did. -/
def fnExactFewestSetsSpec : ChangeSpec := { name := "fnExactFewestSets", fn := fun _ => fun
  | [d] => { results := [.lit (.bool true)], args := [d] }
  | _ => none }
def fnExactFewestSetsRow : OpenClaim := { program := "ytnlcnbkookmfaaa", sum := "5de63ff2b120294fb981aa4d47bbc06351dff3bfdc3f3534415780b01ebd8ea9", func := "loop.example/g01392/laws.FnExactFewestSets", spec := "fnExactFewestSets", unfollowed := true, recurses := true, apart := false }
def FnExactFewestSetsSaid : Prop := fnExactFewestSetsRow.holds Try.pinned (OpenSpec.ofChange fnExactFewestSetsSpec)

/-- ITS FALSE NEIGHBOUR: 'it returns false'. Refute it at one input. -/
def fnExactFewestSetsWrong : ChangeSpec := { name := "fnExactFewestSets", fn := fun _ => fun
  | [d] => { results := [.lit (.bool false)], args := [d] }
  | _ => none }
def FnExactFewestSetsWrongFalsely : Prop := fnExactFewestSetsRow.holds Try.pinned (OpenSpec.ofChange fnExactFewestSetsWrong)

/-- 'laws.FnExactMergedChart': WHATEVER THE INPUT: true; the input reads as it did. -/
def fnExactMergedChartSpec : ChangeSpec := { name := "fnExactMergedChart", fn := fun _ => fun
  | [d1, d2] => { results := [.lit (.bool true)], args := [d1, d2] }
  | _ => none }
def fnExactMergedChartRow : OpenClaim := { program := "ytnlcnbkookmfaaa", sum := "5de63ff2b120294fb981aa4d47bbc06351dff3bfdc3f3534415780b01ebd8ea9", func := "loop.example/g01392/laws.FnExactMergedChart", spec := "fnExactMergedChart", unfollowed := true, recurses := true, apart := false }
def FnExactMergedChartSaid : Prop := fnExactMergedChartRow.holds Try.pinned (OpenSpec.ofChange fnExactMergedChartSpec)

/-- ITS FALSE NEIGHBOUR: 'it returns false'. Refute it at one input. -/
def fnExactMergedChartWrong : ChangeSpec := { name := "fnExactMergedChart", fn := fun _ => fun
  | [d1, d2] => { results := [.lit (.bool false)], args := [d1, d2] }
  | _ => none }
def FnExactMergedChartWrongFalsely : Prop := fnExactMergedChartRow.holds Try.pinned (OpenSpec.ofChange fnExactMergedChartWrong)

/-- 'laws.FnExactAreCalm': WHATEVER THE INPUT: true; the input reads as it did. -/
def fnExactAreCalmSpec : ChangeSpec := { name := "fnExactAreCalm", fn := fun _ => fun
  | [d1, d2] => { results := [.lit (.bool true)], args := [d1, d2] }
  | _ => none }
def fnExactAreCalmRow : OpenClaim := { program := "ytnlcnbkookmfaaa", sum := "5de63ff2b120294fb981aa4d47bbc06351dff3bfdc3f3534415780b01ebd8ea9", func := "loop.example/g01392/laws.FnExactAreCalm", spec := "fnExactAreCalm", unfollowed := true, recurses := true, apart := false }
def FnExactAreCalmSaid : Prop := fnExactAreCalmRow.holds Try.pinned (OpenSpec.ofChange fnExactAreCalmSpec)

/-- ITS FALSE NEIGHBOUR: 'it returns false'. Refute it at one input. -/
def fnExactAreCalmWrong : ChangeSpec := { name := "fnExactAreCalm", fn := fun _ => fun
  | [d1, d2] => { results := [.lit (.bool false)], args := [d1, d2] }
  | _ => none }
def FnExactAreCalmWrongFalsely : Prop := fnExactAreCalmRow.holds Try.pinned (OpenSpec.ofChange fnExactAreCalmWrong)

/-- 'laws.FnExactFirstCodes': WHATEVER THE INPUT: true; the input reads as it did. -/
def fnExactFirstCodesSpec : ChangeSpec := { name := "fnExactFirstCodes", fn := fun _ => fun
  | [d1, d2] => { results := [.lit (.bool true)], args := [d1, d2] }
  | _ => none }
def fnExactFirstCodesRow : OpenClaim := { program := "ytnlcnbkookmfaaa", sum := "5de63ff2b120294fb981aa4d47bbc06351dff3bfdc3f3534415780b01ebd8ea9", func := "loop.example/g01392/laws.FnExactFirstCodes", spec := "fnExactFirstCodes", unfollowed := true, recurses := true, apart := false }
def FnExactFirstCodesSaid : Prop := fnExactFirstCodesRow.holds Try.pinned (OpenSpec.ofChange fnExactFirstCodesSpec)

/-- ITS FALSE NEIGHBOUR: 'it returns false'. Refute it at one input. -/
def fnExactFirstCodesWrong : ChangeSpec := { name := "fnExactFirstCodes", fn := fun _ => fun
  | [d1, d2] => { results := [.lit (.bool false)], args := [d1, d2] }
  | _ => none }
def FnExactFirstCodesWrongFalsely : Prop := fnExactFirstCodesRow.holds Try.pinned (OpenSpec.ofChange fnExactFirstCodesWrong)

/- THE SECOND FORM. 'bulk': how many values and letters a reading holds, each counted each time it is reached (what is shared counts as often as it is met; a slice's spare places count too). A statement '..UptoSaid' is the law's where the arguments, and the package variables that the reading takes, are together of bulk at most 1048576: NARROWER than '..Said'. Prove '..Said' where nothing that the law and all that it calls make is longer than what came in: it says more and counts as full. Else prove '..UptoSaid'. A law counts once. -/
mutual
def uptoBulk {H : Type} : DataW H → Nat
  | .lit (.string bytes) => bytes.length + 1
  | .lit _ => 1
  | .nil => 1
  | .ptr d => uptoBulk d + 1
  | .slice elems spare => uptoBulkAll elems + uptoBulkAll spare + 1
  | .agg parts => uptoBulkAll parts + 1
  | .iface _ d => uptoBulk d + 1
  | .map entries => uptoBulkEntries entries + 1
  | .held _ => 1
def uptoBulkAll {H : Type} : List (DataW H) → Nat
  | [] => 0
  | d :: r => uptoBulk d + uptoBulkAll r
def uptoBulkEntries {H : Type} : List (Lit × DataW H) → Nat
  | [] => 0
  | x :: r => uptoBulkEntry x + uptoBulkEntries r
def uptoBulkEntry {H : Type} : Lit × DataW H → Nat
  | (.string bytes, d) => bytes.length + uptoBulk d + 1
  | (_, d) => uptoBulk d + 1
 end
def uptoSmall : (H : Type) → List (DataW H) → Bool := fun _ ds => decide (uptoBulkAll ds ≤ 1048576)
def OpenSpec.upto (s : _root_.Go.ChangeSpec) : _root_.Go.OpenSpec := { _root_.Go.OpenSpec.ofChange s with cond := some uptoSmall }

/-- 'laws.FnExactIsChart', WHERE WHAT IT READS IS OF BULK AT MOST 1048576: true; the input reads as it did. -/
def fnExactIsChartUptoRow : OpenClaim := { program := "ytnlcnbkookmfaaa", sum := "5de63ff2b120294fb981aa4d47bbc06351dff3bfdc3f3534415780b01ebd8ea9", func := "loop.example/g01392/laws.FnExactIsChart", spec := "fnExactIsChart", unfollowed := true, recurses := true, apart := false, narrowed := true }
def FnExactIsChartUptoSaid : Prop := fnExactIsChartUptoRow.holds Try.pinned (OpenSpec.upto fnExactIsChartSpec)

/-- 'laws.FnExactStayingPlaces', WHERE WHAT IT READS IS OF BULK AT MOST 1048576: true; the input reads as it did. -/
def fnExactStayingPlacesUptoRow : OpenClaim := { program := "ytnlcnbkookmfaaa", sum := "5de63ff2b120294fb981aa4d47bbc06351dff3bfdc3f3534415780b01ebd8ea9", func := "loop.example/g01392/laws.FnExactStayingPlaces", spec := "fnExactStayingPlaces", unfollowed := true, recurses := true, apart := false, narrowed := true }
def FnExactStayingPlacesUptoSaid : Prop := fnExactStayingPlacesUptoRow.holds Try.pinned (OpenSpec.upto fnExactStayingPlacesSpec)

/-- 'laws.FnExactChainFrom', WHERE WHAT IT READS IS OF BULK AT MOST 1048576: true; the input reads as it did. -/
def fnExactChainFromUptoRow : OpenClaim := { program := "ytnlcnbkookmfaaa", sum := "5de63ff2b120294fb981aa4d47bbc06351dff3bfdc3f3534415780b01ebd8ea9", func := "loop.example/g01392/laws.FnExactChainFrom", spec := "fnExactChainFrom", unfollowed := true, recurses := true, apart := false, narrowed := true }
def FnExactChainFromUptoSaid : Prop := fnExactChainFromUptoRow.holds Try.pinned (OpenSpec.upto fnExactChainFromSpec)

/-- 'laws.FnExactRunOver', WHERE WHAT IT READS IS OF BULK AT MOST 1048576: true; the input reads as it did. -/
def fnExactRunOverUptoRow : OpenClaim := { program := "ytnlcnbkookmfaaa", sum := "5de63ff2b120294fb981aa4d47bbc06351dff3bfdc3f3534415780b01ebd8ea9", func := "loop.example/g01392/laws.FnExactRunOver", spec := "fnExactRunOver", unfollowed := true, recurses := true, apart := false, narrowed := true }
def FnExactRunOverUptoSaid : Prop := fnExactRunOverUptoRow.holds Try.pinned (OpenSpec.upto fnExactRunOverSpec)

/-- 'laws.FnExactPairsTogether', WHERE WHAT IT READS IS OF BULK AT MOST 1048576: true; the input reads as it did. -/
def fnExactPairsTogetherUptoRow : OpenClaim := { program := "ytnlcnbkookmfaaa", sum := "5de63ff2b120294fb981aa4d47bbc06351dff3bfdc3f3534415780b01ebd8ea9", func := "loop.example/g01392/laws.FnExactPairsTogether", spec := "fnExactPairsTogether", unfollowed := true, recurses := true, apart := false, narrowed := true }
def FnExactPairsTogetherUptoSaid : Prop := fnExactPairsTogetherUptoRow.holds Try.pinned (OpenSpec.upto fnExactPairsTogetherSpec)

/-- 'laws.FnExactGoTogether', WHERE WHAT IT READS IS OF BULK AT MOST 1048576: true; the input reads as it did. -/
def fnExactGoTogetherUptoRow : OpenClaim := { program := "ytnlcnbkookmfaaa", sum := "5de63ff2b120294fb981aa4d47bbc06351dff3bfdc3f3534415780b01ebd8ea9", func := "loop.example/g01392/laws.FnExactGoTogether", spec := "fnExactGoTogether", unfollowed := true, recurses := true, apart := false, narrowed := true }
def FnExactGoTogetherUptoSaid : Prop := fnExactGoTogetherUptoRow.holds Try.pinned (OpenSpec.upto fnExactGoTogetherSpec)

/-- 'laws.FnExactGreatestSets', WHERE WHAT IT READS IS OF BULK AT MOST 1048576: true; the input reads as it did. -/
def fnExactGreatestSetsUptoRow : OpenClaim := { program := "ytnlcnbkookmfaaa", sum := "5de63ff2b120294fb981aa4d47bbc06351dff3bfdc3f3534415780b01ebd8ea9", func := "loop.example/g01392/laws.FnExactGreatestSets", spec := "fnExactGreatestSets", unfollowed := true, recurses := true, apart := false, narrowed := true }
def FnExactGreatestSetsUptoSaid : Prop := fnExactGreatestSetsUptoRow.holds Try.pinned (OpenSpec.upto fnExactGreatestSetsSpec)

/-- 'laws.FnExactIsCover', WHERE WHAT IT READS IS OF BULK AT MOST 1048576: true; the input reads as it did. -/
def fnExactIsCoverUptoRow : OpenClaim := { program := "ytnlcnbkookmfaaa", sum := "5de63ff2b120294fb981aa4d47bbc06351dff3bfdc3f3534415780b01ebd8ea9", func := "loop.example/g01392/laws.FnExactIsCover", spec := "fnExactIsCover", unfollowed := true, recurses := true, apart := false, narrowed := true }
def FnExactIsCoverUptoSaid : Prop := fnExactIsCoverUptoRow.holds Try.pinned (OpenSpec.upto fnExactIsCoverSpec)

/-- 'laws.FnExactFewestSets', WHERE WHAT IT READS IS OF BULK AT MOST 1048576: true; the input reads as it did. -/
def fnExactFewestSetsUptoRow : OpenClaim := { program := "ytnlcnbkookmfaaa", sum := "5de63ff2b120294fb981aa4d47bbc06351dff3bfdc3f3534415780b01ebd8ea9", func := "loop.example/g01392/laws.FnExactFewestSets", spec := "fnExactFewestSets", unfollowed := true, recurses := true, apart := false, narrowed := true }
def FnExactFewestSetsUptoSaid : Prop := fnExactFewestSetsUptoRow.holds Try.pinned (OpenSpec.upto fnExactFewestSetsSpec)

/-- 'laws.FnExactMergedChart', WHERE WHAT IT READS IS OF BULK AT MOST 1048576: true; the input reads as it did. -/
def fnExactMergedChartUptoRow : OpenClaim := { program := "ytnlcnbkookmfaaa", sum := "5de63ff2b120294fb981aa4d47bbc06351dff3bfdc3f3534415780b01ebd8ea9", func := "loop.example/g01392/laws.FnExactMergedChart", spec := "fnExactMergedChart", unfollowed := true, recurses := true, apart := false, narrowed := true }
def FnExactMergedChartUptoSaid : Prop := fnExactMergedChartUptoRow.holds Try.pinned (OpenSpec.upto fnExactMergedChartSpec)

/-- 'laws.FnExactAreCalm', WHERE WHAT IT READS IS OF BULK AT MOST 1048576: true; the input reads as it did. -/
def fnExactAreCalmUptoRow : OpenClaim := { program := "ytnlcnbkookmfaaa", sum := "5de63ff2b120294fb981aa4d47bbc06351dff3bfdc3f3534415780b01ebd8ea9", func := "loop.example/g01392/laws.FnExactAreCalm", spec := "fnExactAreCalm", unfollowed := true, recurses := true, apart := false, narrowed := true }
def FnExactAreCalmUptoSaid : Prop := fnExactAreCalmUptoRow.holds Try.pinned (OpenSpec.upto fnExactAreCalmSpec)

/-- 'laws.FnExactFirstCodes', WHERE WHAT IT READS IS OF BULK AT MOST 1048576: true; the input reads as it did. -/
def fnExactFirstCodesUptoRow : OpenClaim := { program := "ytnlcnbkookmfaaa", sum := "5de63ff2b120294fb981aa4d47bbc06351dff3bfdc3f3534415780b01ebd8ea9", func := "loop.example/g01392/laws.FnExactFirstCodes", spec := "fnExactFirstCodes", unfollowed := true, recurses := true, apart := false, narrowed := true }
def FnExactFirstCodesUptoSaid : Prop := fnExactFirstCodesUptoRow.holds Try.pinned (OpenSpec.upto fnExactFirstCodesSpec)

end Rows
end Go.Proofs.Ytnlcnbkookmfaaa

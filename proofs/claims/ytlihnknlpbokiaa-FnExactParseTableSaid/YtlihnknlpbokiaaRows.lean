/-
  No cell of these rows narrows 'for every input' (looked for: loops, veiled, ifaces, maps, wideKeys, modest, calm, conditions, laid).
  DERIVED. THE GIVEN ROWS OF THIS SEAT. 8 by the template 'for every input the law returns true; each argument reads behind the call as it read before'; 0 by the template 'total and deterministic' (their statements: YtlihnknlpbokiaaTotals.lean).
  GIVEN WITH THE SEED: the statements are not yours to turn. If you find one false, say at which input.
  Laid BY PROGRAM, IN A SANDBOX (cutbox-rows.mjs): the forced cells as the released guide's own fill.sh prints them over the translation f755f1eb2157f17d… (all of the seat's roots in one cut). By AI agents, Wed Nov 11 2026. No macro, syntax, notation, axiom, sorry.
-/
import Derived.Test.YtlihnknlpbokiaaChecked
import GoSem.Claim
import GoSem.ClaimJoined
import GoSem.ClaimMapViews
import Derived.JoinedTies
import Derived.KernelRfl
namespace Go.Proofs.Ytlihnknlpbokiaa
/- THE CELL 'sum', in the pinned program and in every row, IS THE sha256 OF THE DUMP (.gsa) THAT YtlihnknlpbokiaaProg.lean LOADS. Nothing in Lean hashes anything: it is a label: what it is worth is what the hold of that sum in a sandbox is worth. -/
noncomputable def Try.pinned : Pinned := { name := "ytlihnknlpbokiaa", sum := "f755f1eb2157f17d2fcbdecdadeebfdba4b7ae995778924d8ff4be0ec410bfee", checked := Try.checked }
namespace Rows
def none {H : Type} : Left H := { results := [], args := [] }

/-- 'laws.FnPathsAndCuts': WHATEVER THE INPUT: true; the input reads as it did. -/
def fnPathsAndCutsSpec : ChangeSpec := { name := "fnPathsAndCuts", fn := fun _ => fun
  | [d] => { results := [.lit (.bool true)], args := [d] }
  | _ => none }
def fnPathsAndCutsRow : OpenClaim := { program := "ytlihnknlpbokiaa", sum := "f755f1eb2157f17d2fcbdecdadeebfdba4b7ae995778924d8ff4be0ec410bfee", func := "loop.example/g01392/laws.FnPathsAndCuts", spec := "fnPathsAndCuts", unfollowed := true, recurses := true, plainKeys := false, apart := false }
def FnPathsAndCutsSaid : Prop := fnPathsAndCutsRow.holds Try.pinned (OpenSpec.ofChange fnPathsAndCutsSpec)

/-- ITS FALSE NEIGHBOUR: 'it returns false'. Refute it at one input. -/
def fnPathsAndCutsWrong : ChangeSpec := { name := "fnPathsAndCuts", fn := fun _ => fun
  | [d] => { results := [.lit (.bool false)], args := [d] }
  | _ => none }
def FnPathsAndCutsWrongFalsely : Prop := fnPathsAndCutsRow.holds Try.pinned (OpenSpec.ofChange fnPathsAndCutsWrong)

/-- 'laws.FnJoinedPoints': WHATEVER THE INPUT: true; the input reads as it did. -/
def fnJoinedPointsSpec : ChangeSpec := { name := "fnJoinedPoints", fn := fun _ => fun
  | [d] => { results := [.lit (.bool true)], args := [d] }
  | _ => none }
def fnJoinedPointsRow : OpenClaim := { program := "ytlihnknlpbokiaa", sum := "f755f1eb2157f17d2fcbdecdadeebfdba4b7ae995778924d8ff4be0ec410bfee", func := "loop.example/g01392/laws.FnJoinedPoints", spec := "fnJoinedPoints", plainKeys := false, apart := false }
def FnJoinedPointsSaid : Prop := fnJoinedPointsRow.holds Try.pinned (OpenSpec.ofChange fnJoinedPointsSpec)

/-- ITS FALSE NEIGHBOUR: 'it returns false'. Refute it at one input. -/
def fnJoinedPointsWrong : ChangeSpec := { name := "fnJoinedPoints", fn := fun _ => fun
  | [d] => { results := [.lit (.bool false)], args := [d] }
  | _ => none }
def FnJoinedPointsWrongFalsely : Prop := fnJoinedPointsRow.holds Try.pinned (OpenSpec.ofChange fnJoinedPointsWrong)

/-- 'laws.FnExactRenameInputs': WHATEVER THE INPUT: true; the input reads as it did. -/
def fnExactRenameInputsSpec : ChangeSpec := { name := "fnExactRenameInputs", fn := fun _ => fun
  | [d1, d2] => { results := [.lit (.bool true)], args := [d1, d2] }
  | _ => none }
def fnExactRenameInputsRow : OpenClaim := { program := "ytlihnknlpbokiaa", sum := "f755f1eb2157f17d2fcbdecdadeebfdba4b7ae995778924d8ff4be0ec410bfee", func := "loop.example/g01392/laws.FnExactRenameInputs", spec := "fnExactRenameInputs", unfollowed := true, recurses := true, plainKeys := false, apart := false }
def FnExactRenameInputsSaid : Prop := fnExactRenameInputsRow.holds Try.pinned (OpenSpec.ofChange fnExactRenameInputsSpec)

/-- ITS FALSE NEIGHBOUR: 'it returns false'. Refute it at one input. -/
def fnExactRenameInputsWrong : ChangeSpec := { name := "fnExactRenameInputs", fn := fun _ => fun
  | [d1, d2] => { results := [.lit (.bool false)], args := [d1, d2] }
  | _ => none }
def FnExactRenameInputsWrongFalsely : Prop := fnExactRenameInputsRow.holds Try.pinned (OpenSpec.ofChange fnExactRenameInputsWrong)

/-- 'laws.FnExactLeastTable': WHATEVER THE INPUT: true; the input reads as it did. -/
def fnExactLeastTableSpec : ChangeSpec := { name := "fnExactLeastTable", fn := fun _ => fun
  | [d] => { results := [.lit (.bool true)], args := [d] }
  | _ => none }
def fnExactLeastTableRow : OpenClaim := { program := "ytlihnknlpbokiaa", sum := "f755f1eb2157f17d2fcbdecdadeebfdba4b7ae995778924d8ff4be0ec410bfee", func := "loop.example/g01392/laws.FnExactLeastTable", spec := "fnExactLeastTable", unfollowed := true, recurses := true, plainKeys := false, apart := false }
def FnExactLeastTableSaid : Prop := fnExactLeastTableRow.holds Try.pinned (OpenSpec.ofChange fnExactLeastTableSpec)

/-- ITS FALSE NEIGHBOUR: 'it returns false'. Refute it at one input. -/
def fnExactLeastTableWrong : ChangeSpec := { name := "fnExactLeastTable", fn := fun _ => fun
  | [d] => { results := [.lit (.bool false)], args := [d] }
  | _ => none }
def FnExactLeastTableWrongFalsely : Prop := fnExactLeastTableRow.holds Try.pinned (OpenSpec.ofChange fnExactLeastTableWrong)

/-- 'laws.FnExactParseTable': WHATEVER THE INPUT: true; the input reads as it did. -/
def fnExactParseTableSpec : ChangeSpec := { name := "fnExactParseTable", fn := fun _ => fun
  | [d] => { results := [.lit (.bool true)], args := [d] }
  | _ => none }
def fnExactParseTableRow : OpenClaim := { program := "ytlihnknlpbokiaa", sum := "f755f1eb2157f17d2fcbdecdadeebfdba4b7ae995778924d8ff4be0ec410bfee", func := "loop.example/g01392/laws.FnExactParseTable", spec := "fnExactParseTable", plainKeys := false, apart := false }
def FnExactParseTableSaid : Prop := fnExactParseTableRow.holds Try.pinned (OpenSpec.ofChange fnExactParseTableSpec)

/-- ITS FALSE NEIGHBOUR: 'it returns false'. Refute it at one input. -/
def fnExactParseTableWrong : ChangeSpec := { name := "fnExactParseTable", fn := fun _ => fun
  | [d] => { results := [.lit (.bool false)], args := [d] }
  | _ => none }
def FnExactParseTableWrongFalsely : Prop := fnExactParseTableRow.holds Try.pinned (OpenSpec.ofChange fnExactParseTableWrong)

/-- 'laws.FnExactIsNetwork': WHATEVER THE INPUT: true; the input reads as it did. -/
def fnExactIsNetworkSpec : ChangeSpec := { name := "fnExactIsNetwork", fn := fun _ => fun
  | [d] => { results := [.lit (.bool true)], args := [d] }
  | _ => none }
def fnExactIsNetworkRow : OpenClaim := { program := "ytlihnknlpbokiaa", sum := "f755f1eb2157f17d2fcbdecdadeebfdba4b7ae995778924d8ff4be0ec410bfee", func := "loop.example/g01392/laws.FnExactIsNetwork", spec := "fnExactIsNetwork", plainKeys := false, apart := false }
def FnExactIsNetworkSaid : Prop := fnExactIsNetworkRow.holds Try.pinned (OpenSpec.ofChange fnExactIsNetworkSpec)

/-- ITS FALSE NEIGHBOUR: 'it returns false'. Refute it at one input. -/
def fnExactIsNetworkWrong : ChangeSpec := { name := "fnExactIsNetwork", fn := fun _ => fun
  | [d] => { results := [.lit (.bool false)], args := [d] }
  | _ => none }
def FnExactIsNetworkWrongFalsely : Prop := fnExactIsNetworkRow.holds Try.pinned (OpenSpec.ofChange fnExactIsNetworkWrong)

/-- 'laws.FnExactClosedContacts': WHATEVER THE INPUT: true; the input reads as it did. -/
def fnExactClosedContactsSpec : ChangeSpec := { name := "fnExactClosedContacts", fn := fun _ => fun
  | [d1, d2] => { results := [.lit (.bool true)], args := [d1, d2] }
  | _ => none }
def fnExactClosedContactsRow : OpenClaim := { program := "ytlihnknlpbokiaa", sum := "f755f1eb2157f17d2fcbdecdadeebfdba4b7ae995778924d8ff4be0ec410bfee", func := "loop.example/g01392/laws.FnExactClosedContacts", spec := "fnExactClosedContacts", plainKeys := false, apart := false }
def FnExactClosedContactsSaid : Prop := fnExactClosedContactsRow.holds Try.pinned (OpenSpec.ofChange fnExactClosedContactsSpec)

/-- ITS FALSE NEIGHBOUR: 'it returns false'. Refute it at one input. -/
def fnExactClosedContactsWrong : ChangeSpec := { name := "fnExactClosedContacts", fn := fun _ => fun
  | [d1, d2] => { results := [.lit (.bool false)], args := [d1, d2] }
  | _ => none }
def FnExactClosedContactsWrongFalsely : Prop := fnExactClosedContactsRow.holds Try.pinned (OpenSpec.ofChange fnExactClosedContactsWrong)

/-- 'laws.FnExactPointsWith': WHATEVER THE INPUT: true; the input reads as it did. -/
def fnExactPointsWithSpec : ChangeSpec := { name := "fnExactPointsWith", fn := fun _ => fun
  | [d1, d2, d3] => { results := [.lit (.bool true)], args := [d1, d2, d3] }
  | _ => none }
def fnExactPointsWithRow : OpenClaim := { program := "ytlihnknlpbokiaa", sum := "f755f1eb2157f17d2fcbdecdadeebfdba4b7ae995778924d8ff4be0ec410bfee", func := "loop.example/g01392/laws.FnExactPointsWith", spec := "fnExactPointsWith", plainKeys := false, apart := false }
def FnExactPointsWithSaid : Prop := fnExactPointsWithRow.holds Try.pinned (OpenSpec.ofChange fnExactPointsWithSpec)

/-- ITS FALSE NEIGHBOUR: 'it returns false'. Refute it at one input. -/
def fnExactPointsWithWrong : ChangeSpec := { name := "fnExactPointsWith", fn := fun _ => fun
  | [d1, d2, d3] => { results := [.lit (.bool false)], args := [d1, d2, d3] }
  | _ => none }
def FnExactPointsWithWrongFalsely : Prop := fnExactPointsWithRow.holds Try.pinned (OpenSpec.ofChange fnExactPointsWithWrong)

/- THE SECOND FORM. 'bulk': how many values and letters a reading holds, each counted each time it is reached (what is shared counts as often as it is met; a slice's spare places count too). A statement '..UptoSaid' is the law's where the arguments, and the package variables that the reading takes, are together of bulk at most 1048576: NARROWER than '..Said'. Prove '..Said' where nothing that the law and all that it calls make is longer than what came in: it says more and counts as full. Else prove '..UptoSaid'. A law counts once. -/
mutual
def uptoBulk {H : Type} : DataW H → Nat
  | .lit (.string bytes) => bytes.length + 1
  | .lit _ => 1
  | .nil => 1
  | .ptr d => uptoBulk d + 1
  | .slice elems spare => uptoBulkAll elems + uptoBulkAll spare + 1
  | .agg parts => uptoBulkAll parts + 1
  | .iface _ d => uptoBulk d + 1
  | .map entries => uptoBulkEntries entries + 1
  | .held _ => 1
def uptoBulkAll {H : Type} : List (DataW H) → Nat
  | [] => 0
  | d :: r => uptoBulk d + uptoBulkAll r
def uptoBulkEntries {H : Type} : List (Lit × DataW H) → Nat
  | [] => 0
  | x :: r => uptoBulkEntry x + uptoBulkEntries r
def uptoBulkEntry {H : Type} : Lit × DataW H → Nat
  | (.string bytes, d) => bytes.length + uptoBulk d + 1
  | (_, d) => uptoBulk d + 1
 end
def uptoSmall : (H : Type) → List (DataW H) → Bool := fun _ ds => decide (uptoBulkAll ds ≤ 1048576)
def OpenSpec.upto (s : _root_.Go.ChangeSpec) : _root_.Go.OpenSpec := { _root_.Go.OpenSpec.ofChange s with cond := some uptoSmall }

/-- 'laws.FnPathsAndCuts', WHERE WHAT IT READS IS OF BULK AT MOST 1048576: true; the input reads as it did. -/
def fnPathsAndCutsUptoRow : OpenClaim := { program := "ytlihnknlpbokiaa", sum := "f755f1eb2157f17d2fcbdecdadeebfdba4b7ae995778924d8ff4be0ec410bfee", func := "loop.example/g01392/laws.FnPathsAndCuts", spec := "fnPathsAndCuts", unfollowed := true, recurses := true, plainKeys := false, apart := false, narrowed := true }
def FnPathsAndCutsUptoSaid : Prop := fnPathsAndCutsUptoRow.holds Try.pinned (OpenSpec.upto fnPathsAndCutsSpec)

/-- 'laws.FnJoinedPoints', WHERE WHAT IT READS IS OF BULK AT MOST 1048576: true; the input reads as it did. -/
def fnJoinedPointsUptoRow : OpenClaim := { program := "ytlihnknlpbokiaa", sum := "f755f1eb2157f17d2fcbdecdadeebfdba4b7ae995778924d8ff4be0ec410bfee", func := "loop.example/g01392/laws.FnJoinedPoints", spec := "fnJoinedPoints", plainKeys := false, apart := false, narrowed := true }
def FnJoinedPointsUptoSaid : Prop := fnJoinedPointsUptoRow.holds Try.pinned (OpenSpec.upto fnJoinedPointsSpec)

/-- 'laws.FnExactRenameInputs', WHERE WHAT IT READS IS OF BULK AT MOST 1048576: true; the input reads as it did. -/
def fnExactRenameInputsUptoRow : OpenClaim := { program := "ytlihnknlpbokiaa", sum := "f755f1eb2157f17d2fcbdecdadeebfdba4b7ae995778924d8ff4be0ec410bfee", func := "loop.example/g01392/laws.FnExactRenameInputs", spec := "fnExactRenameInputs", unfollowed := true, recurses := true, plainKeys := false, apart := false, narrowed := true }
def FnExactRenameInputsUptoSaid : Prop := fnExactRenameInputsUptoRow.holds Try.pinned (OpenSpec.upto fnExactRenameInputsSpec)

/-- 'laws.FnExactLeastTable', WHERE WHAT IT READS IS OF BULK AT MOST 1048576: true; the input reads as it did. -/
def fnExactLeastTableUptoRow : OpenClaim := { program := "ytlihnknlpbokiaa", sum := "f755f1eb2157f17d2fcbdecdadeebfdba4b7ae995778924d8ff4be0ec410bfee", func := "loop.example/g01392/laws.FnExactLeastTable", spec := "fnExactLeastTable", unfollowed := true, recurses := true, plainKeys := false, apart := false, narrowed := true }
def FnExactLeastTableUptoSaid : Prop := fnExactLeastTableUptoRow.holds Try.pinned (OpenSpec.upto fnExactLeastTableSpec)

/-- 'laws.FnExactParseTable', WHERE WHAT IT READS IS OF BULK AT MOST 1048576: true; the input reads as it did. -/
def fnExactParseTableUptoRow : OpenClaim := { program := "ytlihnknlpbokiaa", sum := "f755f1eb2157f17d2fcbdecdadeebfdba4b7ae995778924d8ff4be0ec410bfee", func := "loop.example/g01392/laws.FnExactParseTable", spec := "fnExactParseTable", plainKeys := false, apart := false, narrowed := true }
def FnExactParseTableUptoSaid : Prop := fnExactParseTableUptoRow.holds Try.pinned (OpenSpec.upto fnExactParseTableSpec)

/-- 'laws.FnExactIsNetwork', WHERE WHAT IT READS IS OF BULK AT MOST 1048576: true; the input reads as it did. -/
def fnExactIsNetworkUptoRow : OpenClaim := { program := "ytlihnknlpbokiaa", sum := "f755f1eb2157f17d2fcbdecdadeebfdba4b7ae995778924d8ff4be0ec410bfee", func := "loop.example/g01392/laws.FnExactIsNetwork", spec := "fnExactIsNetwork", plainKeys := false, apart := false, narrowed := true }
def FnExactIsNetworkUptoSaid : Prop := fnExactIsNetworkUptoRow.holds Try.pinned (OpenSpec.upto fnExactIsNetworkSpec)

/-- 'laws.FnExactClosedContacts', WHERE WHAT IT READS IS OF BULK AT MOST 1048576: true; the input reads as it did. -/
def fnExactClosedContactsUptoRow : OpenClaim := { program := "ytlihnknlpbokiaa", sum := "f755f1eb2157f17d2fcbdecdadeebfdba4b7ae995778924d8ff4be0ec410bfee", func := "loop.example/g01392/laws.FnExactClosedContacts", spec := "fnExactClosedContacts", plainKeys := false, apart := false, narrowed := true }
def FnExactClosedContactsUptoSaid : Prop := fnExactClosedContactsUptoRow.holds Try.pinned (OpenSpec.upto fnExactClosedContactsSpec)

/-- 'laws.FnExactPointsWith', WHERE WHAT IT READS IS OF BULK AT MOST 1048576: true; the input reads as it did. -/
def fnExactPointsWithUptoRow : OpenClaim := { program := "ytlihnknlpbokiaa", sum := "f755f1eb2157f17d2fcbdecdadeebfdba4b7ae995778924d8ff4be0ec410bfee", func := "loop.example/g01392/laws.FnExactPointsWith", spec := "fnExactPointsWith", plainKeys := false, apart := false, narrowed := true }
def FnExactPointsWithUptoSaid : Prop := fnExactPointsWithUptoRow.holds Try.pinned (OpenSpec.upto fnExactPointsWithSpec)

end Rows
end Go.Proofs.Ytlihnknlpbokiaa

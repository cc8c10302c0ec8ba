/-
  No cell of these rows narrows 'for every input' (looked for: loops, veiled, ifaces, maps, wideKeys, modest, calm, conditions, laid).
  DERIVED. THE GIVEN ROWS OF THIS SEAT. 8 by the template 'for every input the law returns true; each argument reads behind the call as it read before'; 0 by the template 'total and deterministic' (their statements: YtbliibcfnfgdmaaTotals.lean).
  GIVEN WITH THE SEED: the statements are not yours to turn. If you find one false, say at which input.
  Laid BY PROGRAM, IN A SANDBOX (cutbox-rows.mjs): the forced cells as the released guide's own fill.sh prints them over the translation 98fecb5177e57c25… (all of the seat's roots in one cut). By AI agents, Wed Nov 11 2026. No macro, syntax, notation, axiom, sorry.
-/
import Derived.Test.YtbliibcfnfgdmaaChecked
import GoSem.Claim
import GoSem.ClaimJoined
import GoSem.ClaimMapViews
import Derived.JoinedTies
import Derived.KernelRfl
namespace Go.Proofs.Ytbliibcfnfgdmaa
/- THE CELL 'sum', in the pinned program and in every row, IS THE sha256 OF THE DUMP (.gsa) THAT YtbliibcfnfgdmaaProg.lean LOADS. Nothing in Lean hashes anything: it is a label: what it is worth is what the hold of that sum in a sandbox is worth. -/
noncomputable def Try.pinned : Pinned := { name := "ytbliibcfnfgdmaa", sum := "98fecb5177e57c25c27e2abfb689ddced037f0d5df400fc48b7e9008388e024c", checked := Try.checked }
namespace Rows
def none {H : Type} : Left H := { results := [], args := [] }

/-- 'laws.FnExactExchangeRelays': WHATEVER THE INPUT: true; the input reads as it did. -/
def fnExactExchangeRelaysSpec : ChangeSpec := { name := "fnExactExchangeRelays", fn := fun _ => fun
  | [d1, d2] => { results := [.lit (.bool true)], args := [d1, d2] }
  | _ => none }
def fnExactExchangeRelaysRow : OpenClaim := { program := "ytbliibcfnfgdmaa", sum := "98fecb5177e57c25c27e2abfb689ddced037f0d5df400fc48b7e9008388e024c", func := "loop.example/g01392/laws.FnExactExchangeRelays", spec := "fnExactExchangeRelays", unfollowed := true, recurses := true, plainKeys := false, apart := false }
def FnExactExchangeRelaysSaid : Prop := fnExactExchangeRelaysRow.holds Try.pinned (OpenSpec.ofChange fnExactExchangeRelaysSpec)

/-- ITS FALSE NEIGHBOUR: 'it returns false'. Refute it at one input. -/
def fnExactExchangeRelaysWrong : ChangeSpec := { name := "fnExactExchangeRelays", fn := fun _ => fun
  | [d1, d2] => { results := [.lit (.bool false)], args := [d1, d2] }
  | _ => none }
def FnExactExchangeRelaysWrongFalsely : Prop := fnExactExchangeRelaysRow.holds Try.pinned (OpenSpec.ofChange fnExactExchangeRelaysWrong)

/-- 'laws.FnExactIsSelector': WHATEVER THE INPUT: true; the input reads as it did. -/
def fnExactIsSelectorSpec : ChangeSpec := { name := "fnExactIsSelector", fn := fun _ => fun
  | [d1, d2] => { results := [.lit (.bool true)], args := [d1, d2] }
  | _ => none }
def fnExactIsSelectorRow : OpenClaim := { program := "ytbliibcfnfgdmaa", sum := "98fecb5177e57c25c27e2abfb689ddced037f0d5df400fc48b7e9008388e024c", func := "loop.example/g01392/laws.FnExactIsSelector", spec := "fnExactIsSelector", recurses := true, plainKeys := false, apart := false }
def FnExactIsSelectorSaid : Prop := fnExactIsSelectorRow.holds Try.pinned (OpenSpec.ofChange fnExactIsSelectorSpec)

/-- ITS FALSE NEIGHBOUR: 'it returns false'. Refute it at one input. -/
def fnExactIsSelectorWrong : ChangeSpec := { name := "fnExactIsSelector", fn := fun _ => fun
  | [d1, d2] => { results := [.lit (.bool false)], args := [d1, d2] }
  | _ => none }
def FnExactIsSelectorWrongFalsely : Prop := fnExactIsSelectorRow.holds Try.pinned (OpenSpec.ofChange fnExactIsSelectorWrong)

/-- 'laws.FnExactRowsOfEnds': WHATEVER THE INPUT: true; the input reads as it did. -/
def fnExactRowsOfEndsSpec : ChangeSpec := { name := "fnExactRowsOfEnds", fn := fun _ => fun
  | [d1, d2] => { results := [.lit (.bool true)], args := [d1, d2] }
  | _ => none }
def fnExactRowsOfEndsRow : OpenClaim := { program := "ytbliibcfnfgdmaa", sum := "98fecb5177e57c25c27e2abfb689ddced037f0d5df400fc48b7e9008388e024c", func := "loop.example/g01392/laws.FnExactRowsOfEnds", spec := "fnExactRowsOfEnds", unfollowed := true, recurses := true, plainKeys := false, apart := false }
def FnExactRowsOfEndsSaid : Prop := fnExactRowsOfEndsRow.holds Try.pinned (OpenSpec.ofChange fnExactRowsOfEndsSpec)

/-- ITS FALSE NEIGHBOUR: 'it returns false'. Refute it at one input. -/
def fnExactRowsOfEndsWrong : ChangeSpec := { name := "fnExactRowsOfEnds", fn := fun _ => fun
  | [d1, d2] => { results := [.lit (.bool false)], args := [d1, d2] }
  | _ => none }
def FnExactRowsOfEndsWrongFalsely : Prop := fnExactRowsOfEndsRow.holds Try.pinned (OpenSpec.ofChange fnExactRowsOfEndsWrong)

/-- 'laws.FnExactEndOfRow': WHATEVER THE INPUT: true; the input reads as it did. -/
def fnExactEndOfRowSpec : ChangeSpec := { name := "fnExactEndOfRow", fn := fun _ => fun
  | [d1, d2, d3] => { results := [.lit (.bool true)], args := [d1, d2, d3] }
  | _ => none }
def fnExactEndOfRowRow : OpenClaim := { program := "ytbliibcfnfgdmaa", sum := "98fecb5177e57c25c27e2abfb689ddced037f0d5df400fc48b7e9008388e024c", func := "loop.example/g01392/laws.FnExactEndOfRow", spec := "fnExactEndOfRow", unfollowed := true, recurses := true, plainKeys := false, apart := false }
def FnExactEndOfRowSaid : Prop := fnExactEndOfRowRow.holds Try.pinned (OpenSpec.ofChange fnExactEndOfRowSpec)

/-- ITS FALSE NEIGHBOUR: 'it returns false'. Refute it at one input. -/
def fnExactEndOfRowWrong : ChangeSpec := { name := "fnExactEndOfRow", fn := fun _ => fun
  | [d1, d2, d3] => { results := [.lit (.bool false)], args := [d1, d2, d3] }
  | _ => none }
def FnExactEndOfRowWrongFalsely : Prop := fnExactEndOfRowRow.holds Try.pinned (OpenSpec.ofChange fnExactEndOfRowWrong)

/-- 'laws.FnExactCountSelectors': WHATEVER THE INPUT: true; the input reads as it did. -/
def fnExactCountSelectorsSpec : ChangeSpec := { name := "fnExactCountSelectors", fn := fun _ => fun
  | [d] => { results := [.lit (.bool true)], args := [d] }
  | _ => none }
def fnExactCountSelectorsRow : OpenClaim := { program := "ytbliibcfnfgdmaa", sum := "98fecb5177e57c25c27e2abfb689ddced037f0d5df400fc48b7e9008388e024c", func := "loop.example/g01392/laws.FnExactCountSelectors", spec := "fnExactCountSelectors", plainKeys := false, apart := false }
def FnExactCountSelectorsSaid : Prop := fnExactCountSelectorsRow.holds Try.pinned (OpenSpec.ofChange fnExactCountSelectorsSpec)

/-- ITS FALSE NEIGHBOUR: 'it returns false'. Refute it at one input. -/
def fnExactCountSelectorsWrong : ChangeSpec := { name := "fnExactCountSelectors", fn := fun _ => fun
  | [d] => { results := [.lit (.bool false)], args := [d] }
  | _ => none }
def FnExactCountSelectorsWrongFalsely : Prop := fnExactCountSelectorsRow.holds Try.pinned (OpenSpec.ofChange fnExactCountSelectorsWrong)

/-- 'laws.FnExactContactsFor': WHATEVER THE INPUT: true; the input reads as it did. -/
def fnExactContactsForSpec : ChangeSpec := { name := "fnExactContactsFor", fn := fun _ => fun
  | [d1, d2, d3] => { results := [.lit (.bool true)], args := [d1, d2, d3] }
  | _ => none }
def fnExactContactsForRow : OpenClaim := { program := "ytbliibcfnfgdmaa", sum := "98fecb5177e57c25c27e2abfb689ddced037f0d5df400fc48b7e9008388e024c", func := "loop.example/g01392/laws.FnExactContactsFor", spec := "fnExactContactsFor", unfollowed := true, recurses := true, plainKeys := false, apart := false }
def FnExactContactsForSaid : Prop := fnExactContactsForRow.holds Try.pinned (OpenSpec.ofChange fnExactContactsForSpec)

/-- ITS FALSE NEIGHBOUR: 'it returns false'. Refute it at one input. -/
def fnExactContactsForWrong : ChangeSpec := { name := "fnExactContactsFor", fn := fun _ => fun
  | [d1, d2, d3] => { results := [.lit (.bool false)], args := [d1, d2, d3] }
  | _ => none }
def FnExactContactsForWrongFalsely : Prop := fnExactContactsForRow.holds Try.pinned (OpenSpec.ofChange fnExactContactsForWrong)

/-- 'laws.FnExactNetworkOfSelector': WHATEVER THE INPUT: true; the input reads as it did. -/
def fnExactNetworkOfSelectorSpec : ChangeSpec := { name := "fnExactNetworkOfSelector", fn := fun _ => fun
  | [d1, d2] => { results := [.lit (.bool true)], args := [d1, d2] }
  | _ => none }
def fnExactNetworkOfSelectorRow : OpenClaim := { program := "ytbliibcfnfgdmaa", sum := "98fecb5177e57c25c27e2abfb689ddced037f0d5df400fc48b7e9008388e024c", func := "loop.example/g01392/laws.FnExactNetworkOfSelector", spec := "fnExactNetworkOfSelector", unfollowed := true, recurses := true, plainKeys := false, apart := false }
def FnExactNetworkOfSelectorSaid : Prop := fnExactNetworkOfSelectorRow.holds Try.pinned (OpenSpec.ofChange fnExactNetworkOfSelectorSpec)

/-- ITS FALSE NEIGHBOUR: 'it returns false'. Refute it at one input. -/
def fnExactNetworkOfSelectorWrong : ChangeSpec := { name := "fnExactNetworkOfSelector", fn := fun _ => fun
  | [d1, d2] => { results := [.lit (.bool false)], args := [d1, d2] }
  | _ => none }
def FnExactNetworkOfSelectorWrongFalsely : Prop := fnExactNetworkOfSelectorRow.holds Try.pinned (OpenSpec.ofChange fnExactNetworkOfSelectorWrong)

/-- 'laws.FnExactCountNodes': WHATEVER THE INPUT: true; the input reads as it did. -/
def fnExactCountNodesSpec : ChangeSpec := { name := "fnExactCountNodes", fn := fun _ => fun
  | [d1, d2] => { results := [.lit (.bool true)], args := [d1, d2] }
  | _ => none }
def fnExactCountNodesRow : OpenClaim := { program := "ytbliibcfnfgdmaa", sum := "98fecb5177e57c25c27e2abfb689ddced037f0d5df400fc48b7e9008388e024c", func := "loop.example/g01392/laws.FnExactCountNodes", spec := "fnExactCountNodes", unfollowed := true, recurses := true, plainKeys := false, apart := false }
def FnExactCountNodesSaid : Prop := fnExactCountNodesRow.holds Try.pinned (OpenSpec.ofChange fnExactCountNodesSpec)

/-- ITS FALSE NEIGHBOUR: 'it returns false'. Refute it at one input. -/
def fnExactCountNodesWrong : ChangeSpec := { name := "fnExactCountNodes", fn := fun _ => fun
  | [d1, d2] => { results := [.lit (.bool false)], args := [d1, d2] }
  | _ => none }
def FnExactCountNodesWrongFalsely : Prop := fnExactCountNodesRow.holds Try.pinned (OpenSpec.ofChange fnExactCountNodesWrong)

/- THE SECOND FORM. 'bulk': how many values and letters a reading holds, each counted each time it is reached (what is shared counts as often as it is met; a slice's spare places count too). A statement '..UptoSaid' is the law's where the arguments, and the package variables that the reading takes, are together of bulk at most 1048576: NARROWER than '..Said'. Prove '..Said' where nothing that the law and all that it calls make is longer than what came in: it says more and counts as full. Else prove '..UptoSaid'. A law counts once. -/
mutual
def uptoBulk {H : Type} : DataW H → Nat
  | .lit (.string bytes) => bytes.length + 1
  | .lit _ => 1
  | .nil => 1
  | .ptr d => uptoBulk d + 1
  | .slice elems spare => uptoBulkAll elems + uptoBulkAll spare + 1
  | .agg parts => uptoBulkAll parts + 1
  | .iface _ d => uptoBulk d + 1
  | .map entries => uptoBulkEntries entries + 1
  | .held _ => 1
def uptoBulkAll {H : Type} : List (DataW H) → Nat
  | [] => 0
  | d :: r => uptoBulk d + uptoBulkAll r
def uptoBulkEntries {H : Type} : List (Lit × DataW H) → Nat
  | [] => 0
  | x :: r => uptoBulkEntry x + uptoBulkEntries r
def uptoBulkEntry {H : Type} : Lit × DataW H → Nat
  | (.string bytes, d) => bytes.length + uptoBulk d + 1
  | (_, d) => uptoBulk d + 1
 end
def uptoSmall : (H : Type) → List (DataW H) → Bool := fun _ ds => decide (uptoBulkAll ds ≤ 1048576)
def OpenSpec.upto (s : _root_.Go.ChangeSpec) : _root_.Go.OpenSpec := { _root_.Go.OpenSpec.ofChange s with cond := some uptoSmall }

/-- 'laws.FnExactExchangeRelays', WHERE WHAT IT READS IS OF BULK AT MOST 1048576: true; the input reads as it did. -/
def fnExactExchangeRelaysUptoRow : OpenClaim := { program := "ytbliibcfnfgdmaa", sum := "98fecb5177e57c25c27e2abfb689ddced037f0d5df400fc48b7e9008388e024c", func := "loop.example/g01392/laws.FnExactExchangeRelays", spec := "fnExactExchangeRelays", unfollowed := true, recurses := true, plainKeys := false, apart := false, narrowed := true }
def FnExactExchangeRelaysUptoSaid : Prop := fnExactExchangeRelaysUptoRow.holds Try.pinned (OpenSpec.upto fnExactExchangeRelaysSpec)

/-- 'laws.FnExactIsSelector', WHERE WHAT IT READS IS OF BULK AT MOST 1048576: true; the input reads as it did. -/
def fnExactIsSelectorUptoRow : OpenClaim := { program := "ytbliibcfnfgdmaa", sum := "98fecb5177e57c25c27e2abfb689ddced037f0d5df400fc48b7e9008388e024c", func := "loop.example/g01392/laws.FnExactIsSelector", spec := "fnExactIsSelector", recurses := true, plainKeys := false, apart := false, narrowed := true }
def FnExactIsSelectorUptoSaid : Prop := fnExactIsSelectorUptoRow.holds Try.pinned (OpenSpec.upto fnExactIsSelectorSpec)

/-- 'laws.FnExactRowsOfEnds', WHERE WHAT IT READS IS OF BULK AT MOST 1048576: true; the input reads as it did. -/
def fnExactRowsOfEndsUptoRow : OpenClaim := { program := "ytbliibcfnfgdmaa", sum := "98fecb5177e57c25c27e2abfb689ddced037f0d5df400fc48b7e9008388e024c", func := "loop.example/g01392/laws.FnExactRowsOfEnds", spec := "fnExactRowsOfEnds", unfollowed := true, recurses := true, plainKeys := false, apart := false, narrowed := true }
def FnExactRowsOfEndsUptoSaid : Prop := fnExactRowsOfEndsUptoRow.holds Try.pinned (OpenSpec.upto fnExactRowsOfEndsSpec)

/-- 'laws.FnExactEndOfRow', WHERE WHAT IT READS IS OF BULK AT MOST 1048576: true; the input reads as it did. -/
def fnExactEndOfRowUptoRow : OpenClaim := { program := "ytbliibcfnfgdmaa", sum := "98fecb5177e57c25c27e2abfb689ddced037f0d5df400fc48b7e9008388e024c", func := "loop.example/g01392/laws.FnExactEndOfRow", spec := "fnExactEndOfRow", unfollowed := true, recurses := true, plainKeys := false, apart := false, narrowed := true }
def FnExactEndOfRowUptoSaid : Prop := fnExactEndOfRowUptoRow.holds Try.pinned (OpenSpec.upto fnExactEndOfRowSpec)

/-- 'laws.FnExactCountSelectors', WHERE WHAT IT READS IS OF BULK AT MOST 1048576: true; the input reads as it did. -/
def fnExactCountSelectorsUptoRow : OpenClaim := { program := "ytbliibcfnfgdmaa", sum := "98fecb5177e57c25c27e2abfb689ddced037f0d5df400fc48b7e9008388e024c", func := "loop.example/g01392/laws.FnExactCountSelectors", spec := "fnExactCountSelectors", plainKeys := false, apart := false, narrowed := true }
def FnExactCountSelectorsUptoSaid : Prop := fnExactCountSelectorsUptoRow.holds Try.pinned (OpenSpec.upto fnExactCountSelectorsSpec)

/-- 'laws.FnExactContactsFor', WHERE WHAT IT READS IS OF BULK AT MOST 1048576: true; the input reads as it did. -/
def fnExactContactsForUptoRow : OpenClaim := { program := "ytbliibcfnfgdmaa", sum := "98fecb5177e57c25c27e2abfb689ddced037f0d5df400fc48b7e9008388e024c", func := "loop.example/g01392/laws.FnExactContactsFor", spec := "fnExactContactsFor", unfollowed := true, recurses := true, plainKeys := false, apart := false, narrowed := true }
def FnExactContactsForUptoSaid : Prop := fnExactContactsForUptoRow.holds Try.pinned (OpenSpec.upto fnExactContactsForSpec)

/-- 'laws.FnExactNetworkOfSelector', WHERE WHAT IT READS IS OF BULK AT MOST 1048576: true; the input reads as it did. -/
def fnExactNetworkOfSelectorUptoRow : OpenClaim := { program := "ytbliibcfnfgdmaa", sum := "98fecb5177e57c25c27e2abfb689ddced037f0d5df400fc48b7e9008388e024c", func := "loop.example/g01392/laws.FnExactNetworkOfSelector", spec := "fnExactNetworkOfSelector", unfollowed := true, recurses := true, plainKeys := false, apart := false, narrowed := true }
def FnExactNetworkOfSelectorUptoSaid : Prop := fnExactNetworkOfSelectorUptoRow.holds Try.pinned (OpenSpec.upto fnExactNetworkOfSelectorSpec)

/-- 'laws.FnExactCountNodes', WHERE WHAT IT READS IS OF BULK AT MOST 1048576: true; the input reads as it did. -/
def fnExactCountNodesUptoRow : OpenClaim := { program := "ytbliibcfnfgdmaa", sum := "98fecb5177e57c25c27e2abfb689ddced037f0d5df400fc48b7e9008388e024c", func := "loop.example/g01392/laws.FnExactCountNodes", spec := "fnExactCountNodes", unfollowed := true, recurses := true, plainKeys := false, apart := false, narrowed := true }
def FnExactCountNodesUptoSaid : Prop := fnExactCountNodesUptoRow.holds Try.pinned (OpenSpec.upto fnExactCountNodesSpec)

end Rows
end Go.Proofs.Ytbliibcfnfgdmaa

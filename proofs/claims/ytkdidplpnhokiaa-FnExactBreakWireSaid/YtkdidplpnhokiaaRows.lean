/-
  No cell of these rows narrows 'for every input' (looked for: loops, veiled, ifaces, maps, wideKeys, modest, calm, conditions, laid).
  DERIVED. THE GIVEN ROWS OF THIS SEAT. 12 by the template 'for every input the law returns true; each argument reads behind the call as it read before'; 0 by the template 'total and deterministic' (their statements: YtkdidplpnhokiaaTotals.lean).
  GIVEN WITH THE SEED: the statements are not yours to turn. If you find one false, say at which input.
  Laid BY PROGRAM, IN A SANDBOX (cutbox-rows.mjs): the forced cells as the released guide's own fill.sh prints them over the translation b0bcdc77f5ec9449… (all of the seat's roots in one cut). By AI agents, Wed Nov 11 2026. No macro, syntax, notation, axiom, sorry.
-/
import Derived.Test.YtkdidplpnhokiaaChecked
import GoSem.Claim
import GoSem.ClaimJoined
import GoSem.ClaimMapViews
import Derived.JoinedTies
import Derived.KernelRfl
namespace Go.Proofs.Ytkdidplpnhokiaa
/- THE CELL 'sum', in the pinned program and in every row, IS THE sha256 OF THE DUMP (.gsa) THAT YtkdidplpnhokiaaProg.lean LOADS. Nothing in Lean hashes anything: it is a label: what it is worth is what the hold of that sum in a sandbox is worth. -/
noncomputable def Try.pinned : Pinned := { name := "ytkdidplpnhokiaa", sum := "b0bcdc77f5ec944915c9f3196f522b0a91fd1f310592bebea8db977e433e27e3", checked := Try.checked }
namespace Rows
def none {H : Type} : Left H := { results := [], args := [] }

/-- 'laws.FnExactIsWiring': WHATEVER THE INPUT: true; the input reads as it did. -/
def fnExactIsWiringSpec : ChangeSpec := { name := "fnExactIsWiring", fn := fun _ => fun
  | [d] => { results := [.lit (.bool true)], args := [d] }
  | _ => none }
def fnExactIsWiringRow : OpenClaim := { program := "ytkdidplpnhokiaa", sum := "b0bcdc77f5ec944915c9f3196f522b0a91fd1f310592bebea8db977e433e27e3", func := "loop.example/g01392/laws.FnExactIsWiring", spec := "fnExactIsWiring", unfollowed := true, recurses := true, apart := false }
def FnExactIsWiringSaid : Prop := fnExactIsWiringRow.holds Try.pinned (OpenSpec.ofChange fnExactIsWiringSpec)

/-- ITS FALSE NEIGHBOUR: 'it returns false'. Refute it at one input. -/
def fnExactIsWiringWrong : ChangeSpec := { name := "fnExactIsWiring", fn := fun _ => fun
  | [d] => { results := [.lit (.bool false)], args := [d] }
  | _ => none }
def FnExactIsWiringWrongFalsely : Prop := fnExactIsWiringRow.holds Try.pinned (OpenSpec.ofChange fnExactIsWiringWrong)

/-- 'laws.FnExactStandardWiring': WHATEVER THE INPUT: true; the input reads as it did. -/
def fnExactStandardWiringSpec : ChangeSpec := { name := "fnExactStandardWiring", fn := fun _ => fun
  | [d] => { results := [.lit (.bool true)], args := [d] }
  | _ => none }
def fnExactStandardWiringRow : OpenClaim := { program := "ytkdidplpnhokiaa", sum := "b0bcdc77f5ec944915c9f3196f522b0a91fd1f310592bebea8db977e433e27e3", func := "loop.example/g01392/laws.FnExactStandardWiring", spec := "fnExactStandardWiring", inPlace := ["slices.overlaps[[]int64]"], unfollowed := true, recurses := true, apart := false }
def FnExactStandardWiringSaid : Prop := fnExactStandardWiringRow.holds Try.pinned (OpenSpec.ofChange fnExactStandardWiringSpec)

/-- ITS FALSE NEIGHBOUR: 'it returns false'. Refute it at one input. -/
def fnExactStandardWiringWrong : ChangeSpec := { name := "fnExactStandardWiring", fn := fun _ => fun
  | [d] => { results := [.lit (.bool false)], args := [d] }
  | _ => none }
def FnExactStandardWiringWrongFalsely : Prop := fnExactStandardWiringRow.holds Try.pinned (OpenSpec.ofChange fnExactStandardWiringWrong)

/-- 'laws.FnExactIsLit': WHATEVER THE INPUT: true; the input reads as it did. -/
def fnExactIsLitSpec : ChangeSpec := { name := "fnExactIsLit", fn := fun _ => fun
  | [d1, d2] => { results := [.lit (.bool true)], args := [d1, d2] }
  | _ => none }
def fnExactIsLitRow : OpenClaim := { program := "ytkdidplpnhokiaa", sum := "b0bcdc77f5ec944915c9f3196f522b0a91fd1f310592bebea8db977e433e27e3", func := "loop.example/g01392/laws.FnExactIsLit", spec := "fnExactIsLit", unfollowed := true, recurses := true, apart := false }
def FnExactIsLitSaid : Prop := fnExactIsLitRow.holds Try.pinned (OpenSpec.ofChange fnExactIsLitSpec)

/-- ITS FALSE NEIGHBOUR: 'it returns false'. Refute it at one input. -/
def fnExactIsLitWrong : ChangeSpec := { name := "fnExactIsLit", fn := fun _ => fun
  | [d1, d2] => { results := [.lit (.bool false)], args := [d1, d2] }
  | _ => none }
def FnExactIsLitWrongFalsely : Prop := fnExactIsLitRow.holds Try.pinned (OpenSpec.ofChange fnExactIsLitWrong)

/-- 'laws.FnExactLiveTerminals': WHATEVER THE INPUT: true; the input reads as it did. -/
def fnExactLiveTerminalsSpec : ChangeSpec := { name := "fnExactLiveTerminals", fn := fun _ => fun
  | [d1, d2] => { results := [.lit (.bool true)], args := [d1, d2] }
  | _ => none }
def fnExactLiveTerminalsRow : OpenClaim := { program := "ytkdidplpnhokiaa", sum := "b0bcdc77f5ec944915c9f3196f522b0a91fd1f310592bebea8db977e433e27e3", func := "loop.example/g01392/laws.FnExactLiveTerminals", spec := "fnExactLiveTerminals", unfollowed := true, recurses := true, apart := false }
def FnExactLiveTerminalsSaid : Prop := fnExactLiveTerminalsRow.holds Try.pinned (OpenSpec.ofChange fnExactLiveTerminalsSpec)

/-- ITS FALSE NEIGHBOUR: 'it returns false'. Refute it at one input. -/
def fnExactLiveTerminalsWrong : ChangeSpec := { name := "fnExactLiveTerminals", fn := fun _ => fun
  | [d1, d2] => { results := [.lit (.bool false)], args := [d1, d2] }
  | _ => none }
def FnExactLiveTerminalsWrongFalsely : Prop := fnExactLiveTerminalsRow.holds Try.pinned (OpenSpec.ofChange fnExactLiveTerminalsWrong)

/-- 'laws.FnExactTableOfWiring': WHATEVER THE INPUT: true; the input reads as it did. -/
def fnExactTableOfWiringSpec : ChangeSpec := { name := "fnExactTableOfWiring", fn := fun _ => fun
  | [d] => { results := [.lit (.bool true)], args := [d] }
  | _ => none }
def fnExactTableOfWiringRow : OpenClaim := { program := "ytkdidplpnhokiaa", sum := "b0bcdc77f5ec944915c9f3196f522b0a91fd1f310592bebea8db977e433e27e3", func := "loop.example/g01392/laws.FnExactTableOfWiring", spec := "fnExactTableOfWiring", unfollowed := true, recurses := true, apart := false }
def FnExactTableOfWiringSaid : Prop := fnExactTableOfWiringRow.holds Try.pinned (OpenSpec.ofChange fnExactTableOfWiringSpec)

/-- ITS FALSE NEIGHBOUR: 'it returns false'. Refute it at one input. -/
def fnExactTableOfWiringWrong : ChangeSpec := { name := "fnExactTableOfWiring", fn := fun _ => fun
  | [d] => { results := [.lit (.bool false)], args := [d] }
  | _ => none }
def FnExactTableOfWiringWrongFalsely : Prop := fnExactTableOfWiringRow.holds Try.pinned (OpenSpec.ofChange fnExactTableOfWiringWrong)

/-- 'laws.FnExactIsFull': WHATEVER THE INPUT: true; the input reads as it did. -/
def fnExactIsFullSpec : ChangeSpec := { name := "fnExactIsFull", fn := fun _ => fun
  | [d] => { results := [.lit (.bool true)], args := [d] }
  | _ => none }
def fnExactIsFullRow : OpenClaim := { program := "ytkdidplpnhokiaa", sum := "b0bcdc77f5ec944915c9f3196f522b0a91fd1f310592bebea8db977e433e27e3", func := "loop.example/g01392/laws.FnExactIsFull", spec := "fnExactIsFull", unfollowed := true, recurses := true, apart := false }
def FnExactIsFullSaid : Prop := fnExactIsFullRow.holds Try.pinned (OpenSpec.ofChange fnExactIsFullSpec)

/-- ITS FALSE NEIGHBOUR: 'it returns false'. Refute it at one input. -/
def fnExactIsFullWrong : ChangeSpec := { name := "fnExactIsFull", fn := fun _ => fun
  | [d] => { results := [.lit (.bool false)], args := [d] }
  | _ => none }
def FnExactIsFullWrongFalsely : Prop := fnExactIsFullRow.holds Try.pinned (OpenSpec.ofChange fnExactIsFullWrong)

/-- 'laws.FnExactAddWire': WHATEVER THE INPUT: true; the input reads as it did. -/
def fnExactAddWireSpec : ChangeSpec := { name := "fnExactAddWire", fn := fun _ => fun
  | [d1, d2, d3] => { results := [.lit (.bool true)], args := [d1, d2, d3] }
  | _ => none }
def fnExactAddWireRow : OpenClaim := { program := "ytkdidplpnhokiaa", sum := "b0bcdc77f5ec944915c9f3196f522b0a91fd1f310592bebea8db977e433e27e3", func := "loop.example/g01392/laws.FnExactAddWire", spec := "fnExactAddWire", inPlace := ["slices.overlaps[[]int64]"], unfollowed := true, recurses := true, apart := false }
def FnExactAddWireSaid : Prop := fnExactAddWireRow.holds Try.pinned (OpenSpec.ofChange fnExactAddWireSpec)

/-- ITS FALSE NEIGHBOUR: 'it returns false'. Refute it at one input. -/
def fnExactAddWireWrong : ChangeSpec := { name := "fnExactAddWire", fn := fun _ => fun
  | [d1, d2, d3] => { results := [.lit (.bool false)], args := [d1, d2, d3] }
  | _ => none }
def FnExactAddWireWrongFalsely : Prop := fnExactAddWireRow.holds Try.pinned (OpenSpec.ofChange fnExactAddWireWrong)

/-- 'laws.FnExactBreakWire': WHATEVER THE INPUT: true; the input reads as it did. -/
def fnExactBreakWireSpec : ChangeSpec := { name := "fnExactBreakWire", fn := fun _ => fun
  | [d1, d2] => { results := [.lit (.bool true)], args := [d1, d2] }
  | _ => none }
def fnExactBreakWireRow : OpenClaim := { program := "ytkdidplpnhokiaa", sum := "b0bcdc77f5ec944915c9f3196f522b0a91fd1f310592bebea8db977e433e27e3", func := "loop.example/g01392/laws.FnExactBreakWire", spec := "fnExactBreakWire", inPlace := ["slices.overlaps[[]int64]"], unfollowed := true, recurses := true, apart := false }
def FnExactBreakWireSaid : Prop := fnExactBreakWireRow.holds Try.pinned (OpenSpec.ofChange fnExactBreakWireSpec)

/-- ITS FALSE NEIGHBOUR: 'it returns false'. Refute it at one input. -/
def fnExactBreakWireWrong : ChangeSpec := { name := "fnExactBreakWire", fn := fun _ => fun
  | [d1, d2] => { results := [.lit (.bool false)], args := [d1, d2] }
  | _ => none }
def FnExactBreakWireWrongFalsely : Prop := fnExactBreakWireRow.holds Try.pinned (OpenSpec.ofChange fnExactBreakWireWrong)

/-- 'laws.FnExactNeededWires': WHATEVER THE INPUT: true; the input reads as it did. -/
def fnExactNeededWiresSpec : ChangeSpec := { name := "fnExactNeededWires", fn := fun _ => fun
  | [d] => { results := [.lit (.bool true)], args := [d] }
  | _ => none }
def fnExactNeededWiresRow : OpenClaim := { program := "ytkdidplpnhokiaa", sum := "b0bcdc77f5ec944915c9f3196f522b0a91fd1f310592bebea8db977e433e27e3", func := "loop.example/g01392/laws.FnExactNeededWires", spec := "fnExactNeededWires", unfollowed := true, recurses := true, apart := false }
def FnExactNeededWiresSaid : Prop := fnExactNeededWiresRow.holds Try.pinned (OpenSpec.ofChange fnExactNeededWiresSpec)

/-- ITS FALSE NEIGHBOUR: 'it returns false'. Refute it at one input. -/
def fnExactNeededWiresWrong : ChangeSpec := { name := "fnExactNeededWires", fn := fun _ => fun
  | [d] => { results := [.lit (.bool false)], args := [d] }
  | _ => none }
def FnExactNeededWiresWrongFalsely : Prop := fnExactNeededWiresRow.holds Try.pinned (OpenSpec.ofChange fnExactNeededWiresWrong)

/-- 'laws.FnExactFaultsThatAgree': WHATEVER THE INPUT: true; the input reads as it did. -/
def fnExactFaultsThatAgreeSpec : ChangeSpec := { name := "fnExactFaultsThatAgree", fn := fun _ => fun
  | [d1, d2] => { results := [.lit (.bool true)], args := [d1, d2] }
  | _ => none }
def fnExactFaultsThatAgreeRow : OpenClaim := { program := "ytkdidplpnhokiaa", sum := "b0bcdc77f5ec944915c9f3196f522b0a91fd1f310592bebea8db977e433e27e3", func := "loop.example/g01392/laws.FnExactFaultsThatAgree", spec := "fnExactFaultsThatAgree", unfollowed := true, recurses := true, apart := false }
def FnExactFaultsThatAgreeSaid : Prop := fnExactFaultsThatAgreeRow.holds Try.pinned (OpenSpec.ofChange fnExactFaultsThatAgreeSpec)

/-- ITS FALSE NEIGHBOUR: 'it returns false'. Refute it at one input. -/
def fnExactFaultsThatAgreeWrong : ChangeSpec := { name := "fnExactFaultsThatAgree", fn := fun _ => fun
  | [d1, d2] => { results := [.lit (.bool false)], args := [d1, d2] }
  | _ => none }
def FnExactFaultsThatAgreeWrongFalsely : Prop := fnExactFaultsThatAgreeRow.holds Try.pinned (OpenSpec.ofChange fnExactFaultsThatAgreeWrong)

/-- 'laws.FnExactBestTest': WHATEVER THE INPUT: true; the input reads as it did. -/
def fnExactBestTestSpec : ChangeSpec := { name := "fnExactBestTest", fn := fun _ => fun
  | [d1, d2] => { results := [.lit (.bool true)], args := [d1, d2] }
  | _ => none }
def fnExactBestTestRow : OpenClaim := { program := "ytkdidplpnhokiaa", sum := "b0bcdc77f5ec944915c9f3196f522b0a91fd1f310592bebea8db977e433e27e3", func := "loop.example/g01392/laws.FnExactBestTest", spec := "fnExactBestTest", unfollowed := true, recurses := true, apart := false }
def FnExactBestTestSaid : Prop := fnExactBestTestRow.holds Try.pinned (OpenSpec.ofChange fnExactBestTestSpec)

/-- ITS FALSE NEIGHBOUR: 'it returns false'. Refute it at one input. -/
def fnExactBestTestWrong : ChangeSpec := { name := "fnExactBestTest", fn := fun _ => fun
  | [d1, d2] => { results := [.lit (.bool false)], args := [d1, d2] }
  | _ => none }
def FnExactBestTestWrongFalsely : Prop := fnExactBestTestRow.holds Try.pinned (OpenSpec.ofChange fnExactBestTestWrong)

/-- 'laws.FnExactNetworkOfWiring': WHATEVER THE INPUT: true; the input reads as it did. -/
def fnExactNetworkOfWiringSpec : ChangeSpec := { name := "fnExactNetworkOfWiring", fn := fun _ => fun
  | [d] => { results := [.lit (.bool true)], args := [d] }
  | _ => none }
def fnExactNetworkOfWiringRow : OpenClaim := { program := "ytkdidplpnhokiaa", sum := "b0bcdc77f5ec944915c9f3196f522b0a91fd1f310592bebea8db977e433e27e3", func := "loop.example/g01392/laws.FnExactNetworkOfWiring", spec := "fnExactNetworkOfWiring", inPlace := ["slices.overlaps[int64]"], unfollowed := true, recurses := true, apart := false }
def FnExactNetworkOfWiringSaid : Prop := fnExactNetworkOfWiringRow.holds Try.pinned (OpenSpec.ofChange fnExactNetworkOfWiringSpec)

/-- ITS FALSE NEIGHBOUR: 'it returns false'. Refute it at one input. -/
def fnExactNetworkOfWiringWrong : ChangeSpec := { name := "fnExactNetworkOfWiring", fn := fun _ => fun
  | [d] => { results := [.lit (.bool false)], args := [d] }
  | _ => none }
def FnExactNetworkOfWiringWrongFalsely : Prop := fnExactNetworkOfWiringRow.holds Try.pinned (OpenSpec.ofChange fnExactNetworkOfWiringWrong)

/- THE SECOND FORM. 'bulk': how many values and letters a reading holds, each counted each time it is reached (what is shared counts as often as it is met; a slice's spare places count too). A statement '..UptoSaid' is the law's where the arguments, and the package variables that the reading takes, are together of bulk at most 1048576: NARROWER than '..Said'. Prove '..Said' where nothing that the law and all that it calls make is longer than what came in: it says more and counts as full. Else prove '..UptoSaid'. A law counts once. -/
mutual
def uptoBulk {H : Type} : DataW H → Nat
  | .lit (.string bytes) => bytes.length + 1
  | .lit _ => 1
  | .nil => 1
  | .ptr d => uptoBulk d + 1
  | .slice elems spare => uptoBulkAll elems + uptoBulkAll spare + 1
  | .agg parts => uptoBulkAll parts + 1
  | .iface _ d => uptoBulk d + 1
  | .map entries => uptoBulkEntries entries + 1
  | .held _ => 1
def uptoBulkAll {H : Type} : List (DataW H) → Nat
  | [] => 0
  | d :: r => uptoBulk d + uptoBulkAll r
def uptoBulkEntries {H : Type} : List (Lit × DataW H) → Nat
  | [] => 0
  | x :: r => uptoBulkEntry x + uptoBulkEntries r
def uptoBulkEntry {H : Type} : Lit × DataW H → Nat
  | (.string bytes, d) => bytes.length + uptoBulk d + 1
  | (_, d) => uptoBulk d + 1
 end
def uptoSmall : (H : Type) → List (DataW H) → Bool := fun _ ds => decide (uptoBulkAll ds ≤ 1048576)
def OpenSpec.upto (s : _root_.Go.ChangeSpec) : _root_.Go.OpenSpec := { _root_.Go.OpenSpec.ofChange s with cond := some uptoSmall }

/-- 'laws.FnExactIsWiring', WHERE WHAT IT READS IS OF BULK AT MOST 1048576: true; the input reads as it did. -/
def fnExactIsWiringUptoRow : OpenClaim := { program := "ytkdidplpnhokiaa", sum := "b0bcdc77f5ec944915c9f3196f522b0a91fd1f310592bebea8db977e433e27e3", func := "loop.example/g01392/laws.FnExactIsWiring", spec := "fnExactIsWiring", unfollowed := true, recurses := true, apart := false, narrowed := true }
def FnExactIsWiringUptoSaid : Prop := fnExactIsWiringUptoRow.holds Try.pinned (OpenSpec.upto fnExactIsWiringSpec)

/-- 'laws.FnExactStandardWiring', WHERE WHAT IT READS IS OF BULK AT MOST 1048576: true; the input reads as it did. -/
def fnExactStandardWiringUptoRow : OpenClaim := { program := "ytkdidplpnhokiaa", sum := "b0bcdc77f5ec944915c9f3196f522b0a91fd1f310592bebea8db977e433e27e3", func := "loop.example/g01392/laws.FnExactStandardWiring", spec := "fnExactStandardWiring", inPlace := ["slices.overlaps[[]int64]"], unfollowed := true, recurses := true, apart := false, narrowed := true }
def FnExactStandardWiringUptoSaid : Prop := fnExactStandardWiringUptoRow.holds Try.pinned (OpenSpec.upto fnExactStandardWiringSpec)

/-- 'laws.FnExactIsLit', WHERE WHAT IT READS IS OF BULK AT MOST 1048576: true; the input reads as it did. -/
def fnExactIsLitUptoRow : OpenClaim := { program := "ytkdidplpnhokiaa", sum := "b0bcdc77f5ec944915c9f3196f522b0a91fd1f310592bebea8db977e433e27e3", func := "loop.example/g01392/laws.FnExactIsLit", spec := "fnExactIsLit", unfollowed := true, recurses := true, apart := false, narrowed := true }
def FnExactIsLitUptoSaid : Prop := fnExactIsLitUptoRow.holds Try.pinned (OpenSpec.upto fnExactIsLitSpec)

/-- 'laws.FnExactLiveTerminals', WHERE WHAT IT READS IS OF BULK AT MOST 1048576: true; the input reads as it did. -/
def fnExactLiveTerminalsUptoRow : OpenClaim := { program := "ytkdidplpnhokiaa", sum := "b0bcdc77f5ec944915c9f3196f522b0a91fd1f310592bebea8db977e433e27e3", func := "loop.example/g01392/laws.FnExactLiveTerminals", spec := "fnExactLiveTerminals", unfollowed := true, recurses := true, apart := false, narrowed := true }
def FnExactLiveTerminalsUptoSaid : Prop := fnExactLiveTerminalsUptoRow.holds Try.pinned (OpenSpec.upto fnExactLiveTerminalsSpec)

/-- 'laws.FnExactTableOfWiring', WHERE WHAT IT READS IS OF BULK AT MOST 1048576: true; the input reads as it did. -/
def fnExactTableOfWiringUptoRow : OpenClaim := { program := "ytkdidplpnhokiaa", sum := "b0bcdc77f5ec944915c9f3196f522b0a91fd1f310592bebea8db977e433e27e3", func := "loop.example/g01392/laws.FnExactTableOfWiring", spec := "fnExactTableOfWiring", unfollowed := true, recurses := true, apart := false, narrowed := true }
def FnExactTableOfWiringUptoSaid : Prop := fnExactTableOfWiringUptoRow.holds Try.pinned (OpenSpec.upto fnExactTableOfWiringSpec)

/-- 'laws.FnExactIsFull', WHERE WHAT IT READS IS OF BULK AT MOST 1048576: true; the input reads as it did. -/
def fnExactIsFullUptoRow : OpenClaim := { program := "ytkdidplpnhokiaa", sum := "b0bcdc77f5ec944915c9f3196f522b0a91fd1f310592bebea8db977e433e27e3", func := "loop.example/g01392/laws.FnExactIsFull", spec := "fnExactIsFull", unfollowed := true, recurses := true, apart := false, narrowed := true }
def FnExactIsFullUptoSaid : Prop := fnExactIsFullUptoRow.holds Try.pinned (OpenSpec.upto fnExactIsFullSpec)

/-- 'laws.FnExactAddWire', WHERE WHAT IT READS IS OF BULK AT MOST 1048576: true; the input reads as it did. -/
def fnExactAddWireUptoRow : OpenClaim := { program := "ytkdidplpnhokiaa", sum := "b0bcdc77f5ec944915c9f3196f522b0a91fd1f310592bebea8db977e433e27e3", func := "loop.example/g01392/laws.FnExactAddWire", spec := "fnExactAddWire", inPlace := ["slices.overlaps[[]int64]"], unfollowed := true, recurses := true, apart := false, narrowed := true }
def FnExactAddWireUptoSaid : Prop := fnExactAddWireUptoRow.holds Try.pinned (OpenSpec.upto fnExactAddWireSpec)

/-- 'laws.FnExactBreakWire', WHERE WHAT IT READS IS OF BULK AT MOST 1048576: true; the input reads as it did. -/
def fnExactBreakWireUptoRow : OpenClaim := { program := "ytkdidplpnhokiaa", sum := "b0bcdc77f5ec944915c9f3196f522b0a91fd1f310592bebea8db977e433e27e3", func := "loop.example/g01392/laws.FnExactBreakWire", spec := "fnExactBreakWire", inPlace := ["slices.overlaps[[]int64]"], unfollowed := true, recurses := true, apart := false, narrowed := true }
def FnExactBreakWireUptoSaid : Prop := fnExactBreakWireUptoRow.holds Try.pinned (OpenSpec.upto fnExactBreakWireSpec)

/-- 'laws.FnExactNeededWires', WHERE WHAT IT READS IS OF BULK AT MOST 1048576: true; the input reads as it did. -/
def fnExactNeededWiresUptoRow : OpenClaim := { program := "ytkdidplpnhokiaa", sum := "b0bcdc77f5ec944915c9f3196f522b0a91fd1f310592bebea8db977e433e27e3", func := "loop.example/g01392/laws.FnExactNeededWires", spec := "fnExactNeededWires", unfollowed := true, recurses := true, apart := false, narrowed := true }
def FnExactNeededWiresUptoSaid : Prop := fnExactNeededWiresUptoRow.holds Try.pinned (OpenSpec.upto fnExactNeededWiresSpec)

/-- 'laws.FnExactFaultsThatAgree', WHERE WHAT IT READS IS OF BULK AT MOST 1048576: true; the input reads as it did. -/
def fnExactFaultsThatAgreeUptoRow : OpenClaim := { program := "ytkdidplpnhokiaa", sum := "b0bcdc77f5ec944915c9f3196f522b0a91fd1f310592bebea8db977e433e27e3", func := "loop.example/g01392/laws.FnExactFaultsThatAgree", spec := "fnExactFaultsThatAgree", unfollowed := true, recurses := true, apart := false, narrowed := true }
def FnExactFaultsThatAgreeUptoSaid : Prop := fnExactFaultsThatAgreeUptoRow.holds Try.pinned (OpenSpec.upto fnExactFaultsThatAgreeSpec)

/-- 'laws.FnExactBestTest', WHERE WHAT IT READS IS OF BULK AT MOST 1048576: true; the input reads as it did. -/
def fnExactBestTestUptoRow : OpenClaim := { program := "ytkdidplpnhokiaa", sum := "b0bcdc77f5ec944915c9f3196f522b0a91fd1f310592bebea8db977e433e27e3", func := "loop.example/g01392/laws.FnExactBestTest", spec := "fnExactBestTest", unfollowed := true, recurses := true, apart := false, narrowed := true }
def FnExactBestTestUptoSaid : Prop := fnExactBestTestUptoRow.holds Try.pinned (OpenSpec.upto fnExactBestTestSpec)

/-- 'laws.FnExactNetworkOfWiring', WHERE WHAT IT READS IS OF BULK AT MOST 1048576: true; the input reads as it did. -/
def fnExactNetworkOfWiringUptoRow : OpenClaim := { program := "ytkdidplpnhokiaa", sum := "b0bcdc77f5ec944915c9f3196f522b0a91fd1f310592bebea8db977e433e27e3", func := "loop.example/g01392/laws.FnExactNetworkOfWiring", spec := "fnExactNetworkOfWiring", inPlace := ["slices.overlaps[int64]"], unfollowed := true, recurses := true, apart := false, narrowed := true }
def FnExactNetworkOfWiringUptoSaid : Prop := fnExactNetworkOfWiringUptoRow.holds Try.pinned (OpenSpec.upto fnExactNetworkOfWiringSpec)

end Rows
end Go.Proofs.Ytkdidplpnhokiaa

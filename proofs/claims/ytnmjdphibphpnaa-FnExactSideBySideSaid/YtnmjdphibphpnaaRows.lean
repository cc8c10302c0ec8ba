/-
  No cell of these rows narrows 'for every input' (looked for: loops, veiled, ifaces, maps, wideKeys, modest, calm, conditions, laid).
  DERIVED. THE GIVEN ROWS OF THIS SEAT. 9 by the template 'for every input the law returns true; each argument reads behind the call as it read before'; 0 by the template 'total and deterministic' (their statements: YtnmjdphibphpnaaTotals.lean).
  GIVEN WITH THE SEED: the statements are not yours to turn. If you find one false, say at which input.
  Laid BY PROGRAM, IN A SANDBOX (cutbox-rows.mjs): the forced cells as the released guide's own fill.sh prints them over the translation 4feabad122b07b92… (all of the seat's roots in one cut). By AI agents, Wed Nov 11 2026. No macro, syntax, notation, axiom, sorry.
-/
import Derived.Test.YtnmjdphibphpnaaChecked
import GoSem.Claim
import GoSem.ClaimJoined
import GoSem.ClaimMapViews
import Derived.JoinedTies
import Derived.KernelRfl
namespace Go.Proofs.Ytnmjdphibphpnaa
/- THE CELL 'sum', in the pinned program and in every row, IS THE sha256 OF THE DUMP (.gsa) THAT YtnmjdphibphpnaaProg.lean LOADS. Nothing in Lean hashes anything: it is a label: what it is worth is what the hold of that sum in a sandbox is worth. -/
noncomputable def Try.pinned : Pinned := { name := "ytnmjdphibphpnaa", sum := "4feabad122b07b92072d16b2e7f4eb45e6ef9983815eeea1298575b857372ad0", checked := Try.checked }
namespace Rows
def none {H : Type} : Left H := { results := [], args := [] }

/-- 'laws.FnExactExchangeEnds': WHATEVER THE INPUT: true; the input reads as it did. -/
def fnExactExchangeEndsSpec : ChangeSpec := { name := "fnExactExchangeEnds", fn := fun _ => fun
  | [d] => { results := [.lit (.bool true)], args := [d] }
  | _ => none }
def fnExactExchangeEndsRow : OpenClaim := { program := "ytnmjdphibphpnaa", sum := "4feabad122b07b92072d16b2e7f4eb45e6ef9983815eeea1298575b857372ad0", func := "loop.example/g01392/laws.FnExactExchangeEnds", spec := "fnExactExchangeEnds", unfollowed := true, recurses := true, plainKeys := false, apart := false }
def FnExactExchangeEndsSaid : Prop := fnExactExchangeEndsRow.holds Try.pinned (OpenSpec.ofChange fnExactExchangeEndsSpec)

/-- ITS FALSE NEIGHBOUR: 'it returns false'. Refute it at one input. -/
def fnExactExchangeEndsWrong : ChangeSpec := { name := "fnExactExchangeEnds", fn := fun _ => fun
  | [d] => { results := [.lit (.bool false)], args := [d] }
  | _ => none }
def FnExactExchangeEndsWrongFalsely : Prop := fnExactExchangeEndsRow.holds Try.pinned (OpenSpec.ofChange fnExactExchangeEndsWrong)

/-- 'laws.FnExactSideBySide': WHATEVER THE INPUT: true; the input reads as it did. -/
def fnExactSideBySideSpec : ChangeSpec := { name := "fnExactSideBySide", fn := fun _ => fun
  | [d1, d2] => { results := [.lit (.bool true)], args := [d1, d2] }
  | _ => none }
def fnExactSideBySideRow : OpenClaim := { program := "ytnmjdphibphpnaa", sum := "4feabad122b07b92072d16b2e7f4eb45e6ef9983815eeea1298575b857372ad0", func := "loop.example/g01392/laws.FnExactSideBySide", spec := "fnExactSideBySide", unfollowed := true, recurses := true, plainKeys := false, apart := false }
def FnExactSideBySideSaid : Prop := fnExactSideBySideRow.holds Try.pinned (OpenSpec.ofChange fnExactSideBySideSpec)

/-- ITS FALSE NEIGHBOUR: 'it returns false'. Refute it at one input. -/
def fnExactSideBySideWrong : ChangeSpec := { name := "fnExactSideBySide", fn := fun _ => fun
  | [d1, d2] => { results := [.lit (.bool false)], args := [d1, d2] }
  | _ => none }
def FnExactSideBySideWrongFalsely : Prop := fnExactSideBySideRow.holds Try.pinned (OpenSpec.ofChange fnExactSideBySideWrong)

/-- 'laws.FnExactOneBehind': WHATEVER THE INPUT: true; the input reads as it did. -/
def fnExactOneBehindSpec : ChangeSpec := { name := "fnExactOneBehind", fn := fun _ => fun
  | [d1, d2] => { results := [.lit (.bool true)], args := [d1, d2] }
  | _ => none }
def fnExactOneBehindRow : OpenClaim := { program := "ytnmjdphibphpnaa", sum := "4feabad122b07b92072d16b2e7f4eb45e6ef9983815eeea1298575b857372ad0", func := "loop.example/g01392/laws.FnExactOneBehind", spec := "fnExactOneBehind", unfollowed := true, recurses := true, plainKeys := false, apart := false }
def FnExactOneBehindSaid : Prop := fnExactOneBehindRow.holds Try.pinned (OpenSpec.ofChange fnExactOneBehindSpec)

/-- ITS FALSE NEIGHBOUR: 'it returns false'. Refute it at one input. -/
def fnExactOneBehindWrong : ChangeSpec := { name := "fnExactOneBehind", fn := fun _ => fun
  | [d1, d2] => { results := [.lit (.bool false)], args := [d1, d2] }
  | _ => none }
def FnExactOneBehindWrongFalsely : Prop := fnExactOneBehindRow.holds Try.pinned (OpenSpec.ofChange fnExactOneBehindWrong)

/-- 'laws.FnExactWithoutIdle': WHATEVER THE INPUT: true; the input reads as it did. -/
def fnExactWithoutIdleSpec : ChangeSpec := { name := "fnExactWithoutIdle", fn := fun _ => fun
  | [d] => { results := [.lit (.bool true)], args := [d] }
  | _ => none }
def fnExactWithoutIdleRow : OpenClaim := { program := "ytnmjdphibphpnaa", sum := "4feabad122b07b92072d16b2e7f4eb45e6ef9983815eeea1298575b857372ad0", func := "loop.example/g01392/laws.FnExactWithoutIdle", spec := "fnExactWithoutIdle", unfollowed := true, recurses := true, plainKeys := false, apart := false }
def FnExactWithoutIdleSaid : Prop := fnExactWithoutIdleRow.holds Try.pinned (OpenSpec.ofChange fnExactWithoutIdleSpec)

/-- ITS FALSE NEIGHBOUR: 'it returns false'. Refute it at one input. -/
def fnExactWithoutIdleWrong : ChangeSpec := { name := "fnExactWithoutIdle", fn := fun _ => fun
  | [d] => { results := [.lit (.bool false)], args := [d] }
  | _ => none }
def FnExactWithoutIdleWrongFalsely : Prop := fnExactWithoutIdleRow.holds Try.pinned (OpenSpec.ofChange fnExactWithoutIdleWrong)

/-- 'laws.FnExactIdleContacts': WHATEVER THE INPUT: true; the input reads as it did. -/
def fnExactIdleContactsSpec : ChangeSpec := { name := "fnExactIdleContacts", fn := fun _ => fun
  | [d] => { results := [.lit (.bool true)], args := [d] }
  | _ => none }
def fnExactIdleContactsRow : OpenClaim := { program := "ytnmjdphibphpnaa", sum := "4feabad122b07b92072d16b2e7f4eb45e6ef9983815eeea1298575b857372ad0", func := "loop.example/g01392/laws.FnExactIdleContacts", spec := "fnExactIdleContacts", unfollowed := true, recurses := true, plainKeys := false, apart := false }
def FnExactIdleContactsSaid : Prop := fnExactIdleContactsRow.holds Try.pinned (OpenSpec.ofChange fnExactIdleContactsSpec)

/-- ITS FALSE NEIGHBOUR: 'it returns false'. Refute it at one input. -/
def fnExactIdleContactsWrong : ChangeSpec := { name := "fnExactIdleContacts", fn := fun _ => fun
  | [d] => { results := [.lit (.bool false)], args := [d] }
  | _ => none }
def FnExactIdleContactsWrongFalsely : Prop := fnExactIdleContactsRow.holds Try.pinned (OpenSpec.ofChange fnExactIdleContactsWrong)

/-- 'laws.FnExactPathsOf': WHATEVER THE INPUT: true; the input reads as it did. -/
def fnExactPathsOfSpec : ChangeSpec := { name := "fnExactPathsOf", fn := fun _ => fun
  | [d] => { results := [.lit (.bool true)], args := [d] }
  | _ => none }
def fnExactPathsOfRow : OpenClaim := { program := "ytnmjdphibphpnaa", sum := "4feabad122b07b92072d16b2e7f4eb45e6ef9983815eeea1298575b857372ad0", func := "loop.example/g01392/laws.FnExactPathsOf", spec := "fnExactPathsOf", unfollowed := true, recurses := true, plainKeys := false, apart := false }
def FnExactPathsOfSaid : Prop := fnExactPathsOfRow.holds Try.pinned (OpenSpec.ofChange fnExactPathsOfSpec)

/-- ITS FALSE NEIGHBOUR: 'it returns false'. Refute it at one input. -/
def fnExactPathsOfWrong : ChangeSpec := { name := "fnExactPathsOf", fn := fun _ => fun
  | [d] => { results := [.lit (.bool false)], args := [d] }
  | _ => none }
def FnExactPathsOfWrongFalsely : Prop := fnExactPathsOfRow.holds Try.pinned (OpenSpec.ofChange fnExactPathsOfWrong)

/-- 'laws.FnExactCutsOf': WHATEVER THE INPUT: true; the input reads as it did. -/
def fnExactCutsOfSpec : ChangeSpec := { name := "fnExactCutsOf", fn := fun _ => fun
  | [d] => { results := [.lit (.bool true)], args := [d] }
  | _ => none }
def fnExactCutsOfRow : OpenClaim := { program := "ytnmjdphibphpnaa", sum := "4feabad122b07b92072d16b2e7f4eb45e6ef9983815eeea1298575b857372ad0", func := "loop.example/g01392/laws.FnExactCutsOf", spec := "fnExactCutsOf", unfollowed := true, recurses := true, plainKeys := false, apart := false }
def FnExactCutsOfSaid : Prop := fnExactCutsOfRow.holds Try.pinned (OpenSpec.ofChange fnExactCutsOfSpec)

/-- ITS FALSE NEIGHBOUR: 'it returns false'. Refute it at one input. -/
def fnExactCutsOfWrong : ChangeSpec := { name := "fnExactCutsOf", fn := fun _ => fun
  | [d] => { results := [.lit (.bool false)], args := [d] }
  | _ => none }
def FnExactCutsOfWrongFalsely : Prop := fnExactCutsOfRow.holds Try.pinned (OpenSpec.ofChange fnExactCutsOfWrong)

/-- 'laws.FnExactRenameInputs': WHATEVER THE INPUT: true; the input reads as it did. -/
def fnExactRenameInputsSpec : ChangeSpec := { name := "fnExactRenameInputs", fn := fun _ => fun
  | [d1, d2] => { results := [.lit (.bool true)], args := [d1, d2] }
  | _ => none }
def fnExactRenameInputsRow : OpenClaim := { program := "ytnmjdphibphpnaa", sum := "4feabad122b07b92072d16b2e7f4eb45e6ef9983815eeea1298575b857372ad0", func := "loop.example/g01392/laws.FnExactRenameInputs", spec := "fnExactRenameInputs", unfollowed := true, recurses := true, plainKeys := false, apart := false }
def FnExactRenameInputsSaid : Prop := fnExactRenameInputsRow.holds Try.pinned (OpenSpec.ofChange fnExactRenameInputsSpec)

/-- ITS FALSE NEIGHBOUR: 'it returns false'. Refute it at one input. -/
def fnExactRenameInputsWrong : ChangeSpec := { name := "fnExactRenameInputs", fn := fun _ => fun
  | [d1, d2] => { results := [.lit (.bool false)], args := [d1, d2] }
  | _ => none }
def FnExactRenameInputsWrongFalsely : Prop := fnExactRenameInputsRow.holds Try.pinned (OpenSpec.ofChange fnExactRenameInputsWrong)

/-- 'laws.FnExactLeastTable': WHATEVER THE INPUT: true; the input reads as it did. -/
def fnExactLeastTableSpec : ChangeSpec := { name := "fnExactLeastTable", fn := fun _ => fun
  | [d] => { results := [.lit (.bool true)], args := [d] }
  | _ => none }
def fnExactLeastTableRow : OpenClaim := { program := "ytnmjdphibphpnaa", sum := "4feabad122b07b92072d16b2e7f4eb45e6ef9983815eeea1298575b857372ad0", func := "loop.example/g01392/laws.FnExactLeastTable", spec := "fnExactLeastTable", unfollowed := true, recurses := true, plainKeys := false, apart := false }
def FnExactLeastTableSaid : Prop := fnExactLeastTableRow.holds Try.pinned (OpenSpec.ofChange fnExactLeastTableSpec)

/-- ITS FALSE NEIGHBOUR: 'it returns false'. Refute it at one input. -/
def fnExactLeastTableWrong : ChangeSpec := { name := "fnExactLeastTable", fn := fun _ => fun
  | [d] => { results := [.lit (.bool false)], args := [d] }
  | _ => none }
def FnExactLeastTableWrongFalsely : Prop := fnExactLeastTableRow.holds Try.pinned (OpenSpec.ofChange fnExactLeastTableWrong)

/- THE SECOND FORM. 'bulk': how many values and letters a reading holds, each counted each time it is reached (what is shared counts as often as it is met; a slice's spare places count too). A statement '..UptoSaid' is the law's where the arguments, and the package variables that the reading takes, are together of bulk at most 1048576: NARROWER than '..Said'. Prove '..Said' where nothing that the law and all that it calls make is longer than what came in: it says more and counts as full. Else prove '..UptoSaid'. A law counts once. -/
mutual
def uptoBulk {H : Type} : DataW H → Nat
  | .lit (.string bytes) => bytes.length + 1
  | .lit _ => 1
  | .nil => 1
  | .ptr d => uptoBulk d + 1
  | .slice elems spare => uptoBulkAll elems + uptoBulkAll spare + 1
  | .agg parts => uptoBulkAll parts + 1
  | .iface _ d => uptoBulk d + 1
  | .map entries => uptoBulkEntries entries + 1
  | .held _ => 1
def uptoBulkAll {H : Type} : List (DataW H) → Nat
  | [] => 0
  | d :: r => uptoBulk d + uptoBulkAll r
def uptoBulkEntries {H : Type} : List (Lit × DataW H) → Nat
  | [] => 0
  | x :: r => uptoBulkEntry x + uptoBulkEntries r
def uptoBulkEntry {H : Type} : Lit × DataW H → Nat
  | (.string bytes, d) => bytes.length + uptoBulk d + 1
  | (_, d) => uptoBulk d + 1
 end
def uptoSmall : (H : Type) → List (DataW H) → Bool := fun _ ds => decide (uptoBulkAll ds ≤ 1048576)
def OpenSpec.upto (s : _root_.Go.ChangeSpec) : _root_.Go.OpenSpec := { _root_.Go.OpenSpec.ofChange s with cond := some uptoSmall }

/-- 'laws.FnExactExchangeEnds', WHERE WHAT IT READS IS OF BULK AT MOST 1048576: true; the input reads as it did. -/
def fnExactExchangeEndsUptoRow : OpenClaim := { program := "ytnmjdphibphpnaa", sum := "4feabad122b07b92072d16b2e7f4eb45e6ef9983815eeea1298575b857372ad0", func := "loop.example/g01392/laws.FnExactExchangeEnds", spec := "fnExactExchangeEnds", unfollowed := true, recurses := true, plainKeys := false, apart := false, narrowed := true }
def FnExactExchangeEndsUptoSaid : Prop := fnExactExchangeEndsUptoRow.holds Try.pinned (OpenSpec.upto fnExactExchangeEndsSpec)

/-- 'laws.FnExactSideBySide', WHERE WHAT IT READS IS OF BULK AT MOST 1048576: true; the input reads as it did. -/
def fnExactSideBySideUptoRow : OpenClaim := { program := "ytnmjdphibphpnaa", sum := "4feabad122b07b92072d16b2e7f4eb45e6ef9983815eeea1298575b857372ad0", func := "loop.example/g01392/laws.FnExactSideBySide", spec := "fnExactSideBySide", unfollowed := true, recurses := true, plainKeys := false, apart := false, narrowed := true }
def FnExactSideBySideUptoSaid : Prop := fnExactSideBySideUptoRow.holds Try.pinned (OpenSpec.upto fnExactSideBySideSpec)

/-- 'laws.FnExactOneBehind', WHERE WHAT IT READS IS OF BULK AT MOST 1048576: true; the input reads as it did. -/
def fnExactOneBehindUptoRow : OpenClaim := { program := "ytnmjdphibphpnaa", sum := "4feabad122b07b92072d16b2e7f4eb45e6ef9983815eeea1298575b857372ad0", func := "loop.example/g01392/laws.FnExactOneBehind", spec := "fnExactOneBehind", unfollowed := true, recurses := true, plainKeys := false, apart := false, narrowed := true }
def FnExactOneBehindUptoSaid : Prop := fnExactOneBehindUptoRow.holds Try.pinned (OpenSpec.upto fnExactOneBehindSpec)

/-- 'laws.FnExactWithoutIdle', WHERE WHAT IT READS IS OF BULK AT MOST 1048576: true; the input reads as it did. -/
def fnExactWithoutIdleUptoRow : OpenClaim := { program := "ytnmjdphibphpnaa", sum := "4feabad122b07b92072d16b2e7f4eb45e6ef9983815eeea1298575b857372ad0", func := "loop.example/g01392/laws.FnExactWithoutIdle", spec := "fnExactWithoutIdle", unfollowed := true, recurses := true, plainKeys := false, apart := false, narrowed := true }
def FnExactWithoutIdleUptoSaid : Prop := fnExactWithoutIdleUptoRow.holds Try.pinned (OpenSpec.upto fnExactWithoutIdleSpec)

/-- 'laws.FnExactIdleContacts', WHERE WHAT IT READS IS OF BULK AT MOST 1048576: true; the input reads as it did. -/
def fnExactIdleContactsUptoRow : OpenClaim := { program := "ytnmjdphibphpnaa", sum := "4feabad122b07b92072d16b2e7f4eb45e6ef9983815eeea1298575b857372ad0", func := "loop.example/g01392/laws.FnExactIdleContacts", spec := "fnExactIdleContacts", unfollowed := true, recurses := true, plainKeys := false, apart := false, narrowed := true }
def FnExactIdleContactsUptoSaid : Prop := fnExactIdleContactsUptoRow.holds Try.pinned (OpenSpec.upto fnExactIdleContactsSpec)

/-- 'laws.FnExactPathsOf', WHERE WHAT IT READS IS OF BULK AT MOST 1048576: true; the input reads as it did. -/
def fnExactPathsOfUptoRow : OpenClaim := { program := "ytnmjdphibphpnaa", sum := "4feabad122b07b92072d16b2e7f4eb45e6ef9983815eeea1298575b857372ad0", func := "loop.example/g01392/laws.FnExactPathsOf", spec := "fnExactPathsOf", unfollowed := true, recurses := true, plainKeys := false, apart := false, narrowed := true }
def FnExactPathsOfUptoSaid : Prop := fnExactPathsOfUptoRow.holds Try.pinned (OpenSpec.upto fnExactPathsOfSpec)

/-- 'laws.FnExactCutsOf', WHERE WHAT IT READS IS OF BULK AT MOST 1048576: true; the input reads as it did. -/
def fnExactCutsOfUptoRow : OpenClaim := { program := "ytnmjdphibphpnaa", sum := "4feabad122b07b92072d16b2e7f4eb45e6ef9983815eeea1298575b857372ad0", func := "loop.example/g01392/laws.FnExactCutsOf", spec := "fnExactCutsOf", unfollowed := true, recurses := true, plainKeys := false, apart := false, narrowed := true }
def FnExactCutsOfUptoSaid : Prop := fnExactCutsOfUptoRow.holds Try.pinned (OpenSpec.upto fnExactCutsOfSpec)

/-- 'laws.FnExactRenameInputs', WHERE WHAT IT READS IS OF BULK AT MOST 1048576: true; the input reads as it did. -/
def fnExactRenameInputsUptoRow : OpenClaim := { program := "ytnmjdphibphpnaa", sum := "4feabad122b07b92072d16b2e7f4eb45e6ef9983815eeea1298575b857372ad0", func := "loop.example/g01392/laws.FnExactRenameInputs", spec := "fnExactRenameInputs", unfollowed := true, recurses := true, plainKeys := false, apart := false, narrowed := true }
def FnExactRenameInputsUptoSaid : Prop := fnExactRenameInputsUptoRow.holds Try.pinned (OpenSpec.upto fnExactRenameInputsSpec)

/-- 'laws.FnExactLeastTable', WHERE WHAT IT READS IS OF BULK AT MOST 1048576: true; the input reads as it did. -/
def fnExactLeastTableUptoRow : OpenClaim := { program := "ytnmjdphibphpnaa", sum := "4feabad122b07b92072d16b2e7f4eb45e6ef9983815eeea1298575b857372ad0", func := "loop.example/g01392/laws.FnExactLeastTable", spec := "fnExactLeastTable", unfollowed := true, recurses := true, plainKeys := false, apart := false, narrowed := true }
def FnExactLeastTableUptoSaid : Prop := fnExactLeastTableUptoRow.holds Try.pinned (OpenSpec.upto fnExactLeastTableSpec)

end Rows
end Go.Proofs.Ytnmjdphibphpnaa

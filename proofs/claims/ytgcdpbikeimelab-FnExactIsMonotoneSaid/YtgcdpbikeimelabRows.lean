/-
  No cell of these rows narrows 'for every input' (looked for: loops, veiled, ifaces, maps, wideKeys, modest, calm, conditions, laid).
  DERIVED. THE GIVEN ROWS OF THIS SEAT. 10 by the template 'for every input the law returns true; each argument reads behind the call as it read before'; 0 by the template 'total and deterministic' (their statements: YtgcdpbikeimelabTotals.lean).
  GIVEN WITH THE SEED: the statements are not yours to turn. If you find one false, say at which input.
  Laid BY PROGRAM, IN A SANDBOX (cutbox-rows.mjs): the forced cells as the released guide's own fill.sh prints them over the translation a326c3c9c5c79dba… (all of the seat's roots in one cut). By AI agents, Wed Nov 11 2026. No macro, syntax, notation, axiom, sorry.
-/
import Derived.Test.YtgcdpbikeimelabChecked
import GoSem.Claim
import GoSem.ClaimJoined
import GoSem.ClaimMapViews
import Derived.JoinedTies
import Derived.KernelRfl
namespace Go.Proofs.Ytgcdpbikeimelab
/- THE CELL 'sum', in the pinned program and in every row, IS THE sha256 OF THE DUMP (.gsa) THAT YtgcdpbikeimelabProg.lean LOADS. Nothing in Lean hashes anything: it is a label: what it is worth is what the hold of that sum in a sandbox is worth. -/
noncomputable def Try.pinned : Pinned := { name := "ytgcdpbikeimelab", sum := "a326c3c9c5c79dba283f214db3511d869c2507b6d4eb52f210183de46ea965fc", checked := Try.checked }
namespace Rows
def none {H : Type} : Left H := { results := [], args := [] }

/-- 'laws.FnExactMatteringInputs': WHATEVER THE INPUT: true; the input reads as it did. -/
def fnExactMatteringInputsSpec : ChangeSpec := { name := "fnExactMatteringInputs", fn := fun _ => fun
  | [d] => { results := [.lit (.bool true)], args := [d] }
  | _ => none }
def fnExactMatteringInputsRow : OpenClaim := { program := "ytgcdpbikeimelab", sum := "a326c3c9c5c79dba283f214db3511d869c2507b6d4eb52f210183de46ea965fc", func := "loop.example/g01392/laws.FnExactMatteringInputs", spec := "fnExactMatteringInputs", unfollowed := true, recurses := true, plainKeys := false, apart := false }
def FnExactMatteringInputsSaid : Prop := fnExactMatteringInputsRow.holds Try.pinned (OpenSpec.ofChange fnExactMatteringInputsSpec)

/-- ITS FALSE NEIGHBOUR: 'it returns false'. Refute it at one input. -/
def fnExactMatteringInputsWrong : ChangeSpec := { name := "fnExactMatteringInputs", fn := fun _ => fun
  | [d] => { results := [.lit (.bool false)], args := [d] }
  | _ => none }
def FnExactMatteringInputsWrongFalsely : Prop := fnExactMatteringInputsRow.holds Try.pinned (OpenSpec.ofChange fnExactMatteringInputsWrong)

/-- 'laws.FnExactSlopesOf': WHATEVER THE INPUT: true; the input reads as it did. -/
def fnExactSlopesOfSpec : ChangeSpec := { name := "fnExactSlopesOf", fn := fun _ => fun
  | [d] => { results := [.lit (.bool true)], args := [d] }
  | _ => none }
def fnExactSlopesOfRow : OpenClaim := { program := "ytgcdpbikeimelab", sum := "a326c3c9c5c79dba283f214db3511d869c2507b6d4eb52f210183de46ea965fc", func := "loop.example/g01392/laws.FnExactSlopesOf", spec := "fnExactSlopesOf", unfollowed := true, recurses := true, plainKeys := false, apart := false }
def FnExactSlopesOfSaid : Prop := fnExactSlopesOfRow.holds Try.pinned (OpenSpec.ofChange fnExactSlopesOfSpec)

/-- ITS FALSE NEIGHBOUR: 'it returns false'. Refute it at one input. -/
def fnExactSlopesOfWrong : ChangeSpec := { name := "fnExactSlopesOf", fn := fun _ => fun
  | [d] => { results := [.lit (.bool false)], args := [d] }
  | _ => none }
def FnExactSlopesOfWrongFalsely : Prop := fnExactSlopesOfRow.holds Try.pinned (OpenSpec.ofChange fnExactSlopesOfWrong)

/-- 'laws.FnExactIsMonotone': WHATEVER THE INPUT: true; the input reads as it did. -/
def fnExactIsMonotoneSpec : ChangeSpec := { name := "fnExactIsMonotone", fn := fun _ => fun
  | [d] => { results := [.lit (.bool true)], args := [d] }
  | _ => none }
def fnExactIsMonotoneRow : OpenClaim := { program := "ytgcdpbikeimelab", sum := "a326c3c9c5c79dba283f214db3511d869c2507b6d4eb52f210183de46ea965fc", func := "loop.example/g01392/laws.FnExactIsMonotone", spec := "fnExactIsMonotone", unfollowed := true, recurses := true, plainKeys := false, apart := false }
def FnExactIsMonotoneSaid : Prop := fnExactIsMonotoneRow.holds Try.pinned (OpenSpec.ofChange fnExactIsMonotoneSpec)

/-- ITS FALSE NEIGHBOUR: 'it returns false'. Refute it at one input. -/
def fnExactIsMonotoneWrong : ChangeSpec := { name := "fnExactIsMonotone", fn := fun _ => fun
  | [d] => { results := [.lit (.bool false)], args := [d] }
  | _ => none }
def FnExactIsMonotoneWrongFalsely : Prop := fnExactIsMonotoneRow.holds Try.pinned (OpenSpec.ofChange fnExactIsMonotoneWrong)

/-- 'laws.FnExactRenameInputs': WHATEVER THE INPUT: true; the input reads as it did. -/
def fnExactRenameInputsSpec : ChangeSpec := { name := "fnExactRenameInputs", fn := fun _ => fun
  | [d1, d2] => { results := [.lit (.bool true)], args := [d1, d2] }
  | _ => none }
def fnExactRenameInputsRow : OpenClaim := { program := "ytgcdpbikeimelab", sum := "a326c3c9c5c79dba283f214db3511d869c2507b6d4eb52f210183de46ea965fc", func := "loop.example/g01392/laws.FnExactRenameInputs", spec := "fnExactRenameInputs", unfollowed := true, recurses := true, plainKeys := false, apart := false }
def FnExactRenameInputsSaid : Prop := fnExactRenameInputsRow.holds Try.pinned (OpenSpec.ofChange fnExactRenameInputsSpec)

/-- ITS FALSE NEIGHBOUR: 'it returns false'. Refute it at one input. -/
def fnExactRenameInputsWrong : ChangeSpec := { name := "fnExactRenameInputs", fn := fun _ => fun
  | [d1, d2] => { results := [.lit (.bool false)], args := [d1, d2] }
  | _ => none }
def FnExactRenameInputsWrongFalsely : Prop := fnExactRenameInputsRow.holds Try.pinned (OpenSpec.ofChange fnExactRenameInputsWrong)

/-- 'laws.FnExactTurnInput': WHATEVER THE INPUT: true; the input reads as it did. -/
def fnExactTurnInputSpec : ChangeSpec := { name := "fnExactTurnInput", fn := fun _ => fun
  | [d1, d2] => { results := [.lit (.bool true)], args := [d1, d2] }
  | _ => none }
def fnExactTurnInputRow : OpenClaim := { program := "ytgcdpbikeimelab", sum := "a326c3c9c5c79dba283f214db3511d869c2507b6d4eb52f210183de46ea965fc", func := "loop.example/g01392/laws.FnExactTurnInput", spec := "fnExactTurnInput", unfollowed := true, recurses := true, plainKeys := false, apart := false }
def FnExactTurnInputSaid : Prop := fnExactTurnInputRow.holds Try.pinned (OpenSpec.ofChange fnExactTurnInputSpec)

/-- ITS FALSE NEIGHBOUR: 'it returns false'. Refute it at one input. -/
def fnExactTurnInputWrong : ChangeSpec := { name := "fnExactTurnInput", fn := fun _ => fun
  | [d1, d2] => { results := [.lit (.bool false)], args := [d1, d2] }
  | _ => none }
def FnExactTurnInputWrongFalsely : Prop := fnExactTurnInputRow.holds Try.pinned (OpenSpec.ofChange fnExactTurnInputWrong)

/-- 'laws.FnExactLeastTable': WHATEVER THE INPUT: true; the input reads as it did. -/
def fnExactLeastTableSpec : ChangeSpec := { name := "fnExactLeastTable", fn := fun _ => fun
  | [d] => { results := [.lit (.bool true)], args := [d] }
  | _ => none }
def fnExactLeastTableRow : OpenClaim := { program := "ytgcdpbikeimelab", sum := "a326c3c9c5c79dba283f214db3511d869c2507b6d4eb52f210183de46ea965fc", func := "loop.example/g01392/laws.FnExactLeastTable", spec := "fnExactLeastTable", unfollowed := true, recurses := true, plainKeys := false, apart := false }
def FnExactLeastTableSaid : Prop := fnExactLeastTableRow.holds Try.pinned (OpenSpec.ofChange fnExactLeastTableSpec)

/-- ITS FALSE NEIGHBOUR: 'it returns false'. Refute it at one input. -/
def fnExactLeastTableWrong : ChangeSpec := { name := "fnExactLeastTable", fn := fun _ => fun
  | [d] => { results := [.lit (.bool false)], args := [d] }
  | _ => none }
def FnExactLeastTableWrongFalsely : Prop := fnExactLeastTableRow.holds Try.pinned (OpenSpec.ofChange fnExactLeastTableWrong)

/-- 'laws.FnExactWidenTable': WHATEVER THE INPUT: true; the input reads as it did. -/
def fnExactWidenTableSpec : ChangeSpec := { name := "fnExactWidenTable", fn := fun _ => fun
  | [d1, d2] => { results := [.lit (.bool true)], args := [d1, d2] }
  | _ => none }
def fnExactWidenTableRow : OpenClaim := { program := "ytgcdpbikeimelab", sum := "a326c3c9c5c79dba283f214db3511d869c2507b6d4eb52f210183de46ea965fc", func := "loop.example/g01392/laws.FnExactWidenTable", spec := "fnExactWidenTable", unfollowed := true, recurses := true, plainKeys := false, apart := false }
def FnExactWidenTableSaid : Prop := fnExactWidenTableRow.holds Try.pinned (OpenSpec.ofChange fnExactWidenTableSpec)

/-- ITS FALSE NEIGHBOUR: 'it returns false'. Refute it at one input. -/
def fnExactWidenTableWrong : ChangeSpec := { name := "fnExactWidenTable", fn := fun _ => fun
  | [d1, d2] => { results := [.lit (.bool false)], args := [d1, d2] }
  | _ => none }
def FnExactWidenTableWrongFalsely : Prop := fnExactWidenTableRow.holds Try.pinned (OpenSpec.ofChange fnExactWidenTableWrong)

/-- 'laws.FnExactConstantTable': WHATEVER THE INPUT: true; the input reads as it did. -/
def fnExactConstantTableSpec : ChangeSpec := { name := "fnExactConstantTable", fn := fun _ => fun
  | [d1, d2] => { results := [.lit (.bool true)], args := [d1, d2] }
  | _ => none }
def fnExactConstantTableRow : OpenClaim := { program := "ytgcdpbikeimelab", sum := "a326c3c9c5c79dba283f214db3511d869c2507b6d4eb52f210183de46ea965fc", func := "loop.example/g01392/laws.FnExactConstantTable", spec := "fnExactConstantTable", plainKeys := false, apart := false }
def FnExactConstantTableSaid : Prop := fnExactConstantTableRow.holds Try.pinned (OpenSpec.ofChange fnExactConstantTableSpec)

/-- ITS FALSE NEIGHBOUR: 'it returns false'. Refute it at one input. -/
def fnExactConstantTableWrong : ChangeSpec := { name := "fnExactConstantTable", fn := fun _ => fun
  | [d1, d2] => { results := [.lit (.bool false)], args := [d1, d2] }
  | _ => none }
def FnExactConstantTableWrongFalsely : Prop := fnExactConstantTableRow.holds Try.pinned (OpenSpec.ofChange fnExactConstantTableWrong)

/-- 'laws.FnExactLetterTable': WHATEVER THE INPUT: true; the input reads as it did. -/
def fnExactLetterTableSpec : ChangeSpec := { name := "fnExactLetterTable", fn := fun _ => fun
  | [d1, d2] => { results := [.lit (.bool true)], args := [d1, d2] }
  | _ => none }
def fnExactLetterTableRow : OpenClaim := { program := "ytgcdpbikeimelab", sum := "a326c3c9c5c79dba283f214db3511d869c2507b6d4eb52f210183de46ea965fc", func := "loop.example/g01392/laws.FnExactLetterTable", spec := "fnExactLetterTable", plainKeys := false, apart := false }
def FnExactLetterTableSaid : Prop := fnExactLetterTableRow.holds Try.pinned (OpenSpec.ofChange fnExactLetterTableSpec)

/-- ITS FALSE NEIGHBOUR: 'it returns false'. Refute it at one input. -/
def fnExactLetterTableWrong : ChangeSpec := { name := "fnExactLetterTable", fn := fun _ => fun
  | [d1, d2] => { results := [.lit (.bool false)], args := [d1, d2] }
  | _ => none }
def FnExactLetterTableWrongFalsely : Prop := fnExactLetterTableRow.holds Try.pinned (OpenSpec.ofChange fnExactLetterTableWrong)

/-- 'laws.FnExactParseTable': WHATEVER THE INPUT: true; the input reads as it did. -/
def fnExactParseTableSpec : ChangeSpec := { name := "fnExactParseTable", fn := fun _ => fun
  | [d] => { results := [.lit (.bool true)], args := [d] }
  | _ => none }
def fnExactParseTableRow : OpenClaim := { program := "ytgcdpbikeimelab", sum := "a326c3c9c5c79dba283f214db3511d869c2507b6d4eb52f210183de46ea965fc", func := "loop.example/g01392/laws.FnExactParseTable", spec := "fnExactParseTable", plainKeys := false, apart := false }
def FnExactParseTableSaid : Prop := fnExactParseTableRow.holds Try.pinned (OpenSpec.ofChange fnExactParseTableSpec)

/-- ITS FALSE NEIGHBOUR: 'it returns false'. Refute it at one input. -/
def fnExactParseTableWrong : ChangeSpec := { name := "fnExactParseTable", fn := fun _ => fun
  | [d] => { results := [.lit (.bool false)], args := [d] }
  | _ => none }
def FnExactParseTableWrongFalsely : Prop := fnExactParseTableRow.holds Try.pinned (OpenSpec.ofChange fnExactParseTableWrong)

/- THE SECOND FORM. 'bulk': how many values and letters a reading holds, each counted each time it is reached (what is shared counts as often as it is met; a slice's spare places count too). A statement '..UptoSaid' is the law's where the arguments, and the package variables that the reading takes, are together of bulk at most 1048576: NARROWER than '..Said'. Prove '..Said' where nothing that the law and all that it calls make is longer than what came in: it says more and counts as full. Else prove '..UptoSaid'. A law counts once. -/
mutual
def uptoBulk {H : Type} : DataW H → Nat
  | .lit (.string bytes) => bytes.length + 1
  | .lit _ => 1
  | .nil => 1
  | .ptr d => uptoBulk d + 1
  | .slice elems spare => uptoBulkAll elems + uptoBulkAll spare + 1
  | .agg parts => uptoBulkAll parts + 1
  | .iface _ d => uptoBulk d + 1
  | .map entries => uptoBulkEntries entries + 1
  | .held _ => 1
def uptoBulkAll {H : Type} : List (DataW H) → Nat
  | [] => 0
  | d :: r => uptoBulk d + uptoBulkAll r
def uptoBulkEntries {H : Type} : List (Lit × DataW H) → Nat
  | [] => 0
  | x :: r => uptoBulkEntry x + uptoBulkEntries r
def uptoBulkEntry {H : Type} : Lit × DataW H → Nat
  | (.string bytes, d) => bytes.length + uptoBulk d + 1
  | (_, d) => uptoBulk d + 1
 end
def uptoSmall : (H : Type) → List (DataW H) → Bool := fun _ ds => decide (uptoBulkAll ds ≤ 1048576)
def OpenSpec.upto (s : _root_.Go.ChangeSpec) : _root_.Go.OpenSpec := { _root_.Go.OpenSpec.ofChange s with cond := some uptoSmall }

/-- 'laws.FnExactMatteringInputs', WHERE WHAT IT READS IS OF BULK AT MOST 1048576: true; the input reads as it did. -/
def fnExactMatteringInputsUptoRow : OpenClaim := { program := "ytgcdpbikeimelab", sum := "a326c3c9c5c79dba283f214db3511d869c2507b6d4eb52f210183de46ea965fc", func := "loop.example/g01392/laws.FnExactMatteringInputs", spec := "fnExactMatteringInputs", unfollowed := true, recurses := true, plainKeys := false, apart := false, narrowed := true }
def FnExactMatteringInputsUptoSaid : Prop := fnExactMatteringInputsUptoRow.holds Try.pinned (OpenSpec.upto fnExactMatteringInputsSpec)

/-- 'laws.FnExactSlopesOf', WHERE WHAT IT READS IS OF BULK AT MOST 1048576: true; the input reads as it did. -/
def fnExactSlopesOfUptoRow : OpenClaim := { program := "ytgcdpbikeimelab", sum := "a326c3c9c5c79dba283f214db3511d869c2507b6d4eb52f210183de46ea965fc", func := "loop.example/g01392/laws.FnExactSlopesOf", spec := "fnExactSlopesOf", unfollowed := true, recurses := true, plainKeys := false, apart := false, narrowed := true }
def FnExactSlopesOfUptoSaid : Prop := fnExactSlopesOfUptoRow.holds Try.pinned (OpenSpec.upto fnExactSlopesOfSpec)

/-- 'laws.FnExactIsMonotone', WHERE WHAT IT READS IS OF BULK AT MOST 1048576: true; the input reads as it did. -/
def fnExactIsMonotoneUptoRow : OpenClaim := { program := "ytgcdpbikeimelab", sum := "a326c3c9c5c79dba283f214db3511d869c2507b6d4eb52f210183de46ea965fc", func := "loop.example/g01392/laws.FnExactIsMonotone", spec := "fnExactIsMonotone", unfollowed := true, recurses := true, plainKeys := false, apart := false, narrowed := true }
def FnExactIsMonotoneUptoSaid : Prop := fnExactIsMonotoneUptoRow.holds Try.pinned (OpenSpec.upto fnExactIsMonotoneSpec)

/-- 'laws.FnExactRenameInputs', WHERE WHAT IT READS IS OF BULK AT MOST 1048576: true; the input reads as it did. -/
def fnExactRenameInputsUptoRow : OpenClaim := { program := "ytgcdpbikeimelab", sum := "a326c3c9c5c79dba283f214db3511d869c2507b6d4eb52f210183de46ea965fc", func := "loop.example/g01392/laws.FnExactRenameInputs", spec := "fnExactRenameInputs", unfollowed := true, recurses := true, plainKeys := false, apart := false, narrowed := true }
def FnExactRenameInputsUptoSaid : Prop := fnExactRenameInputsUptoRow.holds Try.pinned (OpenSpec.upto fnExactRenameInputsSpec)

/-- 'laws.FnExactTurnInput', WHERE WHAT IT READS IS OF BULK AT MOST 1048576: true; the input reads as it did. -/
def fnExactTurnInputUptoRow : OpenClaim := { program := "ytgcdpbikeimelab", sum := "a326c3c9c5c79dba283f214db3511d869c2507b6d4eb52f210183de46ea965fc", func := "loop.example/g01392/laws.FnExactTurnInput", spec := "fnExactTurnInput", unfollowed := true, recurses := true, plainKeys := false, apart := false, narrowed := true }
def FnExactTurnInputUptoSaid : Prop := fnExactTurnInputUptoRow.holds Try.pinned (OpenSpec.upto fnExactTurnInputSpec)

/-- 'laws.FnExactLeastTable', WHERE WHAT IT READS IS OF BULK AT MOST 1048576: true; the input reads as it did. -/
def fnExactLeastTableUptoRow : OpenClaim := { program := "ytgcdpbikeimelab", sum := "a326c3c9c5c79dba283f214db3511d869c2507b6d4eb52f210183de46ea965fc", func := "loop.example/g01392/laws.FnExactLeastTable", spec := "fnExactLeastTable", unfollowed := true, recurses := true, plainKeys := false, apart := false, narrowed := true }
def FnExactLeastTableUptoSaid : Prop := fnExactLeastTableUptoRow.holds Try.pinned (OpenSpec.upto fnExactLeastTableSpec)

/-- 'laws.FnExactWidenTable', WHERE WHAT IT READS IS OF BULK AT MOST 1048576: true; the input reads as it did. -/
def fnExactWidenTableUptoRow : OpenClaim := { program := "ytgcdpbikeimelab", sum := "a326c3c9c5c79dba283f214db3511d869c2507b6d4eb52f210183de46ea965fc", func := "loop.example/g01392/laws.FnExactWidenTable", spec := "fnExactWidenTable", unfollowed := true, recurses := true, plainKeys := false, apart := false, narrowed := true }
def FnExactWidenTableUptoSaid : Prop := fnExactWidenTableUptoRow.holds Try.pinned (OpenSpec.upto fnExactWidenTableSpec)

/-- 'laws.FnExactConstantTable', WHERE WHAT IT READS IS OF BULK AT MOST 1048576: true; the input reads as it did. -/
def fnExactConstantTableUptoRow : OpenClaim := { program := "ytgcdpbikeimelab", sum := "a326c3c9c5c79dba283f214db3511d869c2507b6d4eb52f210183de46ea965fc", func := "loop.example/g01392/laws.FnExactConstantTable", spec := "fnExactConstantTable", plainKeys := false, apart := false, narrowed := true }
def FnExactConstantTableUptoSaid : Prop := fnExactConstantTableUptoRow.holds Try.pinned (OpenSpec.upto fnExactConstantTableSpec)

/-- 'laws.FnExactLetterTable', WHERE WHAT IT READS IS OF BULK AT MOST 1048576: true; the input reads as it did. -/
def fnExactLetterTableUptoRow : OpenClaim := { program := "ytgcdpbikeimelab", sum := "a326c3c9c5c79dba283f214db3511d869c2507b6d4eb52f210183de46ea965fc", func := "loop.example/g01392/laws.FnExactLetterTable", spec := "fnExactLetterTable", plainKeys := false, apart := false, narrowed := true }
def FnExactLetterTableUptoSaid : Prop := fnExactLetterTableUptoRow.holds Try.pinned (OpenSpec.upto fnExactLetterTableSpec)

/-- 'laws.FnExactParseTable', WHERE WHAT IT READS IS OF BULK AT MOST 1048576: true; the input reads as it did. -/
def fnExactParseTableUptoRow : OpenClaim := { program := "ytgcdpbikeimelab", sum := "a326c3c9c5c79dba283f214db3511d869c2507b6d4eb52f210183de46ea965fc", func := "loop.example/g01392/laws.FnExactParseTable", spec := "fnExactParseTable", plainKeys := false, apart := false, narrowed := true }
def FnExactParseTableUptoSaid : Prop := fnExactParseTableUptoRow.holds Try.pinned (OpenSpec.upto fnExactParseTableSpec)

end Rows
end Go.Proofs.Ytgcdpbikeimelab

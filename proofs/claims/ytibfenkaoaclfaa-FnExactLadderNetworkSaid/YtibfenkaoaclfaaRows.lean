/-
  No cell of these rows narrows 'for every input' (looked for: loops, veiled, ifaces, maps, wideKeys, modest, calm, conditions, laid).
  DERIVED. THE GIVEN ROWS OF THIS SEAT. 7 by the template 'for every input the law returns true; each argument reads behind the call as it read before'; 0 by the template 'total and deterministic' (their statements: YtibfenkaoaclfaaTotals.lean).
  GIVEN WITH THE SEED: the statements are not yours to turn. If you find one false, say at which input.
  Laid BY PROGRAM, IN A SANDBOX (cutbox-rows.mjs): the forced cells as the released guide's own fill.sh prints them over the translation 9b0757100a9c8b41… (all of the seat's roots in one cut). By AI agents, Wed Nov 11 2026. No macro, syntax, notation, axiom, sorry.
-/
import Derived.Test.YtibfenkaoaclfaaChecked
import GoSem.Claim
import GoSem.ClaimJoined
import GoSem.ClaimMapViews
import Derived.JoinedTies
import Derived.KernelRfl
namespace Go.Proofs.Ytibfenkaoaclfaa
/- THE CELL 'sum', in the pinned program and in every row, IS THE sha256 OF THE DUMP (.gsa) THAT YtibfenkaoaclfaaProg.lean LOADS. Nothing in Lean hashes anything: it is a label: what it is worth is what the hold of that sum in a sandbox is worth. -/
noncomputable def Try.pinned : Pinned := { name := "ytibfenkaoaclfaa", sum := "9b0757100a9c8b410c4cd2b5859420b451c938a9502a4785d672dcb77f248862", checked := Try.checked }
namespace Rows
def none {H : Type} : Left H := { results := [], args := [] }

/-- 'laws.FnExactDerivativeOf': WHATEVER THE INPUT: true; the input reads as it did. -/
def fnExactDerivativeOfSpec : ChangeSpec := { name := "fnExactDerivativeOf", fn := fun _ => fun
  | [d] => { results := [.lit (.bool true)], args := [d] }
  | _ => none }
def fnExactDerivativeOfRow : OpenClaim := { program := "ytibfenkaoaclfaa", sum := "9b0757100a9c8b410c4cd2b5859420b451c938a9502a4785d672dcb77f248862", func := "loop.example/g01392/laws.FnExactDerivativeOf", spec := "fnExactDerivativeOf", unfollowed := true, recurses := true, apart := false }
def FnExactDerivativeOfSaid : Prop := fnExactDerivativeOfRow.holds Try.pinned (OpenSpec.ofChange fnExactDerivativeOfSpec)

/-- ITS FALSE NEIGHBOUR: 'it returns false'. Refute it at one input. -/
def fnExactDerivativeOfWrong : ChangeSpec := { name := "fnExactDerivativeOf", fn := fun _ => fun
  | [d] => { results := [.lit (.bool false)], args := [d] }
  | _ => none }
def FnExactDerivativeOfWrongFalsely : Prop := fnExactDerivativeOfRow.holds Try.pinned (OpenSpec.ofChange fnExactDerivativeOfWrong)

/-- 'laws.FnExactValueOf': WHATEVER THE INPUT: true; the input reads as it did. -/
def fnExactValueOfSpec : ChangeSpec := { name := "fnExactValueOf", fn := fun _ => fun
  | [d1, d2, d3] => { results := [.lit (.bool true)], args := [d1, d2, d3] }
  | _ => none }
def fnExactValueOfRow : OpenClaim := { program := "ytibfenkaoaclfaa", sum := "9b0757100a9c8b410c4cd2b5859420b451c938a9502a4785d672dcb77f248862", func := "loop.example/g01392/laws.FnExactValueOf", spec := "fnExactValueOf", unfollowed := true, recurses := true, apart := false }
def FnExactValueOfSaid : Prop := fnExactValueOfRow.holds Try.pinned (OpenSpec.ofChange fnExactValueOfSpec)

/-- ITS FALSE NEIGHBOUR: 'it returns false'. Refute it at one input. -/
def fnExactValueOfWrong : ChangeSpec := { name := "fnExactValueOf", fn := fun _ => fun
  | [d1, d2, d3] => { results := [.lit (.bool false)], args := [d1, d2, d3] }
  | _ => none }
def FnExactValueOfWrongFalsely : Prop := fnExactValueOfRow.holds Try.pinned (OpenSpec.ofChange fnExactValueOfWrong)

/-- 'laws.FnExactPutInto': WHATEVER THE INPUT: true; the input reads as it did. -/
def fnExactPutIntoSpec : ChangeSpec := { name := "fnExactPutInto", fn := fun _ => fun
  | [d1, d2] => { results := [.lit (.bool true)], args := [d1, d2] }
  | _ => none }
def fnExactPutIntoRow : OpenClaim := { program := "ytibfenkaoaclfaa", sum := "9b0757100a9c8b410c4cd2b5859420b451c938a9502a4785d672dcb77f248862", func := "loop.example/g01392/laws.FnExactPutInto", spec := "fnExactPutInto", unfollowed := true, recurses := true, apart := false }
def FnExactPutIntoSaid : Prop := fnExactPutIntoRow.holds Try.pinned (OpenSpec.ofChange fnExactPutIntoSpec)

/-- ITS FALSE NEIGHBOUR: 'it returns false'. Refute it at one input. -/
def fnExactPutIntoWrong : ChangeSpec := { name := "fnExactPutInto", fn := fun _ => fun
  | [d1, d2] => { results := [.lit (.bool false)], args := [d1, d2] }
  | _ => none }
def FnExactPutIntoWrongFalsely : Prop := fnExactPutIntoRow.holds Try.pinned (OpenSpec.ofChange fnExactPutIntoWrong)

/-- 'laws.FnExactLadderChance': WHATEVER THE INPUT: true; the input reads as it did. -/
def fnExactLadderChanceSpec : ChangeSpec := { name := "fnExactLadderChance", fn := fun _ => fun
  | [d1, d2] => { results := [.lit (.bool true)], args := [d1, d2] }
  | _ => none }
def fnExactLadderChanceRow : OpenClaim := { program := "ytibfenkaoaclfaa", sum := "9b0757100a9c8b410c4cd2b5859420b451c938a9502a4785d672dcb77f248862", func := "loop.example/g01392/laws.FnExactLadderChance", spec := "fnExactLadderChance", apart := false }
def FnExactLadderChanceSaid : Prop := fnExactLadderChanceRow.holds Try.pinned (OpenSpec.ofChange fnExactLadderChanceSpec)

/-- ITS FALSE NEIGHBOUR: 'it returns false'. Refute it at one input. -/
def fnExactLadderChanceWrong : ChangeSpec := { name := "fnExactLadderChance", fn := fun _ => fun
  | [d1, d2] => { results := [.lit (.bool false)], args := [d1, d2] }
  | _ => none }
def FnExactLadderChanceWrongFalsely : Prop := fnExactLadderChanceRow.holds Try.pinned (OpenSpec.ofChange fnExactLadderChanceWrong)

/-- 'laws.FnExactLadderNetwork': WHATEVER THE INPUT: true; the input reads as it did. -/
def fnExactLadderNetworkSpec : ChangeSpec := { name := "fnExactLadderNetwork", fn := fun _ => fun
  | [d1, d2] => { results := [.lit (.bool true)], args := [d1, d2] }
  | _ => none }
def fnExactLadderNetworkRow : OpenClaim := { program := "ytibfenkaoaclfaa", sum := "9b0757100a9c8b410c4cd2b5859420b451c938a9502a4785d672dcb77f248862", func := "loop.example/g01392/laws.FnExactLadderNetwork", spec := "fnExactLadderNetwork", unfollowed := true, recurses := true, apart := false }
def FnExactLadderNetworkSaid : Prop := fnExactLadderNetworkRow.holds Try.pinned (OpenSpec.ofChange fnExactLadderNetworkSpec)

/-- ITS FALSE NEIGHBOUR: 'it returns false'. Refute it at one input. -/
def fnExactLadderNetworkWrong : ChangeSpec := { name := "fnExactLadderNetwork", fn := fun _ => fun
  | [d1, d2] => { results := [.lit (.bool false)], args := [d1, d2] }
  | _ => none }
def FnExactLadderNetworkWrongFalsely : Prop := fnExactLadderNetworkRow.holds Try.pinned (OpenSpec.ofChange fnExactLadderNetworkWrong)

/-- 'laws.FnExactDecidingRows': WHATEVER THE INPUT: true; the input reads as it did. -/
def fnExactDecidingRowsSpec : ChangeSpec := { name := "fnExactDecidingRows", fn := fun _ => fun
  | [d] => { results := [.lit (.bool true)], args := [d] }
  | _ => none }
def fnExactDecidingRowsRow : OpenClaim := { program := "ytibfenkaoaclfaa", sum := "9b0757100a9c8b410c4cd2b5859420b451c938a9502a4785d672dcb77f248862", func := "loop.example/g01392/laws.FnExactDecidingRows", spec := "fnExactDecidingRows", apart := false }
def FnExactDecidingRowsSaid : Prop := fnExactDecidingRowsRow.holds Try.pinned (OpenSpec.ofChange fnExactDecidingRowsSpec)

/-- ITS FALSE NEIGHBOUR: 'it returns false'. Refute it at one input. -/
def fnExactDecidingRowsWrong : ChangeSpec := { name := "fnExactDecidingRows", fn := fun _ => fun
  | [d] => { results := [.lit (.bool false)], args := [d] }
  | _ => none }
def FnExactDecidingRowsWrongFalsely : Prop := fnExactDecidingRowsRow.holds Try.pinned (OpenSpec.ofChange fnExactDecidingRowsWrong)

/-- 'laws.FnExactChanceApart': WHATEVER THE INPUT: true; the input reads as it did. -/
def fnExactChanceApartSpec : ChangeSpec := { name := "fnExactChanceApart", fn := fun _ => fun
  | [d1, d2] => { results := [.lit (.bool true)], args := [d1, d2] }
  | _ => none }
def fnExactChanceApartRow : OpenClaim := { program := "ytibfenkaoaclfaa", sum := "9b0757100a9c8b410c4cd2b5859420b451c938a9502a4785d672dcb77f248862", func := "loop.example/g01392/laws.FnExactChanceApart", spec := "fnExactChanceApart", apart := false }
def FnExactChanceApartSaid : Prop := fnExactChanceApartRow.holds Try.pinned (OpenSpec.ofChange fnExactChanceApartSpec)

/-- ITS FALSE NEIGHBOUR: 'it returns false'. Refute it at one input. -/
def fnExactChanceApartWrong : ChangeSpec := { name := "fnExactChanceApart", fn := fun _ => fun
  | [d1, d2] => { results := [.lit (.bool false)], args := [d1, d2] }
  | _ => none }
def FnExactChanceApartWrongFalsely : Prop := fnExactChanceApartRow.holds Try.pinned (OpenSpec.ofChange fnExactChanceApartWrong)

/- THE SECOND FORM. 'bulk': how many values and letters a reading holds, each counted each time it is reached (what is shared counts as often as it is met; a slice's spare places count too). A statement '..UptoSaid' is the law's where the arguments, and the package variables that the reading takes, are together of bulk at most 1048576: NARROWER than '..Said'. Prove '..Said' where nothing that the law and all that it calls make is longer than what came in: it says more and counts as full. Else prove '..UptoSaid'. A law counts once. -/
mutual
def uptoBulk {H : Type} : DataW H → Nat
  | .lit (.string bytes) => bytes.length + 1
  | .lit _ => 1
  | .nil => 1
  | .ptr d => uptoBulk d + 1
  | .slice elems spare => uptoBulkAll elems + uptoBulkAll spare + 1
  | .agg parts => uptoBulkAll parts + 1
  | .iface _ d => uptoBulk d + 1
  | .map entries => uptoBulkEntries entries + 1
  | .held _ => 1
def uptoBulkAll {H : Type} : List (DataW H) → Nat
  | [] => 0
  | d :: r => uptoBulk d + uptoBulkAll r
def uptoBulkEntries {H : Type} : List (Lit × DataW H) → Nat
  | [] => 0
  | x :: r => uptoBulkEntry x + uptoBulkEntries r
def uptoBulkEntry {H : Type} : Lit × DataW H → Nat
  | (.string bytes, d) => bytes.length + uptoBulk d + 1
  | (_, d) => uptoBulk d + 1
 end
def uptoSmall : (H : Type) → List (DataW H) → Bool := fun _ ds => decide (uptoBulkAll ds ≤ 1048576)
def OpenSpec.upto (s : _root_.Go.ChangeSpec) : _root_.Go.OpenSpec := { _root_.Go.OpenSpec.ofChange s with cond := some uptoSmall }

/-- 'laws.FnExactDerivativeOf', WHERE WHAT IT READS IS OF BULK AT MOST 1048576: true; the input reads as it did. -/
def fnExactDerivativeOfUptoRow : OpenClaim := { program := "ytibfenkaoaclfaa", sum := "9b0757100a9c8b410c4cd2b5859420b451c938a9502a4785d672dcb77f248862", func := "loop.example/g01392/laws.FnExactDerivativeOf", spec := "fnExactDerivativeOf", unfollowed := true, recurses := true, apart := false, narrowed := true }
def FnExactDerivativeOfUptoSaid : Prop := fnExactDerivativeOfUptoRow.holds Try.pinned (OpenSpec.upto fnExactDerivativeOfSpec)

/-- 'laws.FnExactValueOf', WHERE WHAT IT READS IS OF BULK AT MOST 1048576: true; the input reads as it did. -/
def fnExactValueOfUptoRow : OpenClaim := { program := "ytibfenkaoaclfaa", sum := "9b0757100a9c8b410c4cd2b5859420b451c938a9502a4785d672dcb77f248862", func := "loop.example/g01392/laws.FnExactValueOf", spec := "fnExactValueOf", unfollowed := true, recurses := true, apart := false, narrowed := true }
def FnExactValueOfUptoSaid : Prop := fnExactValueOfUptoRow.holds Try.pinned (OpenSpec.upto fnExactValueOfSpec)

/-- 'laws.FnExactPutInto', WHERE WHAT IT READS IS OF BULK AT MOST 1048576: true; the input reads as it did. -/
def fnExactPutIntoUptoRow : OpenClaim := { program := "ytibfenkaoaclfaa", sum := "9b0757100a9c8b410c4cd2b5859420b451c938a9502a4785d672dcb77f248862", func := "loop.example/g01392/laws.FnExactPutInto", spec := "fnExactPutInto", unfollowed := true, recurses := true, apart := false, narrowed := true }
def FnExactPutIntoUptoSaid : Prop := fnExactPutIntoUptoRow.holds Try.pinned (OpenSpec.upto fnExactPutIntoSpec)

/-- 'laws.FnExactLadderChance', WHERE WHAT IT READS IS OF BULK AT MOST 1048576: true; the input reads as it did. -/
def fnExactLadderChanceUptoRow : OpenClaim := { program := "ytibfenkaoaclfaa", sum := "9b0757100a9c8b410c4cd2b5859420b451c938a9502a4785d672dcb77f248862", func := "loop.example/g01392/laws.FnExactLadderChance", spec := "fnExactLadderChance", apart := false, narrowed := true }
def FnExactLadderChanceUptoSaid : Prop := fnExactLadderChanceUptoRow.holds Try.pinned (OpenSpec.upto fnExactLadderChanceSpec)

/-- 'laws.FnExactLadderNetwork', WHERE WHAT IT READS IS OF BULK AT MOST 1048576: true; the input reads as it did. -/
def fnExactLadderNetworkUptoRow : OpenClaim := { program := "ytibfenkaoaclfaa", sum := "9b0757100a9c8b410c4cd2b5859420b451c938a9502a4785d672dcb77f248862", func := "loop.example/g01392/laws.FnExactLadderNetwork", spec := "fnExactLadderNetwork", unfollowed := true, recurses := true, apart := false, narrowed := true }
def FnExactLadderNetworkUptoSaid : Prop := fnExactLadderNetworkUptoRow.holds Try.pinned (OpenSpec.upto fnExactLadderNetworkSpec)

/-- 'laws.FnExactDecidingRows', WHERE WHAT IT READS IS OF BULK AT MOST 1048576: true; the input reads as it did. -/
def fnExactDecidingRowsUptoRow : OpenClaim := { program := "ytibfenkaoaclfaa", sum := "9b0757100a9c8b410c4cd2b5859420b451c938a9502a4785d672dcb77f248862", func := "loop.example/g01392/laws.FnExactDecidingRows", spec := "fnExactDecidingRows", apart := false, narrowed := true }
def FnExactDecidingRowsUptoSaid : Prop := fnExactDecidingRowsUptoRow.holds Try.pinned (OpenSpec.upto fnExactDecidingRowsSpec)

/-- 'laws.FnExactChanceApart', WHERE WHAT IT READS IS OF BULK AT MOST 1048576: true; the input reads as it did. -/
def fnExactChanceApartUptoRow : OpenClaim := { program := "ytibfenkaoaclfaa", sum := "9b0757100a9c8b410c4cd2b5859420b451c938a9502a4785d672dcb77f248862", func := "loop.example/g01392/laws.FnExactChanceApart", spec := "fnExactChanceApart", apart := false, narrowed := true }
def FnExactChanceApartUptoSaid : Prop := fnExactChanceApartUptoRow.holds Try.pinned (OpenSpec.upto fnExactChanceApartSpec)

end Rows
end Go.Proofs.Ytibfenkaoaclfaa

/-
  No cell of these rows narrows 'for every input' (looked for: loops, veiled, ifaces, maps, wideKeys, modest, calm, conditions, laid).
  DERIVED. THE GIVEN ROWS OF THIS SEAT. 5 by the template 'for every input the law returns true; each argument reads behind the call as it read before'; 0 by the template 'total and deterministic' (their statements: YtlcfecccpbeofaaTotals.lean).
  GIVEN WITH THE SEED: the statements are not yours to turn. If you find one false, say at which input.
  Laid BY PROGRAM, IN A SANDBOX (cutbox-rows.mjs): the forced cells as the released guide's own fill.sh prints them over the translation 9e9227aabd169ade… (all of the seat's roots in one cut). By AI agents, Wed Nov 11 2026. No macro, syntax, notation, axiom, sorry.
-/
import Derived.Test.YtlcfecccpbeofaaChecked
import GoSem.Claim
import GoSem.ClaimJoined
import GoSem.ClaimMapViews
import Derived.JoinedTies
import Derived.KernelRfl
namespace Go.Proofs.Ytlcfecccpbeofaa
/- THE CELL 'sum', in the pinned program and in every row, IS THE sha256 OF THE DUMP (.gsa) THAT YtlcfecccpbeofaaProg.lean LOADS. Nothing in Lean hashes anything: it is a label: what it is worth is what the hold of that sum in a sandbox is worth. -/
noncomputable def Try.pinned : Pinned := { name := "ytlcfecccpbeofaa", sum := "9e9227aabd169adedfb190e297c03ee510726a66e594cd9d677ca8cd26bc64c0", checked := Try.checked }
namespace Rows
def none {H : Type} : Left H := { results := [], args := [] }

/-- 'laws.FnExactSymmetricTable': WHATEVER THE INPUT: true; the input reads as it did. -/
def fnExactSymmetricTableSpec : ChangeSpec := { name := "fnExactSymmetricTable", fn := fun _ => fun
  | [d1, d2] => { results := [.lit (.bool true)], args := [d1, d2] }
  | _ => none }
def fnExactSymmetricTableRow : OpenClaim := { program := "ytlcfecccpbeofaa", sum := "9e9227aabd169adedfb190e297c03ee510726a66e594cd9d677ca8cd26bc64c0", func := "loop.example/g01392/laws.FnExactSymmetricTable", spec := "fnExactSymmetricTable", plainKeys := false, apart := false }
def FnExactSymmetricTableSaid : Prop := fnExactSymmetricTableRow.holds Try.pinned (OpenSpec.ofChange fnExactSymmetricTableSpec)

/-- ITS FALSE NEIGHBOUR: 'it returns false'. Refute it at one input. -/
def fnExactSymmetricTableWrong : ChangeSpec := { name := "fnExactSymmetricTable", fn := fun _ => fun
  | [d1, d2] => { results := [.lit (.bool false)], args := [d1, d2] }
  | _ => none }
def FnExactSymmetricTableWrongFalsely : Prop := fnExactSymmetricTableRow.holds Try.pinned (OpenSpec.ofChange fnExactSymmetricTableWrong)

/-- 'laws.FnExactPartsOfNumbers': WHATEVER THE INPUT: true; the input reads as it did. -/
def fnExactPartsOfNumbersSpec : ChangeSpec := { name := "fnExactPartsOfNumbers", fn := fun _ => fun
  | [d1, d2] => { results := [.lit (.bool true)], args := [d1, d2] }
  | _ => none }
def fnExactPartsOfNumbersRow : OpenClaim := { program := "ytlcfecccpbeofaa", sum := "9e9227aabd169adedfb190e297c03ee510726a66e594cd9d677ca8cd26bc64c0", func := "loop.example/g01392/laws.FnExactPartsOfNumbers", spec := "fnExactPartsOfNumbers", plainKeys := false, apart := false }
def FnExactPartsOfNumbersSaid : Prop := fnExactPartsOfNumbersRow.holds Try.pinned (OpenSpec.ofChange fnExactPartsOfNumbersSpec)

/-- ITS FALSE NEIGHBOUR: 'it returns false'. Refute it at one input. -/
def fnExactPartsOfNumbersWrong : ChangeSpec := { name := "fnExactPartsOfNumbers", fn := fun _ => fun
  | [d1, d2] => { results := [.lit (.bool false)], args := [d1, d2] }
  | _ => none }
def FnExactPartsOfNumbersWrongFalsely : Prop := fnExactPartsOfNumbersRow.holds Try.pinned (OpenSpec.ofChange fnExactPartsOfNumbersWrong)

/-- 'laws.FnExactCountStairs': WHATEVER THE INPUT: true; the input reads as it did. -/
def fnExactCountStairsSpec : ChangeSpec := { name := "fnExactCountStairs", fn := fun _ => fun
  | [d1, d2] => { results := [.lit (.bool true)], args := [d1, d2] }
  | _ => none }
def fnExactCountStairsRow : OpenClaim := { program := "ytlcfecccpbeofaa", sum := "9e9227aabd169adedfb190e297c03ee510726a66e594cd9d677ca8cd26bc64c0", func := "loop.example/g01392/laws.FnExactCountStairs", spec := "fnExactCountStairs", plainKeys := false, apart := false }
def FnExactCountStairsSaid : Prop := fnExactCountStairsRow.holds Try.pinned (OpenSpec.ofChange fnExactCountStairsSpec)

/-- ITS FALSE NEIGHBOUR: 'it returns false'. Refute it at one input. -/
def fnExactCountStairsWrong : ChangeSpec := { name := "fnExactCountStairs", fn := fun _ => fun
  | [d1, d2] => { results := [.lit (.bool false)], args := [d1, d2] }
  | _ => none }
def FnExactCountStairsWrongFalsely : Prop := fnExactCountStairsRow.holds Try.pinned (OpenSpec.ofChange fnExactCountStairsWrong)

/-- 'laws.FnExactStairsOf': WHATEVER THE INPUT: true; the input reads as it did. -/
def fnExactStairsOfSpec : ChangeSpec := { name := "fnExactStairsOf", fn := fun _ => fun
  | [d1, d2] => { results := [.lit (.bool true)], args := [d1, d2] }
  | _ => none }
def fnExactStairsOfRow : OpenClaim := { program := "ytlcfecccpbeofaa", sum := "9e9227aabd169adedfb190e297c03ee510726a66e594cd9d677ca8cd26bc64c0", func := "loop.example/g01392/laws.FnExactStairsOf", spec := "fnExactStairsOf", unfollowed := true, recurses := true, plainKeys := false, apart := false }
def FnExactStairsOfSaid : Prop := fnExactStairsOfRow.holds Try.pinned (OpenSpec.ofChange fnExactStairsOfSpec)

/-- ITS FALSE NEIGHBOUR: 'it returns false'. Refute it at one input. -/
def fnExactStairsOfWrong : ChangeSpec := { name := "fnExactStairsOf", fn := fun _ => fun
  | [d1, d2] => { results := [.lit (.bool false)], args := [d1, d2] }
  | _ => none }
def FnExactStairsOfWrongFalsely : Prop := fnExactStairsOfRow.holds Try.pinned (OpenSpec.ofChange fnExactStairsOfWrong)

/-- 'laws.FnExactTableOfWeights': WHATEVER THE INPUT: true; the input reads as it did. -/
def fnExactTableOfWeightsSpec : ChangeSpec := { name := "fnExactTableOfWeights", fn := fun _ => fun
  | [d1, d2] => { results := [.lit (.bool true)], args := [d1, d2] }
  | _ => none }
def fnExactTableOfWeightsRow : OpenClaim := { program := "ytlcfecccpbeofaa", sum := "9e9227aabd169adedfb190e297c03ee510726a66e594cd9d677ca8cd26bc64c0", func := "loop.example/g01392/laws.FnExactTableOfWeights", spec := "fnExactTableOfWeights", unfollowed := true, recurses := true, plainKeys := false, apart := false }
def FnExactTableOfWeightsSaid : Prop := fnExactTableOfWeightsRow.holds Try.pinned (OpenSpec.ofChange fnExactTableOfWeightsSpec)

/-- ITS FALSE NEIGHBOUR: 'it returns false'. Refute it at one input. -/
def fnExactTableOfWeightsWrong : ChangeSpec := { name := "fnExactTableOfWeights", fn := fun _ => fun
  | [d1, d2] => { results := [.lit (.bool false)], args := [d1, d2] }
  | _ => none }
def FnExactTableOfWeightsWrongFalsely : Prop := fnExactTableOfWeightsRow.holds Try.pinned (OpenSpec.ofChange fnExactTableOfWeightsWrong)

/- THE SECOND FORM. 'bulk': how many values and letters a reading holds, each counted each time it is reached (what is shared counts as often as it is met; a slice's spare places count too). A statement '..UptoSaid' is the law's where the arguments, and the package variables that the reading takes, are together of bulk at most 1048576: NARROWER than '..Said'. Prove '..Said' where nothing that the law and all that it calls make is longer than what came in: it says more and counts as full. Else prove '..UptoSaid'. A law counts once. -/
mutual
def uptoBulk {H : Type} : DataW H → Nat
  | .lit (.string bytes) => bytes.length + 1
  | .lit _ => 1
  | .nil => 1
  | .ptr d => uptoBulk d + 1
  | .slice elems spare => uptoBulkAll elems + uptoBulkAll spare + 1
  | .agg parts => uptoBulkAll parts + 1
  | .iface _ d => uptoBulk d + 1
  | .map entries => uptoBulkEntries entries + 1
  | .held _ => 1
def uptoBulkAll {H : Type} : List (DataW H) → Nat
  | [] => 0
  | d :: r => uptoBulk d + uptoBulkAll r
def uptoBulkEntries {H : Type} : List (Lit × DataW H) → Nat
  | [] => 0
  | x :: r => uptoBulkEntry x + uptoBulkEntries r
def uptoBulkEntry {H : Type} : Lit × DataW H → Nat
  | (.string bytes, d) => bytes.length + uptoBulk d + 1
  | (_, d) => uptoBulk d + 1
 end
def uptoSmall : (H : Type) → List (DataW H) → Bool := fun _ ds => decide (uptoBulkAll ds ≤ 1048576)
def OpenSpec.upto (s : _root_.Go.ChangeSpec) : _root_.Go.OpenSpec := { _root_.Go.OpenSpec.ofChange s with cond := some uptoSmall }

/-- 'laws.FnExactSymmetricTable', WHERE WHAT IT READS IS OF BULK AT MOST 1048576: true; the input reads as it did. -/
def fnExactSymmetricTableUptoRow : OpenClaim := { program := "ytlcfecccpbeofaa", sum := "9e9227aabd169adedfb190e297c03ee510726a66e594cd9d677ca8cd26bc64c0", func := "loop.example/g01392/laws.FnExactSymmetricTable", spec := "fnExactSymmetricTable", plainKeys := false, apart := false, narrowed := true }
def FnExactSymmetricTableUptoSaid : Prop := fnExactSymmetricTableUptoRow.holds Try.pinned (OpenSpec.upto fnExactSymmetricTableSpec)

/-- 'laws.FnExactPartsOfNumbers', WHERE WHAT IT READS IS OF BULK AT MOST 1048576: true; the input reads as it did. -/
def fnExactPartsOfNumbersUptoRow : OpenClaim := { program := "ytlcfecccpbeofaa", sum := "9e9227aabd169adedfb190e297c03ee510726a66e594cd9d677ca8cd26bc64c0", func := "loop.example/g01392/laws.FnExactPartsOfNumbers", spec := "fnExactPartsOfNumbers", plainKeys := false, apart := false, narrowed := true }
def FnExactPartsOfNumbersUptoSaid : Prop := fnExactPartsOfNumbersUptoRow.holds Try.pinned (OpenSpec.upto fnExactPartsOfNumbersSpec)

/-- 'laws.FnExactCountStairs', WHERE WHAT IT READS IS OF BULK AT MOST 1048576: true; the input reads as it did. -/
def fnExactCountStairsUptoRow : OpenClaim := { program := "ytlcfecccpbeofaa", sum := "9e9227aabd169adedfb190e297c03ee510726a66e594cd9d677ca8cd26bc64c0", func := "loop.example/g01392/laws.FnExactCountStairs", spec := "fnExactCountStairs", plainKeys := false, apart := false, narrowed := true }
def FnExactCountStairsUptoSaid : Prop := fnExactCountStairsUptoRow.holds Try.pinned (OpenSpec.upto fnExactCountStairsSpec)

/-- 'laws.FnExactStairsOf', WHERE WHAT IT READS IS OF BULK AT MOST 1048576: true; the input reads as it did. -/
def fnExactStairsOfUptoRow : OpenClaim := { program := "ytlcfecccpbeofaa", sum := "9e9227aabd169adedfb190e297c03ee510726a66e594cd9d677ca8cd26bc64c0", func := "loop.example/g01392/laws.FnExactStairsOf", spec := "fnExactStairsOf", unfollowed := true, recurses := true, plainKeys := false, apart := false, narrowed := true }
def FnExactStairsOfUptoSaid : Prop := fnExactStairsOfUptoRow.holds Try.pinned (OpenSpec.upto fnExactStairsOfSpec)

/-- 'laws.FnExactTableOfWeights', WHERE WHAT IT READS IS OF BULK AT MOST 1048576: true; the input reads as it did. -/
def fnExactTableOfWeightsUptoRow : OpenClaim := { program := "ytlcfecccpbeofaa", sum := "9e9227aabd169adedfb190e297c03ee510726a66e594cd9d677ca8cd26bc64c0", func := "loop.example/g01392/laws.FnExactTableOfWeights", spec := "fnExactTableOfWeights", unfollowed := true, recurses := true, plainKeys := false, apart := false, narrowed := true }
def FnExactTableOfWeightsUptoSaid : Prop := fnExactTableOfWeightsUptoRow.holds Try.pinned (OpenSpec.upto fnExactTableOfWeightsSpec)

end Rows
end Go.Proofs.Ytlcfecccpbeofaa

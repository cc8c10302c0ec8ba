/-
  No cell of these rows narrows 'for every input' (looked for: loops, veiled, ifaces, maps, wideKeys, modest, calm, conditions, laid).
  DERIVED. THE GIVEN ROWS OF THIS SEAT. 8 by the template 'for every input the law returns true; each argument reads behind the call as it read before'; 0 by the template 'total and deterministic' (their statements: YtkbgboooidfloaaTotals.lean).
  GIVEN WITH THE SEED: the statements are not yours to turn. If you find one false, say at which input.
  Laid BY PROGRAM, IN A SANDBOX (cutbox-rows.mjs): the forced cells as the released guide's own fill.sh prints them over the translation b78a75ff62cb42ba… (all of the seat's roots in one cut). By AI agents, Wed Nov 11 2026. No macro, syntax, notation, axiom, sorry.
-/
import Derived.Test.YtkbgboooidfloaaChecked
import GoSem.Claim
import GoSem.ClaimJoined
import GoSem.ClaimMapViews
import Derived.JoinedTies
import Derived.KernelRfl
namespace Go.Proofs.Ytkbgboooidfloaa
/- THE CELL 'sum', in the pinned program and in every row, IS THE sha256 OF THE DUMP (.gsa) THAT YtkbgboooidfloaaProg.lean LOADS. Nothing in Lean hashes anything: it is a label: what it is worth is what the hold of that sum in a sandbox is worth. -/
noncomputable def Try.pinned : Pinned := { name := "ytkbgboooidfloaa", sum := "b78a75ff62cb42ba6fa2224ac88e12c01ceefae163053a24d437b17cfc0069e5", checked := Try.checked }
namespace Rows
def none {H : Type} : Left H := { results := [], args := [] }

/-- 'laws.FnExactOppositeFormula': WHATEVER THE INPUT: true; the input reads as it did. -/
def fnExactOppositeFormulaSpec : ChangeSpec := { name := "fnExactOppositeFormula", fn := fun _ => fun
  | [d] => { results := [.lit (.bool true)], args := [d] }
  | _ => none }
def fnExactOppositeFormulaRow : OpenClaim := { program := "ytkbgboooidfloaa", sum := "b78a75ff62cb42ba6fa2224ac88e12c01ceefae163053a24d437b17cfc0069e5", func := "loop.example/g01392/laws.FnExactOppositeFormula", spec := "fnExactOppositeFormula", inPlace := ["internal/bytealg.IndexByteString"], recurses := true, apart := false }
def FnExactOppositeFormulaSaid : Prop := fnExactOppositeFormulaRow.holds Try.pinned (OpenSpec.ofChange fnExactOppositeFormulaSpec)

/-- ITS FALSE NEIGHBOUR: 'it returns false'. Refute it at one input. -/
def fnExactOppositeFormulaWrong : ChangeSpec := { name := "fnExactOppositeFormula", fn := fun _ => fun
  | [d] => { results := [.lit (.bool false)], args := [d] }
  | _ => none }
def FnExactOppositeFormulaWrongFalsely : Prop := fnExactOppositeFormulaRow.holds Try.pinned (OpenSpec.ofChange fnExactOppositeFormulaWrong)

/-- 'laws.FnExactDualFormula': WHATEVER THE INPUT: true; the input reads as it did. -/
def fnExactDualFormulaSpec : ChangeSpec := { name := "fnExactDualFormula", fn := fun _ => fun
  | [d] => { results := [.lit (.bool true)], args := [d] }
  | _ => none }
def fnExactDualFormulaRow : OpenClaim := { program := "ytkbgboooidfloaa", sum := "b78a75ff62cb42ba6fa2224ac88e12c01ceefae163053a24d437b17cfc0069e5", func := "loop.example/g01392/laws.FnExactDualFormula", spec := "fnExactDualFormula", inPlace := ["internal/bytealg.IndexByteString"], recurses := true, apart := false }
def FnExactDualFormulaSaid : Prop := fnExactDualFormulaRow.holds Try.pinned (OpenSpec.ofChange fnExactDualFormulaSpec)

/-- ITS FALSE NEIGHBOUR: 'it returns false'. Refute it at one input. -/
def fnExactDualFormulaWrong : ChangeSpec := { name := "fnExactDualFormula", fn := fun _ => fun
  | [d] => { results := [.lit (.bool false)], args := [d] }
  | _ => none }
def FnExactDualFormulaWrongFalsely : Prop := fnExactDualFormulaRow.holds Try.pinned (OpenSpec.ofChange fnExactDualFormulaWrong)

/-- 'laws.FnExactCountContacts': WHATEVER THE INPUT: true; the input reads as it did. -/
def fnExactCountContactsSpec : ChangeSpec := { name := "fnExactCountContacts", fn := fun _ => fun
  | [d] => { results := [.lit (.bool true)], args := [d] }
  | _ => none }
def fnExactCountContactsRow : OpenClaim := { program := "ytkbgboooidfloaa", sum := "b78a75ff62cb42ba6fa2224ac88e12c01ceefae163053a24d437b17cfc0069e5", func := "loop.example/g01392/laws.FnExactCountContacts", spec := "fnExactCountContacts", unfollowed := true, recurses := true, apart := false }
def FnExactCountContactsSaid : Prop := fnExactCountContactsRow.holds Try.pinned (OpenSpec.ofChange fnExactCountContactsSpec)

/-- ITS FALSE NEIGHBOUR: 'it returns false'. Refute it at one input. -/
def fnExactCountContactsWrong : ChangeSpec := { name := "fnExactCountContacts", fn := fun _ => fun
  | [d] => { results := [.lit (.bool false)], args := [d] }
  | _ => none }
def FnExactCountContactsWrongFalsely : Prop := fnExactCountContactsRow.holds Try.pinned (OpenSpec.ofChange fnExactCountContactsWrong)

/-- 'laws.FnExactFormulaValue': WHATEVER THE INPUT: true; the input reads as it did. -/
def fnExactFormulaValueSpec : ChangeSpec := { name := "fnExactFormulaValue", fn := fun _ => fun
  | [d1, d2] => { results := [.lit (.bool true)], args := [d1, d2] }
  | _ => none }
def fnExactFormulaValueRow : OpenClaim := { program := "ytkbgboooidfloaa", sum := "b78a75ff62cb42ba6fa2224ac88e12c01ceefae163053a24d437b17cfc0069e5", func := "loop.example/g01392/laws.FnExactFormulaValue", spec := "fnExactFormulaValue", recurses := true, apart := false }
def FnExactFormulaValueSaid : Prop := fnExactFormulaValueRow.holds Try.pinned (OpenSpec.ofChange fnExactFormulaValueSpec)

/-- ITS FALSE NEIGHBOUR: 'it returns false'. Refute it at one input. -/
def fnExactFormulaValueWrong : ChangeSpec := { name := "fnExactFormulaValue", fn := fun _ => fun
  | [d1, d2] => { results := [.lit (.bool false)], args := [d1, d2] }
  | _ => none }
def FnExactFormulaValueWrongFalsely : Prop := fnExactFormulaValueRow.holds Try.pinned (OpenSpec.ofChange fnExactFormulaValueWrong)

/-- 'laws.FnExactTableOfFormula': WHATEVER THE INPUT: true; the input reads as it did. -/
def fnExactTableOfFormulaSpec : ChangeSpec := { name := "fnExactTableOfFormula", fn := fun _ => fun
  | [d1, d2] => { results := [.lit (.bool true)], args := [d1, d2] }
  | _ => none }
def fnExactTableOfFormulaRow : OpenClaim := { program := "ytkbgboooidfloaa", sum := "b78a75ff62cb42ba6fa2224ac88e12c01ceefae163053a24d437b17cfc0069e5", func := "loop.example/g01392/laws.FnExactTableOfFormula", spec := "fnExactTableOfFormula", unfollowed := true, recurses := true, apart := false }
def FnExactTableOfFormulaSaid : Prop := fnExactTableOfFormulaRow.holds Try.pinned (OpenSpec.ofChange fnExactTableOfFormulaSpec)

/-- ITS FALSE NEIGHBOUR: 'it returns false'. Refute it at one input. -/
def fnExactTableOfFormulaWrong : ChangeSpec := { name := "fnExactTableOfFormula", fn := fun _ => fun
  | [d1, d2] => { results := [.lit (.bool false)], args := [d1, d2] }
  | _ => none }
def FnExactTableOfFormulaWrongFalsely : Prop := fnExactTableOfFormulaRow.holds Try.pinned (OpenSpec.ofChange fnExactTableOfFormulaWrong)

/-- 'laws.FnExactNetworkOfFormula': WHATEVER THE INPUT: true; the input reads as it did. -/
def fnExactNetworkOfFormulaSpec : ChangeSpec := { name := "fnExactNetworkOfFormula", fn := fun _ => fun
  | [d] => { results := [.lit (.bool true)], args := [d] }
  | _ => none }
def fnExactNetworkOfFormulaRow : OpenClaim := { program := "ytkbgboooidfloaa", sum := "b78a75ff62cb42ba6fa2224ac88e12c01ceefae163053a24d437b17cfc0069e5", func := "loop.example/g01392/laws.FnExactNetworkOfFormula", spec := "fnExactNetworkOfFormula", inPlace := ["internal/bytealg.IndexByteString"], unfollowed := true, recurses := true, apart := false }
def FnExactNetworkOfFormulaSaid : Prop := fnExactNetworkOfFormulaRow.holds Try.pinned (OpenSpec.ofChange fnExactNetworkOfFormulaSpec)

/-- ITS FALSE NEIGHBOUR: 'it returns false'. Refute it at one input. -/
def fnExactNetworkOfFormulaWrong : ChangeSpec := { name := "fnExactNetworkOfFormula", fn := fun _ => fun
  | [d] => { results := [.lit (.bool false)], args := [d] }
  | _ => none }
def FnExactNetworkOfFormulaWrongFalsely : Prop := fnExactNetworkOfFormulaRow.holds Try.pinned (OpenSpec.ofChange fnExactNetworkOfFormulaWrong)

/-- 'laws.FnExactShortFormula': WHATEVER THE INPUT: true; the input reads as it did. -/
def fnExactShortFormulaSpec : ChangeSpec := { name := "fnExactShortFormula", fn := fun _ => fun
  | [d] => { results := [.lit (.bool true)], args := [d] }
  | _ => none }
def fnExactShortFormulaRow : OpenClaim := { program := "ytkbgboooidfloaa", sum := "b78a75ff62cb42ba6fa2224ac88e12c01ceefae163053a24d437b17cfc0069e5", func := "loop.example/g01392/laws.FnExactShortFormula", spec := "fnExactShortFormula", recurses := true, apart := false }
def FnExactShortFormulaSaid : Prop := fnExactShortFormulaRow.holds Try.pinned (OpenSpec.ofChange fnExactShortFormulaSpec)

/-- ITS FALSE NEIGHBOUR: 'it returns false'. Refute it at one input. -/
def fnExactShortFormulaWrong : ChangeSpec := { name := "fnExactShortFormula", fn := fun _ => fun
  | [d] => { results := [.lit (.bool false)], args := [d] }
  | _ => none }
def FnExactShortFormulaWrongFalsely : Prop := fnExactShortFormulaRow.holds Try.pinned (OpenSpec.ofChange fnExactShortFormulaWrong)

/-- 'laws.FnExactTableOfWeights': WHATEVER THE INPUT: true; the input reads as it did. -/
def fnExactTableOfWeightsSpec : ChangeSpec := { name := "fnExactTableOfWeights", fn := fun _ => fun
  | [d1, d2] => { results := [.lit (.bool true)], args := [d1, d2] }
  | _ => none }
def fnExactTableOfWeightsRow : OpenClaim := { program := "ytkbgboooidfloaa", sum := "b78a75ff62cb42ba6fa2224ac88e12c01ceefae163053a24d437b17cfc0069e5", func := "loop.example/g01392/laws.FnExactTableOfWeights", spec := "fnExactTableOfWeights", unfollowed := true, recurses := true, apart := false }
def FnExactTableOfWeightsSaid : Prop := fnExactTableOfWeightsRow.holds Try.pinned (OpenSpec.ofChange fnExactTableOfWeightsSpec)

/-- ITS FALSE NEIGHBOUR: 'it returns false'. Refute it at one input. -/
def fnExactTableOfWeightsWrong : ChangeSpec := { name := "fnExactTableOfWeights", fn := fun _ => fun
  | [d1, d2] => { results := [.lit (.bool false)], args := [d1, d2] }
  | _ => none }
def FnExactTableOfWeightsWrongFalsely : Prop := fnExactTableOfWeightsRow.holds Try.pinned (OpenSpec.ofChange fnExactTableOfWeightsWrong)

/- THE SECOND FORM. 'bulk': how many values and letters a reading holds, each counted each time it is reached (what is shared counts as often as it is met; a slice's spare places count too). A statement '..UptoSaid' is the law's where the arguments, and the package variables that the reading takes, are together of bulk at most 1048576: NARROWER than '..Said'. Prove '..Said' where nothing that the law and all that it calls make is longer than what came in: it says more and counts as full. Else prove '..UptoSaid'. A law counts once. -/
mutual
def uptoBulk {H : Type} : DataW H → Nat
  | .lit (.string bytes) => bytes.length + 1
  | .lit _ => 1
  | .nil => 1
  | .ptr d => uptoBulk d + 1
  | .slice elems spare => uptoBulkAll elems + uptoBulkAll spare + 1
  | .agg parts => uptoBulkAll parts + 1
  | .iface _ d => uptoBulk d + 1
  | .map entries => uptoBulkEntries entries + 1
  | .held _ => 1
def uptoBulkAll {H : Type} : List (DataW H) → Nat
  | [] => 0
  | d :: r => uptoBulk d + uptoBulkAll r
def uptoBulkEntries {H : Type} : List (Lit × DataW H) → Nat
  | [] => 0
  | x :: r => uptoBulkEntry x + uptoBulkEntries r
def uptoBulkEntry {H : Type} : Lit × DataW H → Nat
  | (.string bytes, d) => bytes.length + uptoBulk d + 1
  | (_, d) => uptoBulk d + 1
 end
def uptoSmall : (H : Type) → List (DataW H) → Bool := fun _ ds => decide (uptoBulkAll ds ≤ 1048576)
def OpenSpec.upto (s : _root_.Go.ChangeSpec) : _root_.Go.OpenSpec := { _root_.Go.OpenSpec.ofChange s with cond := some uptoSmall }

/-- 'laws.FnExactOppositeFormula', WHERE WHAT IT READS IS OF BULK AT MOST 1048576: true; the input reads as it did. -/
def fnExactOppositeFormulaUptoRow : OpenClaim := { program := "ytkbgboooidfloaa", sum := "b78a75ff62cb42ba6fa2224ac88e12c01ceefae163053a24d437b17cfc0069e5", func := "loop.example/g01392/laws.FnExactOppositeFormula", spec := "fnExactOppositeFormula", inPlace := ["internal/bytealg.IndexByteString"], recurses := true, apart := false, narrowed := true }
def FnExactOppositeFormulaUptoSaid : Prop := fnExactOppositeFormulaUptoRow.holds Try.pinned (OpenSpec.upto fnExactOppositeFormulaSpec)

/-- 'laws.FnExactDualFormula', WHERE WHAT IT READS IS OF BULK AT MOST 1048576: true; the input reads as it did. -/
def fnExactDualFormulaUptoRow : OpenClaim := { program := "ytkbgboooidfloaa", sum := "b78a75ff62cb42ba6fa2224ac88e12c01ceefae163053a24d437b17cfc0069e5", func := "loop.example/g01392/laws.FnExactDualFormula", spec := "fnExactDualFormula", inPlace := ["internal/bytealg.IndexByteString"], recurses := true, apart := false, narrowed := true }
def FnExactDualFormulaUptoSaid : Prop := fnExactDualFormulaUptoRow.holds Try.pinned (OpenSpec.upto fnExactDualFormulaSpec)

/-- 'laws.FnExactCountContacts', WHERE WHAT IT READS IS OF BULK AT MOST 1048576: true; the input reads as it did. -/
def fnExactCountContactsUptoRow : OpenClaim := { program := "ytkbgboooidfloaa", sum := "b78a75ff62cb42ba6fa2224ac88e12c01ceefae163053a24d437b17cfc0069e5", func := "loop.example/g01392/laws.FnExactCountContacts", spec := "fnExactCountContacts", unfollowed := true, recurses := true, apart := false, narrowed := true }
def FnExactCountContactsUptoSaid : Prop := fnExactCountContactsUptoRow.holds Try.pinned (OpenSpec.upto fnExactCountContactsSpec)

/-- 'laws.FnExactFormulaValue', WHERE WHAT IT READS IS OF BULK AT MOST 1048576: true; the input reads as it did. -/
def fnExactFormulaValueUptoRow : OpenClaim := { program := "ytkbgboooidfloaa", sum := "b78a75ff62cb42ba6fa2224ac88e12c01ceefae163053a24d437b17cfc0069e5", func := "loop.example/g01392/laws.FnExactFormulaValue", spec := "fnExactFormulaValue", recurses := true, apart := false, narrowed := true }
def FnExactFormulaValueUptoSaid : Prop := fnExactFormulaValueUptoRow.holds Try.pinned (OpenSpec.upto fnExactFormulaValueSpec)

/-- 'laws.FnExactTableOfFormula', WHERE WHAT IT READS IS OF BULK AT MOST 1048576: true; the input reads as it did. -/
def fnExactTableOfFormulaUptoRow : OpenClaim := { program := "ytkbgboooidfloaa", sum := "b78a75ff62cb42ba6fa2224ac88e12c01ceefae163053a24d437b17cfc0069e5", func := "loop.example/g01392/laws.FnExactTableOfFormula", spec := "fnExactTableOfFormula", unfollowed := true, recurses := true, apart := false, narrowed := true }
def FnExactTableOfFormulaUptoSaid : Prop := fnExactTableOfFormulaUptoRow.holds Try.pinned (OpenSpec.upto fnExactTableOfFormulaSpec)

/-- 'laws.FnExactNetworkOfFormula', WHERE WHAT IT READS IS OF BULK AT MOST 1048576: true; the input reads as it did. -/
def fnExactNetworkOfFormulaUptoRow : OpenClaim := { program := "ytkbgboooidfloaa", sum := "b78a75ff62cb42ba6fa2224ac88e12c01ceefae163053a24d437b17cfc0069e5", func := "loop.example/g01392/laws.FnExactNetworkOfFormula", spec := "fnExactNetworkOfFormula", inPlace := ["internal/bytealg.IndexByteString"], unfollowed := true, recurses := true, apart := false, narrowed := true }
def FnExactNetworkOfFormulaUptoSaid : Prop := fnExactNetworkOfFormulaUptoRow.holds Try.pinned (OpenSpec.upto fnExactNetworkOfFormulaSpec)

/-- 'laws.FnExactShortFormula', WHERE WHAT IT READS IS OF BULK AT MOST 1048576: true; the input reads as it did. -/
def fnExactShortFormulaUptoRow : OpenClaim := { program := "ytkbgboooidfloaa", sum := "b78a75ff62cb42ba6fa2224ac88e12c01ceefae163053a24d437b17cfc0069e5", func := "loop.example/g01392/laws.FnExactShortFormula", spec := "fnExactShortFormula", recurses := true, apart := false, narrowed := true }
def FnExactShortFormulaUptoSaid : Prop := fnExactShortFormulaUptoRow.holds Try.pinned (OpenSpec.upto fnExactShortFormulaSpec)

/-- 'laws.FnExactTableOfWeights', WHERE WHAT IT READS IS OF BULK AT MOST 1048576: true; the input reads as it did. -/
def fnExactTableOfWeightsUptoRow : OpenClaim := { program := "ytkbgboooidfloaa", sum := "b78a75ff62cb42ba6fa2224ac88e12c01ceefae163053a24d437b17cfc0069e5", func := "loop.example/g01392/laws.FnExactTableOfWeights", spec := "fnExactTableOfWeights", unfollowed := true, recurses := true, apart := false, narrowed := true }
def FnExactTableOfWeightsUptoSaid : Prop := fnExactTableOfWeightsUptoRow.holds Try.pinned (OpenSpec.upto fnExactTableOfWeightsSpec)

end Rows
end Go.Proofs.Ytkbgboooidfloaa

/-
  No cell of these rows narrows 'for every input' (looked for: loops, veiled, ifaces, maps, wideKeys, modest, calm, conditions, laid).
  DERIVED. THE GIVEN ROWS OF THIS SEAT. 12 by the template 'for every input the law returns true; each argument reads behind the call as it read before'; 0 by the template 'total and deterministic' (their statements: YtblbapehakcomaaTotals.lean).
  GIVEN WITH THE SEED: the statements are not yours to turn. If you find one false, say at which input.
  Laid BY PROGRAM, IN A SANDBOX (cutbox-rows.mjs): the forced cells as the released guide's own fill.sh prints them over the translation 27ecb5468338232e… (all of the seat's roots in one cut). By AI agents, Wed Nov 11 2026. No macro, syntax, notation, axiom, sorry.
-/
import Derived.Test.YtblbapehakcomaaChecked
import GoSem.Claim
import GoSem.ClaimJoined
import GoSem.ClaimMapViews
import Derived.JoinedTies
import Derived.KernelRfl
namespace Go.Proofs.Ytblbapehakcomaa
/- THE CELL 'sum', in the pinned program and in every row, IS THE sha256 OF THE DUMP (.gsa) THAT YtblbapehakcomaaProg.lean LOADS. Nothing in Lean hashes anything: it is a label: what it is worth is what the hold of that sum in a sandbox is worth. -/
noncomputable def Try.pinned : Pinned := { name := "ytblbapehakcomaa", sum := "27ecb5468338232e8a7dce678e4246dae8cb213493de72ed89f0ca679074dbe5", checked := Try.checked }
namespace Rows
def none {H : Type} : Left H := { results := [], args := [] }

/-- 'laws.FnExactIsCircuit': WHATEVER THE INPUT: true; the input reads as it did. -/
def fnExactIsCircuitSpec : ChangeSpec := { name := "fnExactIsCircuit", fn := fun _ => fun
  | [d] => { results := [.lit (.bool true)], args := [d] }
  | _ => none }
def fnExactIsCircuitRow : OpenClaim := { program := "ytblbapehakcomaa", sum := "27ecb5468338232e8a7dce678e4246dae8cb213493de72ed89f0ca679074dbe5", func := "loop.example/g01392/laws.FnExactIsCircuit", spec := "fnExactIsCircuit", unfollowed := true, recurses := true, plainKeys := false, apart := false }
def FnExactIsCircuitSaid : Prop := fnExactIsCircuitRow.holds Try.pinned (OpenSpec.ofChange fnExactIsCircuitSpec)

/-- ITS FALSE NEIGHBOUR: 'it returns false'. Refute it at one input. -/
def fnExactIsCircuitWrong : ChangeSpec := { name := "fnExactIsCircuit", fn := fun _ => fun
  | [d] => { results := [.lit (.bool false)], args := [d] }
  | _ => none }
def FnExactIsCircuitWrongFalsely : Prop := fnExactIsCircuitRow.holds Try.pinned (OpenSpec.ofChange fnExactIsCircuitWrong)

/-- 'laws.FnExactAimOf': WHATEVER THE INPUT: true; the input reads as it did. -/
def fnExactAimOfSpec : ChangeSpec := { name := "fnExactAimOf", fn := fun _ => fun
  | [d1, d2, d3] => { results := [.lit (.bool true)], args := [d1, d2, d3] }
  | _ => none }
def fnExactAimOfRow : OpenClaim := { program := "ytblbapehakcomaa", sum := "27ecb5468338232e8a7dce678e4246dae8cb213493de72ed89f0ca679074dbe5", func := "loop.example/g01392/laws.FnExactAimOf", spec := "fnExactAimOf", unfollowed := true, recurses := true, plainKeys := false, apart := false }
def FnExactAimOfSaid : Prop := fnExactAimOfRow.holds Try.pinned (OpenSpec.ofChange fnExactAimOfSpec)

/-- ITS FALSE NEIGHBOUR: 'it returns false'. Refute it at one input. -/
def fnExactAimOfWrong : ChangeSpec := { name := "fnExactAimOf", fn := fun _ => fun
  | [d1, d2, d3] => { results := [.lit (.bool false)], args := [d1, d2, d3] }
  | _ => none }
def FnExactAimOfWrongFalsely : Prop := fnExactAimOfRow.holds Try.pinned (OpenSpec.ofChange fnExactAimOfWrong)

/-- 'laws.FnExactRelaysToChange': WHATEVER THE INPUT: true; the input reads as it did. -/
def fnExactRelaysToChangeSpec : ChangeSpec := { name := "fnExactRelaysToChange", fn := fun _ => fun
  | [d1, d2, d3] => { results := [.lit (.bool true)], args := [d1, d2, d3] }
  | _ => none }
def fnExactRelaysToChangeRow : OpenClaim := { program := "ytblbapehakcomaa", sum := "27ecb5468338232e8a7dce678e4246dae8cb213493de72ed89f0ca679074dbe5", func := "loop.example/g01392/laws.FnExactRelaysToChange", spec := "fnExactRelaysToChange", unfollowed := true, recurses := true, plainKeys := false, apart := false }
def FnExactRelaysToChangeSaid : Prop := fnExactRelaysToChangeRow.holds Try.pinned (OpenSpec.ofChange fnExactRelaysToChangeSpec)

/-- ITS FALSE NEIGHBOUR: 'it returns false'. Refute it at one input. -/
def fnExactRelaysToChangeWrong : ChangeSpec := { name := "fnExactRelaysToChange", fn := fun _ => fun
  | [d1, d2, d3] => { results := [.lit (.bool false)], args := [d1, d2, d3] }
  | _ => none }
def FnExactRelaysToChangeWrongFalsely : Prop := fnExactRelaysToChangeRow.holds Try.pinned (OpenSpec.ofChange fnExactRelaysToChangeWrong)

/-- 'laws.FnExactSteadyStates': WHATEVER THE INPUT: true; the input reads as it did. -/
def fnExactSteadyStatesSpec : ChangeSpec := { name := "fnExactSteadyStates", fn := fun _ => fun
  | [d1, d2] => { results := [.lit (.bool true)], args := [d1, d2] }
  | _ => none }
def fnExactSteadyStatesRow : OpenClaim := { program := "ytblbapehakcomaa", sum := "27ecb5468338232e8a7dce678e4246dae8cb213493de72ed89f0ca679074dbe5", func := "loop.example/g01392/laws.FnExactSteadyStates", spec := "fnExactSteadyStates", unfollowed := true, recurses := true, plainKeys := false, apart := false }
def FnExactSteadyStatesSaid : Prop := fnExactSteadyStatesRow.holds Try.pinned (OpenSpec.ofChange fnExactSteadyStatesSpec)

/-- ITS FALSE NEIGHBOUR: 'it returns false'. Refute it at one input. -/
def fnExactSteadyStatesWrong : ChangeSpec := { name := "fnExactSteadyStates", fn := fun _ => fun
  | [d1, d2] => { results := [.lit (.bool false)], args := [d1, d2] }
  | _ => none }
def FnExactSteadyStatesWrongFalsely : Prop := fnExactSteadyStatesRow.holds Try.pinned (OpenSpec.ofChange fnExactSteadyStatesWrong)

/-- 'laws.FnExactStatesReached': WHATEVER THE INPUT: true; the input reads as it did. -/
def fnExactStatesReachedSpec : ChangeSpec := { name := "fnExactStatesReached", fn := fun _ => fun
  | [d1, d2, d3] => { results := [.lit (.bool true)], args := [d1, d2, d3] }
  | _ => none }
def fnExactStatesReachedRow : OpenClaim := { program := "ytblbapehakcomaa", sum := "27ecb5468338232e8a7dce678e4246dae8cb213493de72ed89f0ca679074dbe5", func := "loop.example/g01392/laws.FnExactStatesReached", spec := "fnExactStatesReached", unfollowed := true, recurses := true, plainKeys := false, apart := false }
def FnExactStatesReachedSaid : Prop := fnExactStatesReachedRow.holds Try.pinned (OpenSpec.ofChange fnExactStatesReachedSpec)

/-- ITS FALSE NEIGHBOUR: 'it returns false'. Refute it at one input. -/
def fnExactStatesReachedWrong : ChangeSpec := { name := "fnExactStatesReached", fn := fun _ => fun
  | [d1, d2, d3] => { results := [.lit (.bool false)], args := [d1, d2, d3] }
  | _ => none }
def FnExactStatesReachedWrongFalsely : Prop := fnExactStatesReachedRow.holds Try.pinned (OpenSpec.ofChange fnExactStatesReachedWrong)

/-- 'laws.FnExactEndsOf': WHATEVER THE INPUT: true; the input reads as it did. -/
def fnExactEndsOfSpec : ChangeSpec := { name := "fnExactEndsOf", fn := fun _ => fun
  | [d1, d2, d3] => { results := [.lit (.bool true)], args := [d1, d2, d3] }
  | _ => none }
def fnExactEndsOfRow : OpenClaim := { program := "ytblbapehakcomaa", sum := "27ecb5468338232e8a7dce678e4246dae8cb213493de72ed89f0ca679074dbe5", func := "loop.example/g01392/laws.FnExactEndsOf", spec := "fnExactEndsOf", unfollowed := true, recurses := true, plainKeys := false, apart := false }
def FnExactEndsOfSaid : Prop := fnExactEndsOfRow.holds Try.pinned (OpenSpec.ofChange fnExactEndsOfSpec)

/-- ITS FALSE NEIGHBOUR: 'it returns false'. Refute it at one input. -/
def fnExactEndsOfWrong : ChangeSpec := { name := "fnExactEndsOf", fn := fun _ => fun
  | [d1, d2, d3] => { results := [.lit (.bool false)], args := [d1, d2, d3] }
  | _ => none }
def FnExactEndsOfWrongFalsely : Prop := fnExactEndsOfRow.holds Try.pinned (OpenSpec.ofChange fnExactEndsOfWrong)

/-- 'laws.FnExactIsCritical': WHATEVER THE INPUT: true; the input reads as it did. -/
def fnExactIsCriticalSpec : ChangeSpec := { name := "fnExactIsCritical", fn := fun _ => fun
  | [d1, d2, d3] => { results := [.lit (.bool true)], args := [d1, d2, d3] }
  | _ => none }
def fnExactIsCriticalRow : OpenClaim := { program := "ytblbapehakcomaa", sum := "27ecb5468338232e8a7dce678e4246dae8cb213493de72ed89f0ca679074dbe5", func := "loop.example/g01392/laws.FnExactIsCritical", spec := "fnExactIsCritical", unfollowed := true, recurses := true, plainKeys := false, apart := false }
def FnExactIsCriticalSaid : Prop := fnExactIsCriticalRow.holds Try.pinned (OpenSpec.ofChange fnExactIsCriticalSpec)

/-- ITS FALSE NEIGHBOUR: 'it returns false'. Refute it at one input. -/
def fnExactIsCriticalWrong : ChangeSpec := { name := "fnExactIsCritical", fn := fun _ => fun
  | [d1, d2, d3] => { results := [.lit (.bool false)], args := [d1, d2, d3] }
  | _ => none }
def FnExactIsCriticalWrongFalsely : Prop := fnExactIsCriticalRow.holds Try.pinned (OpenSpec.ofChange fnExactIsCriticalWrong)

/-- 'laws.FnExactWholeSteps': WHATEVER THE INPUT: true; the input reads as it did. -/
def fnExactWholeStepsSpec : ChangeSpec := { name := "fnExactWholeSteps", fn := fun _ => fun
  | [d1, d2, d3, d4] => { results := [.lit (.bool true)], args := [d1, d2, d3, d4] }
  | _ => none }
def fnExactWholeStepsRow : OpenClaim := { program := "ytblbapehakcomaa", sum := "27ecb5468338232e8a7dce678e4246dae8cb213493de72ed89f0ca679074dbe5", func := "loop.example/g01392/laws.FnExactWholeSteps", spec := "fnExactWholeSteps", unfollowed := true, recurses := true, plainKeys := false, apart := false }
def FnExactWholeStepsSaid : Prop := fnExactWholeStepsRow.holds Try.pinned (OpenSpec.ofChange fnExactWholeStepsSpec)

/-- ITS FALSE NEIGHBOUR: 'it returns false'. Refute it at one input. -/
def fnExactWholeStepsWrong : ChangeSpec := { name := "fnExactWholeSteps", fn := fun _ => fun
  | [d1, d2, d3, d4] => { results := [.lit (.bool false)], args := [d1, d2, d3, d4] }
  | _ => none }
def FnExactWholeStepsWrongFalsely : Prop := fnExactWholeStepsRow.holds Try.pinned (OpenSpec.ofChange fnExactWholeStepsWrong)

/-- 'laws.FnExactRunInputs': WHATEVER THE INPUT: true; the input reads as it did. -/
def fnExactRunInputsSpec : ChangeSpec := { name := "fnExactRunInputs", fn := fun _ => fun
  | [d1, d2, d3] => { results := [.lit (.bool true)], args := [d1, d2, d3] }
  | _ => none }
def fnExactRunInputsRow : OpenClaim := { program := "ytblbapehakcomaa", sum := "27ecb5468338232e8a7dce678e4246dae8cb213493de72ed89f0ca679074dbe5", func := "loop.example/g01392/laws.FnExactRunInputs", spec := "fnExactRunInputs", unfollowed := true, recurses := true, plainKeys := false, apart := false }
def FnExactRunInputsSaid : Prop := fnExactRunInputsRow.holds Try.pinned (OpenSpec.ofChange fnExactRunInputsSpec)

/-- ITS FALSE NEIGHBOUR: 'it returns false'. Refute it at one input. -/
def fnExactRunInputsWrong : ChangeSpec := { name := "fnExactRunInputs", fn := fun _ => fun
  | [d1, d2, d3] => { results := [.lit (.bool false)], args := [d1, d2, d3] }
  | _ => none }
def FnExactRunInputsWrongFalsely : Prop := fnExactRunInputsRow.holds Try.pinned (OpenSpec.ofChange fnExactRunInputsWrong)

/-- 'laws.FnExactCriticalPlaces': WHATEVER THE INPUT: true; the input reads as it did. -/
def fnExactCriticalPlacesSpec : ChangeSpec := { name := "fnExactCriticalPlaces", fn := fun _ => fun
  | [d] => { results := [.lit (.bool true)], args := [d] }
  | _ => none }
def fnExactCriticalPlacesRow : OpenClaim := { program := "ytblbapehakcomaa", sum := "27ecb5468338232e8a7dce678e4246dae8cb213493de72ed89f0ca679074dbe5", func := "loop.example/g01392/laws.FnExactCriticalPlaces", spec := "fnExactCriticalPlaces", unfollowed := true, recurses := true, plainKeys := false, apart := false }
def FnExactCriticalPlacesSaid : Prop := fnExactCriticalPlacesRow.holds Try.pinned (OpenSpec.ofChange fnExactCriticalPlacesSpec)

/-- ITS FALSE NEIGHBOUR: 'it returns false'. Refute it at one input. -/
def fnExactCriticalPlacesWrong : ChangeSpec := { name := "fnExactCriticalPlaces", fn := fun _ => fun
  | [d] => { results := [.lit (.bool false)], args := [d] }
  | _ => none }
def FnExactCriticalPlacesWrongFalsely : Prop := fnExactCriticalPlacesRow.holds Try.pinned (OpenSpec.ofChange fnExactCriticalPlacesWrong)

/-- 'laws.FnExactChangesBetween': WHATEVER THE INPUT: true; the input reads as it did. -/
def fnExactChangesBetweenSpec : ChangeSpec := { name := "fnExactChangesBetween", fn := fun _ => fun
  | [d1, d2, d3] => { results := [.lit (.bool true)], args := [d1, d2, d3] }
  | _ => none }
def fnExactChangesBetweenRow : OpenClaim := { program := "ytblbapehakcomaa", sum := "27ecb5468338232e8a7dce678e4246dae8cb213493de72ed89f0ca679074dbe5", func := "loop.example/g01392/laws.FnExactChangesBetween", spec := "fnExactChangesBetween", unfollowed := true, recurses := true, plainKeys := false, apart := false }
def FnExactChangesBetweenSaid : Prop := fnExactChangesBetweenRow.holds Try.pinned (OpenSpec.ofChange fnExactChangesBetweenSpec)

/-- ITS FALSE NEIGHBOUR: 'it returns false'. Refute it at one input. -/
def fnExactChangesBetweenWrong : ChangeSpec := { name := "fnExactChangesBetween", fn := fun _ => fun
  | [d1, d2, d3] => { results := [.lit (.bool false)], args := [d1, d2, d3] }
  | _ => none }
def FnExactChangesBetweenWrongFalsely : Prop := fnExactChangesBetweenRow.holds Try.pinned (OpenSpec.ofChange fnExactChangesBetweenWrong)

/-- 'laws.FnExactExchangeRelays': WHATEVER THE INPUT: true; the input reads as it did. -/
def fnExactExchangeRelaysSpec : ChangeSpec := { name := "fnExactExchangeRelays", fn := fun _ => fun
  | [d1, d2] => { results := [.lit (.bool true)], args := [d1, d2] }
  | _ => none }
def fnExactExchangeRelaysRow : OpenClaim := { program := "ytblbapehakcomaa", sum := "27ecb5468338232e8a7dce678e4246dae8cb213493de72ed89f0ca679074dbe5", func := "loop.example/g01392/laws.FnExactExchangeRelays", spec := "fnExactExchangeRelays", unfollowed := true, recurses := true, plainKeys := false, apart := false }
def FnExactExchangeRelaysSaid : Prop := fnExactExchangeRelaysRow.holds Try.pinned (OpenSpec.ofChange fnExactExchangeRelaysSpec)

/-- ITS FALSE NEIGHBOUR: 'it returns false'. Refute it at one input. -/
def fnExactExchangeRelaysWrong : ChangeSpec := { name := "fnExactExchangeRelays", fn := fun _ => fun
  | [d1, d2] => { results := [.lit (.bool false)], args := [d1, d2] }
  | _ => none }
def FnExactExchangeRelaysWrongFalsely : Prop := fnExactExchangeRelaysRow.holds Try.pinned (OpenSpec.ofChange fnExactExchangeRelaysWrong)

/- THE SECOND FORM. 'bulk': how many values and letters a reading holds, each counted each time it is reached (what is shared counts as often as it is met; a slice's spare places count too). A statement '..UptoSaid' is the law's where the arguments, and the package variables that the reading takes, are together of bulk at most 1048576: NARROWER than '..Said'. Prove '..Said' where nothing that the law and all that it calls make is longer than what came in: it says more and counts as full. Else prove '..UptoSaid'. A law counts once. -/
mutual
def uptoBulk {H : Type} : DataW H → Nat
  | .lit (.string bytes) => bytes.length + 1
  | .lit _ => 1
  | .nil => 1
  | .ptr d => uptoBulk d + 1
  | .slice elems spare => uptoBulkAll elems + uptoBulkAll spare + 1
  | .agg parts => uptoBulkAll parts + 1
  | .iface _ d => uptoBulk d + 1
  | .map entries => uptoBulkEntries entries + 1
  | .held _ => 1
def uptoBulkAll {H : Type} : List (DataW H) → Nat
  | [] => 0
  | d :: r => uptoBulk d + uptoBulkAll r
def uptoBulkEntries {H : Type} : List (Lit × DataW H) → Nat
  | [] => 0
  | x :: r => uptoBulkEntry x + uptoBulkEntries r
def uptoBulkEntry {H : Type} : Lit × DataW H → Nat
  | (.string bytes, d) => bytes.length + uptoBulk d + 1
  | (_, d) => uptoBulk d + 1
 end
def uptoSmall : (H : Type) → List (DataW H) → Bool := fun _ ds => decide (uptoBulkAll ds ≤ 1048576)
def OpenSpec.upto (s : _root_.Go.ChangeSpec) : _root_.Go.OpenSpec := { _root_.Go.OpenSpec.ofChange s with cond := some uptoSmall }

/-- 'laws.FnExactIsCircuit', WHERE WHAT IT READS IS OF BULK AT MOST 1048576: true; the input reads as it did. -/
def fnExactIsCircuitUptoRow : OpenClaim := { program := "ytblbapehakcomaa", sum := "27ecb5468338232e8a7dce678e4246dae8cb213493de72ed89f0ca679074dbe5", func := "loop.example/g01392/laws.FnExactIsCircuit", spec := "fnExactIsCircuit", unfollowed := true, recurses := true, plainKeys := false, apart := false, narrowed := true }
def FnExactIsCircuitUptoSaid : Prop := fnExactIsCircuitUptoRow.holds Try.pinned (OpenSpec.upto fnExactIsCircuitSpec)

/-- 'laws.FnExactAimOf', WHERE WHAT IT READS IS OF BULK AT MOST 1048576: true; the input reads as it did. -/
def fnExactAimOfUptoRow : OpenClaim := { program := "ytblbapehakcomaa", sum := "27ecb5468338232e8a7dce678e4246dae8cb213493de72ed89f0ca679074dbe5", func := "loop.example/g01392/laws.FnExactAimOf", spec := "fnExactAimOf", unfollowed := true, recurses := true, plainKeys := false, apart := false, narrowed := true }
def FnExactAimOfUptoSaid : Prop := fnExactAimOfUptoRow.holds Try.pinned (OpenSpec.upto fnExactAimOfSpec)

/-- 'laws.FnExactRelaysToChange', WHERE WHAT IT READS IS OF BULK AT MOST 1048576: true; the input reads as it did. -/
def fnExactRelaysToChangeUptoRow : OpenClaim := { program := "ytblbapehakcomaa", sum := "27ecb5468338232e8a7dce678e4246dae8cb213493de72ed89f0ca679074dbe5", func := "loop.example/g01392/laws.FnExactRelaysToChange", spec := "fnExactRelaysToChange", unfollowed := true, recurses := true, plainKeys := false, apart := false, narrowed := true }
def FnExactRelaysToChangeUptoSaid : Prop := fnExactRelaysToChangeUptoRow.holds Try.pinned (OpenSpec.upto fnExactRelaysToChangeSpec)

/-- 'laws.FnExactSteadyStates', WHERE WHAT IT READS IS OF BULK AT MOST 1048576: true; the input reads as it did. -/
def fnExactSteadyStatesUptoRow : OpenClaim := { program := "ytblbapehakcomaa", sum := "27ecb5468338232e8a7dce678e4246dae8cb213493de72ed89f0ca679074dbe5", func := "loop.example/g01392/laws.FnExactSteadyStates", spec := "fnExactSteadyStates", unfollowed := true, recurses := true, plainKeys := false, apart := false, narrowed := true }
def FnExactSteadyStatesUptoSaid : Prop := fnExactSteadyStatesUptoRow.holds Try.pinned (OpenSpec.upto fnExactSteadyStatesSpec)

/-- 'laws.FnExactStatesReached', WHERE WHAT IT READS IS OF BULK AT MOST 1048576: true; the input reads as it did. -/
def fnExactStatesReachedUptoRow : OpenClaim := { program := "ytblbapehakcomaa", sum := "27ecb5468338232e8a7dce678e4246dae8cb213493de72ed89f0ca679074dbe5", func := "loop.example/g01392/laws.FnExactStatesReached", spec := "fnExactStatesReached", unfollowed := true, recurses := true, plainKeys := false, apart := false, narrowed := true }
def FnExactStatesReachedUptoSaid : Prop := fnExactStatesReachedUptoRow.holds Try.pinned (OpenSpec.upto fnExactStatesReachedSpec)

/-- 'laws.FnExactEndsOf', WHERE WHAT IT READS IS OF BULK AT MOST 1048576: true; the input reads as it did. -/
def fnExactEndsOfUptoRow : OpenClaim := { program := "ytblbapehakcomaa", sum := "27ecb5468338232e8a7dce678e4246dae8cb213493de72ed89f0ca679074dbe5", func := "loop.example/g01392/laws.FnExactEndsOf", spec := "fnExactEndsOf", unfollowed := true, recurses := true, plainKeys := false, apart := false, narrowed := true }
def FnExactEndsOfUptoSaid : Prop := fnExactEndsOfUptoRow.holds Try.pinned (OpenSpec.upto fnExactEndsOfSpec)

/-- 'laws.FnExactIsCritical', WHERE WHAT IT READS IS OF BULK AT MOST 1048576: true; the input reads as it did. -/
def fnExactIsCriticalUptoRow : OpenClaim := { program := "ytblbapehakcomaa", sum := "27ecb5468338232e8a7dce678e4246dae8cb213493de72ed89f0ca679074dbe5", func := "loop.example/g01392/laws.FnExactIsCritical", spec := "fnExactIsCritical", unfollowed := true, recurses := true, plainKeys := false, apart := false, narrowed := true }
def FnExactIsCriticalUptoSaid : Prop := fnExactIsCriticalUptoRow.holds Try.pinned (OpenSpec.upto fnExactIsCriticalSpec)

/-- 'laws.FnExactWholeSteps', WHERE WHAT IT READS IS OF BULK AT MOST 1048576: true; the input reads as it did. -/
def fnExactWholeStepsUptoRow : OpenClaim := { program := "ytblbapehakcomaa", sum := "27ecb5468338232e8a7dce678e4246dae8cb213493de72ed89f0ca679074dbe5", func := "loop.example/g01392/laws.FnExactWholeSteps", spec := "fnExactWholeSteps", unfollowed := true, recurses := true, plainKeys := false, apart := false, narrowed := true }
def FnExactWholeStepsUptoSaid : Prop := fnExactWholeStepsUptoRow.holds Try.pinned (OpenSpec.upto fnExactWholeStepsSpec)

/-- 'laws.FnExactRunInputs', WHERE WHAT IT READS IS OF BULK AT MOST 1048576: true; the input reads as it did. -/
def fnExactRunInputsUptoRow : OpenClaim := { program := "ytblbapehakcomaa", sum := "27ecb5468338232e8a7dce678e4246dae8cb213493de72ed89f0ca679074dbe5", func := "loop.example/g01392/laws.FnExactRunInputs", spec := "fnExactRunInputs", unfollowed := true, recurses := true, plainKeys := false, apart := false, narrowed := true }
def FnExactRunInputsUptoSaid : Prop := fnExactRunInputsUptoRow.holds Try.pinned (OpenSpec.upto fnExactRunInputsSpec)

/-- 'laws.FnExactCriticalPlaces', WHERE WHAT IT READS IS OF BULK AT MOST 1048576: true; the input reads as it did. -/
def fnExactCriticalPlacesUptoRow : OpenClaim := { program := "ytblbapehakcomaa", sum := "27ecb5468338232e8a7dce678e4246dae8cb213493de72ed89f0ca679074dbe5", func := "loop.example/g01392/laws.FnExactCriticalPlaces", spec := "fnExactCriticalPlaces", unfollowed := true, recurses := true, plainKeys := false, apart := false, narrowed := true }
def FnExactCriticalPlacesUptoSaid : Prop := fnExactCriticalPlacesUptoRow.holds Try.pinned (OpenSpec.upto fnExactCriticalPlacesSpec)

/-- 'laws.FnExactChangesBetween', WHERE WHAT IT READS IS OF BULK AT MOST 1048576: true; the input reads as it did. -/
def fnExactChangesBetweenUptoRow : OpenClaim := { program := "ytblbapehakcomaa", sum := "27ecb5468338232e8a7dce678e4246dae8cb213493de72ed89f0ca679074dbe5", func := "loop.example/g01392/laws.FnExactChangesBetween", spec := "fnExactChangesBetween", unfollowed := true, recurses := true, plainKeys := false, apart := false, narrowed := true }
def FnExactChangesBetweenUptoSaid : Prop := fnExactChangesBetweenUptoRow.holds Try.pinned (OpenSpec.upto fnExactChangesBetweenSpec)

/-- 'laws.FnExactExchangeRelays', WHERE WHAT IT READS IS OF BULK AT MOST 1048576: true; the input reads as it did. -/
def fnExactExchangeRelaysUptoRow : OpenClaim := { program := "ytblbapehakcomaa", sum := "27ecb5468338232e8a7dce678e4246dae8cb213493de72ed89f0ca679074dbe5", func := "loop.example/g01392/laws.FnExactExchangeRelays", spec := "fnExactExchangeRelays", unfollowed := true, recurses := true, plainKeys := false, apart := false, narrowed := true }
def FnExactExchangeRelaysUptoSaid : Prop := fnExactExchangeRelaysUptoRow.holds Try.pinned (OpenSpec.upto fnExactExchangeRelaysSpec)

end Rows
end Go.Proofs.Ytblbapehakcomaa

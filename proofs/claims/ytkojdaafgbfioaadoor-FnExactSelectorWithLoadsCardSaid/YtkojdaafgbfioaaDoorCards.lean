/-
  DERIVED. GIVEN WITH THE SEED: THE CARDS: each row of YtkojdaafgbfioaaDoorRows.lean that lists a variable, with what it lists TIED to the program's text (the seventh form; the later family's looks); each row that meets fmt, with fmt's text TOLD by the authors' own Lean function (tested against real Go, not proved from fmt's source: count such statements apart). THE CARD IS WHAT COUNTS. Prove the row's statement (the work); the ties are given (YtkojdaafgbfioaaDoorTie.lean); close each card by the builder's one call (the guide's Derived/Test/ToyasCard.lean, 'card_holds'). Laid BY PROGRAM, IN A SANDBOX (cutbox-door.mjs). By AI agents, Wed Nov 11 2026. No macro, syntax, notation, axiom, sorry.
-/
import Derived.Test.YtkojdaafgbfioaaDoorRows
import GoSem.ClaimSeven
namespace Go.Proofs.YtkojdaafgbfioaaDoor
namespace Rows

/-- THE TIED CARD OF 'laws.FnExactSelectorWithLoads'. -/
def fnExactSelectorWithLoadsCard : Claim7 := { stood := { row := fnExactSelectorWithLoadsRow, standIns := [], harness := (true, "d3c3ec078339226d7615503b446d27d40ed0d6637cf5e35aa7acb476c0e9ca90"), looks := false }, kinds := [], alts := [], laidByText := true, laidKinds := [.data, .data, .data], laidTests := true, laidLooks := .later }
def FnExactSelectorWithLoadsCardSaid : Prop := Claim7.holds Tryd.pinned (.plain (OpenSpec.ofChange fnExactSelectorWithLoadsSpec)) fnExactSelectorWithLoadsCard

/-- THE TIED CARD OF 'laws.FnExactFlattestLoads'. -/
def fnExactFlattestLoadsCard : Claim7 := { stood := { row := fnExactFlattestLoadsRow, standIns := [], harness := (true, "d3c3ec078339226d7615503b446d27d40ed0d6637cf5e35aa7acb476c0e9ca90"), looks := false }, kinds := [], alts := [], laidByText := true, laidKinds := [.data, .data, .data], laidTests := true, laidLooks := .later }
def FnExactFlattestLoadsCardSaid : Prop := Claim7.holds Tryd.pinned (.plain (OpenSpec.ofChange fnExactFlattestLoadsSpec)) fnExactFlattestLoadsCard

/-- THE SECOND FORM's CARD OF 'laws.FnExactSelectorWithLoads'. -/
def fnExactSelectorWithLoadsUptoCard : Claim7 := { stood := { row := fnExactSelectorWithLoadsUptoRow, standIns := [], harness := (true, "d3c3ec078339226d7615503b446d27d40ed0d6637cf5e35aa7acb476c0e9ca90"), looks := false }, kinds := [], alts := [], laidByText := true, laidKinds := [.data, .data, .data], laidTests := true, laidLooks := .later }
def FnExactSelectorWithLoadsUptoCardSaid : Prop := Claim7.holds Tryd.pinned (.plain (OpenSpec.upto fnExactSelectorWithLoadsSpec)) fnExactSelectorWithLoadsUptoCard

/-- THE SECOND FORM's CARD OF 'laws.FnExactFlattestLoads'. -/
def fnExactFlattestLoadsUptoCard : Claim7 := { stood := { row := fnExactFlattestLoadsUptoRow, standIns := [], harness := (true, "d3c3ec078339226d7615503b446d27d40ed0d6637cf5e35aa7acb476c0e9ca90"), looks := false }, kinds := [], alts := [], laidByText := true, laidKinds := [.data, .data, .data], laidTests := true, laidLooks := .later }
def FnExactFlattestLoadsUptoCardSaid : Prop := Claim7.holds Tryd.pinned (.plain (OpenSpec.upto fnExactFlattestLoadsSpec)) fnExactFlattestLoadsUptoCard
end Rows
end Go.Proofs.YtkojdaafgbfioaaDoor

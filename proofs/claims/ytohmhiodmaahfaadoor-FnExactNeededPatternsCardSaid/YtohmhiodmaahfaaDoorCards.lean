/-
  DERIVED. GIVEN WITH THE SEED: THE CARDS: each row of YtohmhiodmaahfaaDoorRows.lean that lists a variable, with what it lists TIED to the program's text (the seventh form; the later family's looks); each row that meets fmt, with fmt's text TOLD by the authors' own Lean function (tested against real Go, not proved from fmt's source: count such statements apart). THE CARD IS WHAT COUNTS. Prove the row's statement (the work); the ties are given (YtohmhiodmaahfaaDoorTie.lean); close each card by the builder's one call (the guide's Derived/Test/ToyasCard.lean, 'card_holds'). Laid BY PROGRAM, IN A SANDBOX (cutbox-door.mjs). By AI agents, Wed Nov 11 2026. No macro, syntax, notation, axiom, sorry.
-/
import Derived.Test.YtohmhiodmaahfaaDoorRows
import GoSem.ClaimSeven
namespace Go.Proofs.YtohmhiodmaahfaaDoor
namespace Rows

/-- THE TIED CARD OF 'laws.FnExactValueWithDoubts'. -/
def fnExactValueWithDoubtsCard : Claim7 := { stood := { row := fnExactValueWithDoubtsRow, standIns := [], harness := (true, "ad47cf173405a2fada094202ba21ad890e57d798de1c85bc3ae0be0e6f4265d1"), looks := false }, kinds := [], alts := [], laidByText := true, laidKinds := [.data, .pinned], laidTests := true, laidLooks := .later }
def FnExactValueWithDoubtsCardSaid : Prop := Claim7.holds Tryd.pinned (.plain (OpenSpec.ofChange fnExactValueWithDoubtsSpec)) fnExactValueWithDoubtsCard

/-- THE TIED CARD OF 'laws.FnExactIsImplied'. -/
def fnExactIsImpliedCard : Claim7 := { stood := { row := fnExactIsImpliedRow, standIns := [], harness := (true, "ad47cf173405a2fada094202ba21ad890e57d798de1c85bc3ae0be0e6f4265d1"), looks := false }, kinds := [], alts := [], laidByText := true, laidKinds := [.data, .pinned], laidTests := true, laidLooks := .later }
def FnExactIsImpliedCardSaid : Prop := Claim7.holds Tryd.pinned (.plain (OpenSpec.ofChange fnExactIsImpliedSpec)) fnExactIsImpliedCard

/-- THE TIED CARD OF 'laws.FnExactRowsCovered'. -/
def fnExactRowsCoveredCard : Claim7 := { stood := { row := fnExactRowsCoveredRow, standIns := [], harness := (true, "ad47cf173405a2fada094202ba21ad890e57d798de1c85bc3ae0be0e6f4265d1"), looks := false }, kinds := [], alts := [], laidByText := true, laidKinds := [.data, .pinned], laidTests := true, laidLooks := .later }
def FnExactRowsCoveredCardSaid : Prop := Claim7.holds Tryd.pinned (.plain (OpenSpec.ofChange fnExactRowsCoveredSpec)) fnExactRowsCoveredCard

/-- THE TIED CARD OF 'laws.FnExactPrimePatterns'. -/
def fnExactPrimePatternsCard : Claim7 := { stood := { row := fnExactPrimePatternsRow, standIns := [], harness := (true, "ad47cf173405a2fada094202ba21ad890e57d798de1c85bc3ae0be0e6f4265d1"), looks := false }, kinds := [], alts := [], laidByText := true, laidKinds := [.data, .pinned], laidTests := true, laidLooks := .later }
def FnExactPrimePatternsCardSaid : Prop := Claim7.holds Tryd.pinned (.plain (OpenSpec.ofChange fnExactPrimePatternsSpec)) fnExactPrimePatternsCard

/-- THE TIED CARD OF 'laws.FnExactNeededPatterns'. -/
def fnExactNeededPatternsCard : Claim7 := { stood := { row := fnExactNeededPatternsRow, standIns := [], harness := (true, "ad47cf173405a2fada094202ba21ad890e57d798de1c85bc3ae0be0e6f4265d1"), looks := false }, kinds := [], alts := [], laidByText := true, laidKinds := [.data, .pinned], laidTests := true, laidLooks := .later }
def FnExactNeededPatternsCardSaid : Prop := Claim7.holds Tryd.pinned (.plain (OpenSpec.ofChange fnExactNeededPatternsSpec)) fnExactNeededPatternsCard

/-- THE TIED CARD OF 'laws.FnExactSafeFormula'. -/
def fnExactSafeFormulaCard : Claim7 := { stood := { row := fnExactSafeFormulaRow, standIns := [], harness := (true, "ad47cf173405a2fada094202ba21ad890e57d798de1c85bc3ae0be0e6f4265d1"), looks := false }, kinds := [], alts := [], laidByText := true, laidKinds := [.data, .pinned], laidTests := true, laidLooks := .later }
def FnExactSafeFormulaCardSaid : Prop := Claim7.holds Tryd.pinned (.plain (OpenSpec.ofChange fnExactSafeFormulaSpec)) fnExactSafeFormulaCard

/-- THE SECOND FORM's CARD OF 'laws.FnExactValueWithDoubts'. -/
def fnExactValueWithDoubtsUptoCard : Claim7 := { stood := { row := fnExactValueWithDoubtsUptoRow, standIns := [], harness := (true, "ad47cf173405a2fada094202ba21ad890e57d798de1c85bc3ae0be0e6f4265d1"), looks := false }, kinds := [], alts := [], laidByText := true, laidKinds := [.data, .pinned], laidTests := true, laidLooks := .later }
def FnExactValueWithDoubtsUptoCardSaid : Prop := Claim7.holds Tryd.pinned (.plain (OpenSpec.upto fnExactValueWithDoubtsSpec)) fnExactValueWithDoubtsUptoCard

/-- THE SECOND FORM's CARD OF 'laws.FnExactIsImplied'. -/
def fnExactIsImpliedUptoCard : Claim7 := { stood := { row := fnExactIsImpliedUptoRow, standIns := [], harness := (true, "ad47cf173405a2fada094202ba21ad890e57d798de1c85bc3ae0be0e6f4265d1"), looks := false }, kinds := [], alts := [], laidByText := true, laidKinds := [.data, .pinned], laidTests := true, laidLooks := .later }
def FnExactIsImpliedUptoCardSaid : Prop := Claim7.holds Tryd.pinned (.plain (OpenSpec.upto fnExactIsImpliedSpec)) fnExactIsImpliedUptoCard

/-- THE SECOND FORM's CARD OF 'laws.FnExactRowsCovered'. -/
def fnExactRowsCoveredUptoCard : Claim7 := { stood := { row := fnExactRowsCoveredUptoRow, standIns := [], harness := (true, "ad47cf173405a2fada094202ba21ad890e57d798de1c85bc3ae0be0e6f4265d1"), looks := false }, kinds := [], alts := [], laidByText := true, laidKinds := [.data, .pinned], laidTests := true, laidLooks := .later }
def FnExactRowsCoveredUptoCardSaid : Prop := Claim7.holds Tryd.pinned (.plain (OpenSpec.upto fnExactRowsCoveredSpec)) fnExactRowsCoveredUptoCard

/-- THE SECOND FORM's CARD OF 'laws.FnExactPrimePatterns'. -/
def fnExactPrimePatternsUptoCard : Claim7 := { stood := { row := fnExactPrimePatternsUptoRow, standIns := [], harness := (true, "ad47cf173405a2fada094202ba21ad890e57d798de1c85bc3ae0be0e6f4265d1"), looks := false }, kinds := [], alts := [], laidByText := true, laidKinds := [.data, .pinned], laidTests := true, laidLooks := .later }
def FnExactPrimePatternsUptoCardSaid : Prop := Claim7.holds Tryd.pinned (.plain (OpenSpec.upto fnExactPrimePatternsSpec)) fnExactPrimePatternsUptoCard

/-- THE SECOND FORM's CARD OF 'laws.FnExactNeededPatterns'. -/
def fnExactNeededPatternsUptoCard : Claim7 := { stood := { row := fnExactNeededPatternsUptoRow, standIns := [], harness := (true, "ad47cf173405a2fada094202ba21ad890e57d798de1c85bc3ae0be0e6f4265d1"), looks := false }, kinds := [], alts := [], laidByText := true, laidKinds := [.data, .pinned], laidTests := true, laidLooks := .later }
def FnExactNeededPatternsUptoCardSaid : Prop := Claim7.holds Tryd.pinned (.plain (OpenSpec.upto fnExactNeededPatternsSpec)) fnExactNeededPatternsUptoCard

/-- THE SECOND FORM's CARD OF 'laws.FnExactSafeFormula'. -/
def fnExactSafeFormulaUptoCard : Claim7 := { stood := { row := fnExactSafeFormulaUptoRow, standIns := [], harness := (true, "ad47cf173405a2fada094202ba21ad890e57d798de1c85bc3ae0be0e6f4265d1"), looks := false }, kinds := [], alts := [], laidByText := true, laidKinds := [.data, .pinned], laidTests := true, laidLooks := .later }
def FnExactSafeFormulaUptoCardSaid : Prop := Claim7.holds Tryd.pinned (.plain (OpenSpec.upto fnExactSafeFormulaSpec)) fnExactSafeFormulaUptoCard
end Rows
end Go.Proofs.YtohmhiodmaahfaaDoor

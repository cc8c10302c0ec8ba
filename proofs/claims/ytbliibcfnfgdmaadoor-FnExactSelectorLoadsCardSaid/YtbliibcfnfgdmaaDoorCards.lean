/-
  DERIVED. GIVEN WITH THE SEED: THE CARDS: each row of YtbliibcfnfgdmaaDoorRows.lean that lists a variable, with what it lists TIED to the program's text (the seventh form; the later family's looks); each row that meets fmt, with fmt's text TOLD by the authors' own Lean function (tested against real Go, not proved from fmt's source: count such statements apart). THE CARD IS WHAT COUNTS. Prove the row's statement (the work); the ties are given (YtbliibcfnfgdmaaDoorTie.lean); close each card by the builder's one call (the guide's Derived/Test/ToyasCard.lean, 'card_holds'). Laid BY PROGRAM, IN A SANDBOX (cutbox-door.mjs). By AI agents, Wed Nov 11 2026. No macro, syntax, notation, axiom, sorry.
-/
import Derived.Test.YtbliibcfnfgdmaaDoorRows
import GoSem.ClaimSeven
namespace Go.Proofs.YtbliibcfnfgdmaaDoor
namespace Rows

/-- THE TIED CARD OF 'laws.FnExactStraightSelector'. -/
def fnExactStraightSelectorCard : Claim7 := { stood := { row := fnExactStraightSelectorRow, standIns := [], harness := (true, "19a47eae8d67cc014239d38363df0264066f4e51cffc7b1a9fdfdbfd872efd30"), looks := false }, kinds := [], alts := [], laidByText := true, laidKinds := [.data, .data, .data], laidTests := true, laidLooks := .later }
def FnExactStraightSelectorCardSaid : Prop := Claim7.holds Tryd.pinned (.plain (OpenSpec.ofChange fnExactStraightSelectorSpec)) fnExactStraightSelectorCard

/-- THE TIED CARD OF 'laws.FnExactSelectorLoads'. -/
def fnExactSelectorLoadsCard : Claim7 := { stood := { row := fnExactSelectorLoadsRow, standIns := [], harness := (true, "19a47eae8d67cc014239d38363df0264066f4e51cffc7b1a9fdfdbfd872efd30"), looks := false }, kinds := [], alts := [], laidByText := true, laidKinds := [.data, .data, .data], laidTests := true, laidLooks := .later }
def FnExactSelectorLoadsCardSaid : Prop := Claim7.holds Tryd.pinned (.plain (OpenSpec.ofChange fnExactSelectorLoadsSpec)) fnExactSelectorLoadsCard

/-- THE SECOND FORM's CARD OF 'laws.FnExactStraightSelector'. -/
def fnExactStraightSelectorUptoCard : Claim7 := { stood := { row := fnExactStraightSelectorUptoRow, standIns := [], harness := (true, "19a47eae8d67cc014239d38363df0264066f4e51cffc7b1a9fdfdbfd872efd30"), looks := false }, kinds := [], alts := [], laidByText := true, laidKinds := [.data, .data, .data], laidTests := true, laidLooks := .later }
def FnExactStraightSelectorUptoCardSaid : Prop := Claim7.holds Tryd.pinned (.plain (OpenSpec.upto fnExactStraightSelectorSpec)) fnExactStraightSelectorUptoCard

/-- THE SECOND FORM's CARD OF 'laws.FnExactSelectorLoads'. -/
def fnExactSelectorLoadsUptoCard : Claim7 := { stood := { row := fnExactSelectorLoadsUptoRow, standIns := [], harness := (true, "19a47eae8d67cc014239d38363df0264066f4e51cffc7b1a9fdfdbfd872efd30"), looks := false }, kinds := [], alts := [], laidByText := true, laidKinds := [.data, .data, .data], laidTests := true, laidLooks := .later }
def FnExactSelectorLoadsUptoCardSaid : Prop := Claim7.holds Tryd.pinned (.plain (OpenSpec.upto fnExactSelectorLoadsSpec)) fnExactSelectorLoadsUptoCard
end Rows
end Go.Proofs.YtbliibcfnfgdmaaDoor

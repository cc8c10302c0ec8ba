/-
  DERIVED. GIVEN WITH THE SEED: THE CARDS: each row of YtapcblibokkhcaaDoorRows.lean that lists a variable, with what it lists TIED to the program's text (the seventh form; the later family's looks); each row that meets fmt, with fmt's text TOLD by the authors' own Lean function (tested against real Go, not proved from fmt's source: count such statements apart). THE CARD IS WHAT COUNTS. Prove the row's statement (the work); the ties are given (YtapcblibokkhcaaDoorTie.lean); close each card by the builder's one call (the guide's Derived/Test/ToyasCard.lean, 'card_holds'). Laid BY PROGRAM, IN A SANDBOX (cutbox-door.mjs). By AI agents, Wed Nov 11 2026. No macro, syntax, notation, axiom, sorry.
-/
import Derived.Test.YtapcblibokkhcaaDoorRows
import GoSem.ClaimSeven
namespace Go.Proofs.YtapcblibokkhcaaDoor
namespace Rows

/-- THE TIED CARD OF 'laws.FnExactTableText'. -/
def fnExactTableTextCard : Claim7 := { stood := { row := fnExactTableTextRow, standIns := [], harness := (true, "3e446bac88e83f5c469b56b560bc096fff408a1165df71283515b050138e7eb6"), looks := true }, kinds := [], alts := [], laidByText := true, laidKinds := [.data, .data, .data], laidTests := true, laidLooks := .later }
def FnExactTableTextCardSaid : Prop := Claim7.holds Tryd.pinned (.plain (OpenSpec.ofChange fnExactTableTextSpec)) fnExactTableTextCard

/-- THE TIED CARD OF 'laws.FnExactIsSymmetric'. -/
def fnExactIsSymmetricCard : Claim7 := { stood := { row := fnExactIsSymmetricRow, standIns := [], harness := (true, "3e446bac88e83f5c469b56b560bc096fff408a1165df71283515b050138e7eb6"), looks := true }, kinds := [], alts := [], laidByText := true, laidKinds := [.sentinel], laidTests := true, laidLooks := .later }
def FnExactIsSymmetricCardSaid : Prop := Claim7.holds Tryd.pinned (.plain (OpenSpec.ofChange fnExactIsSymmetricSpec)) fnExactIsSymmetricCard

/-- THE TIED CARD OF 'laws.FnExactNumbersOf'. -/
def fnExactNumbersOfCard : Claim7 := { stood := { row := fnExactNumbersOfRow, standIns := [], harness := (true, "3e446bac88e83f5c469b56b560bc096fff408a1165df71283515b050138e7eb6"), looks := true }, kinds := [], alts := [], laidByText := true, laidKinds := [.sentinel], laidTests := true, laidLooks := .later }
def FnExactNumbersOfCardSaid : Prop := Claim7.holds Tryd.pinned (.plain (OpenSpec.ofChange fnExactNumbersOfSpec)) fnExactNumbersOfCard

/-- THE TIED CARD OF 'laws.FnExactInputGroups'. -/
def fnExactInputGroupsCard : Claim7 := { stood := { row := fnExactInputGroupsRow, standIns := [], harness := (true, "3e446bac88e83f5c469b56b560bc096fff408a1165df71283515b050138e7eb6"), looks := true }, kinds := [], alts := [], laidByText := true, laidKinds := [.sentinel], laidTests := true, laidLooks := .later }
def FnExactInputGroupsCardSaid : Prop := Claim7.holds Tryd.pinned (.plain (OpenSpec.ofChange fnExactInputGroupsSpec)) fnExactInputGroupsCard

/-- THE TIED CARD OF 'laws.FnExactTurnsToSymmetric'. -/
def fnExactTurnsToSymmetricCard : Claim7 := { stood := { row := fnExactTurnsToSymmetricRow, standIns := [], harness := (true, "3e446bac88e83f5c469b56b560bc096fff408a1165df71283515b050138e7eb6"), looks := true }, kinds := [], alts := [], laidByText := true, laidKinds := [.sentinel], laidTests := true, laidLooks := .later }
def FnExactTurnsToSymmetricCardSaid : Prop := Claim7.holds Tryd.pinned (.plain (OpenSpec.ofChange fnExactTurnsToSymmetricSpec)) fnExactTurnsToSymmetricCard

/-- THE SECOND FORM's CARD OF 'laws.FnExactTableText'. -/
def fnExactTableTextUptoCard : Claim7 := { stood := { row := fnExactTableTextUptoRow, standIns := [], harness := (true, "3e446bac88e83f5c469b56b560bc096fff408a1165df71283515b050138e7eb6"), looks := true }, kinds := [], alts := [], laidByText := true, laidKinds := [.data, .data, .data], laidTests := true, laidLooks := .later }
def FnExactTableTextUptoCardSaid : Prop := Claim7.holds Tryd.pinned (.plain (OpenSpec.upto fnExactTableTextSpec)) fnExactTableTextUptoCard

/-- THE SECOND FORM's CARD OF 'laws.FnExactIsSymmetric'. -/
def fnExactIsSymmetricUptoCard : Claim7 := { stood := { row := fnExactIsSymmetricUptoRow, standIns := [], harness := (true, "3e446bac88e83f5c469b56b560bc096fff408a1165df71283515b050138e7eb6"), looks := true }, kinds := [], alts := [], laidByText := true, laidKinds := [.sentinel], laidTests := true, laidLooks := .later }
def FnExactIsSymmetricUptoCardSaid : Prop := Claim7.holds Tryd.pinned (.plain (OpenSpec.upto fnExactIsSymmetricSpec)) fnExactIsSymmetricUptoCard

/-- THE SECOND FORM's CARD OF 'laws.FnExactNumbersOf'. -/
def fnExactNumbersOfUptoCard : Claim7 := { stood := { row := fnExactNumbersOfUptoRow, standIns := [], harness := (true, "3e446bac88e83f5c469b56b560bc096fff408a1165df71283515b050138e7eb6"), looks := true }, kinds := [], alts := [], laidByText := true, laidKinds := [.sentinel], laidTests := true, laidLooks := .later }
def FnExactNumbersOfUptoCardSaid : Prop := Claim7.holds Tryd.pinned (.plain (OpenSpec.upto fnExactNumbersOfSpec)) fnExactNumbersOfUptoCard

/-- THE SECOND FORM's CARD OF 'laws.FnExactInputGroups'. -/
def fnExactInputGroupsUptoCard : Claim7 := { stood := { row := fnExactInputGroupsUptoRow, standIns := [], harness := (true, "3e446bac88e83f5c469b56b560bc096fff408a1165df71283515b050138e7eb6"), looks := true }, kinds := [], alts := [], laidByText := true, laidKinds := [.sentinel], laidTests := true, laidLooks := .later }
def FnExactInputGroupsUptoCardSaid : Prop := Claim7.holds Tryd.pinned (.plain (OpenSpec.upto fnExactInputGroupsSpec)) fnExactInputGroupsUptoCard

/-- THE SECOND FORM's CARD OF 'laws.FnExactTurnsToSymmetric'. -/
def fnExactTurnsToSymmetricUptoCard : Claim7 := { stood := { row := fnExactTurnsToSymmetricUptoRow, standIns := [], harness := (true, "3e446bac88e83f5c469b56b560bc096fff408a1165df71283515b050138e7eb6"), looks := true }, kinds := [], alts := [], laidByText := true, laidKinds := [.sentinel], laidTests := true, laidLooks := .later }
def FnExactTurnsToSymmetricUptoCardSaid : Prop := Claim7.holds Tryd.pinned (.plain (OpenSpec.upto fnExactTurnsToSymmetricSpec)) fnExactTurnsToSymmetricUptoCard
end Rows
end Go.Proofs.YtapcblibokkhcaaDoor

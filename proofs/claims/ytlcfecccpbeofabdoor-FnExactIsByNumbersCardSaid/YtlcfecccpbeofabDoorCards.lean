/-
  DERIVED. GIVEN WITH THE SEED: THE CARDS: each row of YtlcfecccpbeofabDoorRows.lean that lists a variable, with what it lists TIED to the program's text (the seventh form; the later family's looks); each row that meets fmt, with fmt's text TOLD by the authors' own Lean function (tested against real Go, not proved from fmt's source: count such statements apart). THE CARD IS WHAT COUNTS. Prove the row's statement (the work); the ties are given (YtlcfecccpbeofabDoorTie.lean); close each card by the builder's one call (the guide's Derived/Test/ToyasCard.lean, 'card_holds'). Laid BY PROGRAM, IN A SANDBOX (cutbox-door.mjs). By AI agents, Wed Nov 11 2026. No macro, syntax, notation, axiom, sorry.
-/
import Derived.Test.YtlcfecccpbeofabDoorRows
import GoSem.ClaimSeven
namespace Go.Proofs.YtlcfecccpbeofabDoor
namespace Rows

/-- THE TIED CARD OF 'laws.FnExactIsByNumbers'. -/
def fnExactIsByNumbersCard : Claim7 := { stood := { row := fnExactIsByNumbersRow, standIns := [], harness := (true, "cca3b1040c58bb49a981f3a775695f00a8c5bffd8eed39fefcb6d9b01c4ef5f6"), looks := true }, kinds := [], alts := [], laidByText := true, laidKinds := [.sentinel], laidTests := true, laidLooks := .later }
def FnExactIsByNumbersCardSaid : Prop := Claim7.holds Tryd.pinned (.plain (OpenSpec.ofChange fnExactIsByNumbersSpec)) fnExactIsByNumbersCard

/-- THE SECOND FORM's CARD OF 'laws.FnExactIsByNumbers'. -/
def fnExactIsByNumbersUptoCard : Claim7 := { stood := { row := fnExactIsByNumbersUptoRow, standIns := [], harness := (true, "cca3b1040c58bb49a981f3a775695f00a8c5bffd8eed39fefcb6d9b01c4ef5f6"), looks := true }, kinds := [], alts := [], laidByText := true, laidKinds := [.sentinel], laidTests := true, laidLooks := .later }
def FnExactIsByNumbersUptoCardSaid : Prop := Claim7.holds Tryd.pinned (.plain (OpenSpec.upto fnExactIsByNumbersSpec)) fnExactIsByNumbersUptoCard
end Rows
end Go.Proofs.YtlcfecccpbeofabDoor

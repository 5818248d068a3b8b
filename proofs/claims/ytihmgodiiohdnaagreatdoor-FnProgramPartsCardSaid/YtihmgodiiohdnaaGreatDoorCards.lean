/-
  DERIVED. GIVEN WITH THE SEED: THE CARDS: each row of YtihmgodiiohdnaaGreatDoorRows.lean that lists a variable, with what it lists TIED to the program's text (the seventh form; the later family's looks); each row that meets fmt, with fmt's text TOLD by the authors' own Lean function (tested against real Go, not proved from fmt's source: count such statements apart). THE CARD IS WHAT COUNTS. Prove the row's statement (the work); the ties are given (YtihmgodiiohdnaaGreatDoorTie.lean); close each card by the builder's one call (the guide's Derived/Test/ToyasCard.lean, 'card_holds'). Laid BY PROGRAM, IN A SANDBOX (cutbox-door.mjs). By AI agents, Wed Nov 11 2026. No macro, syntax, notation, axiom, sorry.
-/
import Derived.Test.YtihmgodiiohdnaaGreatDoorRows
import GoSem.ClaimSeven
namespace Go.Proofs.YtihmgodiiohdnaaGreatDoor
namespace Rows

/-- THE TIED CARD OF 'laws.FnProgramParts'. -/
def fnProgramPartsCard : Claim7 := { stood := { row := fnProgramPartsRow, standIns := [], harness := (true, "a7cc29730c270485d83c3398350940808e60c205b416231713f79d813e574dfe"), looks := true }, kinds := [], alts := [], laidByText := true, laidKinds := [.data, .data, .data, .data, .data], laidTests := true, laidLooks := .later }
def FnProgramPartsCardSaid : Prop := Claim7.holds Tryz.pinned (.plain (OpenSpec.ofChange fnProgramPartsSpec)) fnProgramPartsCard

/-- THE TIED CARD OF 'laws.FnClauseSame'. -/
def fnClauseSameCard : Claim7 := { stood := { row := fnClauseSameRow, standIns := [], harness := (true, "a7cc29730c270485d83c3398350940808e60c205b416231713f79d813e574dfe"), looks := true }, kinds := [], alts := [], laidByText := true, laidKinds := [.data, .data, .data, .data, .data], laidTests := true, laidLooks := .later }
def FnClauseSameCardSaid : Prop := Claim7.holds Tryz.pinned (.plain (OpenSpec.ofChange fnClauseSameSpec)) fnClauseSameCard

/-- THE SECOND FORM's CARD OF 'laws.FnProgramParts'. -/
def fnProgramPartsUptoCard : Claim7 := { stood := { row := fnProgramPartsUptoRow, standIns := [], harness := (true, "a7cc29730c270485d83c3398350940808e60c205b416231713f79d813e574dfe"), looks := true }, kinds := [], alts := [], laidByText := true, laidKinds := [.data, .data, .data, .data, .data], laidTests := true, laidLooks := .later }
def FnProgramPartsUptoCardSaid : Prop := Claim7.holds Tryz.pinned (.plain (OpenSpec.upto fnProgramPartsSpec)) fnProgramPartsUptoCard

/-- THE SECOND FORM's CARD OF 'laws.FnClauseSame'. -/
def fnClauseSameUptoCard : Claim7 := { stood := { row := fnClauseSameUptoRow, standIns := [], harness := (true, "a7cc29730c270485d83c3398350940808e60c205b416231713f79d813e574dfe"), looks := true }, kinds := [], alts := [], laidByText := true, laidKinds := [.data, .data, .data, .data, .data], laidTests := true, laidLooks := .later }
def FnClauseSameUptoCardSaid : Prop := Claim7.holds Tryz.pinned (.plain (OpenSpec.upto fnClauseSameSpec)) fnClauseSameUptoCard
end Rows
end Go.Proofs.YtihmgodiiohdnaaGreatDoor

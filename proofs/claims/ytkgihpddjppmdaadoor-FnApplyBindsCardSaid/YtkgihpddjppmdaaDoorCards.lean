/-
  DERIVED. GIVEN WITH THE SEED: THE CARDS: each row of YtkgihpddjppmdaaDoorRows.lean that lists a variable, with what it lists TIED to the program's text (the seventh form; the later family's looks); each row that meets fmt, with fmt's text TOLD by the authors' own Lean function (tested against real Go, not proved from fmt's source: count such statements apart). THE CARD IS WHAT COUNTS. Prove the row's statement (the work); the ties are given (YtkgihpddjppmdaaDoorTie.lean); close each card by the builder's one call (the guide's Derived/Test/ToyasCard.lean, 'card_holds'). Laid BY PROGRAM, IN A SANDBOX (cutbox-door.mjs). By AI agents, Wed Nov 11 2026. No macro, syntax, notation, axiom, sorry.
-/
import Derived.Test.YtkgihpddjppmdaaDoorRows
import GoSem.ClaimSeven
namespace Go.Proofs.YtkgihpddjppmdaaDoor
namespace Rows

/-- THE TIED CARD OF 'laws.FnApplyBinds'. -/
def fnApplyBindsCard : Claim7 := { stood := { row := fnApplyBindsRow, standIns := [], harness := (true, "0de1ac6bddedb61ae1507e776dccb67a5c1e410b17641d8853f7b7d5af4e876e"), looks := true }, kinds := [], alts := [], laidByText := true, laidKinds := [.data], laidTests := true, laidLooks := .later }
def FnApplyBindsCardSaid : Prop := Claim7.holds Tryd.pinned (.plain (OpenSpec.ofChange fnApplyBindsSpec)) fnApplyBindsCard

/-- THE SECOND FORM's CARD OF 'laws.FnApplyBinds'. -/
def fnApplyBindsUptoCard : Claim7 := { stood := { row := fnApplyBindsUptoRow, standIns := [], harness := (true, "0de1ac6bddedb61ae1507e776dccb67a5c1e410b17641d8853f7b7d5af4e876e"), looks := true }, kinds := [], alts := [], laidByText := true, laidKinds := [.data], laidTests := true, laidLooks := .later }
def FnApplyBindsUptoCardSaid : Prop := Claim7.holds Tryd.pinned (.plain (OpenSpec.upto fnApplyBindsSpec)) fnApplyBindsUptoCard
end Rows
end Go.Proofs.YtkgihpddjppmdaaDoor

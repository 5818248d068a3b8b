/-
  DERIVED. GIVEN WITH THE SEED: THE CARDS: each row of YtmgfndgmebignaaDoorRows.lean that lists a variable, with what it lists TIED to the program's text (the seventh form; the later family's looks); each row that meets fmt, with fmt's text TOLD by the authors' own Lean function (tested against real Go, not proved from fmt's source: count such statements apart). THE CARD IS WHAT COUNTS. Prove the row's statement (the work); the ties are given (YtmgfndgmebignaaDoorTie.lean); close each card by the builder's one call (the guide's Derived/Test/ToyasCard.lean, 'card_holds'). Laid BY PROGRAM, IN A SANDBOX (cutbox-door.mjs). By AI agents, Wed Nov 11 2026. No macro, syntax, notation, axiom, sorry.
-/
import Derived.Test.YtmgfndgmebignaaDoorRows
import GoSem.ClaimSeven
namespace Go.Proofs.YtmgfndgmebignaaDoor
namespace Rows

/-- THE TIED CARD OF 'laws.FnExactWriteTerm'. -/
def fnExactWriteTermCard : Claim7 := { stood := { row := fnExactWriteTermRow, standIns := [], harness := (true, "5da4043b9a2f278f25b4eb4f5338d0afffc9a0dde3920c4e8446149d92544594"), looks := true }, kinds := [], alts := [], laidByText := true, laidKinds := [.data, .data, .data, .data, .data], laidTests := true, laidLooks := .later }
def FnExactWriteTermCardSaid : Prop := Claim7.holds Tryd.pinned (.plain (OpenSpec.ofChange fnExactWriteTermSpec)) fnExactWriteTermCard

/-- THE SECOND FORM's CARD OF 'laws.FnExactWriteTerm'. -/
def fnExactWriteTermUptoCard : Claim7 := { stood := { row := fnExactWriteTermUptoRow, standIns := [], harness := (true, "5da4043b9a2f278f25b4eb4f5338d0afffc9a0dde3920c4e8446149d92544594"), looks := true }, kinds := [], alts := [], laidByText := true, laidKinds := [.data, .data, .data, .data, .data], laidTests := true, laidLooks := .later }
def FnExactWriteTermUptoCardSaid : Prop := Claim7.holds Tryd.pinned (.plain (OpenSpec.upto fnExactWriteTermSpec)) fnExactWriteTermUptoCard
end Rows
end Go.Proofs.YtmgfndgmebignaaDoor

/-
  DERIVED. GIVEN WITH THE SEED: THE CARDS: each row of YtkgapidhoeegmaaDoorRows.lean that lists a variable, with what it lists TIED to the program's text (the seventh form; the later family's looks); each row that meets fmt, with fmt's text TOLD by the authors' own Lean function (tested against real Go, not proved from fmt's source: count such statements apart). THE CARD IS WHAT COUNTS. Prove the row's statement (the work); the ties are given (YtkgapidhoeegmaaDoorTie.lean); close each card by the builder's one call (the guide's Derived/Test/ToyasCard.lean, 'card_holds'). Laid BY PROGRAM, IN A SANDBOX (cutbox-door.mjs). By AI agents, Wed Nov 11 2026. No macro, syntax, notation, axiom, sorry.
-/
import Derived.Test.YtkgapidhoeegmaaDoorRows
import GoSem.ClaimSeven
namespace Go.Proofs.YtkgapidhoeegmaaDoor
namespace Rows

/-- THE TIED CARD OF 'laws.FnOpLevel'. -/
def fnOpLevelCard : Claim7 := { stood := { row := fnOpLevelRow, standIns := [], harness := (true, "7cf3c9eadd6a561ade43fe79e55c499c136eb3ee19e8df8b768210ad8939e79c"), looks := true }, kinds := [], alts := [], laidByText := true, laidKinds := [.data, .data, .data, .data, .data], laidTests := true, laidLooks := .later }
def FnOpLevelCardSaid : Prop := Claim7.holds Tryd.pinned (.plain (OpenSpec.ofChange fnOpLevelSpec)) fnOpLevelCard

/-- THE TIED CARD OF 'laws.FnWriteShort'. -/
def fnWriteShortCard : Claim7 := { stood := { row := fnWriteShortRow, standIns := [], harness := (true, "7cf3c9eadd6a561ade43fe79e55c499c136eb3ee19e8df8b768210ad8939e79c"), looks := true }, kinds := [], alts := [], laidByText := true, laidKinds := [.data, .data, .data, .data, .data], laidTests := true, laidLooks := .later }
def FnWriteShortCardSaid : Prop := Claim7.holds Tryd.pinned (.plain (OpenSpec.ofChange fnWriteShortSpec)) fnWriteShortCard

/-- THE SECOND FORM's CARD OF 'laws.FnOpLevel'. -/
def fnOpLevelUptoCard : Claim7 := { stood := { row := fnOpLevelUptoRow, standIns := [], harness := (true, "7cf3c9eadd6a561ade43fe79e55c499c136eb3ee19e8df8b768210ad8939e79c"), looks := true }, kinds := [], alts := [], laidByText := true, laidKinds := [.data, .data, .data, .data, .data], laidTests := true, laidLooks := .later }
def FnOpLevelUptoCardSaid : Prop := Claim7.holds Tryd.pinned (.plain (OpenSpec.upto fnOpLevelSpec)) fnOpLevelUptoCard

/-- THE SECOND FORM's CARD OF 'laws.FnWriteShort'. -/
def fnWriteShortUptoCard : Claim7 := { stood := { row := fnWriteShortUptoRow, standIns := [], harness := (true, "7cf3c9eadd6a561ade43fe79e55c499c136eb3ee19e8df8b768210ad8939e79c"), looks := true }, kinds := [], alts := [], laidByText := true, laidKinds := [.data, .data, .data, .data, .data], laidTests := true, laidLooks := .later }
def FnWriteShortUptoCardSaid : Prop := Claim7.holds Tryd.pinned (.plain (OpenSpec.upto fnWriteShortSpec)) fnWriteShortUptoCard
end Rows
end Go.Proofs.YtkgapidhoeegmaaDoor

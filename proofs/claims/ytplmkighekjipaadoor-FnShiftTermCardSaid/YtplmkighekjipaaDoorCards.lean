/-
  DERIVED. GIVEN WITH THE SEED: THE CARDS: each row of YtplmkighekjipaaDoorRows.lean that lists a variable, with what it lists TIED to the program's text (the seventh form; the later family's looks); each row that meets fmt, with fmt's text TOLD by the authors' own Lean function (tested against real Go, not proved from fmt's source: count such statements apart). THE CARD IS WHAT COUNTS. Prove the row's statement (the work); the ties are given (YtplmkighekjipaaDoorTie.lean); close each card by the builder's one call (the guide's Derived/Test/ToyasCard.lean, 'card_holds'). Laid BY PROGRAM, IN A SANDBOX (cutbox-door.mjs). By AI agents, Wed Nov 11 2026. No macro, syntax, notation, axiom, sorry.
-/
import Derived.Test.YtplmkighekjipaaDoorRows
import GoSem.ClaimSeven
namespace Go.Proofs.YtplmkighekjipaaDoor
namespace Rows

/-- THE TIED CARD OF 'laws.FnExactShiftTerm'. -/
def fnExactShiftTermCard : Claim7 := { stood := { row := fnExactShiftTermRow, standIns := [], harness := (true, "0fd01f2c5f44a626b0d0f96237a1f5bea73e3fe4de3b8af3edf291bd5c7ee497"), looks := true }, kinds := [], alts := [], laidByText := true, laidKinds := [.data], laidTests := true, laidLooks := .later }
def FnExactShiftTermCardSaid : Prop := Claim7.holds Tryd.pinned (.plain (OpenSpec.ofChange fnExactShiftTermSpec)) fnExactShiftTermCard

/-- THE TIED CARD OF 'laws.FnShiftTerm'. -/
def fnShiftTermCard : Claim7 := { stood := { row := fnShiftTermRow, standIns := [], harness := (true, "0fd01f2c5f44a626b0d0f96237a1f5bea73e3fe4de3b8af3edf291bd5c7ee497"), looks := true }, kinds := [], alts := [], laidByText := true, laidKinds := [.data], laidTests := true, laidLooks := .later }
def FnShiftTermCardSaid : Prop := Claim7.holds Tryd.pinned (.plain (OpenSpec.ofChange fnShiftTermSpec)) fnShiftTermCard

/-- THE TIED CARD OF 'laws.FnExactUnifyTerms'. -/
def fnExactUnifyTermsCard : Claim7 := { stood := { row := fnExactUnifyTermsRow, standIns := [], harness := (true, "0fd01f2c5f44a626b0d0f96237a1f5bea73e3fe4de3b8af3edf291bd5c7ee497"), looks := true }, kinds := [], alts := [], laidByText := true, laidKinds := [.data], laidTests := true, laidLooks := .later }
def FnExactUnifyTermsCardSaid : Prop := Claim7.holds Tryd.pinned (.plain (OpenSpec.ofChange fnExactUnifyTermsSpec)) fnExactUnifyTermsCard

/-- THE TIED CARD OF 'laws.FnExactGeneralize'. -/
def fnExactGeneralizeCard : Claim7 := { stood := { row := fnExactGeneralizeRow, standIns := [], harness := (true, "0fd01f2c5f44a626b0d0f96237a1f5bea73e3fe4de3b8af3edf291bd5c7ee497"), looks := true }, kinds := [], alts := [], laidByText := true, laidKinds := [.data], laidTests := true, laidLooks := .later }
def FnExactGeneralizeCardSaid : Prop := Claim7.holds Tryd.pinned (.plain (OpenSpec.ofChange fnExactGeneralizeSpec)) fnExactGeneralizeCard

/-- THE SECOND FORM's CARD OF 'laws.FnExactShiftTerm'. -/
def fnExactShiftTermUptoCard : Claim7 := { stood := { row := fnExactShiftTermUptoRow, standIns := [], harness := (true, "0fd01f2c5f44a626b0d0f96237a1f5bea73e3fe4de3b8af3edf291bd5c7ee497"), looks := true }, kinds := [], alts := [], laidByText := true, laidKinds := [.data], laidTests := true, laidLooks := .later }
def FnExactShiftTermUptoCardSaid : Prop := Claim7.holds Tryd.pinned (.plain (OpenSpec.upto fnExactShiftTermSpec)) fnExactShiftTermUptoCard

/-- THE SECOND FORM's CARD OF 'laws.FnShiftTerm'. -/
def fnShiftTermUptoCard : Claim7 := { stood := { row := fnShiftTermUptoRow, standIns := [], harness := (true, "0fd01f2c5f44a626b0d0f96237a1f5bea73e3fe4de3b8af3edf291bd5c7ee497"), looks := true }, kinds := [], alts := [], laidByText := true, laidKinds := [.data], laidTests := true, laidLooks := .later }
def FnShiftTermUptoCardSaid : Prop := Claim7.holds Tryd.pinned (.plain (OpenSpec.upto fnShiftTermSpec)) fnShiftTermUptoCard

/-- THE SECOND FORM's CARD OF 'laws.FnExactUnifyTerms'. -/
def fnExactUnifyTermsUptoCard : Claim7 := { stood := { row := fnExactUnifyTermsUptoRow, standIns := [], harness := (true, "0fd01f2c5f44a626b0d0f96237a1f5bea73e3fe4de3b8af3edf291bd5c7ee497"), looks := true }, kinds := [], alts := [], laidByText := true, laidKinds := [.data], laidTests := true, laidLooks := .later }
def FnExactUnifyTermsUptoCardSaid : Prop := Claim7.holds Tryd.pinned (.plain (OpenSpec.upto fnExactUnifyTermsSpec)) fnExactUnifyTermsUptoCard

/-- THE SECOND FORM's CARD OF 'laws.FnExactGeneralize'. -/
def fnExactGeneralizeUptoCard : Claim7 := { stood := { row := fnExactGeneralizeUptoRow, standIns := [], harness := (true, "0fd01f2c5f44a626b0d0f96237a1f5bea73e3fe4de3b8af3edf291bd5c7ee497"), looks := true }, kinds := [], alts := [], laidByText := true, laidKinds := [.data], laidTests := true, laidLooks := .later }
def FnExactGeneralizeUptoCardSaid : Prop := Claim7.holds Tryd.pinned (.plain (OpenSpec.upto fnExactGeneralizeSpec)) fnExactGeneralizeUptoCard
end Rows
end Go.Proofs.YtplmkighekjipaaDoor

/-
  DERIVED. GIVEN WITH THE SEED: THE CARDS: each row of YtabkoofmfhbmhaaDoorRows.lean that lists a variable, with what it lists TIED to the program's text (the seventh form; the later family's looks); each row that meets fmt, with fmt's text TOLD by the authors' own Lean function (tested against real Go, not proved from fmt's source: count such statements apart). THE CARD IS WHAT COUNTS. Prove the row's statement (the work); the ties are given (YtabkoofmfhbmhaaDoorTie.lean); close each card by the builder's one call (the guide's Derived/Test/ToyasCard.lean, 'card_holds'). Laid BY PROGRAM, IN A SANDBOX (cutbox-door.mjs). By AI agents, Wed Nov 11 2026. No macro, syntax, notation, axiom, sorry.
-/
import Derived.Test.YtabkoofmfhbmhaaDoorRows
import GoSem.ClaimSeven
namespace Go.Proofs.YtabkoofmfhbmhaaDoor
namespace Rows

/-- THE TIED CARD OF 'laws.FnRenumberTerms'. -/
def fnRenumberTermsCard : Claim7 := { stood := { row := fnRenumberTermsRow, standIns := [], harness := (true, "e023d27b4e98455e8c9164981fcdf47843a1a150e4ac1ed184e20065cb3e27f1"), looks := true }, kinds := [], alts := [], laidByText := true, laidKinds := [.data], laidTests := true, laidLooks := .later }
def FnRenumberTermsCardSaid : Prop := Claim7.holds Tryd.pinned (.plain (OpenSpec.ofChange fnRenumberTermsSpec)) fnRenumberTermsCard

/-- THE TIED CARD OF 'laws.FnMakeList'. -/
def fnMakeListCard : Claim7 := { stood := { row := fnMakeListRow, standIns := [], harness := (true, "e023d27b4e98455e8c9164981fcdf47843a1a150e4ac1ed184e20065cb3e27f1"), looks := true }, kinds := [], alts := [], laidByText := true, laidKinds := [.data], laidTests := true, laidLooks := .later }
def FnMakeListCardSaid : Prop := Claim7.holds Tryd.pinned (.plain (OpenSpec.ofChange fnMakeListSpec)) fnMakeListCard

/-- THE TIED CARD OF 'laws.FnShiftTerm'. -/
def fnShiftTermCard : Claim7 := { stood := { row := fnShiftTermRow, standIns := [], harness := (true, "e023d27b4e98455e8c9164981fcdf47843a1a150e4ac1ed184e20065cb3e27f1"), looks := true }, kinds := [], alts := [], laidByText := true, laidKinds := [.data], laidTests := true, laidLooks := .later }
def FnShiftTermCardSaid : Prop := Claim7.holds Tryd.pinned (.plain (OpenSpec.ofChange fnShiftTermSpec)) fnShiftTermCard

/-- THE TIED CARD OF 'laws.FnEvalArith'. -/
def fnEvalArithCard : Claim7 := { stood := { row := fnEvalArithRow, standIns := [], harness := (true, "e023d27b4e98455e8c9164981fcdf47843a1a150e4ac1ed184e20065cb3e27f1"), looks := true }, kinds := [], alts := [], laidByText := true, laidKinds := [.handle, .data], laidTests := true, laidLooks := .later }
def FnEvalArithCardSaid : Prop := Claim7.holds Tryd.pinned (.plain (OpenSpec.ofChange fnEvalArithSpec)) fnEvalArithCard

/-- THE TIED CARD OF 'laws.FnDivMod'. -/
def fnDivModCard : Claim7 := { stood := { row := fnDivModRow, standIns := [], harness := (true, "e023d27b4e98455e8c9164981fcdf47843a1a150e4ac1ed184e20065cb3e27f1"), looks := true }, kinds := [], alts := [], laidByText := true, laidKinds := [.handle, .data], laidTests := true, laidLooks := .later }
def FnDivModCardSaid : Prop := Claim7.holds Tryd.pinned (.plain (OpenSpec.ofChange fnDivModSpec)) fnDivModCard

/-- THE SECOND FORM's CARD OF 'laws.FnRenumberTerms'. -/
def fnRenumberTermsUptoCard : Claim7 := { stood := { row := fnRenumberTermsUptoRow, standIns := [], harness := (true, "e023d27b4e98455e8c9164981fcdf47843a1a150e4ac1ed184e20065cb3e27f1"), looks := true }, kinds := [], alts := [], laidByText := true, laidKinds := [.data], laidTests := true, laidLooks := .later }
def FnRenumberTermsUptoCardSaid : Prop := Claim7.holds Tryd.pinned (.plain (OpenSpec.upto fnRenumberTermsSpec)) fnRenumberTermsUptoCard

/-- THE SECOND FORM's CARD OF 'laws.FnMakeList'. -/
def fnMakeListUptoCard : Claim7 := { stood := { row := fnMakeListUptoRow, standIns := [], harness := (true, "e023d27b4e98455e8c9164981fcdf47843a1a150e4ac1ed184e20065cb3e27f1"), looks := true }, kinds := [], alts := [], laidByText := true, laidKinds := [.data], laidTests := true, laidLooks := .later }
def FnMakeListUptoCardSaid : Prop := Claim7.holds Tryd.pinned (.plain (OpenSpec.upto fnMakeListSpec)) fnMakeListUptoCard

/-- THE SECOND FORM's CARD OF 'laws.FnShiftTerm'. -/
def fnShiftTermUptoCard : Claim7 := { stood := { row := fnShiftTermUptoRow, standIns := [], harness := (true, "e023d27b4e98455e8c9164981fcdf47843a1a150e4ac1ed184e20065cb3e27f1"), looks := true }, kinds := [], alts := [], laidByText := true, laidKinds := [.data], laidTests := true, laidLooks := .later }
def FnShiftTermUptoCardSaid : Prop := Claim7.holds Tryd.pinned (.plain (OpenSpec.upto fnShiftTermSpec)) fnShiftTermUptoCard

/-- THE SECOND FORM's CARD OF 'laws.FnEvalArith'. -/
def fnEvalArithUptoCard : Claim7 := { stood := { row := fnEvalArithUptoRow, standIns := [], harness := (true, "e023d27b4e98455e8c9164981fcdf47843a1a150e4ac1ed184e20065cb3e27f1"), looks := true }, kinds := [], alts := [], laidByText := true, laidKinds := [.handle, .data], laidTests := true, laidLooks := .later }
def FnEvalArithUptoCardSaid : Prop := Claim7.holds Tryd.pinned (.plain (OpenSpec.upto fnEvalArithSpec)) fnEvalArithUptoCard

/-- THE SECOND FORM's CARD OF 'laws.FnDivMod'. -/
def fnDivModUptoCard : Claim7 := { stood := { row := fnDivModUptoRow, standIns := [], harness := (true, "e023d27b4e98455e8c9164981fcdf47843a1a150e4ac1ed184e20065cb3e27f1"), looks := true }, kinds := [], alts := [], laidByText := true, laidKinds := [.handle, .data], laidTests := true, laidLooks := .later }
def FnDivModUptoCardSaid : Prop := Claim7.holds Tryd.pinned (.plain (OpenSpec.upto fnDivModSpec)) fnDivModUptoCard
end Rows
end Go.Proofs.YtabkoofmfhbmhaaDoor

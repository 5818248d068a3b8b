/-
  DERIVED. GIVEN WITH THE SEED: THE CARDS: each row of YtojilompidmfiaaDoorRows.lean that lists a variable, with what it lists TIED to the program's text (the seventh form; the later family's looks); each row that meets fmt, with fmt's text TOLD by the authors' own Lean function (tested against real Go, not proved from fmt's source: count such statements apart). THE CARD IS WHAT COUNTS. Prove the row's statement (the work); the ties are given (YtojilompidmfiaaDoorTie.lean); close each card by the builder's one call (the guide's Derived/Test/ToyasCard.lean, 'card_holds'). Laid BY PROGRAM, IN A SANDBOX (cutbox-door.mjs). By AI agents, Wed Nov 11 2026. No macro, syntax, notation, axiom, sorry.
-/
import Derived.Test.YtojilompidmfiaaDoorRows
import GoSem.ClaimSeven
namespace Go.Proofs.YtojilompidmfiaaDoor
namespace Rows

/-- THE TIED CARD OF 'laws.FnExactGoalValid'. -/
def fnExactGoalValidCard : Claim7 := { stood := { row := fnExactGoalValidRow, standIns := [], harness := (true, "14763e22cc1231027075f88a79ef749ea622ac4d1fa4cbb7243183a0728bc82c"), looks := true }, kinds := [], alts := [], laidByText := true, laidKinds := [.data, .data], laidTests := true, laidLooks := .later }
def FnExactGoalValidCardSaid : Prop := Claim7.holds Tryd.pinned (.plain (OpenSpec.ofChange fnExactGoalValidSpec)) fnExactGoalValidCard

/-- THE TIED CARD OF 'laws.FnExactClauseValid'. -/
def fnExactClauseValidCard : Claim7 := { stood := { row := fnExactClauseValidRow, standIns := [], harness := (true, "14763e22cc1231027075f88a79ef749ea622ac4d1fa4cbb7243183a0728bc82c"), looks := true }, kinds := [], alts := [], laidByText := true, laidKinds := [.data, .data], laidTests := true, laidLooks := .later }
def FnExactClauseValidCardSaid : Prop := Claim7.holds Tryd.pinned (.plain (OpenSpec.ofChange fnExactClauseValidSpec)) fnExactClauseValidCard

/-- THE TIED CARD OF 'laws.FnExactRenumberClause'. -/
def fnExactRenumberClauseCard : Claim7 := { stood := { row := fnExactRenumberClauseRow, standIns := [], harness := (true, "14763e22cc1231027075f88a79ef749ea622ac4d1fa4cbb7243183a0728bc82c"), looks := true }, kinds := [], alts := [], laidByText := true, laidKinds := [.data, .data], laidTests := true, laidLooks := .later }
def FnExactRenumberClauseCardSaid : Prop := Claim7.holds Tryd.pinned (.plain (OpenSpec.ofChange fnExactRenumberClauseSpec)) fnExactRenumberClauseCard

/-- THE TIED CARD OF 'laws.FnExactProgramValid'. -/
def fnExactProgramValidCard : Claim7 := { stood := { row := fnExactProgramValidRow, standIns := [], harness := (true, "14763e22cc1231027075f88a79ef749ea622ac4d1fa4cbb7243183a0728bc82c"), looks := true }, kinds := [], alts := [], laidByText := true, laidKinds := [.data, .data], laidTests := true, laidLooks := .later }
def FnExactProgramValidCardSaid : Prop := Claim7.holds Tryd.pinned (.plain (OpenSpec.ofChange fnExactProgramValidSpec)) fnExactProgramValidCard

/-- THE TIED CARD OF 'laws.FnExactClausesFor'. -/
def fnExactClausesForCard : Claim7 := { stood := { row := fnExactClausesForRow, standIns := [], harness := (true, "14763e22cc1231027075f88a79ef749ea622ac4d1fa4cbb7243183a0728bc82c"), looks := true }, kinds := [], alts := [], laidByText := true, laidKinds := [.data, .data], laidTests := true, laidLooks := .later }
def FnExactClausesForCardSaid : Prop := Claim7.holds Tryd.pinned (.plain (OpenSpec.ofChange fnExactClausesForSpec)) fnExactClausesForCard

/-- THE TIED CARD OF 'laws.FnExactUnknownGoals'. -/
def fnExactUnknownGoalsCard : Claim7 := { stood := { row := fnExactUnknownGoalsRow, standIns := [], harness := (true, "14763e22cc1231027075f88a79ef749ea622ac4d1fa4cbb7243183a0728bc82c"), looks := true }, kinds := [], alts := [], laidByText := true, laidKinds := [.data, .data], laidTests := true, laidLooks := .later }
def FnExactUnknownGoalsCardSaid : Prop := Claim7.holds Tryd.pinned (.plain (OpenSpec.ofChange fnExactUnknownGoalsSpec)) fnExactUnknownGoalsCard

/-- THE TIED CARD OF 'laws.FnExactGeneralize'. -/
def fnExactGeneralizeCard : Claim7 := { stood := { row := fnExactGeneralizeRow, standIns := [], harness := (true, "14763e22cc1231027075f88a79ef749ea622ac4d1fa4cbb7243183a0728bc82c"), looks := true }, kinds := [], alts := [], laidByText := true, laidKinds := [.data], laidTests := true, laidLooks := .later }
def FnExactGeneralizeCardSaid : Prop := Claim7.holds Tryd.pinned (.plain (OpenSpec.ofChange fnExactGeneralizeSpec)) fnExactGeneralizeCard

/-- THE TIED CARD OF 'laws.FnExactUnifyTerms'. -/
def fnExactUnifyTermsCard : Claim7 := { stood := { row := fnExactUnifyTermsRow, standIns := [], harness := (true, "14763e22cc1231027075f88a79ef749ea622ac4d1fa4cbb7243183a0728bc82c"), looks := true }, kinds := [], alts := [], laidByText := true, laidKinds := [.data], laidTests := true, laidLooks := .later }
def FnExactUnifyTermsCardSaid : Prop := Claim7.holds Tryd.pinned (.plain (OpenSpec.ofChange fnExactUnifyTermsSpec)) fnExactUnifyTermsCard

/-- THE TIED CARD OF 'laws.FnExactTermValid'. -/
def fnExactTermValidCard : Claim7 := { stood := { row := fnExactTermValidRow, standIns := [], harness := (true, "14763e22cc1231027075f88a79ef749ea622ac4d1fa4cbb7243183a0728bc82c"), looks := true }, kinds := [], alts := [], laidByText := true, laidKinds := [.data], laidTests := true, laidLooks := .later }
def FnExactTermValidCardSaid : Prop := Claim7.holds Tryd.pinned (.plain (OpenSpec.ofChange fnExactTermValidSpec)) fnExactTermValidCard

/-- THE TIED CARD OF 'laws.FnExactRenumberTerms'. -/
def fnExactRenumberTermsCard : Claim7 := { stood := { row := fnExactRenumberTermsRow, standIns := [], harness := (true, "14763e22cc1231027075f88a79ef749ea622ac4d1fa4cbb7243183a0728bc82c"), looks := true }, kinds := [], alts := [], laidByText := true, laidKinds := [.data], laidTests := true, laidLooks := .later }
def FnExactRenumberTermsCardSaid : Prop := Claim7.holds Tryd.pinned (.plain (OpenSpec.ofChange fnExactRenumberTermsSpec)) fnExactRenumberTermsCard

/-- THE SECOND FORM's CARD OF 'laws.FnExactGoalValid'. -/
def fnExactGoalValidUptoCard : Claim7 := { stood := { row := fnExactGoalValidUptoRow, standIns := [], harness := (true, "14763e22cc1231027075f88a79ef749ea622ac4d1fa4cbb7243183a0728bc82c"), looks := true }, kinds := [], alts := [], laidByText := true, laidKinds := [.data, .data], laidTests := true, laidLooks := .later }
def FnExactGoalValidUptoCardSaid : Prop := Claim7.holds Tryd.pinned (.plain (OpenSpec.upto fnExactGoalValidSpec)) fnExactGoalValidUptoCard

/-- THE SECOND FORM's CARD OF 'laws.FnExactClauseValid'. -/
def fnExactClauseValidUptoCard : Claim7 := { stood := { row := fnExactClauseValidUptoRow, standIns := [], harness := (true, "14763e22cc1231027075f88a79ef749ea622ac4d1fa4cbb7243183a0728bc82c"), looks := true }, kinds := [], alts := [], laidByText := true, laidKinds := [.data, .data], laidTests := true, laidLooks := .later }
def FnExactClauseValidUptoCardSaid : Prop := Claim7.holds Tryd.pinned (.plain (OpenSpec.upto fnExactClauseValidSpec)) fnExactClauseValidUptoCard

/-- THE SECOND FORM's CARD OF 'laws.FnExactRenumberClause'. -/
def fnExactRenumberClauseUptoCard : Claim7 := { stood := { row := fnExactRenumberClauseUptoRow, standIns := [], harness := (true, "14763e22cc1231027075f88a79ef749ea622ac4d1fa4cbb7243183a0728bc82c"), looks := true }, kinds := [], alts := [], laidByText := true, laidKinds := [.data, .data], laidTests := true, laidLooks := .later }
def FnExactRenumberClauseUptoCardSaid : Prop := Claim7.holds Tryd.pinned (.plain (OpenSpec.upto fnExactRenumberClauseSpec)) fnExactRenumberClauseUptoCard

/-- THE SECOND FORM's CARD OF 'laws.FnExactProgramValid'. -/
def fnExactProgramValidUptoCard : Claim7 := { stood := { row := fnExactProgramValidUptoRow, standIns := [], harness := (true, "14763e22cc1231027075f88a79ef749ea622ac4d1fa4cbb7243183a0728bc82c"), looks := true }, kinds := [], alts := [], laidByText := true, laidKinds := [.data, .data], laidTests := true, laidLooks := .later }
def FnExactProgramValidUptoCardSaid : Prop := Claim7.holds Tryd.pinned (.plain (OpenSpec.upto fnExactProgramValidSpec)) fnExactProgramValidUptoCard

/-- THE SECOND FORM's CARD OF 'laws.FnExactClausesFor'. -/
def fnExactClausesForUptoCard : Claim7 := { stood := { row := fnExactClausesForUptoRow, standIns := [], harness := (true, "14763e22cc1231027075f88a79ef749ea622ac4d1fa4cbb7243183a0728bc82c"), looks := true }, kinds := [], alts := [], laidByText := true, laidKinds := [.data, .data], laidTests := true, laidLooks := .later }
def FnExactClausesForUptoCardSaid : Prop := Claim7.holds Tryd.pinned (.plain (OpenSpec.upto fnExactClausesForSpec)) fnExactClausesForUptoCard

/-- THE SECOND FORM's CARD OF 'laws.FnExactUnknownGoals'. -/
def fnExactUnknownGoalsUptoCard : Claim7 := { stood := { row := fnExactUnknownGoalsUptoRow, standIns := [], harness := (true, "14763e22cc1231027075f88a79ef749ea622ac4d1fa4cbb7243183a0728bc82c"), looks := true }, kinds := [], alts := [], laidByText := true, laidKinds := [.data, .data], laidTests := true, laidLooks := .later }
def FnExactUnknownGoalsUptoCardSaid : Prop := Claim7.holds Tryd.pinned (.plain (OpenSpec.upto fnExactUnknownGoalsSpec)) fnExactUnknownGoalsUptoCard

/-- THE SECOND FORM's CARD OF 'laws.FnExactGeneralize'. -/
def fnExactGeneralizeUptoCard : Claim7 := { stood := { row := fnExactGeneralizeUptoRow, standIns := [], harness := (true, "14763e22cc1231027075f88a79ef749ea622ac4d1fa4cbb7243183a0728bc82c"), looks := true }, kinds := [], alts := [], laidByText := true, laidKinds := [.data], laidTests := true, laidLooks := .later }
def FnExactGeneralizeUptoCardSaid : Prop := Claim7.holds Tryd.pinned (.plain (OpenSpec.upto fnExactGeneralizeSpec)) fnExactGeneralizeUptoCard

/-- THE SECOND FORM's CARD OF 'laws.FnExactUnifyTerms'. -/
def fnExactUnifyTermsUptoCard : Claim7 := { stood := { row := fnExactUnifyTermsUptoRow, standIns := [], harness := (true, "14763e22cc1231027075f88a79ef749ea622ac4d1fa4cbb7243183a0728bc82c"), looks := true }, kinds := [], alts := [], laidByText := true, laidKinds := [.data], laidTests := true, laidLooks := .later }
def FnExactUnifyTermsUptoCardSaid : Prop := Claim7.holds Tryd.pinned (.plain (OpenSpec.upto fnExactUnifyTermsSpec)) fnExactUnifyTermsUptoCard

/-- THE SECOND FORM's CARD OF 'laws.FnExactTermValid'. -/
def fnExactTermValidUptoCard : Claim7 := { stood := { row := fnExactTermValidUptoRow, standIns := [], harness := (true, "14763e22cc1231027075f88a79ef749ea622ac4d1fa4cbb7243183a0728bc82c"), looks := true }, kinds := [], alts := [], laidByText := true, laidKinds := [.data], laidTests := true, laidLooks := .later }
def FnExactTermValidUptoCardSaid : Prop := Claim7.holds Tryd.pinned (.plain (OpenSpec.upto fnExactTermValidSpec)) fnExactTermValidUptoCard

/-- THE SECOND FORM's CARD OF 'laws.FnExactRenumberTerms'. -/
def fnExactRenumberTermsUptoCard : Claim7 := { stood := { row := fnExactRenumberTermsUptoRow, standIns := [], harness := (true, "14763e22cc1231027075f88a79ef749ea622ac4d1fa4cbb7243183a0728bc82c"), looks := true }, kinds := [], alts := [], laidByText := true, laidKinds := [.data], laidTests := true, laidLooks := .later }
def FnExactRenumberTermsUptoCardSaid : Prop := Claim7.holds Tryd.pinned (.plain (OpenSpec.upto fnExactRenumberTermsSpec)) fnExactRenumberTermsUptoCard
end Rows
end Go.Proofs.YtojilompidmfiaaDoor

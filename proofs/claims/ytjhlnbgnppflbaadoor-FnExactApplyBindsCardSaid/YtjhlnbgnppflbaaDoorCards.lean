/-
  DERIVED. GIVEN WITH THE SEED: THE CARDS: each row of YtjhlnbgnppflbaaDoorRows.lean that lists a variable, with what it lists TIED to the program's text (the seventh form; the later family's looks); each row that meets fmt, with fmt's text TOLD by the authors' own Lean function (tested against real Go, not proved from fmt's source: count such statements apart). THE CARD IS WHAT COUNTS. Prove the row's statement (the work); the ties are given (YtjhlnbgnppflbaaDoorTie.lean); close each card by the builder's one call (the guide's Derived/Test/ToyasCard.lean, 'card_holds'). Laid BY PROGRAM, IN A SANDBOX (cutbox-door.mjs). By AI agents, Wed Nov 11 2026. No macro, syntax, notation, axiom, sorry.
-/
import Derived.Test.YtjhlnbgnppflbaaDoorRows
import GoSem.ClaimSeven
namespace Go.Proofs.YtjhlnbgnppflbaaDoor
namespace Rows

/-- THE TIED CARD OF 'laws.FnExactShiftTerm'. -/
def fnExactShiftTermCard : Claim7 := { stood := { row := fnExactShiftTermRow, standIns := [], harness := (true, "b051869d8aed36de90898ce1bb8ef050083f61655300ae146dcbae7ea5b664ce"), looks := true }, kinds := [], alts := [], laidByText := true, laidKinds := [.data], laidTests := true, laidLooks := .later }
def FnExactShiftTermCardSaid : Prop := Claim7.holds Tryd.pinned (.plain (OpenSpec.ofChange fnExactShiftTermSpec)) fnExactShiftTermCard

/-- THE TIED CARD OF 'laws.FnExactApplyBinds'. -/
def fnExactApplyBindsCard : Claim7 := { stood := { row := fnExactApplyBindsRow, standIns := [], harness := (true, "b051869d8aed36de90898ce1bb8ef050083f61655300ae146dcbae7ea5b664ce"), looks := true }, kinds := [], alts := [], laidByText := true, laidKinds := [.data], laidTests := true, laidLooks := .later }
def FnExactApplyBindsCardSaid : Prop := Claim7.holds Tryd.pinned (.plain (OpenSpec.ofChange fnExactApplyBindsSpec)) fnExactApplyBindsCard

/-- THE TIED CARD OF 'laws.FnExactVariantTerms'. -/
def fnExactVariantTermsCard : Claim7 := { stood := { row := fnExactVariantTermsRow, standIns := [], harness := (true, "b051869d8aed36de90898ce1bb8ef050083f61655300ae146dcbae7ea5b664ce"), looks := true }, kinds := [], alts := [], laidByText := true, laidKinds := [.data], laidTests := true, laidLooks := .later }
def FnExactVariantTermsCardSaid : Prop := Claim7.holds Tryd.pinned (.plain (OpenSpec.ofChange fnExactVariantTermsSpec)) fnExactVariantTermsCard

/-- THE TIED CARD OF 'laws.FnExactInstanceOf'. -/
def fnExactInstanceOfCard : Claim7 := { stood := { row := fnExactInstanceOfRow, standIns := [], harness := (true, "b051869d8aed36de90898ce1bb8ef050083f61655300ae146dcbae7ea5b664ce"), looks := true }, kinds := [], alts := [], laidByText := true, laidKinds := [.data], laidTests := true, laidLooks := .later }
def FnExactInstanceOfCardSaid : Prop := Claim7.holds Tryd.pinned (.plain (OpenSpec.ofChange fnExactInstanceOfSpec)) fnExactInstanceOfCard

/-- THE TIED CARD OF 'laws.FnExactGeneralize'. -/
def fnExactGeneralizeCard : Claim7 := { stood := { row := fnExactGeneralizeRow, standIns := [], harness := (true, "b051869d8aed36de90898ce1bb8ef050083f61655300ae146dcbae7ea5b664ce"), looks := true }, kinds := [], alts := [], laidByText := true, laidKinds := [.data], laidTests := true, laidLooks := .later }
def FnExactGeneralizeCardSaid : Prop := Claim7.holds Tryd.pinned (.plain (OpenSpec.ofChange fnExactGeneralizeSpec)) fnExactGeneralizeCard

/-- THE TIED CARD OF 'laws.FnExactTermValid'. -/
def fnExactTermValidCard : Claim7 := { stood := { row := fnExactTermValidRow, standIns := [], harness := (true, "b051869d8aed36de90898ce1bb8ef050083f61655300ae146dcbae7ea5b664ce"), looks := true }, kinds := [], alts := [], laidByText := true, laidKinds := [.data], laidTests := true, laidLooks := .later }
def FnExactTermValidCardSaid : Prop := Claim7.holds Tryd.pinned (.plain (OpenSpec.ofChange fnExactTermValidSpec)) fnExactTermValidCard

/-- THE TIED CARD OF 'laws.FnExactCountNodes'. -/
def fnExactCountNodesCard : Claim7 := { stood := { row := fnExactCountNodesRow, standIns := [], harness := (true, "b051869d8aed36de90898ce1bb8ef050083f61655300ae146dcbae7ea5b664ce"), looks := true }, kinds := [], alts := [], laidByText := true, laidKinds := [.data], laidTests := true, laidLooks := .later }
def FnExactCountNodesCardSaid : Prop := Claim7.holds Tryd.pinned (.plain (OpenSpec.ofChange fnExactCountNodesSpec)) fnExactCountNodesCard

/-- THE TIED CARD OF 'laws.FnExactCompareTerms'. -/
def fnExactCompareTermsCard : Claim7 := { stood := { row := fnExactCompareTermsRow, standIns := [], harness := (true, "b051869d8aed36de90898ce1bb8ef050083f61655300ae146dcbae7ea5b664ce"), looks := true }, kinds := [], alts := [], laidByText := true, laidKinds := [.data], laidTests := true, laidLooks := .later }
def FnExactCompareTermsCardSaid : Prop := Claim7.holds Tryd.pinned (.plain (OpenSpec.ofChange fnExactCompareTermsSpec)) fnExactCompareTermsCard

/-- THE TIED CARD OF 'laws.FnExactListOf'. -/
def fnExactListOfCard : Claim7 := { stood := { row := fnExactListOfRow, standIns := [], harness := (true, "b051869d8aed36de90898ce1bb8ef050083f61655300ae146dcbae7ea5b664ce"), looks := true }, kinds := [], alts := [], laidByText := true, laidKinds := [.data], laidTests := true, laidLooks := .later }
def FnExactListOfCardSaid : Prop := Claim7.holds Tryd.pinned (.plain (OpenSpec.ofChange fnExactListOfSpec)) fnExactListOfCard

/-- THE TIED CARD OF 'laws.FnExactMakeList'. -/
def fnExactMakeListCard : Claim7 := { stood := { row := fnExactMakeListRow, standIns := [], harness := (true, "b051869d8aed36de90898ce1bb8ef050083f61655300ae146dcbae7ea5b664ce"), looks := true }, kinds := [], alts := [], laidByText := true, laidKinds := [.data], laidTests := true, laidLooks := .later }
def FnExactMakeListCardSaid : Prop := Claim7.holds Tryd.pinned (.plain (OpenSpec.ofChange fnExactMakeListSpec)) fnExactMakeListCard

/-- THE TIED CARD OF 'laws.FnExactTermVars'. -/
def fnExactTermVarsCard : Claim7 := { stood := { row := fnExactTermVarsRow, standIns := [], harness := (true, "b051869d8aed36de90898ce1bb8ef050083f61655300ae146dcbae7ea5b664ce"), looks := true }, kinds := [], alts := [], laidByText := true, laidKinds := [.data], laidTests := true, laidLooks := .later }
def FnExactTermVarsCardSaid : Prop := Claim7.holds Tryd.pinned (.plain (OpenSpec.ofChange fnExactTermVarsSpec)) fnExactTermVarsCard

/-- THE TIED CARD OF 'laws.FnExactRenumberTerms'. -/
def fnExactRenumberTermsCard : Claim7 := { stood := { row := fnExactRenumberTermsRow, standIns := [], harness := (true, "b051869d8aed36de90898ce1bb8ef050083f61655300ae146dcbae7ea5b664ce"), looks := true }, kinds := [], alts := [], laidByText := true, laidKinds := [.data], laidTests := true, laidLooks := .later }
def FnExactRenumberTermsCardSaid : Prop := Claim7.holds Tryd.pinned (.plain (OpenSpec.ofChange fnExactRenumberTermsSpec)) fnExactRenumberTermsCard

/-- THE SECOND FORM's CARD OF 'laws.FnExactShiftTerm'. -/
def fnExactShiftTermUptoCard : Claim7 := { stood := { row := fnExactShiftTermUptoRow, standIns := [], harness := (true, "b051869d8aed36de90898ce1bb8ef050083f61655300ae146dcbae7ea5b664ce"), looks := true }, kinds := [], alts := [], laidByText := true, laidKinds := [.data], laidTests := true, laidLooks := .later }
def FnExactShiftTermUptoCardSaid : Prop := Claim7.holds Tryd.pinned (.plain (OpenSpec.upto fnExactShiftTermSpec)) fnExactShiftTermUptoCard

/-- THE SECOND FORM's CARD OF 'laws.FnExactApplyBinds'. -/
def fnExactApplyBindsUptoCard : Claim7 := { stood := { row := fnExactApplyBindsUptoRow, standIns := [], harness := (true, "b051869d8aed36de90898ce1bb8ef050083f61655300ae146dcbae7ea5b664ce"), looks := true }, kinds := [], alts := [], laidByText := true, laidKinds := [.data], laidTests := true, laidLooks := .later }
def FnExactApplyBindsUptoCardSaid : Prop := Claim7.holds Tryd.pinned (.plain (OpenSpec.upto fnExactApplyBindsSpec)) fnExactApplyBindsUptoCard

/-- THE SECOND FORM's CARD OF 'laws.FnExactVariantTerms'. -/
def fnExactVariantTermsUptoCard : Claim7 := { stood := { row := fnExactVariantTermsUptoRow, standIns := [], harness := (true, "b051869d8aed36de90898ce1bb8ef050083f61655300ae146dcbae7ea5b664ce"), looks := true }, kinds := [], alts := [], laidByText := true, laidKinds := [.data], laidTests := true, laidLooks := .later }
def FnExactVariantTermsUptoCardSaid : Prop := Claim7.holds Tryd.pinned (.plain (OpenSpec.upto fnExactVariantTermsSpec)) fnExactVariantTermsUptoCard

/-- THE SECOND FORM's CARD OF 'laws.FnExactInstanceOf'. -/
def fnExactInstanceOfUptoCard : Claim7 := { stood := { row := fnExactInstanceOfUptoRow, standIns := [], harness := (true, "b051869d8aed36de90898ce1bb8ef050083f61655300ae146dcbae7ea5b664ce"), looks := true }, kinds := [], alts := [], laidByText := true, laidKinds := [.data], laidTests := true, laidLooks := .later }
def FnExactInstanceOfUptoCardSaid : Prop := Claim7.holds Tryd.pinned (.plain (OpenSpec.upto fnExactInstanceOfSpec)) fnExactInstanceOfUptoCard

/-- THE SECOND FORM's CARD OF 'laws.FnExactGeneralize'. -/
def fnExactGeneralizeUptoCard : Claim7 := { stood := { row := fnExactGeneralizeUptoRow, standIns := [], harness := (true, "b051869d8aed36de90898ce1bb8ef050083f61655300ae146dcbae7ea5b664ce"), looks := true }, kinds := [], alts := [], laidByText := true, laidKinds := [.data], laidTests := true, laidLooks := .later }
def FnExactGeneralizeUptoCardSaid : Prop := Claim7.holds Tryd.pinned (.plain (OpenSpec.upto fnExactGeneralizeSpec)) fnExactGeneralizeUptoCard

/-- THE SECOND FORM's CARD OF 'laws.FnExactTermValid'. -/
def fnExactTermValidUptoCard : Claim7 := { stood := { row := fnExactTermValidUptoRow, standIns := [], harness := (true, "b051869d8aed36de90898ce1bb8ef050083f61655300ae146dcbae7ea5b664ce"), looks := true }, kinds := [], alts := [], laidByText := true, laidKinds := [.data], laidTests := true, laidLooks := .later }
def FnExactTermValidUptoCardSaid : Prop := Claim7.holds Tryd.pinned (.plain (OpenSpec.upto fnExactTermValidSpec)) fnExactTermValidUptoCard

/-- THE SECOND FORM's CARD OF 'laws.FnExactCountNodes'. -/
def fnExactCountNodesUptoCard : Claim7 := { stood := { row := fnExactCountNodesUptoRow, standIns := [], harness := (true, "b051869d8aed36de90898ce1bb8ef050083f61655300ae146dcbae7ea5b664ce"), looks := true }, kinds := [], alts := [], laidByText := true, laidKinds := [.data], laidTests := true, laidLooks := .later }
def FnExactCountNodesUptoCardSaid : Prop := Claim7.holds Tryd.pinned (.plain (OpenSpec.upto fnExactCountNodesSpec)) fnExactCountNodesUptoCard

/-- THE SECOND FORM's CARD OF 'laws.FnExactCompareTerms'. -/
def fnExactCompareTermsUptoCard : Claim7 := { stood := { row := fnExactCompareTermsUptoRow, standIns := [], harness := (true, "b051869d8aed36de90898ce1bb8ef050083f61655300ae146dcbae7ea5b664ce"), looks := true }, kinds := [], alts := [], laidByText := true, laidKinds := [.data], laidTests := true, laidLooks := .later }
def FnExactCompareTermsUptoCardSaid : Prop := Claim7.holds Tryd.pinned (.plain (OpenSpec.upto fnExactCompareTermsSpec)) fnExactCompareTermsUptoCard

/-- THE SECOND FORM's CARD OF 'laws.FnExactListOf'. -/
def fnExactListOfUptoCard : Claim7 := { stood := { row := fnExactListOfUptoRow, standIns := [], harness := (true, "b051869d8aed36de90898ce1bb8ef050083f61655300ae146dcbae7ea5b664ce"), looks := true }, kinds := [], alts := [], laidByText := true, laidKinds := [.data], laidTests := true, laidLooks := .later }
def FnExactListOfUptoCardSaid : Prop := Claim7.holds Tryd.pinned (.plain (OpenSpec.upto fnExactListOfSpec)) fnExactListOfUptoCard

/-- THE SECOND FORM's CARD OF 'laws.FnExactMakeList'. -/
def fnExactMakeListUptoCard : Claim7 := { stood := { row := fnExactMakeListUptoRow, standIns := [], harness := (true, "b051869d8aed36de90898ce1bb8ef050083f61655300ae146dcbae7ea5b664ce"), looks := true }, kinds := [], alts := [], laidByText := true, laidKinds := [.data], laidTests := true, laidLooks := .later }
def FnExactMakeListUptoCardSaid : Prop := Claim7.holds Tryd.pinned (.plain (OpenSpec.upto fnExactMakeListSpec)) fnExactMakeListUptoCard

/-- THE SECOND FORM's CARD OF 'laws.FnExactTermVars'. -/
def fnExactTermVarsUptoCard : Claim7 := { stood := { row := fnExactTermVarsUptoRow, standIns := [], harness := (true, "b051869d8aed36de90898ce1bb8ef050083f61655300ae146dcbae7ea5b664ce"), looks := true }, kinds := [], alts := [], laidByText := true, laidKinds := [.data], laidTests := true, laidLooks := .later }
def FnExactTermVarsUptoCardSaid : Prop := Claim7.holds Tryd.pinned (.plain (OpenSpec.upto fnExactTermVarsSpec)) fnExactTermVarsUptoCard

/-- THE SECOND FORM's CARD OF 'laws.FnExactRenumberTerms'. -/
def fnExactRenumberTermsUptoCard : Claim7 := { stood := { row := fnExactRenumberTermsUptoRow, standIns := [], harness := (true, "b051869d8aed36de90898ce1bb8ef050083f61655300ae146dcbae7ea5b664ce"), looks := true }, kinds := [], alts := [], laidByText := true, laidKinds := [.data], laidTests := true, laidLooks := .later }
def FnExactRenumberTermsUptoCardSaid : Prop := Claim7.holds Tryd.pinned (.plain (OpenSpec.upto fnExactRenumberTermsSpec)) fnExactRenumberTermsUptoCard
end Rows
end Go.Proofs.YtjhlnbgnppflbaaDoor

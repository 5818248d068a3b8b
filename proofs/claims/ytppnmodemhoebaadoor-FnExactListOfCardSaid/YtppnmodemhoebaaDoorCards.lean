/-
  DERIVED. GIVEN WITH THE SEED: THE CARDS: each row of YtppnmodemhoebaaDoorRows.lean that lists a variable, with what it lists TIED to the program's text (the seventh form; the later family's looks); each row that meets fmt, with fmt's text TOLD by the authors' own Lean function (tested against real Go, not proved from fmt's source: count such statements apart). THE CARD IS WHAT COUNTS. Prove the row's statement (the work); the ties are given (YtppnmodemhoebaaDoorTie.lean); close each card by the builder's one call (the guide's Derived/Test/ToyasCard.lean, 'card_holds'). Laid BY PROGRAM, IN A SANDBOX (cutbox-door.mjs). By AI agents, Wed Nov 11 2026. No macro, syntax, notation, axiom, sorry.
-/
import Derived.Test.YtppnmodemhoebaaDoorRows
import GoSem.ClaimSeven
namespace Go.Proofs.YtppnmodemhoebaaDoor
namespace Rows

/-- THE TIED CARD OF 'laws.FnExactNameValid'. -/
def fnExactNameValidCard : Claim7 := { stood := { row := fnExactNameValidRow, standIns := [], harness := (true, "76515952b2ef664a494e68fbd75c05f79825a34a483d61c7d0d7ea0620c2b208"), looks := true }, kinds := [], alts := [], laidByText := true, laidKinds := [.data], laidTests := true, laidLooks := .later }
def FnExactNameValidCardSaid : Prop := Claim7.holds Tryd.pinned (.plain (OpenSpec.ofChange fnExactNameValidSpec)) fnExactNameValidCard

/-- THE TIED CARD OF 'laws.FnExactTermVars'. -/
def fnExactTermVarsCard : Claim7 := { stood := { row := fnExactTermVarsRow, standIns := [], harness := (true, "76515952b2ef664a494e68fbd75c05f79825a34a483d61c7d0d7ea0620c2b208"), looks := true }, kinds := [], alts := [], laidByText := true, laidKinds := [.data], laidTests := true, laidLooks := .later }
def FnExactTermVarsCardSaid : Prop := Claim7.holds Tryd.pinned (.plain (OpenSpec.ofChange fnExactTermVarsSpec)) fnExactTermVarsCard

/-- THE TIED CARD OF 'laws.FnExactCompareTerms'. -/
def fnExactCompareTermsCard : Claim7 := { stood := { row := fnExactCompareTermsRow, standIns := [], harness := (true, "76515952b2ef664a494e68fbd75c05f79825a34a483d61c7d0d7ea0620c2b208"), looks := true }, kinds := [], alts := [], laidByText := true, laidKinds := [.data], laidTests := true, laidLooks := .later }
def FnExactCompareTermsCardSaid : Prop := Claim7.holds Tryd.pinned (.plain (OpenSpec.ofChange fnExactCompareTermsSpec)) fnExactCompareTermsCard

/-- THE TIED CARD OF 'laws.FnExactMakeList'. -/
def fnExactMakeListCard : Claim7 := { stood := { row := fnExactMakeListRow, standIns := [], harness := (true, "76515952b2ef664a494e68fbd75c05f79825a34a483d61c7d0d7ea0620c2b208"), looks := true }, kinds := [], alts := [], laidByText := true, laidKinds := [.data], laidTests := true, laidLooks := .later }
def FnExactMakeListCardSaid : Prop := Claim7.holds Tryd.pinned (.plain (OpenSpec.ofChange fnExactMakeListSpec)) fnExactMakeListCard

/-- THE TIED CARD OF 'laws.FnExactListOf'. -/
def fnExactListOfCard : Claim7 := { stood := { row := fnExactListOfRow, standIns := [], harness := (true, "76515952b2ef664a494e68fbd75c05f79825a34a483d61c7d0d7ea0620c2b208"), looks := true }, kinds := [], alts := [], laidByText := true, laidKinds := [.data], laidTests := true, laidLooks := .later }
def FnExactListOfCardSaid : Prop := Claim7.holds Tryd.pinned (.plain (OpenSpec.ofChange fnExactListOfSpec)) fnExactListOfCard

/-- THE SECOND FORM's CARD OF 'laws.FnExactNameValid'. -/
def fnExactNameValidUptoCard : Claim7 := { stood := { row := fnExactNameValidUptoRow, standIns := [], harness := (true, "76515952b2ef664a494e68fbd75c05f79825a34a483d61c7d0d7ea0620c2b208"), looks := true }, kinds := [], alts := [], laidByText := true, laidKinds := [.data], laidTests := true, laidLooks := .later }
def FnExactNameValidUptoCardSaid : Prop := Claim7.holds Tryd.pinned (.plain (OpenSpec.upto fnExactNameValidSpec)) fnExactNameValidUptoCard

/-- THE SECOND FORM's CARD OF 'laws.FnExactTermVars'. -/
def fnExactTermVarsUptoCard : Claim7 := { stood := { row := fnExactTermVarsUptoRow, standIns := [], harness := (true, "76515952b2ef664a494e68fbd75c05f79825a34a483d61c7d0d7ea0620c2b208"), looks := true }, kinds := [], alts := [], laidByText := true, laidKinds := [.data], laidTests := true, laidLooks := .later }
def FnExactTermVarsUptoCardSaid : Prop := Claim7.holds Tryd.pinned (.plain (OpenSpec.upto fnExactTermVarsSpec)) fnExactTermVarsUptoCard

/-- THE SECOND FORM's CARD OF 'laws.FnExactCompareTerms'. -/
def fnExactCompareTermsUptoCard : Claim7 := { stood := { row := fnExactCompareTermsUptoRow, standIns := [], harness := (true, "76515952b2ef664a494e68fbd75c05f79825a34a483d61c7d0d7ea0620c2b208"), looks := true }, kinds := [], alts := [], laidByText := true, laidKinds := [.data], laidTests := true, laidLooks := .later }
def FnExactCompareTermsUptoCardSaid : Prop := Claim7.holds Tryd.pinned (.plain (OpenSpec.upto fnExactCompareTermsSpec)) fnExactCompareTermsUptoCard

/-- THE SECOND FORM's CARD OF 'laws.FnExactMakeList'. -/
def fnExactMakeListUptoCard : Claim7 := { stood := { row := fnExactMakeListUptoRow, standIns := [], harness := (true, "76515952b2ef664a494e68fbd75c05f79825a34a483d61c7d0d7ea0620c2b208"), looks := true }, kinds := [], alts := [], laidByText := true, laidKinds := [.data], laidTests := true, laidLooks := .later }
def FnExactMakeListUptoCardSaid : Prop := Claim7.holds Tryd.pinned (.plain (OpenSpec.upto fnExactMakeListSpec)) fnExactMakeListUptoCard

/-- THE SECOND FORM's CARD OF 'laws.FnExactListOf'. -/
def fnExactListOfUptoCard : Claim7 := { stood := { row := fnExactListOfUptoRow, standIns := [], harness := (true, "76515952b2ef664a494e68fbd75c05f79825a34a483d61c7d0d7ea0620c2b208"), looks := true }, kinds := [], alts := [], laidByText := true, laidKinds := [.data], laidTests := true, laidLooks := .later }
def FnExactListOfUptoCardSaid : Prop := Claim7.holds Tryd.pinned (.plain (OpenSpec.upto fnExactListOfSpec)) fnExactListOfUptoCard
end Rows
end Go.Proofs.YtppnmodemhoebaaDoor

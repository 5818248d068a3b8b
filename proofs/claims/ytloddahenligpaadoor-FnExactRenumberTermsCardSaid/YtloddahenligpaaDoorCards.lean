/-
  DERIVED. GIVEN WITH THE SEED: THE CARDS: each row of YtloddahenligpaaDoorRows.lean that lists a variable, with what it lists TIED to the program's text (the seventh form; the later family's looks); each row that meets fmt, with fmt's text TOLD by the authors' own Lean function (tested against real Go, not proved from fmt's source: count such statements apart). THE CARD IS WHAT COUNTS. Prove the row's statement (the work); the ties are given (YtloddahenligpaaDoorTie.lean); close each card by the builder's one call (the guide's Derived/Test/ToyasCard.lean, 'card_holds'). Laid BY PROGRAM, IN A SANDBOX (cutbox-door.mjs). By AI agents, Wed Nov 11 2026. No macro, syntax, notation, axiom, sorry.
-/
import Derived.Test.YtloddahenligpaaDoorRows
import GoSem.ClaimSeven
namespace Go.Proofs.YtloddahenligpaaDoor
namespace Rows

/-- THE TIED CARD OF 'laws.FnExactTermVars'. -/
def fnExactTermVarsCard : Claim7 := { stood := { row := fnExactTermVarsRow, standIns := [], harness := (true, "ba5ccaec87aff4f41bcfd188e87e111e68f10dbd26d07a511062e912fc73af0c"), looks := true }, kinds := [], alts := [], laidByText := true, laidKinds := [.data], laidTests := true, laidLooks := .later }
def FnExactTermVarsCardSaid : Prop := Claim7.holds Tryd.pinned (.plain (OpenSpec.ofChange fnExactTermVarsSpec)) fnExactTermVarsCard

/-- THE TIED CARD OF 'laws.FnExactListOf'. -/
def fnExactListOfCard : Claim7 := { stood := { row := fnExactListOfRow, standIns := [], harness := (true, "ba5ccaec87aff4f41bcfd188e87e111e68f10dbd26d07a511062e912fc73af0c"), looks := true }, kinds := [], alts := [], laidByText := true, laidKinds := [.data], laidTests := true, laidLooks := .later }
def FnExactListOfCardSaid : Prop := Claim7.holds Tryd.pinned (.plain (OpenSpec.ofChange fnExactListOfSpec)) fnExactListOfCard

/-- THE TIED CARD OF 'laws.FnExactMakeList'. -/
def fnExactMakeListCard : Claim7 := { stood := { row := fnExactMakeListRow, standIns := [], harness := (true, "ba5ccaec87aff4f41bcfd188e87e111e68f10dbd26d07a511062e912fc73af0c"), looks := true }, kinds := [], alts := [], laidByText := true, laidKinds := [.data], laidTests := true, laidLooks := .later }
def FnExactMakeListCardSaid : Prop := Claim7.holds Tryd.pinned (.plain (OpenSpec.ofChange fnExactMakeListSpec)) fnExactMakeListCard

/-- THE TIED CARD OF 'laws.FnExactRenumberTerms'. -/
def fnExactRenumberTermsCard : Claim7 := { stood := { row := fnExactRenumberTermsRow, standIns := [], harness := (true, "ba5ccaec87aff4f41bcfd188e87e111e68f10dbd26d07a511062e912fc73af0c"), looks := true }, kinds := [], alts := [], laidByText := true, laidKinds := [.data], laidTests := true, laidLooks := .later }
def FnExactRenumberTermsCardSaid : Prop := Claim7.holds Tryd.pinned (.plain (OpenSpec.ofChange fnExactRenumberTermsSpec)) fnExactRenumberTermsCard

/-- THE TIED CARD OF 'laws.FnExactOpLevel'. -/
def fnExactOpLevelCard : Claim7 := { stood := { row := fnExactOpLevelRow, standIns := [], harness := (true, "ba5ccaec87aff4f41bcfd188e87e111e68f10dbd26d07a511062e912fc73af0c"), looks := true }, kinds := [], alts := [], laidByText := true, laidKinds := [.data], laidTests := true, laidLooks := .later }
def FnExactOpLevelCardSaid : Prop := Claim7.holds Tryd.pinned (.plain (OpenSpec.ofChange fnExactOpLevelSpec)) fnExactOpLevelCard

/-- THE TIED CARD OF 'laws.FnTermSame'. -/
def fnTermSameCard : Claim7 := { stood := { row := fnTermSameRow, standIns := [], harness := (true, "ba5ccaec87aff4f41bcfd188e87e111e68f10dbd26d07a511062e912fc73af0c"), looks := true }, kinds := [], alts := [], laidByText := true, laidKinds := [.data, .data, .data, .data], laidTests := true, laidLooks := .later }
def FnTermSameCardSaid : Prop := Claim7.holds Tryd.pinned (.plain (OpenSpec.ofChange fnTermSameSpec)) fnTermSameCard

/-- THE TIED CARD OF 'laws.FnListOf'. -/
def fnListOfCard : Claim7 := { stood := { row := fnListOfRow, standIns := [], harness := (true, "ba5ccaec87aff4f41bcfd188e87e111e68f10dbd26d07a511062e912fc73af0c"), looks := true }, kinds := [], alts := [], laidByText := true, laidKinds := [.data], laidTests := true, laidLooks := .later }
def FnListOfCardSaid : Prop := Claim7.holds Tryd.pinned (.plain (OpenSpec.ofChange fnListOfSpec)) fnListOfCard

/-- THE TIED CARD OF 'laws.FnMakeList'. -/
def fnMakeListCard : Claim7 := { stood := { row := fnMakeListRow, standIns := [], harness := (true, "ba5ccaec87aff4f41bcfd188e87e111e68f10dbd26d07a511062e912fc73af0c"), looks := true }, kinds := [], alts := [], laidByText := true, laidKinds := [.data], laidTests := true, laidLooks := .later }
def FnMakeListCardSaid : Prop := Claim7.holds Tryd.pinned (.plain (OpenSpec.ofChange fnMakeListSpec)) fnMakeListCard

/-- THE TIED CARD OF 'laws.FnListTail'. -/
def fnListTailCard : Claim7 := { stood := { row := fnListTailRow, standIns := [], harness := (true, "ba5ccaec87aff4f41bcfd188e87e111e68f10dbd26d07a511062e912fc73af0c"), looks := true }, kinds := [], alts := [], laidByText := true, laidKinds := [.data], laidTests := true, laidLooks := .later }
def FnListTailCardSaid : Prop := Claim7.holds Tryd.pinned (.plain (OpenSpec.ofChange fnListTailSpec)) fnListTailCard

/-- THE TIED CARD OF 'laws.FnRenumberTerms'. -/
def fnRenumberTermsCard : Claim7 := { stood := { row := fnRenumberTermsRow, standIns := [], harness := (true, "ba5ccaec87aff4f41bcfd188e87e111e68f10dbd26d07a511062e912fc73af0c"), looks := true }, kinds := [], alts := [], laidByText := true, laidKinds := [.data], laidTests := true, laidLooks := .later }
def FnRenumberTermsCardSaid : Prop := Claim7.holds Tryd.pinned (.plain (OpenSpec.ofChange fnRenumberTermsSpec)) fnRenumberTermsCard

/-- THE SECOND FORM's CARD OF 'laws.FnExactTermVars'. -/
def fnExactTermVarsUptoCard : Claim7 := { stood := { row := fnExactTermVarsUptoRow, standIns := [], harness := (true, "ba5ccaec87aff4f41bcfd188e87e111e68f10dbd26d07a511062e912fc73af0c"), looks := true }, kinds := [], alts := [], laidByText := true, laidKinds := [.data], laidTests := true, laidLooks := .later }
def FnExactTermVarsUptoCardSaid : Prop := Claim7.holds Tryd.pinned (.plain (OpenSpec.upto fnExactTermVarsSpec)) fnExactTermVarsUptoCard

/-- THE SECOND FORM's CARD OF 'laws.FnExactListOf'. -/
def fnExactListOfUptoCard : Claim7 := { stood := { row := fnExactListOfUptoRow, standIns := [], harness := (true, "ba5ccaec87aff4f41bcfd188e87e111e68f10dbd26d07a511062e912fc73af0c"), looks := true }, kinds := [], alts := [], laidByText := true, laidKinds := [.data], laidTests := true, laidLooks := .later }
def FnExactListOfUptoCardSaid : Prop := Claim7.holds Tryd.pinned (.plain (OpenSpec.upto fnExactListOfSpec)) fnExactListOfUptoCard

/-- THE SECOND FORM's CARD OF 'laws.FnExactMakeList'. -/
def fnExactMakeListUptoCard : Claim7 := { stood := { row := fnExactMakeListUptoRow, standIns := [], harness := (true, "ba5ccaec87aff4f41bcfd188e87e111e68f10dbd26d07a511062e912fc73af0c"), looks := true }, kinds := [], alts := [], laidByText := true, laidKinds := [.data], laidTests := true, laidLooks := .later }
def FnExactMakeListUptoCardSaid : Prop := Claim7.holds Tryd.pinned (.plain (OpenSpec.upto fnExactMakeListSpec)) fnExactMakeListUptoCard

/-- THE SECOND FORM's CARD OF 'laws.FnExactRenumberTerms'. -/
def fnExactRenumberTermsUptoCard : Claim7 := { stood := { row := fnExactRenumberTermsUptoRow, standIns := [], harness := (true, "ba5ccaec87aff4f41bcfd188e87e111e68f10dbd26d07a511062e912fc73af0c"), looks := true }, kinds := [], alts := [], laidByText := true, laidKinds := [.data], laidTests := true, laidLooks := .later }
def FnExactRenumberTermsUptoCardSaid : Prop := Claim7.holds Tryd.pinned (.plain (OpenSpec.upto fnExactRenumberTermsSpec)) fnExactRenumberTermsUptoCard

/-- THE SECOND FORM's CARD OF 'laws.FnExactOpLevel'. -/
def fnExactOpLevelUptoCard : Claim7 := { stood := { row := fnExactOpLevelUptoRow, standIns := [], harness := (true, "ba5ccaec87aff4f41bcfd188e87e111e68f10dbd26d07a511062e912fc73af0c"), looks := true }, kinds := [], alts := [], laidByText := true, laidKinds := [.data], laidTests := true, laidLooks := .later }
def FnExactOpLevelUptoCardSaid : Prop := Claim7.holds Tryd.pinned (.plain (OpenSpec.upto fnExactOpLevelSpec)) fnExactOpLevelUptoCard

/-- THE SECOND FORM's CARD OF 'laws.FnTermSame'. -/
def fnTermSameUptoCard : Claim7 := { stood := { row := fnTermSameUptoRow, standIns := [], harness := (true, "ba5ccaec87aff4f41bcfd188e87e111e68f10dbd26d07a511062e912fc73af0c"), looks := true }, kinds := [], alts := [], laidByText := true, laidKinds := [.data, .data, .data, .data], laidTests := true, laidLooks := .later }
def FnTermSameUptoCardSaid : Prop := Claim7.holds Tryd.pinned (.plain (OpenSpec.upto fnTermSameSpec)) fnTermSameUptoCard

/-- THE SECOND FORM's CARD OF 'laws.FnListOf'. -/
def fnListOfUptoCard : Claim7 := { stood := { row := fnListOfUptoRow, standIns := [], harness := (true, "ba5ccaec87aff4f41bcfd188e87e111e68f10dbd26d07a511062e912fc73af0c"), looks := true }, kinds := [], alts := [], laidByText := true, laidKinds := [.data], laidTests := true, laidLooks := .later }
def FnListOfUptoCardSaid : Prop := Claim7.holds Tryd.pinned (.plain (OpenSpec.upto fnListOfSpec)) fnListOfUptoCard

/-- THE SECOND FORM's CARD OF 'laws.FnMakeList'. -/
def fnMakeListUptoCard : Claim7 := { stood := { row := fnMakeListUptoRow, standIns := [], harness := (true, "ba5ccaec87aff4f41bcfd188e87e111e68f10dbd26d07a511062e912fc73af0c"), looks := true }, kinds := [], alts := [], laidByText := true, laidKinds := [.data], laidTests := true, laidLooks := .later }
def FnMakeListUptoCardSaid : Prop := Claim7.holds Tryd.pinned (.plain (OpenSpec.upto fnMakeListSpec)) fnMakeListUptoCard

/-- THE SECOND FORM's CARD OF 'laws.FnListTail'. -/
def fnListTailUptoCard : Claim7 := { stood := { row := fnListTailUptoRow, standIns := [], harness := (true, "ba5ccaec87aff4f41bcfd188e87e111e68f10dbd26d07a511062e912fc73af0c"), looks := true }, kinds := [], alts := [], laidByText := true, laidKinds := [.data], laidTests := true, laidLooks := .later }
def FnListTailUptoCardSaid : Prop := Claim7.holds Tryd.pinned (.plain (OpenSpec.upto fnListTailSpec)) fnListTailUptoCard

/-- THE SECOND FORM's CARD OF 'laws.FnRenumberTerms'. -/
def fnRenumberTermsUptoCard : Claim7 := { stood := { row := fnRenumberTermsUptoRow, standIns := [], harness := (true, "ba5ccaec87aff4f41bcfd188e87e111e68f10dbd26d07a511062e912fc73af0c"), looks := true }, kinds := [], alts := [], laidByText := true, laidKinds := [.data], laidTests := true, laidLooks := .later }
def FnRenumberTermsUptoCardSaid : Prop := Claim7.holds Tryd.pinned (.plain (OpenSpec.upto fnRenumberTermsSpec)) fnRenumberTermsUptoCard
end Rows
end Go.Proofs.YtloddahenligpaaDoor

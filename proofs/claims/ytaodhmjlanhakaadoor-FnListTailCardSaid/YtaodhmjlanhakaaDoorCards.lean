/-
  DERIVED. GIVEN WITH THE SEED: THE CARDS: each row of YtaodhmjlanhakaaDoorRows.lean that lists a variable, with what it lists TIED to the program's text (the seventh form; the later family's looks); each row that meets fmt, with fmt's text TOLD by the authors' own Lean function (tested against real Go, not proved from fmt's source: count such statements apart). THE CARD IS WHAT COUNTS. Prove the row's statement (the work); the ties are given (YtaodhmjlanhakaaDoorTie.lean); close each card by the builder's one call (the guide's Derived/Test/ToyasCard.lean, 'card_holds'). Laid BY PROGRAM, IN A SANDBOX (cutbox-door.mjs). By AI agents, Wed Nov 11 2026. No macro, syntax, notation, axiom, sorry.
-/
import Derived.Test.YtaodhmjlanhakaaDoorRows
import GoSem.ClaimSeven
namespace Go.Proofs.YtaodhmjlanhakaaDoor
namespace Rows

/-- THE TIED CARD OF 'laws.FnListOf'. -/
def fnListOfCard : Claim7 := { stood := { row := fnListOfRow, standIns := [], harness := (true, "523e6746defea2471ef981c7fe35e976c045b882fa9de37391dc39b456c3f5e6"), looks := true }, kinds := [], alts := [], laidByText := true, laidKinds := [.data], laidTests := true, laidLooks := .later }
def FnListOfCardSaid : Prop := Claim7.holds Tryd.pinned (.plain (OpenSpec.ofChange fnListOfSpec)) fnListOfCard

/-- THE TIED CARD OF 'laws.FnMakeList'. -/
def fnMakeListCard : Claim7 := { stood := { row := fnMakeListRow, standIns := [], harness := (true, "523e6746defea2471ef981c7fe35e976c045b882fa9de37391dc39b456c3f5e6"), looks := true }, kinds := [], alts := [], laidByText := true, laidKinds := [.data], laidTests := true, laidLooks := .later }
def FnMakeListCardSaid : Prop := Claim7.holds Tryd.pinned (.plain (OpenSpec.ofChange fnMakeListSpec)) fnMakeListCard

/-- THE TIED CARD OF 'laws.FnListTail'. -/
def fnListTailCard : Claim7 := { stood := { row := fnListTailRow, standIns := [], harness := (true, "523e6746defea2471ef981c7fe35e976c045b882fa9de37391dc39b456c3f5e6"), looks := true }, kinds := [], alts := [], laidByText := true, laidKinds := [.data], laidTests := true, laidLooks := .later }
def FnListTailCardSaid : Prop := Claim7.holds Tryd.pinned (.plain (OpenSpec.ofChange fnListTailSpec)) fnListTailCard

/-- THE TIED CARD OF 'laws.FnRenumberTerms'. -/
def fnRenumberTermsCard : Claim7 := { stood := { row := fnRenumberTermsRow, standIns := [], harness := (true, "523e6746defea2471ef981c7fe35e976c045b882fa9de37391dc39b456c3f5e6"), looks := true }, kinds := [], alts := [], laidByText := true, laidKinds := [.data], laidTests := true, laidLooks := .later }
def FnRenumberTermsCardSaid : Prop := Claim7.holds Tryd.pinned (.plain (OpenSpec.ofChange fnRenumberTermsSpec)) fnRenumberTermsCard

/-- THE SECOND FORM's CARD OF 'laws.FnListOf'. -/
def fnListOfUptoCard : Claim7 := { stood := { row := fnListOfUptoRow, standIns := [], harness := (true, "523e6746defea2471ef981c7fe35e976c045b882fa9de37391dc39b456c3f5e6"), looks := true }, kinds := [], alts := [], laidByText := true, laidKinds := [.data], laidTests := true, laidLooks := .later }
def FnListOfUptoCardSaid : Prop := Claim7.holds Tryd.pinned (.plain (OpenSpec.upto fnListOfSpec)) fnListOfUptoCard

/-- THE SECOND FORM's CARD OF 'laws.FnMakeList'. -/
def fnMakeListUptoCard : Claim7 := { stood := { row := fnMakeListUptoRow, standIns := [], harness := (true, "523e6746defea2471ef981c7fe35e976c045b882fa9de37391dc39b456c3f5e6"), looks := true }, kinds := [], alts := [], laidByText := true, laidKinds := [.data], laidTests := true, laidLooks := .later }
def FnMakeListUptoCardSaid : Prop := Claim7.holds Tryd.pinned (.plain (OpenSpec.upto fnMakeListSpec)) fnMakeListUptoCard

/-- THE SECOND FORM's CARD OF 'laws.FnListTail'. -/
def fnListTailUptoCard : Claim7 := { stood := { row := fnListTailUptoRow, standIns := [], harness := (true, "523e6746defea2471ef981c7fe35e976c045b882fa9de37391dc39b456c3f5e6"), looks := true }, kinds := [], alts := [], laidByText := true, laidKinds := [.data], laidTests := true, laidLooks := .later }
def FnListTailUptoCardSaid : Prop := Claim7.holds Tryd.pinned (.plain (OpenSpec.upto fnListTailSpec)) fnListTailUptoCard

/-- THE SECOND FORM's CARD OF 'laws.FnRenumberTerms'. -/
def fnRenumberTermsUptoCard : Claim7 := { stood := { row := fnRenumberTermsUptoRow, standIns := [], harness := (true, "523e6746defea2471ef981c7fe35e976c045b882fa9de37391dc39b456c3f5e6"), looks := true }, kinds := [], alts := [], laidByText := true, laidKinds := [.data], laidTests := true, laidLooks := .later }
def FnRenumberTermsUptoCardSaid : Prop := Claim7.holds Tryd.pinned (.plain (OpenSpec.upto fnRenumberTermsSpec)) fnRenumberTermsUptoCard
end Rows
end Go.Proofs.YtaodhmjlanhakaaDoor

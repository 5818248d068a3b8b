/-
  DERIVED. GIVEN WITH THE SEED: THE CARDS: each row of YtnkaafimnkigpaaDoorRows.lean that lists a variable, with what it lists TIED to the program's text (the seventh form; the later family's looks); each row that meets fmt, with fmt's text TOLD by the authors' own Lean function (tested against real Go, not proved from fmt's source: count such statements apart). THE CARD IS WHAT COUNTS. Prove the row's statement (the work); the ties are given (YtnkaafimnkigpaaDoorTie.lean); close each card by the builder's one call (the guide's Derived/Test/ToyasCard.lean, 'card_holds'). Laid BY PROGRAM, IN A SANDBOX (cutbox-door.mjs). By AI agents, Wed Nov 11 2026. No macro, syntax, notation, axiom, sorry.
-/
import Derived.Test.YtnkaafimnkigpaaDoorRows
import GoSem.ClaimSeven
namespace Go.Proofs.YtnkaafimnkigpaaDoor
namespace Rows

/-- THE TIED CARD OF 'laws.FnExactUnifyTerms'. -/
def fnExactUnifyTermsCard : Claim7 := { stood := { row := fnExactUnifyTermsRow, standIns := [], harness := (true, "a46dfecf60dc4f8acba5b906e7f33e3b3ddd578f9f8ed084cf1fe4c711d349fb"), looks := true }, kinds := [], alts := [], laidByText := true, laidKinds := [.data], laidTests := true, laidLooks := .later }
def FnExactUnifyTermsCardSaid : Prop := Claim7.holds Tryd.pinned (.plain (OpenSpec.ofChange fnExactUnifyTermsSpec)) fnExactUnifyTermsCard

/-- THE TIED CARD OF 'laws.FnExactGeneralize'. -/
def fnExactGeneralizeCard : Claim7 := { stood := { row := fnExactGeneralizeRow, standIns := [], harness := (true, "a46dfecf60dc4f8acba5b906e7f33e3b3ddd578f9f8ed084cf1fe4c711d349fb"), looks := true }, kinds := [], alts := [], laidByText := true, laidKinds := [.data], laidTests := true, laidLooks := .later }
def FnExactGeneralizeCardSaid : Prop := Claim7.holds Tryd.pinned (.plain (OpenSpec.ofChange fnExactGeneralizeSpec)) fnExactGeneralizeCard

/-- THE TIED CARD OF 'laws.FnExactAnswerGoals'. -/
def fnExactAnswerGoalsCard : Claim7 := { stood := { row := fnExactAnswerGoalsRow, standIns := [], harness := (true, "a46dfecf60dc4f8acba5b906e7f33e3b3ddd578f9f8ed084cf1fe4c711d349fb"), looks := true }, kinds := [], alts := [], laidByText := true, laidKinds := [.data, .data], laidTests := true, laidLooks := .later }
def FnExactAnswerGoalsCardSaid : Prop := Claim7.holds Tryd.pinned (.plain (OpenSpec.ofChange fnExactAnswerGoalsSpec)) fnExactAnswerGoalsCard

/-- THE SECOND FORM's CARD OF 'laws.FnExactUnifyTerms'. -/
def fnExactUnifyTermsUptoCard : Claim7 := { stood := { row := fnExactUnifyTermsUptoRow, standIns := [], harness := (true, "a46dfecf60dc4f8acba5b906e7f33e3b3ddd578f9f8ed084cf1fe4c711d349fb"), looks := true }, kinds := [], alts := [], laidByText := true, laidKinds := [.data], laidTests := true, laidLooks := .later }
def FnExactUnifyTermsUptoCardSaid : Prop := Claim7.holds Tryd.pinned (.plain (OpenSpec.upto fnExactUnifyTermsSpec)) fnExactUnifyTermsUptoCard

/-- THE SECOND FORM's CARD OF 'laws.FnExactGeneralize'. -/
def fnExactGeneralizeUptoCard : Claim7 := { stood := { row := fnExactGeneralizeUptoRow, standIns := [], harness := (true, "a46dfecf60dc4f8acba5b906e7f33e3b3ddd578f9f8ed084cf1fe4c711d349fb"), looks := true }, kinds := [], alts := [], laidByText := true, laidKinds := [.data], laidTests := true, laidLooks := .later }
def FnExactGeneralizeUptoCardSaid : Prop := Claim7.holds Tryd.pinned (.plain (OpenSpec.upto fnExactGeneralizeSpec)) fnExactGeneralizeUptoCard

/-- THE SECOND FORM's CARD OF 'laws.FnExactAnswerGoals'. -/
def fnExactAnswerGoalsUptoCard : Claim7 := { stood := { row := fnExactAnswerGoalsUptoRow, standIns := [], harness := (true, "a46dfecf60dc4f8acba5b906e7f33e3b3ddd578f9f8ed084cf1fe4c711d349fb"), looks := true }, kinds := [], alts := [], laidByText := true, laidKinds := [.data, .data], laidTests := true, laidLooks := .later }
def FnExactAnswerGoalsUptoCardSaid : Prop := Claim7.holds Tryd.pinned (.plain (OpenSpec.upto fnExactAnswerGoalsSpec)) fnExactAnswerGoalsUptoCard
end Rows
end Go.Proofs.YtnkaafimnkigpaaDoor

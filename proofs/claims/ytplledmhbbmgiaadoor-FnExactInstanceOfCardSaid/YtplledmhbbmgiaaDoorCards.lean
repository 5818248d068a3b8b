/-
  DERIVED. GIVEN WITH THE SEED: THE CARDS: each row of YtplledmhbbmgiaaDoorRows.lean that lists a variable, with what it lists TIED to the program's text (the seventh form; the later family's looks); each row that meets fmt, with fmt's text TOLD by the authors' own Lean function (tested against real Go, not proved from fmt's source: count such statements apart). THE CARD IS WHAT COUNTS. Prove the row's statement (the work); the ties are given (YtplledmhbbmgiaaDoorTie.lean); close each card by the builder's one call (the guide's Derived/Test/ToyasCard.lean, 'card_holds'). Laid BY PROGRAM, IN A SANDBOX (cutbox-door.mjs). By AI agents, Wed Nov 11 2026. No macro, syntax, notation, axiom, sorry.
-/
import Derived.Test.YtplledmhbbmgiaaDoorRows
import GoSem.ClaimSeven
namespace Go.Proofs.YtplledmhbbmgiaaDoor
namespace Rows

/-- THE TIED CARD OF 'laws.FnExactCountNodes'. -/
def fnExactCountNodesCard : Claim7 := { stood := { row := fnExactCountNodesRow, standIns := [], harness := (true, "762588df13de0f3c0043b1422cf9da53a0a2627f1e428d9e8b634c5877336e8e"), looks := true }, kinds := [], alts := [], laidByText := true, laidKinds := [.data], laidTests := true, laidLooks := .later }
def FnExactCountNodesCardSaid : Prop := Claim7.holds Tryd.pinned (.plain (OpenSpec.ofChange fnExactCountNodesSpec)) fnExactCountNodesCard

/-- THE TIED CARD OF 'laws.FnExactApplyBinds'. -/
def fnExactApplyBindsCard : Claim7 := { stood := { row := fnExactApplyBindsRow, standIns := [], harness := (true, "762588df13de0f3c0043b1422cf9da53a0a2627f1e428d9e8b634c5877336e8e"), looks := true }, kinds := [], alts := [], laidByText := true, laidKinds := [.data], laidTests := true, laidLooks := .later }
def FnExactApplyBindsCardSaid : Prop := Claim7.holds Tryd.pinned (.plain (OpenSpec.ofChange fnExactApplyBindsSpec)) fnExactApplyBindsCard

/-- THE TIED CARD OF 'laws.FnExactVariantTerms'. -/
def fnExactVariantTermsCard : Claim7 := { stood := { row := fnExactVariantTermsRow, standIns := [], harness := (true, "762588df13de0f3c0043b1422cf9da53a0a2627f1e428d9e8b634c5877336e8e"), looks := true }, kinds := [], alts := [], laidByText := true, laidKinds := [.data], laidTests := true, laidLooks := .later }
def FnExactVariantTermsCardSaid : Prop := Claim7.holds Tryd.pinned (.plain (OpenSpec.ofChange fnExactVariantTermsSpec)) fnExactVariantTermsCard

/-- THE TIED CARD OF 'laws.FnExactInstanceOf'. -/
def fnExactInstanceOfCard : Claim7 := { stood := { row := fnExactInstanceOfRow, standIns := [], harness := (true, "762588df13de0f3c0043b1422cf9da53a0a2627f1e428d9e8b634c5877336e8e"), looks := true }, kinds := [], alts := [], laidByText := true, laidKinds := [.data], laidTests := true, laidLooks := .later }
def FnExactInstanceOfCardSaid : Prop := Claim7.holds Tryd.pinned (.plain (OpenSpec.ofChange fnExactInstanceOfSpec)) fnExactInstanceOfCard

/-- THE TIED CARD OF 'laws.FnExactShiftTerm'. -/
def fnExactShiftTermCard : Claim7 := { stood := { row := fnExactShiftTermRow, standIns := [], harness := (true, "762588df13de0f3c0043b1422cf9da53a0a2627f1e428d9e8b634c5877336e8e"), looks := true }, kinds := [], alts := [], laidByText := true, laidKinds := [.data], laidTests := true, laidLooks := .later }
def FnExactShiftTermCardSaid : Prop := Claim7.holds Tryd.pinned (.plain (OpenSpec.ofChange fnExactShiftTermSpec)) fnExactShiftTermCard

/-- THE SECOND FORM's CARD OF 'laws.FnExactCountNodes'. -/
def fnExactCountNodesUptoCard : Claim7 := { stood := { row := fnExactCountNodesUptoRow, standIns := [], harness := (true, "762588df13de0f3c0043b1422cf9da53a0a2627f1e428d9e8b634c5877336e8e"), looks := true }, kinds := [], alts := [], laidByText := true, laidKinds := [.data], laidTests := true, laidLooks := .later }
def FnExactCountNodesUptoCardSaid : Prop := Claim7.holds Tryd.pinned (.plain (OpenSpec.upto fnExactCountNodesSpec)) fnExactCountNodesUptoCard

/-- THE SECOND FORM's CARD OF 'laws.FnExactApplyBinds'. -/
def fnExactApplyBindsUptoCard : Claim7 := { stood := { row := fnExactApplyBindsUptoRow, standIns := [], harness := (true, "762588df13de0f3c0043b1422cf9da53a0a2627f1e428d9e8b634c5877336e8e"), looks := true }, kinds := [], alts := [], laidByText := true, laidKinds := [.data], laidTests := true, laidLooks := .later }
def FnExactApplyBindsUptoCardSaid : Prop := Claim7.holds Tryd.pinned (.plain (OpenSpec.upto fnExactApplyBindsSpec)) fnExactApplyBindsUptoCard

/-- THE SECOND FORM's CARD OF 'laws.FnExactVariantTerms'. -/
def fnExactVariantTermsUptoCard : Claim7 := { stood := { row := fnExactVariantTermsUptoRow, standIns := [], harness := (true, "762588df13de0f3c0043b1422cf9da53a0a2627f1e428d9e8b634c5877336e8e"), looks := true }, kinds := [], alts := [], laidByText := true, laidKinds := [.data], laidTests := true, laidLooks := .later }
def FnExactVariantTermsUptoCardSaid : Prop := Claim7.holds Tryd.pinned (.plain (OpenSpec.upto fnExactVariantTermsSpec)) fnExactVariantTermsUptoCard

/-- THE SECOND FORM's CARD OF 'laws.FnExactInstanceOf'. -/
def fnExactInstanceOfUptoCard : Claim7 := { stood := { row := fnExactInstanceOfUptoRow, standIns := [], harness := (true, "762588df13de0f3c0043b1422cf9da53a0a2627f1e428d9e8b634c5877336e8e"), looks := true }, kinds := [], alts := [], laidByText := true, laidKinds := [.data], laidTests := true, laidLooks := .later }
def FnExactInstanceOfUptoCardSaid : Prop := Claim7.holds Tryd.pinned (.plain (OpenSpec.upto fnExactInstanceOfSpec)) fnExactInstanceOfUptoCard

/-- THE SECOND FORM's CARD OF 'laws.FnExactShiftTerm'. -/
def fnExactShiftTermUptoCard : Claim7 := { stood := { row := fnExactShiftTermUptoRow, standIns := [], harness := (true, "762588df13de0f3c0043b1422cf9da53a0a2627f1e428d9e8b634c5877336e8e"), looks := true }, kinds := [], alts := [], laidByText := true, laidKinds := [.data], laidTests := true, laidLooks := .later }
def FnExactShiftTermUptoCardSaid : Prop := Claim7.holds Tryd.pinned (.plain (OpenSpec.upto fnExactShiftTermSpec)) fnExactShiftTermUptoCard
end Rows
end Go.Proofs.YtplledmhbbmgiaaDoor

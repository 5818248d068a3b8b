/-
  DERIVED. GIVEN WITH THE SEED: THE CARDS: each row of YtgfdikmogdpchaaDoorRows.lean that lists a variable, with what it lists TIED to the program's text (the seventh form; the later family's looks); each row that meets fmt, with fmt's text TOLD by the authors' own Lean function (tested against real Go, not proved from fmt's source: count such statements apart). THE CARD IS WHAT COUNTS. Prove the row's statement (the work); the ties are given (YtgfdikmogdpchaaDoorTie.lean); close each card by the builder's one call (the guide's Derived/Test/ToyasCard.lean, 'card_holds'). Laid BY PROGRAM, IN A SANDBOX (cutbox-door.mjs). By AI agents, Wed Nov 11 2026. No macro, syntax, notation, axiom, sorry.
-/
import Derived.Test.YtgfdikmogdpchaaDoorRows
import GoSem.ClaimSeven
namespace Go.Proofs.YtgfdikmogdpchaaDoor
namespace Rows

/-- THE TIED CARD OF 'laws.FnExactEvalArith'. -/
def fnExactEvalArithCard : Claim7 := { stood := { row := fnExactEvalArithRow, standIns := [], harness := (true, "eb139c1346dc55927631a68f792d746c8965c579bde2d70b8cdf305315037c86"), looks := true }, kinds := [], alts := [], laidByText := true, laidKinds := [.handle, .data], laidTests := true, laidLooks := .later }
def FnExactEvalArithCardSaid : Prop := Claim7.holds Tryd.pinned (.plain (OpenSpec.ofChange fnExactEvalArithSpec)) fnExactEvalArithCard

/-- THE TIED CARD OF 'laws.FnExactCompareGoal'. -/
def fnExactCompareGoalCard : Claim7 := { stood := { row := fnExactCompareGoalRow, standIns := [], harness := (true, "eb139c1346dc55927631a68f792d746c8965c579bde2d70b8cdf305315037c86"), looks := true }, kinds := [], alts := [], laidByText := true, laidKinds := [.data, .data], laidTests := true, laidLooks := .later }
def FnExactCompareGoalCardSaid : Prop := Claim7.holds Tryd.pinned (.plain (OpenSpec.ofChange fnExactCompareGoalSpec)) fnExactCompareGoalCard

/-- THE SECOND FORM's CARD OF 'laws.FnExactEvalArith'. -/
def fnExactEvalArithUptoCard : Claim7 := { stood := { row := fnExactEvalArithUptoRow, standIns := [], harness := (true, "eb139c1346dc55927631a68f792d746c8965c579bde2d70b8cdf305315037c86"), looks := true }, kinds := [], alts := [], laidByText := true, laidKinds := [.handle, .data], laidTests := true, laidLooks := .later }
def FnExactEvalArithUptoCardSaid : Prop := Claim7.holds Tryd.pinned (.plain (OpenSpec.upto fnExactEvalArithSpec)) fnExactEvalArithUptoCard

/-- THE SECOND FORM's CARD OF 'laws.FnExactCompareGoal'. -/
def fnExactCompareGoalUptoCard : Claim7 := { stood := { row := fnExactCompareGoalUptoRow, standIns := [], harness := (true, "eb139c1346dc55927631a68f792d746c8965c579bde2d70b8cdf305315037c86"), looks := true }, kinds := [], alts := [], laidByText := true, laidKinds := [.data, .data], laidTests := true, laidLooks := .later }
def FnExactCompareGoalUptoCardSaid : Prop := Claim7.holds Tryd.pinned (.plain (OpenSpec.upto fnExactCompareGoalSpec)) fnExactCompareGoalUptoCard
end Rows
end Go.Proofs.YtgfdikmogdpchaaDoor

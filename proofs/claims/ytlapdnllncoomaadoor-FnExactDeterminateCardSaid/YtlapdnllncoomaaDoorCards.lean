/-
  DERIVED. GIVEN WITH THE SEED: THE CARDS: each row of YtlapdnllncoomaaDoorRows.lean that lists a variable, with what it lists TIED to the program's text (the seventh form; the later family's looks); each row that meets fmt, with fmt's text TOLD by the authors' own Lean function (tested against real Go, not proved from fmt's source: count such statements apart). THE CARD IS WHAT COUNTS. Prove the row's statement (the work); the ties are given (YtlapdnllncoomaaDoorTie.lean); close each card by the builder's one call (the guide's Derived/Test/ToyasCard.lean, 'card_holds'). Laid BY PROGRAM, IN A SANDBOX (cutbox-door.mjs). By AI agents, Wed Nov 11 2026. No macro, syntax, notation, axiom, sorry.
-/
import Derived.Test.YtlapdnllncoomaaDoorRows
import GoSem.ClaimSeven
namespace Go.Proofs.YtlapdnllncoomaaDoor
namespace Rows

/-- THE TIED CARD OF 'laws.FnExactFirstKey'. -/
def fnExactFirstKeyCard : Claim7 := { stood := { row := fnExactFirstKeyRow, standIns := [], harness := (true, "bcf80fec1ea7f6f175f90d1270ba3753e712bcdcbff1ab24ee1036e91724a522"), looks := true }, kinds := [], alts := [], laidByText := true, laidKinds := [.data, .data, .data, .data], laidTests := true, laidLooks := .later }
def FnExactFirstKeyCardSaid : Prop := Claim7.holds Tryd.pinned (.plain (OpenSpec.ofChange fnExactFirstKeySpec)) fnExactFirstKeyCard

/-- THE TIED CARD OF 'laws.FnExactCandidates'. -/
def fnExactCandidatesCard : Claim7 := { stood := { row := fnExactCandidatesRow, standIns := [], harness := (true, "bcf80fec1ea7f6f175f90d1270ba3753e712bcdcbff1ab24ee1036e91724a522"), looks := true }, kinds := [], alts := [], laidByText := true, laidKinds := [.data, .data, .data, .data, .data], laidTests := true, laidLooks := .later }
def FnExactCandidatesCardSaid : Prop := Claim7.holds Tryd.pinned (.plain (OpenSpec.ofChange fnExactCandidatesSpec)) fnExactCandidatesCard

/-- THE TIED CARD OF 'laws.FnExactDeterminate'. -/
def fnExactDeterminateCard : Claim7 := { stood := { row := fnExactDeterminateRow, standIns := [], harness := (true, "bcf80fec1ea7f6f175f90d1270ba3753e712bcdcbff1ab24ee1036e91724a522"), looks := true }, kinds := [], alts := [], laidByText := true, laidKinds := [.data, .data, .data, .data, .data], laidTests := true, laidLooks := .later }
def FnExactDeterminateCardSaid : Prop := Claim7.holds Tryd.pinned (.plain (OpenSpec.ofChange fnExactDeterminateSpec)) fnExactDeterminateCard

/-- THE TIED CARD OF 'laws.FnExactClausesFor'. -/
def fnExactClausesForCard : Claim7 := { stood := { row := fnExactClausesForRow, standIns := [], harness := (true, "bcf80fec1ea7f6f175f90d1270ba3753e712bcdcbff1ab24ee1036e91724a522"), looks := true }, kinds := [], alts := [], laidByText := true, laidKinds := [.data, .data], laidTests := true, laidLooks := .later }
def FnExactClausesForCardSaid : Prop := Claim7.holds Tryd.pinned (.plain (OpenSpec.ofChange fnExactClausesForSpec)) fnExactClausesForCard

/-- THE TIED CARD OF 'laws.FnExactUnknownGoals'. -/
def fnExactUnknownGoalsCard : Claim7 := { stood := { row := fnExactUnknownGoalsRow, standIns := [], harness := (true, "bcf80fec1ea7f6f175f90d1270ba3753e712bcdcbff1ab24ee1036e91724a522"), looks := true }, kinds := [], alts := [], laidByText := true, laidKinds := [.data, .data], laidTests := true, laidLooks := .later }
def FnExactUnknownGoalsCardSaid : Prop := Claim7.holds Tryd.pinned (.plain (OpenSpec.ofChange fnExactUnknownGoalsSpec)) fnExactUnknownGoalsCard

/-- THE SECOND FORM's CARD OF 'laws.FnExactFirstKey'. -/
def fnExactFirstKeyUptoCard : Claim7 := { stood := { row := fnExactFirstKeyUptoRow, standIns := [], harness := (true, "bcf80fec1ea7f6f175f90d1270ba3753e712bcdcbff1ab24ee1036e91724a522"), looks := true }, kinds := [], alts := [], laidByText := true, laidKinds := [.data, .data, .data, .data], laidTests := true, laidLooks := .later }
def FnExactFirstKeyUptoCardSaid : Prop := Claim7.holds Tryd.pinned (.plain (OpenSpec.upto fnExactFirstKeySpec)) fnExactFirstKeyUptoCard

/-- THE SECOND FORM's CARD OF 'laws.FnExactCandidates'. -/
def fnExactCandidatesUptoCard : Claim7 := { stood := { row := fnExactCandidatesUptoRow, standIns := [], harness := (true, "bcf80fec1ea7f6f175f90d1270ba3753e712bcdcbff1ab24ee1036e91724a522"), looks := true }, kinds := [], alts := [], laidByText := true, laidKinds := [.data, .data, .data, .data, .data], laidTests := true, laidLooks := .later }
def FnExactCandidatesUptoCardSaid : Prop := Claim7.holds Tryd.pinned (.plain (OpenSpec.upto fnExactCandidatesSpec)) fnExactCandidatesUptoCard

/-- THE SECOND FORM's CARD OF 'laws.FnExactDeterminate'. -/
def fnExactDeterminateUptoCard : Claim7 := { stood := { row := fnExactDeterminateUptoRow, standIns := [], harness := (true, "bcf80fec1ea7f6f175f90d1270ba3753e712bcdcbff1ab24ee1036e91724a522"), looks := true }, kinds := [], alts := [], laidByText := true, laidKinds := [.data, .data, .data, .data, .data], laidTests := true, laidLooks := .later }
def FnExactDeterminateUptoCardSaid : Prop := Claim7.holds Tryd.pinned (.plain (OpenSpec.upto fnExactDeterminateSpec)) fnExactDeterminateUptoCard

/-- THE SECOND FORM's CARD OF 'laws.FnExactClausesFor'. -/
def fnExactClausesForUptoCard : Claim7 := { stood := { row := fnExactClausesForUptoRow, standIns := [], harness := (true, "bcf80fec1ea7f6f175f90d1270ba3753e712bcdcbff1ab24ee1036e91724a522"), looks := true }, kinds := [], alts := [], laidByText := true, laidKinds := [.data, .data], laidTests := true, laidLooks := .later }
def FnExactClausesForUptoCardSaid : Prop := Claim7.holds Tryd.pinned (.plain (OpenSpec.upto fnExactClausesForSpec)) fnExactClausesForUptoCard

/-- THE SECOND FORM's CARD OF 'laws.FnExactUnknownGoals'. -/
def fnExactUnknownGoalsUptoCard : Claim7 := { stood := { row := fnExactUnknownGoalsUptoRow, standIns := [], harness := (true, "bcf80fec1ea7f6f175f90d1270ba3753e712bcdcbff1ab24ee1036e91724a522"), looks := true }, kinds := [], alts := [], laidByText := true, laidKinds := [.data, .data], laidTests := true, laidLooks := .later }
def FnExactUnknownGoalsUptoCardSaid : Prop := Claim7.holds Tryd.pinned (.plain (OpenSpec.upto fnExactUnknownGoalsSpec)) fnExactUnknownGoalsUptoCard
end Rows
end Go.Proofs.YtlapdnllncoomaaDoor

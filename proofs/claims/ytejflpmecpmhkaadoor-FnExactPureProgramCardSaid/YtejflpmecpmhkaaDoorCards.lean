/-
  DERIVED. GIVEN WITH THE SEED: THE CARDS: each row of YtejflpmecpmhkaaDoorRows.lean that lists a variable, with what it lists TIED to the program's text (the seventh form; the later family's looks); each row that meets fmt, with fmt's text TOLD by the authors' own Lean function (tested against real Go, not proved from fmt's source: count such statements apart). THE CARD IS WHAT COUNTS. Prove the row's statement (the work); the ties are given (YtejflpmecpmhkaaDoorTie.lean); close each card by the builder's one call (the guide's Derived/Test/ToyasCard.lean, 'card_holds'). Laid BY PROGRAM, IN A SANDBOX (cutbox-door.mjs). By AI agents, Wed Nov 11 2026. No macro, syntax, notation, axiom, sorry.
-/
import Derived.Test.YtejflpmecpmhkaaDoorRows
import GoSem.ClaimSeven
namespace Go.Proofs.YtejflpmecpmhkaaDoor
namespace Rows

/-- THE TIED CARD OF 'laws.FnExactQueryValid'. -/
def fnExactQueryValidCard : Claim7 := { stood := { row := fnExactQueryValidRow, standIns := [], harness := (true, "1c97786d1d71b25a39d9aa133c168d2aa3fec7d07ff2a9fd51c732584460d9a4"), looks := true }, kinds := [], alts := [], laidByText := true, laidKinds := [.data, .data], laidTests := true, laidLooks := .later }
def FnExactQueryValidCardSaid : Prop := Claim7.holds Tryd.pinned (.plain (OpenSpec.ofChange fnExactQueryValidSpec)) fnExactQueryValidCard

/-- THE TIED CARD OF 'laws.FnExactQueryVars'. -/
def fnExactQueryVarsCard : Claim7 := { stood := { row := fnExactQueryVarsRow, standIns := [], harness := (true, "1c97786d1d71b25a39d9aa133c168d2aa3fec7d07ff2a9fd51c732584460d9a4"), looks := true }, kinds := [], alts := [], laidByText := true, laidKinds := [.data, .data], laidTests := true, laidLooks := .later }
def FnExactQueryVarsCardSaid : Prop := Claim7.holds Tryd.pinned (.plain (OpenSpec.ofChange fnExactQueryVarsSpec)) fnExactQueryVarsCard

/-- THE TIED CARD OF 'laws.FnExactPureProgram'. -/
def fnExactPureProgramCard : Claim7 := { stood := { row := fnExactPureProgramRow, standIns := [], harness := (true, "1c97786d1d71b25a39d9aa133c168d2aa3fec7d07ff2a9fd51c732584460d9a4"), looks := true }, kinds := [], alts := [], laidByText := true, laidKinds := [.data, .data], laidTests := true, laidLooks := .later }
def FnExactPureProgramCardSaid : Prop := Claim7.holds Tryd.pinned (.plain (OpenSpec.ofChange fnExactPureProgramSpec)) fnExactPureProgramCard

/-- THE TIED CARD OF 'laws.FnExactAnswerGoals'. -/
def fnExactAnswerGoalsCard : Claim7 := { stood := { row := fnExactAnswerGoalsRow, standIns := [], harness := (true, "1c97786d1d71b25a39d9aa133c168d2aa3fec7d07ff2a9fd51c732584460d9a4"), looks := true }, kinds := [], alts := [], laidByText := true, laidKinds := [.data, .data], laidTests := true, laidLooks := .later }
def FnExactAnswerGoalsCardSaid : Prop := Claim7.holds Tryd.pinned (.plain (OpenSpec.ofChange fnExactAnswerGoalsSpec)) fnExactAnswerGoalsCard

/-- THE SECOND FORM's CARD OF 'laws.FnExactQueryValid'. -/
def fnExactQueryValidUptoCard : Claim7 := { stood := { row := fnExactQueryValidUptoRow, standIns := [], harness := (true, "1c97786d1d71b25a39d9aa133c168d2aa3fec7d07ff2a9fd51c732584460d9a4"), looks := true }, kinds := [], alts := [], laidByText := true, laidKinds := [.data, .data], laidTests := true, laidLooks := .later }
def FnExactQueryValidUptoCardSaid : Prop := Claim7.holds Tryd.pinned (.plain (OpenSpec.upto fnExactQueryValidSpec)) fnExactQueryValidUptoCard

/-- THE SECOND FORM's CARD OF 'laws.FnExactQueryVars'. -/
def fnExactQueryVarsUptoCard : Claim7 := { stood := { row := fnExactQueryVarsUptoRow, standIns := [], harness := (true, "1c97786d1d71b25a39d9aa133c168d2aa3fec7d07ff2a9fd51c732584460d9a4"), looks := true }, kinds := [], alts := [], laidByText := true, laidKinds := [.data, .data], laidTests := true, laidLooks := .later }
def FnExactQueryVarsUptoCardSaid : Prop := Claim7.holds Tryd.pinned (.plain (OpenSpec.upto fnExactQueryVarsSpec)) fnExactQueryVarsUptoCard

/-- THE SECOND FORM's CARD OF 'laws.FnExactPureProgram'. -/
def fnExactPureProgramUptoCard : Claim7 := { stood := { row := fnExactPureProgramUptoRow, standIns := [], harness := (true, "1c97786d1d71b25a39d9aa133c168d2aa3fec7d07ff2a9fd51c732584460d9a4"), looks := true }, kinds := [], alts := [], laidByText := true, laidKinds := [.data, .data], laidTests := true, laidLooks := .later }
def FnExactPureProgramUptoCardSaid : Prop := Claim7.holds Tryd.pinned (.plain (OpenSpec.upto fnExactPureProgramSpec)) fnExactPureProgramUptoCard

/-- THE SECOND FORM's CARD OF 'laws.FnExactAnswerGoals'. -/
def fnExactAnswerGoalsUptoCard : Claim7 := { stood := { row := fnExactAnswerGoalsUptoRow, standIns := [], harness := (true, "1c97786d1d71b25a39d9aa133c168d2aa3fec7d07ff2a9fd51c732584460d9a4"), looks := true }, kinds := [], alts := [], laidByText := true, laidKinds := [.data, .data], laidTests := true, laidLooks := .later }
def FnExactAnswerGoalsUptoCardSaid : Prop := Claim7.holds Tryd.pinned (.plain (OpenSpec.upto fnExactAnswerGoalsSpec)) fnExactAnswerGoalsUptoCard
end Rows
end Go.Proofs.YtejflpmecpmhkaaDoor

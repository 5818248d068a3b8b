/-
  DERIVED. GIVEN WITH THE SEED: THE CARDS: each row of YtkefpickpjjllaaDoorRows.lean that lists a variable, with what it lists TIED to the program's text (the seventh form; the later family's looks); each row that meets fmt, with fmt's text TOLD by the authors' own Lean function (tested against real Go, not proved from fmt's source: count such statements apart). THE CARD IS WHAT COUNTS. Prove the row's statement (the work); the ties are given (YtkefpickpjjllaaDoorTie.lean); close each card by the builder's one call (the guide's Derived/Test/ToyasCard.lean, 'card_holds'). Laid BY PROGRAM, IN A SANDBOX (cutbox-door.mjs). By AI agents, Wed Nov 11 2026. No macro, syntax, notation, axiom, sorry.
-/
import Derived.Test.YtkefpickpjjllaaDoorRows
import GoSem.ClaimSeven
namespace Go.Proofs.YtkefpickpjjllaaDoor
namespace Rows

/-- THE TIED CARD OF 'laws.FnExactUnifyTerms'. -/
def fnExactUnifyTermsCard : Claim7 := { stood := { row := fnExactUnifyTermsRow, standIns := [], harness := (true, "4f5bb97a1b214ce8a83e33943df4a0cc9a619e7e5634655bd94f2ae966fac14a"), looks := true }, kinds := [], alts := [], laidByText := true, laidKinds := [.data], laidTests := true, laidLooks := .later }
def FnExactUnifyTermsCardSaid : Prop := Claim7.holds Tryd.pinned (.plain (OpenSpec.ofChange fnExactUnifyTermsSpec)) fnExactUnifyTermsCard

/-- THE TIED CARD OF 'laws.FnUnifyTerms'. -/
def fnUnifyTermsCard : Claim7 := { stood := { row := fnUnifyTermsRow, standIns := [], harness := (true, "4f5bb97a1b214ce8a83e33943df4a0cc9a619e7e5634655bd94f2ae966fac14a"), looks := true }, kinds := [], alts := [], laidByText := true, laidKinds := [.data], laidTests := true, laidLooks := .later }
def FnUnifyTermsCardSaid : Prop := Claim7.holds Tryd.pinned (.plain (OpenSpec.ofChange fnUnifyTermsSpec)) fnUnifyTermsCard

/-- THE SECOND FORM's CARD OF 'laws.FnExactUnifyTerms'. -/
def fnExactUnifyTermsUptoCard : Claim7 := { stood := { row := fnExactUnifyTermsUptoRow, standIns := [], harness := (true, "4f5bb97a1b214ce8a83e33943df4a0cc9a619e7e5634655bd94f2ae966fac14a"), looks := true }, kinds := [], alts := [], laidByText := true, laidKinds := [.data], laidTests := true, laidLooks := .later }
def FnExactUnifyTermsUptoCardSaid : Prop := Claim7.holds Tryd.pinned (.plain (OpenSpec.upto fnExactUnifyTermsSpec)) fnExactUnifyTermsUptoCard

/-- THE SECOND FORM's CARD OF 'laws.FnUnifyTerms'. -/
def fnUnifyTermsUptoCard : Claim7 := { stood := { row := fnUnifyTermsUptoRow, standIns := [], harness := (true, "4f5bb97a1b214ce8a83e33943df4a0cc9a619e7e5634655bd94f2ae966fac14a"), looks := true }, kinds := [], alts := [], laidByText := true, laidKinds := [.data], laidTests := true, laidLooks := .later }
def FnUnifyTermsUptoCardSaid : Prop := Claim7.holds Tryd.pinned (.plain (OpenSpec.upto fnUnifyTermsSpec)) fnUnifyTermsUptoCard
end Rows
end Go.Proofs.YtkefpickpjjllaaDoor

/-
  DERIVED. GIVEN WITH THE SEED: THE CARDS: each row of YtdpmjpjbcpdgnaaDoorRows.lean that lists a variable, with what it lists TIED to the program's text (the seventh form; the later family's looks); each row that meets fmt, with fmt's text TOLD by the authors' own Lean function (tested against real Go, not proved from fmt's source: count such statements apart). THE CARD IS WHAT COUNTS. Prove the row's statement (the work); the ties are given (YtdpmjpjbcpdgnaaDoorTie.lean); close each card by the builder's one call (the guide's Derived/Test/ToyasCard.lean, 'card_holds'). Laid BY PROGRAM, IN A SANDBOX (cutbox-door.mjs). By AI agents, Wed Nov 11 2026. No macro, syntax, notation, axiom, sorry.
-/
import Derived.Test.YtdpmjpjbcpdgnaaDoorRows
import GoSem.ClaimSeven
namespace Go.Proofs.YtdpmjpjbcpdgnaaDoor
namespace Rows

/-- THE TIED CARD OF 'laws.FnEncodeAll'. -/
def fnEncodeAllCard : Claim7 := { stood := { row := fnEncodeAllRow, standIns := [], harness := (true, "ba3222353e7274f6f5cc4c1340356186202ac0c52d2f3a2ef755e1f6c3462e69"), looks := true }, kinds := [], alts := [], laidByText := true, laidKinds := [.sentinel, .sentinel], laidTests := true, laidLooks := .later }
def FnEncodeAllCardSaid : Prop := Claim7.holds Tryd.pinned (.plain (OpenSpec.ofChange fnEncodeAllSpec)) fnEncodeAllCard

/-- THE TIED CARD OF 'laws.FnEncodeFrame'. -/
def fnEncodeFrameCard : Claim7 := { stood := { row := fnEncodeFrameRow, standIns := [], harness := (true, "ba3222353e7274f6f5cc4c1340356186202ac0c52d2f3a2ef755e1f6c3462e69"), looks := true }, kinds := [], alts := [], laidByText := true, laidKinds := [.sentinel, .sentinel], laidTests := true, laidLooks := .later }
def FnEncodeFrameCardSaid : Prop := Claim7.holds Tryd.pinned (.plain (OpenSpec.ofChange fnEncodeFrameSpec)) fnEncodeFrameCard

/-- THE TIED CARD OF 'laws.FnFeedDecoder'. -/
def fnFeedDecoderCard : Claim7 := { stood := { row := fnFeedDecoderRow, standIns := [], harness := (true, "ba3222353e7274f6f5cc4c1340356186202ac0c52d2f3a2ef755e1f6c3462e69"), looks := true }, kinds := [], alts := [], laidByText := true, laidKinds := [.sentinel, .sentinel], laidTests := true, laidLooks := .later }
def FnFeedDecoderCardSaid : Prop := Claim7.holds Tryd.pinned (.plain (OpenSpec.ofChange fnFeedDecoderSpec)) fnFeedDecoderCard

/-- THE TIED CARD OF 'laws.FnDecoderValid'. -/
def fnDecoderValidCard : Claim7 := { stood := { row := fnDecoderValidRow, standIns := [], harness := (true, "ba3222353e7274f6f5cc4c1340356186202ac0c52d2f3a2ef755e1f6c3462e69"), looks := true }, kinds := [], alts := [], laidByText := true, laidKinds := [.sentinel, .sentinel], laidTests := true, laidLooks := .later }
def FnDecoderValidCardSaid : Prop := Claim7.holds Tryd.pinned (.plain (OpenSpec.ofChange fnDecoderValidSpec)) fnDecoderValidCard

/-- THE TIED CARD OF 'laws.FnDecodeStream'. -/
def fnDecodeStreamCard : Claim7 := { stood := { row := fnDecodeStreamRow, standIns := [], harness := (true, "ba3222353e7274f6f5cc4c1340356186202ac0c52d2f3a2ef755e1f6c3462e69"), looks := true }, kinds := [], alts := [], laidByText := true, laidKinds := [.sentinel, .sentinel], laidTests := true, laidLooks := .later }
def FnDecodeStreamCardSaid : Prop := Claim7.holds Tryd.pinned (.plain (OpenSpec.ofChange fnDecodeStreamSpec)) fnDecodeStreamCard

/-- THE TIED CARD OF 'laws.FnDecodeParts'. -/
def fnDecodePartsCard : Claim7 := { stood := { row := fnDecodePartsRow, standIns := [], harness := (true, "ba3222353e7274f6f5cc4c1340356186202ac0c52d2f3a2ef755e1f6c3462e69"), looks := true }, kinds := [], alts := [], laidByText := true, laidKinds := [.sentinel, .sentinel], laidTests := true, laidLooks := .later }
def FnDecodePartsCardSaid : Prop := Claim7.holds Tryd.pinned (.plain (OpenSpec.ofChange fnDecodePartsSpec)) fnDecodePartsCard

/-- THE TIED CARD OF 'laws.FnDecodeShort'. -/
def fnDecodeShortCard : Claim7 := { stood := { row := fnDecodeShortRow, standIns := [], harness := (true, "ba3222353e7274f6f5cc4c1340356186202ac0c52d2f3a2ef755e1f6c3462e69"), looks := true }, kinds := [], alts := [], laidByText := true, laidKinds := [.sentinel, .sentinel], laidTests := true, laidLooks := .later }
def FnDecodeShortCardSaid : Prop := Claim7.holds Tryd.pinned (.plain (OpenSpec.ofChange fnDecodeShortSpec)) fnDecodeShortCard

/-- THE TIED CARD OF 'laws.FnExactDecodeAll'. -/
def fnExactDecodeAllCard : Claim7 := { stood := { row := fnExactDecodeAllRow, standIns := [], harness := (true, "ba3222353e7274f6f5cc4c1340356186202ac0c52d2f3a2ef755e1f6c3462e69"), looks := true }, kinds := [], alts := [], laidByText := true, laidKinds := [.sentinel, .sentinel], laidTests := true, laidLooks := .later }
def FnExactDecodeAllCardSaid : Prop := Claim7.holds Tryd.pinned (.plain (OpenSpec.ofChange fnExactDecodeAllSpec)) fnExactDecodeAllCard

/-- THE TIED CARD OF 'laws.FnExactFeedDecoder'. -/
def fnExactFeedDecoderCard : Claim7 := { stood := { row := fnExactFeedDecoderRow, standIns := [], harness := (true, "ba3222353e7274f6f5cc4c1340356186202ac0c52d2f3a2ef755e1f6c3462e69"), looks := true }, kinds := [], alts := [], laidByText := true, laidKinds := [.sentinel, .sentinel], laidTests := true, laidLooks := .later }
def FnExactFeedDecoderCardSaid : Prop := Claim7.holds Tryd.pinned (.plain (OpenSpec.ofChange fnExactFeedDecoderSpec)) fnExactFeedDecoderCard

/-- THE TIED CARD OF 'laws.FnExactDecoderValid'. -/
def fnExactDecoderValidCard : Claim7 := { stood := { row := fnExactDecoderValidRow, standIns := [], harness := (true, "ba3222353e7274f6f5cc4c1340356186202ac0c52d2f3a2ef755e1f6c3462e69"), looks := true }, kinds := [], alts := [], laidByText := true, laidKinds := [.sentinel, .sentinel], laidTests := true, laidLooks := .later }
def FnExactDecoderValidCardSaid : Prop := Claim7.holds Tryd.pinned (.plain (OpenSpec.ofChange fnExactDecoderValidSpec)) fnExactDecoderValidCard

/-- THE SECOND FORM's CARD OF 'laws.FnEncodeAll'. -/
def fnEncodeAllUptoCard : Claim7 := { stood := { row := fnEncodeAllUptoRow, standIns := [], harness := (true, "ba3222353e7274f6f5cc4c1340356186202ac0c52d2f3a2ef755e1f6c3462e69"), looks := true }, kinds := [], alts := [], laidByText := true, laidKinds := [.sentinel, .sentinel], laidTests := true, laidLooks := .later }
def FnEncodeAllUptoCardSaid : Prop := Claim7.holds Tryd.pinned (.plain (OpenSpec.upto fnEncodeAllSpec)) fnEncodeAllUptoCard

/-- THE SECOND FORM's CARD OF 'laws.FnEncodeFrame'. -/
def fnEncodeFrameUptoCard : Claim7 := { stood := { row := fnEncodeFrameUptoRow, standIns := [], harness := (true, "ba3222353e7274f6f5cc4c1340356186202ac0c52d2f3a2ef755e1f6c3462e69"), looks := true }, kinds := [], alts := [], laidByText := true, laidKinds := [.sentinel, .sentinel], laidTests := true, laidLooks := .later }
def FnEncodeFrameUptoCardSaid : Prop := Claim7.holds Tryd.pinned (.plain (OpenSpec.upto fnEncodeFrameSpec)) fnEncodeFrameUptoCard

/-- THE SECOND FORM's CARD OF 'laws.FnFeedDecoder'. -/
def fnFeedDecoderUptoCard : Claim7 := { stood := { row := fnFeedDecoderUptoRow, standIns := [], harness := (true, "ba3222353e7274f6f5cc4c1340356186202ac0c52d2f3a2ef755e1f6c3462e69"), looks := true }, kinds := [], alts := [], laidByText := true, laidKinds := [.sentinel, .sentinel], laidTests := true, laidLooks := .later }
def FnFeedDecoderUptoCardSaid : Prop := Claim7.holds Tryd.pinned (.plain (OpenSpec.upto fnFeedDecoderSpec)) fnFeedDecoderUptoCard

/-- THE SECOND FORM's CARD OF 'laws.FnDecoderValid'. -/
def fnDecoderValidUptoCard : Claim7 := { stood := { row := fnDecoderValidUptoRow, standIns := [], harness := (true, "ba3222353e7274f6f5cc4c1340356186202ac0c52d2f3a2ef755e1f6c3462e69"), looks := true }, kinds := [], alts := [], laidByText := true, laidKinds := [.sentinel, .sentinel], laidTests := true, laidLooks := .later }
def FnDecoderValidUptoCardSaid : Prop := Claim7.holds Tryd.pinned (.plain (OpenSpec.upto fnDecoderValidSpec)) fnDecoderValidUptoCard

/-- THE SECOND FORM's CARD OF 'laws.FnDecodeStream'. -/
def fnDecodeStreamUptoCard : Claim7 := { stood := { row := fnDecodeStreamUptoRow, standIns := [], harness := (true, "ba3222353e7274f6f5cc4c1340356186202ac0c52d2f3a2ef755e1f6c3462e69"), looks := true }, kinds := [], alts := [], laidByText := true, laidKinds := [.sentinel, .sentinel], laidTests := true, laidLooks := .later }
def FnDecodeStreamUptoCardSaid : Prop := Claim7.holds Tryd.pinned (.plain (OpenSpec.upto fnDecodeStreamSpec)) fnDecodeStreamUptoCard

/-- THE SECOND FORM's CARD OF 'laws.FnDecodeParts'. -/
def fnDecodePartsUptoCard : Claim7 := { stood := { row := fnDecodePartsUptoRow, standIns := [], harness := (true, "ba3222353e7274f6f5cc4c1340356186202ac0c52d2f3a2ef755e1f6c3462e69"), looks := true }, kinds := [], alts := [], laidByText := true, laidKinds := [.sentinel, .sentinel], laidTests := true, laidLooks := .later }
def FnDecodePartsUptoCardSaid : Prop := Claim7.holds Tryd.pinned (.plain (OpenSpec.upto fnDecodePartsSpec)) fnDecodePartsUptoCard

/-- THE SECOND FORM's CARD OF 'laws.FnDecodeShort'. -/
def fnDecodeShortUptoCard : Claim7 := { stood := { row := fnDecodeShortUptoRow, standIns := [], harness := (true, "ba3222353e7274f6f5cc4c1340356186202ac0c52d2f3a2ef755e1f6c3462e69"), looks := true }, kinds := [], alts := [], laidByText := true, laidKinds := [.sentinel, .sentinel], laidTests := true, laidLooks := .later }
def FnDecodeShortUptoCardSaid : Prop := Claim7.holds Tryd.pinned (.plain (OpenSpec.upto fnDecodeShortSpec)) fnDecodeShortUptoCard

/-- THE SECOND FORM's CARD OF 'laws.FnExactDecodeAll'. -/
def fnExactDecodeAllUptoCard : Claim7 := { stood := { row := fnExactDecodeAllUptoRow, standIns := [], harness := (true, "ba3222353e7274f6f5cc4c1340356186202ac0c52d2f3a2ef755e1f6c3462e69"), looks := true }, kinds := [], alts := [], laidByText := true, laidKinds := [.sentinel, .sentinel], laidTests := true, laidLooks := .later }
def FnExactDecodeAllUptoCardSaid : Prop := Claim7.holds Tryd.pinned (.plain (OpenSpec.upto fnExactDecodeAllSpec)) fnExactDecodeAllUptoCard

/-- THE SECOND FORM's CARD OF 'laws.FnExactFeedDecoder'. -/
def fnExactFeedDecoderUptoCard : Claim7 := { stood := { row := fnExactFeedDecoderUptoRow, standIns := [], harness := (true, "ba3222353e7274f6f5cc4c1340356186202ac0c52d2f3a2ef755e1f6c3462e69"), looks := true }, kinds := [], alts := [], laidByText := true, laidKinds := [.sentinel, .sentinel], laidTests := true, laidLooks := .later }
def FnExactFeedDecoderUptoCardSaid : Prop := Claim7.holds Tryd.pinned (.plain (OpenSpec.upto fnExactFeedDecoderSpec)) fnExactFeedDecoderUptoCard

/-- THE SECOND FORM's CARD OF 'laws.FnExactDecoderValid'. -/
def fnExactDecoderValidUptoCard : Claim7 := { stood := { row := fnExactDecoderValidUptoRow, standIns := [], harness := (true, "ba3222353e7274f6f5cc4c1340356186202ac0c52d2f3a2ef755e1f6c3462e69"), looks := true }, kinds := [], alts := [], laidByText := true, laidKinds := [.sentinel, .sentinel], laidTests := true, laidLooks := .later }
def FnExactDecoderValidUptoCardSaid : Prop := Claim7.holds Tryd.pinned (.plain (OpenSpec.upto fnExactDecoderValidSpec)) fnExactDecoderValidUptoCard
end Rows
end Go.Proofs.YtdpmjpjbcpdgnaaDoor

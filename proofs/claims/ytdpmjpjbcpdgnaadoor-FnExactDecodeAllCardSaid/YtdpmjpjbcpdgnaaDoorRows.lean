/-
  NARROWER THAN 'FOR EVERY INPUT', by the rows' own cells (each row's printed sentence says how): FnEncodeAll: ifaces, laid · FnEncodeFrame: ifaces, laid · FnFeedDecoder: ifaces, laid · FnDecoderValid: ifaces, laid · FnDecodeStream: ifaces, laid · FnDecodeParts: ifaces, laid · FnDecodeShort: ifaces, laid · FnExactDecodeAll: ifaces, laid · FnExactFeedDecoder: ifaces, laid · FnExactDecoderValid: ifaces, laid.
  DERIVED. THE GIVEN ROWS OF THIS SEAT. 10 by the template 'for every input the law returns true; each argument reads behind the call as it read before'; 0 by the template 'total and deterministic' (their statements: YtdpmjpjbcpdgnaaDoorTotals.lean).
  GIVEN WITH THE SEED: the statements are not yours to turn. If you find one false, say at which input.
  Laid BY PROGRAM, IN A SANDBOX (cutbox-rows.mjs): the forced cells as the released guide's own fill.sh prints them over the translation d4d9034d3e687bcb… (all of the seat's roots in one cut). By AI agents, Wed Nov 11 2026. No macro, syntax, notation, axiom, sorry.
-/
import Derived.Test.YtdpmjpjbcpdgnaaDoorChecked
import GoSem.Claim
import GoSem.ClaimJoined
import GoSem.ClaimMapViews
import Derived.JoinedTies
import Derived.KernelRfl
namespace Go.Proofs.YtdpmjpjbcpdgnaaDoor
/- THE CELL 'sum', in the pinned program and in every row, IS THE sha256 OF THE DUMP (.gsa) THAT YtdpmjpjbcpdgnaaDoorProg.lean LOADS. Nothing in Lean hashes anything: it is a label: what it is worth is what the hold of that sum in a sandbox is worth. -/
noncomputable def Tryd.pinned : Pinned := { name := "ytdpmjpjbcpdgnaadoor", sum := "d4d9034d3e687bcb8fa1e22101cbcca26cefb247f331dbc73e5fc30dfb8fdfd4", checked := Tryd.checked }
namespace Rows
def none {H : Type} : Left H := { results := [], args := [] }

/- WHAT THE LISTED PACKAGE-LEVEL VARIABLES READ AS WHEN THE CALL BEGINS. Each datum BY PROGRAM (the guide's laid-datum.mjs) off the statement by which the dump's own 'gosem.cut.vars' lays the variable. In a bare row this is a premise. The card (YtdpmjpjbcpdgnaaDoorCards.lean) ties it to the program's text. -/
def laid_loop_example_prologserver_impl_errPart {H : Type} : DataW H := .iface "*errors.errorString" (.ptr (.agg [.lit (.string [98, 121, 116, 101, 115, 32, 111, 102, 32, 97, 32, 102, 114, 97, 109, 101, 32, 97, 114, 101, 32, 109, 105, 115, 115, 105, 110, 103])]))
def laid_loop_example_prologserver_impl_errBroken {H : Type} : DataW H := .iface "*errors.errorString" (.ptr (.agg [.lit (.string [116, 104, 101, 114, 101, 32, 99, 97, 110, 110, 111, 116, 32, 98, 101, 32, 97, 32, 102, 114, 97, 109, 101])]))

/-- 'laws.FnEncodeAll': WHATEVER THE INPUT: true; the input reads as it did. -/
def fnEncodeAllSpec : ChangeSpec := { name := "fnEncodeAll", vars := ["loop.example/prologserver/impl.errBroken", "loop.example/prologserver/impl.errPart"], fn := fun _ => fun
  | [d1, d2, g1, g2] => { results := [.lit (.bool true)], args := [d1, d2], vars := [g1, g2] }
  | _ => none }
def fnEncodeAllRow : OpenClaim := { program := "ytdpmjpjbcpdgnaadoor", sum := "d4d9034d3e687bcb8fa1e22101cbcca26cefb247f331dbc73e5fc30dfb8fdfd4", func := "loop.example/prologserver/laws.FnEncodeAll", spec := "fnEncodeAll", inPlace := ["internal/reflectlite.TypeOf"], unfollowed := true, recurses := true, named := ["loop.example/prologserver/impl.errBroken", "loop.example/prologserver/impl.errPart"], ifaces := true, apart := false, laid := [("loop.example/prologserver/impl.errPart", laid_loop_example_prologserver_impl_errPart), ("loop.example/prologserver/impl.errBroken", laid_loop_example_prologserver_impl_errBroken)] }
def FnEncodeAllSaid : Prop := fnEncodeAllRow.holds Tryd.pinned (OpenSpec.ofChange fnEncodeAllSpec)

/-- ITS FALSE NEIGHBOUR: 'it returns false'. Refute it at one input. -/
def fnEncodeAllWrong : ChangeSpec := { name := "fnEncodeAll", vars := ["loop.example/prologserver/impl.errBroken", "loop.example/prologserver/impl.errPart"], fn := fun _ => fun
  | [d1, d2, g1, g2] => { results := [.lit (.bool false)], args := [d1, d2], vars := [g1, g2] }
  | _ => none }
def FnEncodeAllWrongFalsely : Prop := fnEncodeAllRow.holds Tryd.pinned (OpenSpec.ofChange fnEncodeAllWrong)

/-- 'laws.FnEncodeFrame': WHATEVER THE INPUT: true; the input reads as it did. -/
def fnEncodeFrameSpec : ChangeSpec := { name := "fnEncodeFrame", vars := ["loop.example/prologserver/impl.errBroken", "loop.example/prologserver/impl.errPart"], fn := fun _ => fun
  | [d, g1, g2] => { results := [.lit (.bool true)], args := [d], vars := [g1, g2] }
  | _ => none }
def fnEncodeFrameRow : OpenClaim := { program := "ytdpmjpjbcpdgnaadoor", sum := "d4d9034d3e687bcb8fa1e22101cbcca26cefb247f331dbc73e5fc30dfb8fdfd4", func := "loop.example/prologserver/laws.FnEncodeFrame", spec := "fnEncodeFrame", inPlace := ["internal/reflectlite.TypeOf"], unfollowed := true, recurses := true, named := ["loop.example/prologserver/impl.errBroken", "loop.example/prologserver/impl.errPart"], ifaces := true, apart := false, laid := [("loop.example/prologserver/impl.errPart", laid_loop_example_prologserver_impl_errPart), ("loop.example/prologserver/impl.errBroken", laid_loop_example_prologserver_impl_errBroken)] }
def FnEncodeFrameSaid : Prop := fnEncodeFrameRow.holds Tryd.pinned (OpenSpec.ofChange fnEncodeFrameSpec)

/-- ITS FALSE NEIGHBOUR: 'it returns false'. Refute it at one input. -/
def fnEncodeFrameWrong : ChangeSpec := { name := "fnEncodeFrame", vars := ["loop.example/prologserver/impl.errBroken", "loop.example/prologserver/impl.errPart"], fn := fun _ => fun
  | [d, g1, g2] => { results := [.lit (.bool false)], args := [d], vars := [g1, g2] }
  | _ => none }
def FnEncodeFrameWrongFalsely : Prop := fnEncodeFrameRow.holds Tryd.pinned (OpenSpec.ofChange fnEncodeFrameWrong)

/-- 'laws.FnFeedDecoder': WHATEVER THE INPUT: true; the input reads as it did. -/
def fnFeedDecoderSpec : ChangeSpec := { name := "fnFeedDecoder", vars := ["loop.example/prologserver/impl.errBroken", "loop.example/prologserver/impl.errPart"], fn := fun _ => fun
  | [d1, d2, g1, g2] => { results := [.lit (.bool true)], args := [d1, d2], vars := [g1, g2] }
  | _ => none }
def fnFeedDecoderRow : OpenClaim := { program := "ytdpmjpjbcpdgnaadoor", sum := "d4d9034d3e687bcb8fa1e22101cbcca26cefb247f331dbc73e5fc30dfb8fdfd4", func := "loop.example/prologserver/laws.FnFeedDecoder", spec := "fnFeedDecoder", inPlace := ["internal/reflectlite.TypeOf"], unfollowed := true, recurses := true, named := ["loop.example/prologserver/impl.errBroken", "loop.example/prologserver/impl.errPart"], ifaces := true, apart := false, laid := [("loop.example/prologserver/impl.errPart", laid_loop_example_prologserver_impl_errPart), ("loop.example/prologserver/impl.errBroken", laid_loop_example_prologserver_impl_errBroken)] }
def FnFeedDecoderSaid : Prop := fnFeedDecoderRow.holds Tryd.pinned (OpenSpec.ofChange fnFeedDecoderSpec)

/-- ITS FALSE NEIGHBOUR: 'it returns false'. Refute it at one input. -/
def fnFeedDecoderWrong : ChangeSpec := { name := "fnFeedDecoder", vars := ["loop.example/prologserver/impl.errBroken", "loop.example/prologserver/impl.errPart"], fn := fun _ => fun
  | [d1, d2, g1, g2] => { results := [.lit (.bool false)], args := [d1, d2], vars := [g1, g2] }
  | _ => none }
def FnFeedDecoderWrongFalsely : Prop := fnFeedDecoderRow.holds Tryd.pinned (OpenSpec.ofChange fnFeedDecoderWrong)

/-- 'laws.FnDecoderValid': WHATEVER THE INPUT: true; the input reads as it did. -/
def fnDecoderValidSpec : ChangeSpec := { name := "fnDecoderValid", vars := ["loop.example/prologserver/impl.errBroken", "loop.example/prologserver/impl.errPart"], fn := fun _ => fun
  | [d1, d2, g1, g2] => { results := [.lit (.bool true)], args := [d1, d2], vars := [g1, g2] }
  | _ => none }
def fnDecoderValidRow : OpenClaim := { program := "ytdpmjpjbcpdgnaadoor", sum := "d4d9034d3e687bcb8fa1e22101cbcca26cefb247f331dbc73e5fc30dfb8fdfd4", func := "loop.example/prologserver/laws.FnDecoderValid", spec := "fnDecoderValid", inPlace := ["internal/reflectlite.TypeOf"], unfollowed := true, recurses := true, named := ["loop.example/prologserver/impl.errBroken", "loop.example/prologserver/impl.errPart"], ifaces := true, apart := false, laid := [("loop.example/prologserver/impl.errPart", laid_loop_example_prologserver_impl_errPart), ("loop.example/prologserver/impl.errBroken", laid_loop_example_prologserver_impl_errBroken)] }
def FnDecoderValidSaid : Prop := fnDecoderValidRow.holds Tryd.pinned (OpenSpec.ofChange fnDecoderValidSpec)

/-- ITS FALSE NEIGHBOUR: 'it returns false'. Refute it at one input. -/
def fnDecoderValidWrong : ChangeSpec := { name := "fnDecoderValid", vars := ["loop.example/prologserver/impl.errBroken", "loop.example/prologserver/impl.errPart"], fn := fun _ => fun
  | [d1, d2, g1, g2] => { results := [.lit (.bool false)], args := [d1, d2], vars := [g1, g2] }
  | _ => none }
def FnDecoderValidWrongFalsely : Prop := fnDecoderValidRow.holds Tryd.pinned (OpenSpec.ofChange fnDecoderValidWrong)

/-- 'laws.FnDecodeStream': WHATEVER THE INPUT: true; the input reads as it did. -/
def fnDecodeStreamSpec : ChangeSpec := { name := "fnDecodeStream", vars := ["loop.example/prologserver/impl.errBroken", "loop.example/prologserver/impl.errPart"], fn := fun _ => fun
  | [d, g1, g2] => { results := [.lit (.bool true)], args := [d], vars := [g1, g2] }
  | _ => none }
def fnDecodeStreamRow : OpenClaim := { program := "ytdpmjpjbcpdgnaadoor", sum := "d4d9034d3e687bcb8fa1e22101cbcca26cefb247f331dbc73e5fc30dfb8fdfd4", func := "loop.example/prologserver/laws.FnDecodeStream", spec := "fnDecodeStream", inPlace := ["internal/reflectlite.TypeOf"], unfollowed := true, recurses := true, named := ["loop.example/prologserver/impl.errBroken", "loop.example/prologserver/impl.errPart"], ifaces := true, apart := false, laid := [("loop.example/prologserver/impl.errPart", laid_loop_example_prologserver_impl_errPart), ("loop.example/prologserver/impl.errBroken", laid_loop_example_prologserver_impl_errBroken)] }
def FnDecodeStreamSaid : Prop := fnDecodeStreamRow.holds Tryd.pinned (OpenSpec.ofChange fnDecodeStreamSpec)

/-- ITS FALSE NEIGHBOUR: 'it returns false'. Refute it at one input. -/
def fnDecodeStreamWrong : ChangeSpec := { name := "fnDecodeStream", vars := ["loop.example/prologserver/impl.errBroken", "loop.example/prologserver/impl.errPart"], fn := fun _ => fun
  | [d, g1, g2] => { results := [.lit (.bool false)], args := [d], vars := [g1, g2] }
  | _ => none }
def FnDecodeStreamWrongFalsely : Prop := fnDecodeStreamRow.holds Tryd.pinned (OpenSpec.ofChange fnDecodeStreamWrong)

/-- 'laws.FnDecodeParts': WHATEVER THE INPUT: true; the input reads as it did. -/
def fnDecodePartsSpec : ChangeSpec := { name := "fnDecodeParts", vars := ["loop.example/prologserver/impl.errBroken", "loop.example/prologserver/impl.errPart"], fn := fun _ => fun
  | [d1, d2, g1, g2] => { results := [.lit (.bool true)], args := [d1, d2], vars := [g1, g2] }
  | _ => none }
def fnDecodePartsRow : OpenClaim := { program := "ytdpmjpjbcpdgnaadoor", sum := "d4d9034d3e687bcb8fa1e22101cbcca26cefb247f331dbc73e5fc30dfb8fdfd4", func := "loop.example/prologserver/laws.FnDecodeParts", spec := "fnDecodeParts", inPlace := ["internal/reflectlite.TypeOf"], unfollowed := true, recurses := true, named := ["loop.example/prologserver/impl.errBroken", "loop.example/prologserver/impl.errPart"], ifaces := true, apart := false, laid := [("loop.example/prologserver/impl.errPart", laid_loop_example_prologserver_impl_errPart), ("loop.example/prologserver/impl.errBroken", laid_loop_example_prologserver_impl_errBroken)] }
def FnDecodePartsSaid : Prop := fnDecodePartsRow.holds Tryd.pinned (OpenSpec.ofChange fnDecodePartsSpec)

/-- ITS FALSE NEIGHBOUR: 'it returns false'. Refute it at one input. -/
def fnDecodePartsWrong : ChangeSpec := { name := "fnDecodeParts", vars := ["loop.example/prologserver/impl.errBroken", "loop.example/prologserver/impl.errPart"], fn := fun _ => fun
  | [d1, d2, g1, g2] => { results := [.lit (.bool false)], args := [d1, d2], vars := [g1, g2] }
  | _ => none }
def FnDecodePartsWrongFalsely : Prop := fnDecodePartsRow.holds Tryd.pinned (OpenSpec.ofChange fnDecodePartsWrong)

/-- 'laws.FnDecodeShort': WHATEVER THE INPUT: true; the input reads as it did. -/
def fnDecodeShortSpec : ChangeSpec := { name := "fnDecodeShort", vars := ["loop.example/prologserver/impl.errBroken", "loop.example/prologserver/impl.errPart"], fn := fun _ => fun
  | [d, g1, g2] => { results := [.lit (.bool true)], args := [d], vars := [g1, g2] }
  | _ => none }
def fnDecodeShortRow : OpenClaim := { program := "ytdpmjpjbcpdgnaadoor", sum := "d4d9034d3e687bcb8fa1e22101cbcca26cefb247f331dbc73e5fc30dfb8fdfd4", func := "loop.example/prologserver/laws.FnDecodeShort", spec := "fnDecodeShort", inPlace := ["internal/reflectlite.TypeOf"], unfollowed := true, recurses := true, named := ["loop.example/prologserver/impl.errBroken", "loop.example/prologserver/impl.errPart"], ifaces := true, apart := false, laid := [("loop.example/prologserver/impl.errPart", laid_loop_example_prologserver_impl_errPart), ("loop.example/prologserver/impl.errBroken", laid_loop_example_prologserver_impl_errBroken)] }
def FnDecodeShortSaid : Prop := fnDecodeShortRow.holds Tryd.pinned (OpenSpec.ofChange fnDecodeShortSpec)

/-- ITS FALSE NEIGHBOUR: 'it returns false'. Refute it at one input. -/
def fnDecodeShortWrong : ChangeSpec := { name := "fnDecodeShort", vars := ["loop.example/prologserver/impl.errBroken", "loop.example/prologserver/impl.errPart"], fn := fun _ => fun
  | [d, g1, g2] => { results := [.lit (.bool false)], args := [d], vars := [g1, g2] }
  | _ => none }
def FnDecodeShortWrongFalsely : Prop := fnDecodeShortRow.holds Tryd.pinned (OpenSpec.ofChange fnDecodeShortWrong)

/-- 'laws.FnExactDecodeAll': WHATEVER THE INPUT: true; the input reads as it did. -/
def fnExactDecodeAllSpec : ChangeSpec := { name := "fnExactDecodeAll", vars := ["loop.example/prologserver/impl.errBroken", "loop.example/prologserver/impl.errPart"], fn := fun _ => fun
  | [d, g1, g2] => { results := [.lit (.bool true)], args := [d], vars := [g1, g2] }
  | _ => none }
def fnExactDecodeAllRow : OpenClaim := { program := "ytdpmjpjbcpdgnaadoor", sum := "d4d9034d3e687bcb8fa1e22101cbcca26cefb247f331dbc73e5fc30dfb8fdfd4", func := "loop.example/prologserver/laws.FnExactDecodeAll", spec := "fnExactDecodeAll", inPlace := ["internal/reflectlite.TypeOf"], unfollowed := true, recurses := true, named := ["loop.example/prologserver/impl.errBroken", "loop.example/prologserver/impl.errPart"], ifaces := true, apart := false, laid := [("loop.example/prologserver/impl.errPart", laid_loop_example_prologserver_impl_errPart), ("loop.example/prologserver/impl.errBroken", laid_loop_example_prologserver_impl_errBroken)] }
def FnExactDecodeAllSaid : Prop := fnExactDecodeAllRow.holds Tryd.pinned (OpenSpec.ofChange fnExactDecodeAllSpec)

/-- ITS FALSE NEIGHBOUR: 'it returns false'. Refute it at one input. -/
def fnExactDecodeAllWrong : ChangeSpec := { name := "fnExactDecodeAll", vars := ["loop.example/prologserver/impl.errBroken", "loop.example/prologserver/impl.errPart"], fn := fun _ => fun
  | [d, g1, g2] => { results := [.lit (.bool false)], args := [d], vars := [g1, g2] }
  | _ => none }
def FnExactDecodeAllWrongFalsely : Prop := fnExactDecodeAllRow.holds Tryd.pinned (OpenSpec.ofChange fnExactDecodeAllWrong)

/-- 'laws.FnExactFeedDecoder': WHATEVER THE INPUT: true; the input reads as it did. -/
def fnExactFeedDecoderSpec : ChangeSpec := { name := "fnExactFeedDecoder", vars := ["loop.example/prologserver/impl.errBroken", "loop.example/prologserver/impl.errPart"], fn := fun _ => fun
  | [d1, d2, g1, g2] => { results := [.lit (.bool true)], args := [d1, d2], vars := [g1, g2] }
  | _ => none }
def fnExactFeedDecoderRow : OpenClaim := { program := "ytdpmjpjbcpdgnaadoor", sum := "d4d9034d3e687bcb8fa1e22101cbcca26cefb247f331dbc73e5fc30dfb8fdfd4", func := "loop.example/prologserver/laws.FnExactFeedDecoder", spec := "fnExactFeedDecoder", inPlace := ["internal/reflectlite.TypeOf"], unfollowed := true, recurses := true, named := ["loop.example/prologserver/impl.errBroken", "loop.example/prologserver/impl.errPart"], ifaces := true, apart := false, laid := [("loop.example/prologserver/impl.errPart", laid_loop_example_prologserver_impl_errPart), ("loop.example/prologserver/impl.errBroken", laid_loop_example_prologserver_impl_errBroken)] }
def FnExactFeedDecoderSaid : Prop := fnExactFeedDecoderRow.holds Tryd.pinned (OpenSpec.ofChange fnExactFeedDecoderSpec)

/-- ITS FALSE NEIGHBOUR: 'it returns false'. Refute it at one input. -/
def fnExactFeedDecoderWrong : ChangeSpec := { name := "fnExactFeedDecoder", vars := ["loop.example/prologserver/impl.errBroken", "loop.example/prologserver/impl.errPart"], fn := fun _ => fun
  | [d1, d2, g1, g2] => { results := [.lit (.bool false)], args := [d1, d2], vars := [g1, g2] }
  | _ => none }
def FnExactFeedDecoderWrongFalsely : Prop := fnExactFeedDecoderRow.holds Tryd.pinned (OpenSpec.ofChange fnExactFeedDecoderWrong)

/-- 'laws.FnExactDecoderValid': WHATEVER THE INPUT: true; the input reads as it did. -/
def fnExactDecoderValidSpec : ChangeSpec := { name := "fnExactDecoderValid", vars := ["loop.example/prologserver/impl.errBroken", "loop.example/prologserver/impl.errPart"], fn := fun _ => fun
  | [d, g1, g2] => { results := [.lit (.bool true)], args := [d], vars := [g1, g2] }
  | _ => none }
def fnExactDecoderValidRow : OpenClaim := { program := "ytdpmjpjbcpdgnaadoor", sum := "d4d9034d3e687bcb8fa1e22101cbcca26cefb247f331dbc73e5fc30dfb8fdfd4", func := "loop.example/prologserver/laws.FnExactDecoderValid", spec := "fnExactDecoderValid", inPlace := ["internal/reflectlite.TypeOf"], unfollowed := true, recurses := true, named := ["loop.example/prologserver/impl.errBroken", "loop.example/prologserver/impl.errPart"], ifaces := true, apart := false, laid := [("loop.example/prologserver/impl.errPart", laid_loop_example_prologserver_impl_errPart), ("loop.example/prologserver/impl.errBroken", laid_loop_example_prologserver_impl_errBroken)] }
def FnExactDecoderValidSaid : Prop := fnExactDecoderValidRow.holds Tryd.pinned (OpenSpec.ofChange fnExactDecoderValidSpec)

/-- ITS FALSE NEIGHBOUR: 'it returns false'. Refute it at one input. -/
def fnExactDecoderValidWrong : ChangeSpec := { name := "fnExactDecoderValid", vars := ["loop.example/prologserver/impl.errBroken", "loop.example/prologserver/impl.errPart"], fn := fun _ => fun
  | [d, g1, g2] => { results := [.lit (.bool false)], args := [d], vars := [g1, g2] }
  | _ => none }
def FnExactDecoderValidWrongFalsely : Prop := fnExactDecoderValidRow.holds Tryd.pinned (OpenSpec.ofChange fnExactDecoderValidWrong)

/- THE SECOND FORM. 'bulk': how many values and letters a reading holds, each counted each time it is reached (what is shared counts as often as it is met; a slice's spare places count too). A statement '..UptoSaid' is the law's where the arguments, and the package variables that the reading takes, are together of bulk at most 1048576: NARROWER than '..Said'. Prove '..Said' where nothing that the law and all that it calls make is longer than what came in: it says more and counts as full. Else prove '..UptoSaid'. A law counts once. -/
mutual
def uptoBulk {H : Type} : DataW H → Nat
  | .lit (.string bytes) => bytes.length + 1
  | .lit _ => 1
  | .nil => 1
  | .ptr d => uptoBulk d + 1
  | .slice elems spare => uptoBulkAll elems + uptoBulkAll spare + 1
  | .agg parts => uptoBulkAll parts + 1
  | .iface _ d => uptoBulk d + 1
  | .map entries => uptoBulkEntries entries + 1
  | .held _ => 1
def uptoBulkAll {H : Type} : List (DataW H) → Nat
  | [] => 0
  | d :: r => uptoBulk d + uptoBulkAll r
def uptoBulkEntries {H : Type} : List (Lit × DataW H) → Nat
  | [] => 0
  | x :: r => uptoBulkEntry x + uptoBulkEntries r
def uptoBulkEntry {H : Type} : Lit × DataW H → Nat
  | (.string bytes, d) => bytes.length + uptoBulk d + 1
  | (_, d) => uptoBulk d + 1
 end
def uptoSmall : (H : Type) → List (DataW H) → Bool := fun _ ds => decide (uptoBulkAll ds ≤ 1048576)
def OpenSpec.upto (s : _root_.Go.ChangeSpec) : _root_.Go.OpenSpec := { _root_.Go.OpenSpec.ofChange s with cond := some uptoSmall }

/-- 'laws.FnEncodeAll', WHERE WHAT IT READS IS OF BULK AT MOST 1048576: true; the input reads as it did. -/
def fnEncodeAllUptoRow : OpenClaim := { program := "ytdpmjpjbcpdgnaadoor", sum := "d4d9034d3e687bcb8fa1e22101cbcca26cefb247f331dbc73e5fc30dfb8fdfd4", func := "loop.example/prologserver/laws.FnEncodeAll", spec := "fnEncodeAll", inPlace := ["internal/reflectlite.TypeOf"], unfollowed := true, recurses := true, named := ["loop.example/prologserver/impl.errBroken", "loop.example/prologserver/impl.errPart"], ifaces := true, apart := false, laid := [("loop.example/prologserver/impl.errPart", laid_loop_example_prologserver_impl_errPart), ("loop.example/prologserver/impl.errBroken", laid_loop_example_prologserver_impl_errBroken)], narrowed := true }
def FnEncodeAllUptoSaid : Prop := fnEncodeAllUptoRow.holds Tryd.pinned (OpenSpec.upto fnEncodeAllSpec)

/-- 'laws.FnEncodeFrame', WHERE WHAT IT READS IS OF BULK AT MOST 1048576: true; the input reads as it did. -/
def fnEncodeFrameUptoRow : OpenClaim := { program := "ytdpmjpjbcpdgnaadoor", sum := "d4d9034d3e687bcb8fa1e22101cbcca26cefb247f331dbc73e5fc30dfb8fdfd4", func := "loop.example/prologserver/laws.FnEncodeFrame", spec := "fnEncodeFrame", inPlace := ["internal/reflectlite.TypeOf"], unfollowed := true, recurses := true, named := ["loop.example/prologserver/impl.errBroken", "loop.example/prologserver/impl.errPart"], ifaces := true, apart := false, laid := [("loop.example/prologserver/impl.errPart", laid_loop_example_prologserver_impl_errPart), ("loop.example/prologserver/impl.errBroken", laid_loop_example_prologserver_impl_errBroken)], narrowed := true }
def FnEncodeFrameUptoSaid : Prop := fnEncodeFrameUptoRow.holds Tryd.pinned (OpenSpec.upto fnEncodeFrameSpec)

/-- 'laws.FnFeedDecoder', WHERE WHAT IT READS IS OF BULK AT MOST 1048576: true; the input reads as it did. -/
def fnFeedDecoderUptoRow : OpenClaim := { program := "ytdpmjpjbcpdgnaadoor", sum := "d4d9034d3e687bcb8fa1e22101cbcca26cefb247f331dbc73e5fc30dfb8fdfd4", func := "loop.example/prologserver/laws.FnFeedDecoder", spec := "fnFeedDecoder", inPlace := ["internal/reflectlite.TypeOf"], unfollowed := true, recurses := true, named := ["loop.example/prologserver/impl.errBroken", "loop.example/prologserver/impl.errPart"], ifaces := true, apart := false, laid := [("loop.example/prologserver/impl.errPart", laid_loop_example_prologserver_impl_errPart), ("loop.example/prologserver/impl.errBroken", laid_loop_example_prologserver_impl_errBroken)], narrowed := true }
def FnFeedDecoderUptoSaid : Prop := fnFeedDecoderUptoRow.holds Tryd.pinned (OpenSpec.upto fnFeedDecoderSpec)

/-- 'laws.FnDecoderValid', WHERE WHAT IT READS IS OF BULK AT MOST 1048576: true; the input reads as it did. -/
def fnDecoderValidUptoRow : OpenClaim := { program := "ytdpmjpjbcpdgnaadoor", sum := "d4d9034d3e687bcb8fa1e22101cbcca26cefb247f331dbc73e5fc30dfb8fdfd4", func := "loop.example/prologserver/laws.FnDecoderValid", spec := "fnDecoderValid", inPlace := ["internal/reflectlite.TypeOf"], unfollowed := true, recurses := true, named := ["loop.example/prologserver/impl.errBroken", "loop.example/prologserver/impl.errPart"], ifaces := true, apart := false, laid := [("loop.example/prologserver/impl.errPart", laid_loop_example_prologserver_impl_errPart), ("loop.example/prologserver/impl.errBroken", laid_loop_example_prologserver_impl_errBroken)], narrowed := true }
def FnDecoderValidUptoSaid : Prop := fnDecoderValidUptoRow.holds Tryd.pinned (OpenSpec.upto fnDecoderValidSpec)

/-- 'laws.FnDecodeStream', WHERE WHAT IT READS IS OF BULK AT MOST 1048576: true; the input reads as it did. -/
def fnDecodeStreamUptoRow : OpenClaim := { program := "ytdpmjpjbcpdgnaadoor", sum := "d4d9034d3e687bcb8fa1e22101cbcca26cefb247f331dbc73e5fc30dfb8fdfd4", func := "loop.example/prologserver/laws.FnDecodeStream", spec := "fnDecodeStream", inPlace := ["internal/reflectlite.TypeOf"], unfollowed := true, recurses := true, named := ["loop.example/prologserver/impl.errBroken", "loop.example/prologserver/impl.errPart"], ifaces := true, apart := false, laid := [("loop.example/prologserver/impl.errPart", laid_loop_example_prologserver_impl_errPart), ("loop.example/prologserver/impl.errBroken", laid_loop_example_prologserver_impl_errBroken)], narrowed := true }
def FnDecodeStreamUptoSaid : Prop := fnDecodeStreamUptoRow.holds Tryd.pinned (OpenSpec.upto fnDecodeStreamSpec)

/-- 'laws.FnDecodeParts', WHERE WHAT IT READS IS OF BULK AT MOST 1048576: true; the input reads as it did. -/
def fnDecodePartsUptoRow : OpenClaim := { program := "ytdpmjpjbcpdgnaadoor", sum := "d4d9034d3e687bcb8fa1e22101cbcca26cefb247f331dbc73e5fc30dfb8fdfd4", func := "loop.example/prologserver/laws.FnDecodeParts", spec := "fnDecodeParts", inPlace := ["internal/reflectlite.TypeOf"], unfollowed := true, recurses := true, named := ["loop.example/prologserver/impl.errBroken", "loop.example/prologserver/impl.errPart"], ifaces := true, apart := false, laid := [("loop.example/prologserver/impl.errPart", laid_loop_example_prologserver_impl_errPart), ("loop.example/prologserver/impl.errBroken", laid_loop_example_prologserver_impl_errBroken)], narrowed := true }
def FnDecodePartsUptoSaid : Prop := fnDecodePartsUptoRow.holds Tryd.pinned (OpenSpec.upto fnDecodePartsSpec)

/-- 'laws.FnDecodeShort', WHERE WHAT IT READS IS OF BULK AT MOST 1048576: true; the input reads as it did. -/
def fnDecodeShortUptoRow : OpenClaim := { program := "ytdpmjpjbcpdgnaadoor", sum := "d4d9034d3e687bcb8fa1e22101cbcca26cefb247f331dbc73e5fc30dfb8fdfd4", func := "loop.example/prologserver/laws.FnDecodeShort", spec := "fnDecodeShort", inPlace := ["internal/reflectlite.TypeOf"], unfollowed := true, recurses := true, named := ["loop.example/prologserver/impl.errBroken", "loop.example/prologserver/impl.errPart"], ifaces := true, apart := false, laid := [("loop.example/prologserver/impl.errPart", laid_loop_example_prologserver_impl_errPart), ("loop.example/prologserver/impl.errBroken", laid_loop_example_prologserver_impl_errBroken)], narrowed := true }
def FnDecodeShortUptoSaid : Prop := fnDecodeShortUptoRow.holds Tryd.pinned (OpenSpec.upto fnDecodeShortSpec)

/-- 'laws.FnExactDecodeAll', WHERE WHAT IT READS IS OF BULK AT MOST 1048576: true; the input reads as it did. -/
def fnExactDecodeAllUptoRow : OpenClaim := { program := "ytdpmjpjbcpdgnaadoor", sum := "d4d9034d3e687bcb8fa1e22101cbcca26cefb247f331dbc73e5fc30dfb8fdfd4", func := "loop.example/prologserver/laws.FnExactDecodeAll", spec := "fnExactDecodeAll", inPlace := ["internal/reflectlite.TypeOf"], unfollowed := true, recurses := true, named := ["loop.example/prologserver/impl.errBroken", "loop.example/prologserver/impl.errPart"], ifaces := true, apart := false, laid := [("loop.example/prologserver/impl.errPart", laid_loop_example_prologserver_impl_errPart), ("loop.example/prologserver/impl.errBroken", laid_loop_example_prologserver_impl_errBroken)], narrowed := true }
def FnExactDecodeAllUptoSaid : Prop := fnExactDecodeAllUptoRow.holds Tryd.pinned (OpenSpec.upto fnExactDecodeAllSpec)

/-- 'laws.FnExactFeedDecoder', WHERE WHAT IT READS IS OF BULK AT MOST 1048576: true; the input reads as it did. -/
def fnExactFeedDecoderUptoRow : OpenClaim := { program := "ytdpmjpjbcpdgnaadoor", sum := "d4d9034d3e687bcb8fa1e22101cbcca26cefb247f331dbc73e5fc30dfb8fdfd4", func := "loop.example/prologserver/laws.FnExactFeedDecoder", spec := "fnExactFeedDecoder", inPlace := ["internal/reflectlite.TypeOf"], unfollowed := true, recurses := true, named := ["loop.example/prologserver/impl.errBroken", "loop.example/prologserver/impl.errPart"], ifaces := true, apart := false, laid := [("loop.example/prologserver/impl.errPart", laid_loop_example_prologserver_impl_errPart), ("loop.example/prologserver/impl.errBroken", laid_loop_example_prologserver_impl_errBroken)], narrowed := true }
def FnExactFeedDecoderUptoSaid : Prop := fnExactFeedDecoderUptoRow.holds Tryd.pinned (OpenSpec.upto fnExactFeedDecoderSpec)

/-- 'laws.FnExactDecoderValid', WHERE WHAT IT READS IS OF BULK AT MOST 1048576: true; the input reads as it did. -/
def fnExactDecoderValidUptoRow : OpenClaim := { program := "ytdpmjpjbcpdgnaadoor", sum := "d4d9034d3e687bcb8fa1e22101cbcca26cefb247f331dbc73e5fc30dfb8fdfd4", func := "loop.example/prologserver/laws.FnExactDecoderValid", spec := "fnExactDecoderValid", inPlace := ["internal/reflectlite.TypeOf"], unfollowed := true, recurses := true, named := ["loop.example/prologserver/impl.errBroken", "loop.example/prologserver/impl.errPart"], ifaces := true, apart := false, laid := [("loop.example/prologserver/impl.errPart", laid_loop_example_prologserver_impl_errPart), ("loop.example/prologserver/impl.errBroken", laid_loop_example_prologserver_impl_errBroken)], narrowed := true }
def FnExactDecoderValidUptoSaid : Prop := fnExactDecoderValidUptoRow.holds Tryd.pinned (OpenSpec.upto fnExactDecoderValidSpec)

end Rows
end Go.Proofs.YtdpmjpjbcpdgnaaDoor

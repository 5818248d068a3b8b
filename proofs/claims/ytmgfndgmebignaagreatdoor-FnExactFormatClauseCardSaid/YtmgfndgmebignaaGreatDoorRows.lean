/-
  NARROWER THAN 'FOR EVERY INPUT', by the rows' own cells (each row's printed sentence says how): FnExactFormatClause: loops, laid · FnExactFormatProgram: loops, laid · FnExactReadTerm: ifaces, laid · FnExactParseClause: laid · FnExactParseProgram: laid.
  DERIVED. THE GIVEN ROWS OF THIS SEAT. 5 by the template 'for every input the law returns true; each argument reads behind the call as it read before'; 0 by the template 'total and deterministic' (their statements: YtmgfndgmebignaaGreatDoorTotals.lean).
  GIVEN WITH THE SEED: the statements are not yours to turn. If you find one false, say at which input.
  Laid BY PROGRAM, IN A SANDBOX (cutbox-rows.mjs): the forced cells as the released guide's own fill.sh prints them over the translation c273ac0707ad37d5… (all of the seat's roots in one cut). By AI agents, Wed Nov 11 2026. No macro, syntax, notation, axiom, sorry.
-/
import Derived.Test.YtmgfndgmebignaaGreatDoorChecked
import GoSem.Claim
import GoSem.ClaimJoined
import GoSem.ClaimMapViews
import Derived.JoinedTies
import Derived.KernelRfl
namespace Go.Proofs.YtmgfndgmebignaaGreatDoor
/- THE CELL 'sum', in the pinned program and in every row, IS THE sha256 OF THE DUMP (.gsa) THAT YtmgfndgmebignaaGreatDoorProg.lean LOADS. Nothing in Lean hashes anything: it is a label: what it is worth is what the hold of that sum in a sandbox is worth. -/
noncomputable def Tryz.pinned : Pinned := { name := "ytmgfndgmebignaagreatdoor", sum := "c273ac0707ad37d511f65355212947a477c33a2ee618ed05592068dce94c9f00", checked := Tryz.checked }
namespace Rows
def none {H : Type} : Left H := { results := [], args := [] }

/- WHAT THE LISTED PACKAGE-LEVEL VARIABLES READ AS WHEN THE CALL BEGINS. Each datum BY PROGRAM (the guide's laid-datum.mjs) off the statement by which the dump's own 'gosem.cut.vars' lays the variable. In a bare row this is a premise. The card (YtmgfndgmebignaaGreatDoorCards.lean) ties it to the program's text. -/
def laid_math_bits_deBruijn32tab {H : Type} : DataW H := .agg [.lit (.int .u8 0), .lit (.int .u8 1), .lit (.int .u8 28), .lit (.int .u8 2), .lit (.int .u8 29), .lit (.int .u8 14), .lit (.int .u8 24), .lit (.int .u8 3), .lit (.int .u8 30), .lit (.int .u8 22), .lit (.int .u8 20), .lit (.int .u8 15), .lit (.int .u8 25), .lit (.int .u8 17), .lit (.int .u8 4), .lit (.int .u8 8), .lit (.int .u8 31), .lit (.int .u8 27), .lit (.int .u8 13), .lit (.int .u8 23), .lit (.int .u8 21), .lit (.int .u8 19), .lit (.int .u8 16), .lit (.int .u8 7), .lit (.int .u8 26), .lit (.int .u8 12), .lit (.int .u8 18), .lit (.int .u8 6), .lit (.int .u8 11), .lit (.int .u8 5), .lit (.int .u8 10), .lit (.int .u8 9)]
def laid_math_bits_deBruijn64tab {H : Type} : DataW H := .agg [.lit (.int .u8 0), .lit (.int .u8 1), .lit (.int .u8 56), .lit (.int .u8 2), .lit (.int .u8 57), .lit (.int .u8 49), .lit (.int .u8 28), .lit (.int .u8 3), .lit (.int .u8 61), .lit (.int .u8 58), .lit (.int .u8 42), .lit (.int .u8 50), .lit (.int .u8 38), .lit (.int .u8 29), .lit (.int .u8 17), .lit (.int .u8 4), .lit (.int .u8 62), .lit (.int .u8 47), .lit (.int .u8 59), .lit (.int .u8 36), .lit (.int .u8 45), .lit (.int .u8 43), .lit (.int .u8 51), .lit (.int .u8 22), .lit (.int .u8 53), .lit (.int .u8 39), .lit (.int .u8 33), .lit (.int .u8 30), .lit (.int .u8 24), .lit (.int .u8 18), .lit (.int .u8 12), .lit (.int .u8 5), .lit (.int .u8 63), .lit (.int .u8 55), .lit (.int .u8 48), .lit (.int .u8 27), .lit (.int .u8 60), .lit (.int .u8 41), .lit (.int .u8 37), .lit (.int .u8 16), .lit (.int .u8 46), .lit (.int .u8 35), .lit (.int .u8 44), .lit (.int .u8 21), .lit (.int .u8 52), .lit (.int .u8 32), .lit (.int .u8 23), .lit (.int .u8 11), .lit (.int .u8 54), .lit (.int .u8 26), .lit (.int .u8 40), .lit (.int .u8 15), .lit (.int .u8 34), .lit (.int .u8 20), .lit (.int .u8 31), .lit (.int .u8 10), .lit (.int .u8 25), .lit (.int .u8 14), .lit (.int .u8 19), .lit (.int .u8 9), .lit (.int .u8 13), .lit (.int .u8 8), .lit (.int .u8 7), .lit (.int .u8 6)]
def laid_internal_strconv_uint64pow10 {H : Type} : DataW H := .agg [.lit (.int .u64 1), .lit (.int .u64 10), .lit (.int .u64 100), .lit (.int .u64 1000), .lit (.int .u64 10000), .lit (.int .u64 100000), .lit (.int .u64 1000000), .lit (.int .u64 10000000), .lit (.int .u64 100000000), .lit (.int .u64 1000000000), .lit (.int .u64 10000000000), .lit (.int .u64 100000000000), .lit (.int .u64 1000000000000), .lit (.int .u64 10000000000000), .lit (.int .u64 100000000000000), .lit (.int .u64 1000000000000000), .lit (.int .u64 10000000000000000), .lit (.int .u64 100000000000000000), .lit (.int .u64 1000000000000000000), .lit (.int .u64 10000000000000000000)]
def laid_loop_example_prologserver_impl_signNames {H : Type} : DataW H := .agg [.lit (.string [43]), .lit (.string [45]), .lit (.string [42]), .lit (.string [47, 47]), .lit (.string [61]), .lit (.string [92, 61]), .lit (.string [61, 61]), .lit (.string [60]), .lit (.string [62]), .lit (.string [61, 60]), .lit (.string [62, 61]), .lit (.string [61, 58, 61]), .lit (.string [46]), .lit (.string [91, 93]), .lit (.string [33])]
def laid_loop_example_prologserver_impl_operatorRows {H : Type} : DataW H := .agg [.agg [.lit (.string [61]), .lit (.string [61]), .lit (.int .i64 3)], .agg [.lit (.string [92, 61]), .lit (.string [92, 61]), .lit (.int .i64 3)], .agg [.lit (.string [61, 61]), .lit (.string [61, 61]), .lit (.int .i64 3)], .agg [.lit (.string [60]), .lit (.string [60]), .lit (.int .i64 3)], .agg [.lit (.string [62]), .lit (.string [62]), .lit (.int .i64 3)], .agg [.lit (.string [61, 60]), .lit (.string [61, 60]), .lit (.int .i64 3)], .agg [.lit (.string [62, 61]), .lit (.string [62, 61]), .lit (.int .i64 3)], .agg [.lit (.string [61, 58, 61]), .lit (.string [61, 58, 61]), .lit (.int .i64 3)], .agg [.lit (.string [105, 115]), .lit (.string [32, 105, 115, 32]), .lit (.int .i64 3)], .agg [.lit (.string [43]), .lit (.string [43]), .lit (.int .i64 2)], .agg [.lit (.string [45]), .lit (.string [45]), .lit (.int .i64 2)], .agg [.lit (.string [42]), .lit (.string [42]), .lit (.int .i64 1)], .agg [.lit (.string [47, 47]), .lit (.string [47, 47]), .lit (.int .i64 1)], .agg [.lit (.string [109, 111, 100]), .lit (.string [32, 109, 111, 100, 32]), .lit (.int .i64 1)]]
def laid_strconv_ErrRange {H : Type} : DataW H := .iface "*errors.errorString" (.ptr (.agg [.lit (.string [118, 97, 108, 117, 101, 32, 111, 117, 116, 32, 111, 102, 32, 114, 97, 110, 103, 101])]))
def laid_strconv_ErrSyntax {H : Type} : DataW H := .iface "*errors.errorString" (.ptr (.agg [.lit (.string [105, 110, 118, 97, 108, 105, 100, 32, 115, 121, 110, 116, 97, 120])]))
def laid_loop_example_prologserver_impl_errLong {H : Type} : DataW H := .iface "*errors.errorString" (.ptr (.agg [.lit (.string [116, 101, 120, 116, 32, 105, 115, 32, 116, 111, 111, 32, 108, 111, 110, 103])]))

/-- 'laws.FnExactFormatClause': WHATEVER THE INPUT: true; the input reads as it did. -/
def fnExactFormatClauseSpec : ChangeSpec := { name := "fnExactFormatClause", vars := ["loop.example/prologserver/impl.signNames", "loop.example/prologserver/impl.operatorRows"], fn := fun _ => fun
  | [d, g1, g2] => { results := [.lit (.bool true)], args := [d], vars := [g1, g2] }
  | _ => none }
def fnExactFormatClauseRow : OpenClaim := { program := "ytmgfndgmebignaagreatdoor", sum := "c273ac0707ad37d511f65355212947a477c33a2ee618ed05592068dce94c9f00", func := "loop.example/prologserver/laws.FnExactFormatClause", spec := "fnExactFormatClause", inPlace := ["slices.overlaps[byte]"], unfollowed := true, recurses := true, named := ["loop.example/prologserver/impl.signNames", "loop.example/prologserver/impl.operatorRows", "internal/strconv.uint64pow10", "math/bits.deBruijn32tab", "math/bits.deBruijn64tab"], loops := true, plainKeys := false, apart := false, laid := [("math/bits.deBruijn32tab", laid_math_bits_deBruijn32tab), ("math/bits.deBruijn64tab", laid_math_bits_deBruijn64tab), ("internal/strconv.uint64pow10", laid_internal_strconv_uint64pow10), ("loop.example/prologserver/impl.signNames", laid_loop_example_prologserver_impl_signNames), ("loop.example/prologserver/impl.operatorRows", laid_loop_example_prologserver_impl_operatorRows)] }
def FnExactFormatClauseSaid : Prop := fnExactFormatClauseRow.holds Tryz.pinned (OpenSpec.ofChange fnExactFormatClauseSpec)

/-- ITS FALSE NEIGHBOUR: 'it returns false'. Refute it at one input. -/
def fnExactFormatClauseWrong : ChangeSpec := { name := "fnExactFormatClause", vars := ["loop.example/prologserver/impl.signNames", "loop.example/prologserver/impl.operatorRows"], fn := fun _ => fun
  | [d, g1, g2] => { results := [.lit (.bool false)], args := [d], vars := [g1, g2] }
  | _ => none }
def FnExactFormatClauseWrongFalsely : Prop := fnExactFormatClauseRow.holds Tryz.pinned (OpenSpec.ofChange fnExactFormatClauseWrong)

/-- 'laws.FnExactFormatProgram': WHATEVER THE INPUT: true; the input reads as it did. -/
def fnExactFormatProgramSpec : ChangeSpec := { name := "fnExactFormatProgram", vars := ["loop.example/prologserver/impl.signNames", "loop.example/prologserver/impl.operatorRows"], fn := fun _ => fun
  | [d, g1, g2] => { results := [.lit (.bool true)], args := [d], vars := [g1, g2] }
  | _ => none }
def fnExactFormatProgramRow : OpenClaim := { program := "ytmgfndgmebignaagreatdoor", sum := "c273ac0707ad37d511f65355212947a477c33a2ee618ed05592068dce94c9f00", func := "loop.example/prologserver/laws.FnExactFormatProgram", spec := "fnExactFormatProgram", inPlace := ["slices.overlaps[byte]"], unfollowed := true, recurses := true, named := ["loop.example/prologserver/impl.signNames", "loop.example/prologserver/impl.operatorRows", "internal/strconv.uint64pow10", "math/bits.deBruijn32tab", "math/bits.deBruijn64tab"], loops := true, plainKeys := false, apart := false, laid := [("math/bits.deBruijn32tab", laid_math_bits_deBruijn32tab), ("math/bits.deBruijn64tab", laid_math_bits_deBruijn64tab), ("internal/strconv.uint64pow10", laid_internal_strconv_uint64pow10), ("loop.example/prologserver/impl.signNames", laid_loop_example_prologserver_impl_signNames), ("loop.example/prologserver/impl.operatorRows", laid_loop_example_prologserver_impl_operatorRows)] }
def FnExactFormatProgramSaid : Prop := fnExactFormatProgramRow.holds Tryz.pinned (OpenSpec.ofChange fnExactFormatProgramSpec)

/-- ITS FALSE NEIGHBOUR: 'it returns false'. Refute it at one input. -/
def fnExactFormatProgramWrong : ChangeSpec := { name := "fnExactFormatProgram", vars := ["loop.example/prologserver/impl.signNames", "loop.example/prologserver/impl.operatorRows"], fn := fun _ => fun
  | [d, g1, g2] => { results := [.lit (.bool false)], args := [d], vars := [g1, g2] }
  | _ => none }
def FnExactFormatProgramWrongFalsely : Prop := fnExactFormatProgramRow.holds Tryz.pinned (OpenSpec.ofChange fnExactFormatProgramWrong)

/-- 'laws.FnExactReadTerm': WHATEVER THE INPUT: true; the input reads as it did. -/
def fnExactReadTermSpec : ChangeSpec := { name := "fnExactReadTerm", vars := ["loop.example/prologserver/impl.errLong", "loop.example/prologserver/impl.operatorRows", "loop.example/prologserver/impl.signNames"], fn := fun _ => fun
  | [d, g1, g2, g3] => { results := [.lit (.bool true)], args := [d], vars := [g1, g2, g3] }
  | _ => none }
def fnExactReadTermRow : OpenClaim := { program := "ytmgfndgmebignaagreatdoor", sum := "c273ac0707ad37d511f65355212947a477c33a2ee618ed05592068dce94c9f00", func := "loop.example/prologserver/laws.FnExactReadTerm", spec := "fnExactReadTerm", unfollowed := true, recurses := true, named := ["loop.example/prologserver/impl.errLong", "loop.example/prologserver/impl.operatorRows", "strconv.ErrSyntax", "strconv.ErrRange", "internal/strconv.uint64pow10", "math/bits.deBruijn32tab", "math/bits.deBruijn64tab", "loop.example/prologserver/impl.signNames"], ifaces := true, plainKeys := false, apart := false, laid := [("math/bits.deBruijn32tab", laid_math_bits_deBruijn32tab), ("math/bits.deBruijn64tab", laid_math_bits_deBruijn64tab), ("internal/strconv.uint64pow10", laid_internal_strconv_uint64pow10), ("strconv.ErrRange", laid_strconv_ErrRange), ("strconv.ErrSyntax", laid_strconv_ErrSyntax), ("loop.example/prologserver/impl.signNames", laid_loop_example_prologserver_impl_signNames), ("loop.example/prologserver/impl.operatorRows", laid_loop_example_prologserver_impl_operatorRows), ("loop.example/prologserver/impl.errLong", laid_loop_example_prologserver_impl_errLong)] }
def FnExactReadTermSaid : Prop := fnExactReadTermRow.holds Tryz.pinned (OpenSpec.ofChange fnExactReadTermSpec)

/-- ITS FALSE NEIGHBOUR: 'it returns false'. Refute it at one input. -/
def fnExactReadTermWrong : ChangeSpec := { name := "fnExactReadTerm", vars := ["loop.example/prologserver/impl.errLong", "loop.example/prologserver/impl.operatorRows", "loop.example/prologserver/impl.signNames"], fn := fun _ => fun
  | [d, g1, g2, g3] => { results := [.lit (.bool false)], args := [d], vars := [g1, g2, g3] }
  | _ => none }
def FnExactReadTermWrongFalsely : Prop := fnExactReadTermRow.holds Tryz.pinned (OpenSpec.ofChange fnExactReadTermWrong)

/-- 'laws.FnExactParseClause': WHATEVER THE INPUT: true; the input reads as it did. -/
def fnExactParseClauseSpec : ChangeSpec := { name := "fnExactParseClause", vars := ["loop.example/prologserver/impl.operatorRows", "loop.example/prologserver/impl.signNames"], fn := fun _ => fun
  | [d, g1, g2] => { results := [.lit (.bool true)], args := [d], vars := [g1, g2] }
  | _ => none }
def fnExactParseClauseRow : OpenClaim := { program := "ytmgfndgmebignaagreatdoor", sum := "c273ac0707ad37d511f65355212947a477c33a2ee618ed05592068dce94c9f00", func := "loop.example/prologserver/laws.FnExactParseClause", spec := "fnExactParseClause", inPlace := ["slices.overlaps[byte]"], unfollowed := true, recurses := true, named := ["loop.example/prologserver/impl.operatorRows", "strconv.ErrSyntax", "strconv.ErrRange", "internal/strconv.uint64pow10", "math/bits.deBruijn32tab", "math/bits.deBruijn64tab", "loop.example/prologserver/impl.signNames"], plainKeys := false, apart := false, laid := [("math/bits.deBruijn32tab", laid_math_bits_deBruijn32tab), ("math/bits.deBruijn64tab", laid_math_bits_deBruijn64tab), ("internal/strconv.uint64pow10", laid_internal_strconv_uint64pow10), ("strconv.ErrRange", laid_strconv_ErrRange), ("strconv.ErrSyntax", laid_strconv_ErrSyntax), ("loop.example/prologserver/impl.signNames", laid_loop_example_prologserver_impl_signNames), ("loop.example/prologserver/impl.operatorRows", laid_loop_example_prologserver_impl_operatorRows)] }
def FnExactParseClauseSaid : Prop := fnExactParseClauseRow.holds Tryz.pinned (OpenSpec.ofChange fnExactParseClauseSpec)

/-- ITS FALSE NEIGHBOUR: 'it returns false'. Refute it at one input. -/
def fnExactParseClauseWrong : ChangeSpec := { name := "fnExactParseClause", vars := ["loop.example/prologserver/impl.operatorRows", "loop.example/prologserver/impl.signNames"], fn := fun _ => fun
  | [d, g1, g2] => { results := [.lit (.bool false)], args := [d], vars := [g1, g2] }
  | _ => none }
def FnExactParseClauseWrongFalsely : Prop := fnExactParseClauseRow.holds Tryz.pinned (OpenSpec.ofChange fnExactParseClauseWrong)

/-- 'laws.FnExactParseProgram': WHATEVER THE INPUT: true; the input reads as it did. -/
def fnExactParseProgramSpec : ChangeSpec := { name := "fnExactParseProgram", vars := ["loop.example/prologserver/impl.operatorRows", "loop.example/prologserver/impl.signNames"], fn := fun _ => fun
  | [d, g1, g2] => { results := [.lit (.bool true)], args := [d], vars := [g1, g2] }
  | _ => none }
def fnExactParseProgramRow : OpenClaim := { program := "ytmgfndgmebignaagreatdoor", sum := "c273ac0707ad37d511f65355212947a477c33a2ee618ed05592068dce94c9f00", func := "loop.example/prologserver/laws.FnExactParseProgram", spec := "fnExactParseProgram", inPlace := ["slices.overlaps[byte]"], unfollowed := true, recurses := true, named := ["loop.example/prologserver/impl.operatorRows", "strconv.ErrSyntax", "strconv.ErrRange", "internal/strconv.uint64pow10", "math/bits.deBruijn32tab", "math/bits.deBruijn64tab", "loop.example/prologserver/impl.signNames"], plainKeys := false, apart := false, laid := [("math/bits.deBruijn32tab", laid_math_bits_deBruijn32tab), ("math/bits.deBruijn64tab", laid_math_bits_deBruijn64tab), ("internal/strconv.uint64pow10", laid_internal_strconv_uint64pow10), ("strconv.ErrRange", laid_strconv_ErrRange), ("strconv.ErrSyntax", laid_strconv_ErrSyntax), ("loop.example/prologserver/impl.signNames", laid_loop_example_prologserver_impl_signNames), ("loop.example/prologserver/impl.operatorRows", laid_loop_example_prologserver_impl_operatorRows)] }
def FnExactParseProgramSaid : Prop := fnExactParseProgramRow.holds Tryz.pinned (OpenSpec.ofChange fnExactParseProgramSpec)

/-- ITS FALSE NEIGHBOUR: 'it returns false'. Refute it at one input. -/
def fnExactParseProgramWrong : ChangeSpec := { name := "fnExactParseProgram", vars := ["loop.example/prologserver/impl.operatorRows", "loop.example/prologserver/impl.signNames"], fn := fun _ => fun
  | [d, g1, g2] => { results := [.lit (.bool false)], args := [d], vars := [g1, g2] }
  | _ => none }
def FnExactParseProgramWrongFalsely : Prop := fnExactParseProgramRow.holds Tryz.pinned (OpenSpec.ofChange fnExactParseProgramWrong)

/- THE SECOND FORM. 'bulk': how many values and letters a reading holds, each counted each time it is reached (what is shared counts as often as it is met; a slice's spare places count too). A statement '..UptoSaid' is the law's where the arguments, and the package variables that the reading takes, are together of bulk at most 1048576: NARROWER than '..Said'. Prove '..Said' where nothing that the law and all that it calls make is longer than what came in: it says more and counts as full. Else prove '..UptoSaid'. A law counts once. -/
mutual
def uptoBulk {H : Type} : DataW H → Nat
  | .lit (.string bytes) => bytes.length + 1
  | .lit _ => 1
  | .nil => 1
  | .ptr d => uptoBulk d + 1
  | .slice elems spare => uptoBulkAll elems + uptoBulkAll spare + 1
  | .agg parts => uptoBulkAll parts + 1
  | .iface _ d => uptoBulk d + 1
  | .map entries => uptoBulkEntries entries + 1
  | .held _ => 1
def uptoBulkAll {H : Type} : List (DataW H) → Nat
  | [] => 0
  | d :: r => uptoBulk d + uptoBulkAll r
def uptoBulkEntries {H : Type} : List (Lit × DataW H) → Nat
  | [] => 0
  | x :: r => uptoBulkEntry x + uptoBulkEntries r
def uptoBulkEntry {H : Type} : Lit × DataW H → Nat
  | (.string bytes, d) => bytes.length + uptoBulk d + 1
  | (_, d) => uptoBulk d + 1
 end
def uptoSmall : (H : Type) → List (DataW H) → Bool := fun _ ds => decide (uptoBulkAll ds ≤ 1048576)
def OpenSpec.upto (s : _root_.Go.ChangeSpec) : _root_.Go.OpenSpec := { _root_.Go.OpenSpec.ofChange s with cond := some uptoSmall }

/-- 'laws.FnExactFormatClause', WHERE WHAT IT READS IS OF BULK AT MOST 1048576: true; the input reads as it did. -/
def fnExactFormatClauseUptoRow : OpenClaim := { program := "ytmgfndgmebignaagreatdoor", sum := "c273ac0707ad37d511f65355212947a477c33a2ee618ed05592068dce94c9f00", func := "loop.example/prologserver/laws.FnExactFormatClause", spec := "fnExactFormatClause", inPlace := ["slices.overlaps[byte]"], unfollowed := true, recurses := true, named := ["loop.example/prologserver/impl.signNames", "loop.example/prologserver/impl.operatorRows", "internal/strconv.uint64pow10", "math/bits.deBruijn32tab", "math/bits.deBruijn64tab"], loops := true, plainKeys := false, apart := false, laid := [("math/bits.deBruijn32tab", laid_math_bits_deBruijn32tab), ("math/bits.deBruijn64tab", laid_math_bits_deBruijn64tab), ("internal/strconv.uint64pow10", laid_internal_strconv_uint64pow10), ("loop.example/prologserver/impl.signNames", laid_loop_example_prologserver_impl_signNames), ("loop.example/prologserver/impl.operatorRows", laid_loop_example_prologserver_impl_operatorRows)], narrowed := true }
def FnExactFormatClauseUptoSaid : Prop := fnExactFormatClauseUptoRow.holds Tryz.pinned (OpenSpec.upto fnExactFormatClauseSpec)

/-- 'laws.FnExactFormatProgram', WHERE WHAT IT READS IS OF BULK AT MOST 1048576: true; the input reads as it did. -/
def fnExactFormatProgramUptoRow : OpenClaim := { program := "ytmgfndgmebignaagreatdoor", sum := "c273ac0707ad37d511f65355212947a477c33a2ee618ed05592068dce94c9f00", func := "loop.example/prologserver/laws.FnExactFormatProgram", spec := "fnExactFormatProgram", inPlace := ["slices.overlaps[byte]"], unfollowed := true, recurses := true, named := ["loop.example/prologserver/impl.signNames", "loop.example/prologserver/impl.operatorRows", "internal/strconv.uint64pow10", "math/bits.deBruijn32tab", "math/bits.deBruijn64tab"], loops := true, plainKeys := false, apart := false, laid := [("math/bits.deBruijn32tab", laid_math_bits_deBruijn32tab), ("math/bits.deBruijn64tab", laid_math_bits_deBruijn64tab), ("internal/strconv.uint64pow10", laid_internal_strconv_uint64pow10), ("loop.example/prologserver/impl.signNames", laid_loop_example_prologserver_impl_signNames), ("loop.example/prologserver/impl.operatorRows", laid_loop_example_prologserver_impl_operatorRows)], narrowed := true }
def FnExactFormatProgramUptoSaid : Prop := fnExactFormatProgramUptoRow.holds Tryz.pinned (OpenSpec.upto fnExactFormatProgramSpec)

/-- 'laws.FnExactReadTerm', WHERE WHAT IT READS IS OF BULK AT MOST 1048576: true; the input reads as it did. -/
def fnExactReadTermUptoRow : OpenClaim := { program := "ytmgfndgmebignaagreatdoor", sum := "c273ac0707ad37d511f65355212947a477c33a2ee618ed05592068dce94c9f00", func := "loop.example/prologserver/laws.FnExactReadTerm", spec := "fnExactReadTerm", unfollowed := true, recurses := true, named := ["loop.example/prologserver/impl.errLong", "loop.example/prologserver/impl.operatorRows", "strconv.ErrSyntax", "strconv.ErrRange", "internal/strconv.uint64pow10", "math/bits.deBruijn32tab", "math/bits.deBruijn64tab", "loop.example/prologserver/impl.signNames"], ifaces := true, plainKeys := false, apart := false, laid := [("math/bits.deBruijn32tab", laid_math_bits_deBruijn32tab), ("math/bits.deBruijn64tab", laid_math_bits_deBruijn64tab), ("internal/strconv.uint64pow10", laid_internal_strconv_uint64pow10), ("strconv.ErrRange", laid_strconv_ErrRange), ("strconv.ErrSyntax", laid_strconv_ErrSyntax), ("loop.example/prologserver/impl.signNames", laid_loop_example_prologserver_impl_signNames), ("loop.example/prologserver/impl.operatorRows", laid_loop_example_prologserver_impl_operatorRows), ("loop.example/prologserver/impl.errLong", laid_loop_example_prologserver_impl_errLong)], narrowed := true }
def FnExactReadTermUptoSaid : Prop := fnExactReadTermUptoRow.holds Tryz.pinned (OpenSpec.upto fnExactReadTermSpec)

/-- 'laws.FnExactParseClause', WHERE WHAT IT READS IS OF BULK AT MOST 1048576: true; the input reads as it did. -/
def fnExactParseClauseUptoRow : OpenClaim := { program := "ytmgfndgmebignaagreatdoor", sum := "c273ac0707ad37d511f65355212947a477c33a2ee618ed05592068dce94c9f00", func := "loop.example/prologserver/laws.FnExactParseClause", spec := "fnExactParseClause", inPlace := ["slices.overlaps[byte]"], unfollowed := true, recurses := true, named := ["loop.example/prologserver/impl.operatorRows", "strconv.ErrSyntax", "strconv.ErrRange", "internal/strconv.uint64pow10", "math/bits.deBruijn32tab", "math/bits.deBruijn64tab", "loop.example/prologserver/impl.signNames"], plainKeys := false, apart := false, laid := [("math/bits.deBruijn32tab", laid_math_bits_deBruijn32tab), ("math/bits.deBruijn64tab", laid_math_bits_deBruijn64tab), ("internal/strconv.uint64pow10", laid_internal_strconv_uint64pow10), ("strconv.ErrRange", laid_strconv_ErrRange), ("strconv.ErrSyntax", laid_strconv_ErrSyntax), ("loop.example/prologserver/impl.signNames", laid_loop_example_prologserver_impl_signNames), ("loop.example/prologserver/impl.operatorRows", laid_loop_example_prologserver_impl_operatorRows)], narrowed := true }
def FnExactParseClauseUptoSaid : Prop := fnExactParseClauseUptoRow.holds Tryz.pinned (OpenSpec.upto fnExactParseClauseSpec)

/-- 'laws.FnExactParseProgram', WHERE WHAT IT READS IS OF BULK AT MOST 1048576: true; the input reads as it did. -/
def fnExactParseProgramUptoRow : OpenClaim := { program := "ytmgfndgmebignaagreatdoor", sum := "c273ac0707ad37d511f65355212947a477c33a2ee618ed05592068dce94c9f00", func := "loop.example/prologserver/laws.FnExactParseProgram", spec := "fnExactParseProgram", inPlace := ["slices.overlaps[byte]"], unfollowed := true, recurses := true, named := ["loop.example/prologserver/impl.operatorRows", "strconv.ErrSyntax", "strconv.ErrRange", "internal/strconv.uint64pow10", "math/bits.deBruijn32tab", "math/bits.deBruijn64tab", "loop.example/prologserver/impl.signNames"], plainKeys := false, apart := false, laid := [("math/bits.deBruijn32tab", laid_math_bits_deBruijn32tab), ("math/bits.deBruijn64tab", laid_math_bits_deBruijn64tab), ("internal/strconv.uint64pow10", laid_internal_strconv_uint64pow10), ("strconv.ErrRange", laid_strconv_ErrRange), ("strconv.ErrSyntax", laid_strconv_ErrSyntax), ("loop.example/prologserver/impl.signNames", laid_loop_example_prologserver_impl_signNames), ("loop.example/prologserver/impl.operatorRows", laid_loop_example_prologserver_impl_operatorRows)], narrowed := true }
def FnExactParseProgramUptoSaid : Prop := fnExactParseProgramUptoRow.holds Tryz.pinned (OpenSpec.upto fnExactParseProgramSpec)

end Rows
end Go.Proofs.YtmgfndgmebignaaGreatDoor

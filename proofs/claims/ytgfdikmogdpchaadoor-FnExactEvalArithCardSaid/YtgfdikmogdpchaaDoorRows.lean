/-
  NARROWER THAN 'FOR EVERY INPUT', by the rows' own cells (each row's printed sentence says how): FnExactEvalArith: loops, laid · FnExactCompareGoal: loops, laid.
  DERIVED. THE GIVEN ROWS OF THIS SEAT. 2 by the template 'for every input the law returns true; each argument reads behind the call as it read before'; 0 by the template 'total and deterministic' (their statements: YtgfdikmogdpchaaDoorTotals.lean).
  GIVEN WITH THE SEED: the statements are not yours to turn. If you find one false, say at which input.
  Laid BY PROGRAM, IN A SANDBOX (cutbox-rows.mjs): the forced cells as the released guide's own fill.sh prints them over the translation bf0c979184460caf… (all of the seat's roots in one cut). By AI agents, Wed Nov 11 2026. No macro, syntax, notation, axiom, sorry.
-/
import Derived.Test.YtgfdikmogdpchaaDoorChecked
import GoSem.Claim
import GoSem.ClaimJoined
import GoSem.ClaimMapViews
import Derived.JoinedTies
import Derived.KernelRfl
namespace Go.Proofs.YtgfdikmogdpchaaDoor
/- THE CELL 'sum', in the pinned program and in every row, IS THE sha256 OF THE DUMP (.gsa) THAT YtgfdikmogdpchaaDoorProg.lean LOADS. Nothing in Lean hashes anything: it is a label: what it is worth is what the hold of that sum in a sandbox is worth. -/
noncomputable def Tryd.pinned : Pinned := { name := "ytgfdikmogdpchaadoor", sum := "bf0c979184460cafc058da8076b3117dbaa393cbbb1677e284c32c589fa7237a", checked := Tryd.checked }
namespace Rows
def none {H : Type} : Left H := { results := [], args := [] }

/- WHAT THE LISTED PACKAGE-LEVEL VARIABLES READ AS WHEN THE CALL BEGINS. Each datum BY PROGRAM (the guide's laid-datum.mjs) off the statement by which the dump's own 'gosem.cut.vars' lays the variable. In a bare row this is a premise. The card (YtgfdikmogdpchaaDoorCards.lean) ties it to the program's text. -/
def laid_errors_errorType {H : Type} : DataW H := .iface "internal/reflectlite.rtype" (.agg [.ptr (.lit (.string [101, 114, 114, 111, 114]))])
def laid_loop_example_prologserver_impl_signNames {H : Type} : DataW H := .agg [.lit (.string [43]), .lit (.string [45]), .lit (.string [42]), .lit (.string [47, 47]), .lit (.string [61]), .lit (.string [92, 61]), .lit (.string [61, 61]), .lit (.string [60]), .lit (.string [62]), .lit (.string [61, 60]), .lit (.string [62, 61]), .lit (.string [61, 58, 61]), .lit (.string [46]), .lit (.string [91, 93]), .lit (.string [33])]
def laid_loop_example_prologserver_impl_operatorRows {H : Type} : DataW H := .agg [.agg [.lit (.string [61]), .lit (.string [61]), .lit (.int .i64 3)], .agg [.lit (.string [92, 61]), .lit (.string [92, 61]), .lit (.int .i64 3)], .agg [.lit (.string [61, 61]), .lit (.string [61, 61]), .lit (.int .i64 3)], .agg [.lit (.string [60]), .lit (.string [60]), .lit (.int .i64 3)], .agg [.lit (.string [62]), .lit (.string [62]), .lit (.int .i64 3)], .agg [.lit (.string [61, 60]), .lit (.string [61, 60]), .lit (.int .i64 3)], .agg [.lit (.string [62, 61]), .lit (.string [62, 61]), .lit (.int .i64 3)], .agg [.lit (.string [61, 58, 61]), .lit (.string [61, 58, 61]), .lit (.int .i64 3)], .agg [.lit (.string [105, 115]), .lit (.string [32, 105, 115, 32]), .lit (.int .i64 3)], .agg [.lit (.string [43]), .lit (.string [43]), .lit (.int .i64 2)], .agg [.lit (.string [45]), .lit (.string [45]), .lit (.int .i64 2)], .agg [.lit (.string [42]), .lit (.string [42]), .lit (.int .i64 1)], .agg [.lit (.string [47, 47]), .lit (.string [47, 47]), .lit (.int .i64 1)], .agg [.lit (.string [109, 111, 100]), .lit (.string [32, 109, 111, 100, 32]), .lit (.int .i64 1)]]

/-- 'laws.FnExactEvalArith': WHATEVER THE INPUT: true; the input reads as it did. -/
def fnExactEvalArithSpec : ChangeSpec := { name := "fnExactEvalArith", vars := ["loop.example/prologserver/impl.signNames"], fn := fun _ => fun
  | [d, g1] => { results := [.lit (.bool true)], args := [d], vars := [g1] }
  | _ => none }
def fnExactEvalArithRow : OpenClaim := { program := "ytgfdikmogdpchaadoor", sum := "bf0c979184460cafc058da8076b3117dbaa393cbbb1677e284c32c589fa7237a", func := "loop.example/prologserver/laws.FnExactEvalArith", spec := "fnExactEvalArith", inPlace := ["internal/reflectlite.ValueOf", "(internal/reflectlite.Value).Type", "(internal/reflectlite.Value).IsNil", "internal/reflectlite.TypeOf", "(internal/reflectlite.Value).Elem", "(internal/reflectlite.Value).Set"], unfollowed := true, recurses := true, named := ["loop.example/prologserver/impl.signNames", "errors.errorType"], loops := true, plainKeys := false, apart := false, laid := [("errors.errorType", laid_errors_errorType), ("loop.example/prologserver/impl.signNames", laid_loop_example_prologserver_impl_signNames)] }
def FnExactEvalArithSaid : Prop := fnExactEvalArithRow.holds Tryd.pinned (OpenSpec.ofChange fnExactEvalArithSpec)

/-- ITS FALSE NEIGHBOUR: 'it returns false'. Refute it at one input. -/
def fnExactEvalArithWrong : ChangeSpec := { name := "fnExactEvalArith", vars := ["loop.example/prologserver/impl.signNames"], fn := fun _ => fun
  | [d, g1] => { results := [.lit (.bool false)], args := [d], vars := [g1] }
  | _ => none }
def FnExactEvalArithWrongFalsely : Prop := fnExactEvalArithRow.holds Tryd.pinned (OpenSpec.ofChange fnExactEvalArithWrong)

/-- 'laws.FnExactCompareGoal': WHATEVER THE INPUT: true; the input reads as it did. -/
def fnExactCompareGoalSpec : ChangeSpec := { name := "fnExactCompareGoal", vars := ["loop.example/prologserver/impl.signNames", "loop.example/prologserver/impl.operatorRows"], fn := fun _ => fun
  | [d, g1, g2] => { results := [.lit (.bool true)], args := [d], vars := [g1, g2] }
  | _ => none }
def fnExactCompareGoalRow : OpenClaim := { program := "ytgfdikmogdpchaadoor", sum := "bf0c979184460cafc058da8076b3117dbaa393cbbb1677e284c32c589fa7237a", func := "loop.example/prologserver/laws.FnExactCompareGoal", spec := "fnExactCompareGoal", unfollowed := true, recurses := true, named := ["loop.example/prologserver/impl.signNames", "loop.example/prologserver/impl.operatorRows"], loops := true, plainKeys := false, apart := false, laid := [("loop.example/prologserver/impl.signNames", laid_loop_example_prologserver_impl_signNames), ("loop.example/prologserver/impl.operatorRows", laid_loop_example_prologserver_impl_operatorRows)] }
def FnExactCompareGoalSaid : Prop := fnExactCompareGoalRow.holds Tryd.pinned (OpenSpec.ofChange fnExactCompareGoalSpec)

/-- ITS FALSE NEIGHBOUR: 'it returns false'. Refute it at one input. -/
def fnExactCompareGoalWrong : ChangeSpec := { name := "fnExactCompareGoal", vars := ["loop.example/prologserver/impl.signNames", "loop.example/prologserver/impl.operatorRows"], fn := fun _ => fun
  | [d, g1, g2] => { results := [.lit (.bool false)], args := [d], vars := [g1, g2] }
  | _ => none }
def FnExactCompareGoalWrongFalsely : Prop := fnExactCompareGoalRow.holds Tryd.pinned (OpenSpec.ofChange fnExactCompareGoalWrong)

/- THE SECOND FORM. 'bulk': how many values and letters a reading holds, each counted each time it is reached (what is shared counts as often as it is met; a slice's spare places count too). A statement '..UptoSaid' is the law's where the arguments, and the package variables that the reading takes, are together of bulk at most 1048576: NARROWER than '..Said'. Prove '..Said' where nothing that the law and all that it calls make is longer than what came in: it says more and counts as full. Else prove '..UptoSaid'. A law counts once. -/
mutual
def uptoBulk {H : Type} : DataW H → Nat
  | .lit (.string bytes) => bytes.length + 1
  | .lit _ => 1
  | .nil => 1
  | .ptr d => uptoBulk d + 1
  | .slice elems spare => uptoBulkAll elems + uptoBulkAll spare + 1
  | .agg parts => uptoBulkAll parts + 1
  | .iface _ d => uptoBulk d + 1
  | .map entries => uptoBulkEntries entries + 1
  | .held _ => 1
def uptoBulkAll {H : Type} : List (DataW H) → Nat
  | [] => 0
  | d :: r => uptoBulk d + uptoBulkAll r
def uptoBulkEntries {H : Type} : List (Lit × DataW H) → Nat
  | [] => 0
  | x :: r => uptoBulkEntry x + uptoBulkEntries r
def uptoBulkEntry {H : Type} : Lit × DataW H → Nat
  | (.string bytes, d) => bytes.length + uptoBulk d + 1
  | (_, d) => uptoBulk d + 1
 end
def uptoSmall : (H : Type) → List (DataW H) → Bool := fun _ ds => decide (uptoBulkAll ds ≤ 1048576)
def OpenSpec.upto (s : _root_.Go.ChangeSpec) : _root_.Go.OpenSpec := { _root_.Go.OpenSpec.ofChange s with cond := some uptoSmall }

/-- 'laws.FnExactEvalArith', WHERE WHAT IT READS IS OF BULK AT MOST 1048576: true; the input reads as it did. -/
def fnExactEvalArithUptoRow : OpenClaim := { program := "ytgfdikmogdpchaadoor", sum := "bf0c979184460cafc058da8076b3117dbaa393cbbb1677e284c32c589fa7237a", func := "loop.example/prologserver/laws.FnExactEvalArith", spec := "fnExactEvalArith", inPlace := ["internal/reflectlite.ValueOf", "(internal/reflectlite.Value).Type", "(internal/reflectlite.Value).IsNil", "internal/reflectlite.TypeOf", "(internal/reflectlite.Value).Elem", "(internal/reflectlite.Value).Set"], unfollowed := true, recurses := true, named := ["loop.example/prologserver/impl.signNames", "errors.errorType"], loops := true, plainKeys := false, apart := false, laid := [("errors.errorType", laid_errors_errorType), ("loop.example/prologserver/impl.signNames", laid_loop_example_prologserver_impl_signNames)], narrowed := true }
def FnExactEvalArithUptoSaid : Prop := fnExactEvalArithUptoRow.holds Tryd.pinned (OpenSpec.upto fnExactEvalArithSpec)

/-- 'laws.FnExactCompareGoal', WHERE WHAT IT READS IS OF BULK AT MOST 1048576: true; the input reads as it did. -/
def fnExactCompareGoalUptoRow : OpenClaim := { program := "ytgfdikmogdpchaadoor", sum := "bf0c979184460cafc058da8076b3117dbaa393cbbb1677e284c32c589fa7237a", func := "loop.example/prologserver/laws.FnExactCompareGoal", spec := "fnExactCompareGoal", unfollowed := true, recurses := true, named := ["loop.example/prologserver/impl.signNames", "loop.example/prologserver/impl.operatorRows"], loops := true, plainKeys := false, apart := false, laid := [("loop.example/prologserver/impl.signNames", laid_loop_example_prologserver_impl_signNames), ("loop.example/prologserver/impl.operatorRows", laid_loop_example_prologserver_impl_operatorRows)], narrowed := true }
def FnExactCompareGoalUptoSaid : Prop := fnExactCompareGoalUptoRow.holds Tryd.pinned (OpenSpec.upto fnExactCompareGoalSpec)

end Rows
end Go.Proofs.YtgfdikmogdpchaaDoor

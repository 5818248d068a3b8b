/-
  NARROWER THAN 'FOR EVERY INPUT', by the rows' own cells (each row's printed sentence says how): FnExactUnifyTerms: loops, laid · FnExactGeneralize: loops, laid · FnExactAnswerGoals: loops, laid.
  DERIVED. THE GIVEN ROWS OF THIS SEAT. 3 by the template 'for every input the law returns true; each argument reads behind the call as it read before'; 0 by the template 'total and deterministic' (their statements: YtnkaafimnkigpaaDoorTotals.lean).
  GIVEN WITH THE SEED: the statements are not yours to turn. If you find one false, say at which input.
  Laid BY PROGRAM, IN A SANDBOX (cutbox-rows.mjs): the forced cells as the released guide's own fill.sh prints them over the translation 68576c7438c5ba78… (all of the seat's roots in one cut). By AI agents, Wed Nov 11 2026. No macro, syntax, notation, axiom, sorry.
-/
import Derived.Test.YtnkaafimnkigpaaDoorChecked
import GoSem.Claim
import GoSem.ClaimJoined
import GoSem.ClaimMapViews
import Derived.JoinedTies
import Derived.KernelRfl
namespace Go.Proofs.YtnkaafimnkigpaaDoor
/- THE CELL 'sum', in the pinned program and in every row, IS THE sha256 OF THE DUMP (.gsa) THAT YtnkaafimnkigpaaDoorProg.lean LOADS. Nothing in Lean hashes anything: it is a label: what it is worth is what the hold of that sum in a sandbox is worth. -/
noncomputable def Tryd.pinned : Pinned := { name := "ytnkaafimnkigpaadoor", sum := "68576c7438c5ba784d58172fc547f7e41d1b67ee06ef1b4bd49ea28524a78bfa", checked := Tryd.checked }
namespace Rows
def none {H : Type} : Left H := { results := [], args := [] }

/- WHAT THE LISTED PACKAGE-LEVEL VARIABLES READ AS WHEN THE CALL BEGINS. Each datum BY PROGRAM (the guide's laid-datum.mjs) off the statement by which the dump's own 'gosem.cut.vars' lays the variable. In a bare row this is a premise. The card (YtnkaafimnkigpaaDoorCards.lean) ties it to the program's text. -/
def laid_loop_example_prologserver_impl_signNames {H : Type} : DataW H := .agg [.lit (.string [43]), .lit (.string [45]), .lit (.string [42]), .lit (.string [47, 47]), .lit (.string [61]), .lit (.string [92, 61]), .lit (.string [61, 61]), .lit (.string [60]), .lit (.string [62]), .lit (.string [61, 60]), .lit (.string [62, 61]), .lit (.string [61, 58, 61]), .lit (.string [46]), .lit (.string [91, 93]), .lit (.string [33])]
def laid_loop_example_prologserver_impl_operatorRows {H : Type} : DataW H := .agg [.agg [.lit (.string [61]), .lit (.string [61]), .lit (.int .i64 3)], .agg [.lit (.string [92, 61]), .lit (.string [92, 61]), .lit (.int .i64 3)], .agg [.lit (.string [61, 61]), .lit (.string [61, 61]), .lit (.int .i64 3)], .agg [.lit (.string [60]), .lit (.string [60]), .lit (.int .i64 3)], .agg [.lit (.string [62]), .lit (.string [62]), .lit (.int .i64 3)], .agg [.lit (.string [61, 60]), .lit (.string [61, 60]), .lit (.int .i64 3)], .agg [.lit (.string [62, 61]), .lit (.string [62, 61]), .lit (.int .i64 3)], .agg [.lit (.string [61, 58, 61]), .lit (.string [61, 58, 61]), .lit (.int .i64 3)], .agg [.lit (.string [105, 115]), .lit (.string [32, 105, 115, 32]), .lit (.int .i64 3)], .agg [.lit (.string [43]), .lit (.string [43]), .lit (.int .i64 2)], .agg [.lit (.string [45]), .lit (.string [45]), .lit (.int .i64 2)], .agg [.lit (.string [42]), .lit (.string [42]), .lit (.int .i64 1)], .agg [.lit (.string [47, 47]), .lit (.string [47, 47]), .lit (.int .i64 1)], .agg [.lit (.string [109, 111, 100]), .lit (.string [32, 109, 111, 100, 32]), .lit (.int .i64 1)]]

/-- 'laws.FnExactUnifyTerms': WHATEVER THE INPUT: true; the input reads as it did. -/
def fnExactUnifyTermsSpec : ChangeSpec := { name := "fnExactUnifyTerms", vars := ["loop.example/prologserver/impl.signNames"], fn := fun _ => fun
  | [d1, d2, g1] => { results := [.lit (.bool true)], args := [d1, d2], vars := [g1] }
  | _ => none }
def fnExactUnifyTermsRow : OpenClaim := { program := "ytnkaafimnkigpaadoor", sum := "68576c7438c5ba784d58172fc547f7e41d1b67ee06ef1b4bd49ea28524a78bfa", func := "loop.example/prologserver/laws.FnExactUnifyTerms", spec := "fnExactUnifyTerms", unfollowed := true, recurses := true, named := ["loop.example/prologserver/impl.signNames"], loops := true, plainKeys := false, apart := false, laid := [("loop.example/prologserver/impl.signNames", laid_loop_example_prologserver_impl_signNames)] }
def FnExactUnifyTermsSaid : Prop := fnExactUnifyTermsRow.holds Tryd.pinned (OpenSpec.ofChange fnExactUnifyTermsSpec)

/-- ITS FALSE NEIGHBOUR: 'it returns false'. Refute it at one input. -/
def fnExactUnifyTermsWrong : ChangeSpec := { name := "fnExactUnifyTerms", vars := ["loop.example/prologserver/impl.signNames"], fn := fun _ => fun
  | [d1, d2, g1] => { results := [.lit (.bool false)], args := [d1, d2], vars := [g1] }
  | _ => none }
def FnExactUnifyTermsWrongFalsely : Prop := fnExactUnifyTermsRow.holds Tryd.pinned (OpenSpec.ofChange fnExactUnifyTermsWrong)

/-- 'laws.FnExactGeneralize': WHATEVER THE INPUT: true; the input reads as it did. -/
def fnExactGeneralizeSpec : ChangeSpec := { name := "fnExactGeneralize", vars := ["loop.example/prologserver/impl.signNames"], fn := fun _ => fun
  | [d1, d2, g1] => { results := [.lit (.bool true)], args := [d1, d2], vars := [g1] }
  | _ => none }
def fnExactGeneralizeRow : OpenClaim := { program := "ytnkaafimnkigpaadoor", sum := "68576c7438c5ba784d58172fc547f7e41d1b67ee06ef1b4bd49ea28524a78bfa", func := "loop.example/prologserver/laws.FnExactGeneralize", spec := "fnExactGeneralize", unfollowed := true, recurses := true, named := ["loop.example/prologserver/impl.signNames"], loops := true, plainKeys := false, apart := false, laid := [("loop.example/prologserver/impl.signNames", laid_loop_example_prologserver_impl_signNames)] }
def FnExactGeneralizeSaid : Prop := fnExactGeneralizeRow.holds Tryd.pinned (OpenSpec.ofChange fnExactGeneralizeSpec)

/-- ITS FALSE NEIGHBOUR: 'it returns false'. Refute it at one input. -/
def fnExactGeneralizeWrong : ChangeSpec := { name := "fnExactGeneralize", vars := ["loop.example/prologserver/impl.signNames"], fn := fun _ => fun
  | [d1, d2, g1] => { results := [.lit (.bool false)], args := [d1, d2], vars := [g1] }
  | _ => none }
def FnExactGeneralizeWrongFalsely : Prop := fnExactGeneralizeRow.holds Tryd.pinned (OpenSpec.ofChange fnExactGeneralizeWrong)

/-- 'laws.FnExactAnswerGoals': WHATEVER THE INPUT: true; the input reads as it did. -/
def fnExactAnswerGoalsSpec : ChangeSpec := { name := "fnExactAnswerGoals", vars := ["loop.example/prologserver/impl.signNames", "loop.example/prologserver/impl.operatorRows"], fn := fun _ => fun
  | [d1, d2, g1, g2] => { results := [.lit (.bool true)], args := [d1, d2], vars := [g1, g2] }
  | _ => none }
def fnExactAnswerGoalsRow : OpenClaim := { program := "ytnkaafimnkigpaadoor", sum := "68576c7438c5ba784d58172fc547f7e41d1b67ee06ef1b4bd49ea28524a78bfa", func := "loop.example/prologserver/laws.FnExactAnswerGoals", spec := "fnExactAnswerGoals", unfollowed := true, recurses := true, named := ["loop.example/prologserver/impl.signNames", "loop.example/prologserver/impl.operatorRows"], loops := true, plainKeys := false, apart := false, laid := [("loop.example/prologserver/impl.signNames", laid_loop_example_prologserver_impl_signNames), ("loop.example/prologserver/impl.operatorRows", laid_loop_example_prologserver_impl_operatorRows)] }
def FnExactAnswerGoalsSaid : Prop := fnExactAnswerGoalsRow.holds Tryd.pinned (OpenSpec.ofChange fnExactAnswerGoalsSpec)

/-- ITS FALSE NEIGHBOUR: 'it returns false'. Refute it at one input. -/
def fnExactAnswerGoalsWrong : ChangeSpec := { name := "fnExactAnswerGoals", vars := ["loop.example/prologserver/impl.signNames", "loop.example/prologserver/impl.operatorRows"], fn := fun _ => fun
  | [d1, d2, g1, g2] => { results := [.lit (.bool false)], args := [d1, d2], vars := [g1, g2] }
  | _ => none }
def FnExactAnswerGoalsWrongFalsely : Prop := fnExactAnswerGoalsRow.holds Tryd.pinned (OpenSpec.ofChange fnExactAnswerGoalsWrong)

/- THE SECOND FORM. 'bulk': how many values and letters a reading holds, each counted each time it is reached (what is shared counts as often as it is met; a slice's spare places count too). A statement '..UptoSaid' is the law's where the arguments, and the package variables that the reading takes, are together of bulk at most 1048576: NARROWER than '..Said'. Prove '..Said' where nothing that the law and all that it calls make is longer than what came in: it says more and counts as full. Else prove '..UptoSaid'. A law counts once. -/
mutual
def uptoBulk {H : Type} : DataW H → Nat
  | .lit (.string bytes) => bytes.length + 1
  | .lit _ => 1
  | .nil => 1
  | .ptr d => uptoBulk d + 1
  | .slice elems spare => uptoBulkAll elems + uptoBulkAll spare + 1
  | .agg parts => uptoBulkAll parts + 1
  | .iface _ d => uptoBulk d + 1
  | .map entries => uptoBulkEntries entries + 1
  | .held _ => 1
def uptoBulkAll {H : Type} : List (DataW H) → Nat
  | [] => 0
  | d :: r => uptoBulk d + uptoBulkAll r
def uptoBulkEntries {H : Type} : List (Lit × DataW H) → Nat
  | [] => 0
  | x :: r => uptoBulkEntry x + uptoBulkEntries r
def uptoBulkEntry {H : Type} : Lit × DataW H → Nat
  | (.string bytes, d) => bytes.length + uptoBulk d + 1
  | (_, d) => uptoBulk d + 1
 end
def uptoSmall : (H : Type) → List (DataW H) → Bool := fun _ ds => decide (uptoBulkAll ds ≤ 1048576)
def OpenSpec.upto (s : _root_.Go.ChangeSpec) : _root_.Go.OpenSpec := { _root_.Go.OpenSpec.ofChange s with cond := some uptoSmall }

/-- 'laws.FnExactUnifyTerms', WHERE WHAT IT READS IS OF BULK AT MOST 1048576: true; the input reads as it did. -/
def fnExactUnifyTermsUptoRow : OpenClaim := { program := "ytnkaafimnkigpaadoor", sum := "68576c7438c5ba784d58172fc547f7e41d1b67ee06ef1b4bd49ea28524a78bfa", func := "loop.example/prologserver/laws.FnExactUnifyTerms", spec := "fnExactUnifyTerms", unfollowed := true, recurses := true, named := ["loop.example/prologserver/impl.signNames"], loops := true, plainKeys := false, apart := false, laid := [("loop.example/prologserver/impl.signNames", laid_loop_example_prologserver_impl_signNames)], narrowed := true }
def FnExactUnifyTermsUptoSaid : Prop := fnExactUnifyTermsUptoRow.holds Tryd.pinned (OpenSpec.upto fnExactUnifyTermsSpec)

/-- 'laws.FnExactGeneralize', WHERE WHAT IT READS IS OF BULK AT MOST 1048576: true; the input reads as it did. -/
def fnExactGeneralizeUptoRow : OpenClaim := { program := "ytnkaafimnkigpaadoor", sum := "68576c7438c5ba784d58172fc547f7e41d1b67ee06ef1b4bd49ea28524a78bfa", func := "loop.example/prologserver/laws.FnExactGeneralize", spec := "fnExactGeneralize", unfollowed := true, recurses := true, named := ["loop.example/prologserver/impl.signNames"], loops := true, plainKeys := false, apart := false, laid := [("loop.example/prologserver/impl.signNames", laid_loop_example_prologserver_impl_signNames)], narrowed := true }
def FnExactGeneralizeUptoSaid : Prop := fnExactGeneralizeUptoRow.holds Tryd.pinned (OpenSpec.upto fnExactGeneralizeSpec)

/-- 'laws.FnExactAnswerGoals', WHERE WHAT IT READS IS OF BULK AT MOST 1048576: true; the input reads as it did. -/
def fnExactAnswerGoalsUptoRow : OpenClaim := { program := "ytnkaafimnkigpaadoor", sum := "68576c7438c5ba784d58172fc547f7e41d1b67ee06ef1b4bd49ea28524a78bfa", func := "loop.example/prologserver/laws.FnExactAnswerGoals", spec := "fnExactAnswerGoals", unfollowed := true, recurses := true, named := ["loop.example/prologserver/impl.signNames", "loop.example/prologserver/impl.operatorRows"], loops := true, plainKeys := false, apart := false, laid := [("loop.example/prologserver/impl.signNames", laid_loop_example_prologserver_impl_signNames), ("loop.example/prologserver/impl.operatorRows", laid_loop_example_prologserver_impl_operatorRows)], narrowed := true }
def FnExactAnswerGoalsUptoSaid : Prop := fnExactAnswerGoalsUptoRow.holds Tryd.pinned (OpenSpec.upto fnExactAnswerGoalsSpec)

end Rows
end Go.Proofs.YtnkaafimnkigpaaDoor

/-
  NARROWER THAN 'FOR EVERY INPUT', by the rows' own cells (each row's printed sentence says how): FnExactCountNodes: loops, laid · FnExactApplyBinds: loops, laid · FnExactVariantTerms: loops, laid · FnExactInstanceOf: loops, laid · FnExactShiftTerm: loops, laid.
  DERIVED. THE GIVEN ROWS OF THIS SEAT. 5 by the template 'for every input the law returns true; each argument reads behind the call as it read before'; 0 by the template 'total and deterministic' (their statements: YtplledmhbbmgiaaDoorTotals.lean).
  GIVEN WITH THE SEED: the statements are not yours to turn. If you find one false, say at which input.
  Laid BY PROGRAM, IN A SANDBOX (cutbox-rows.mjs): the forced cells as the released guide's own fill.sh prints them over the translation 4524e0f98a60d3a9… (all of the seat's roots in one cut). By AI agents, Wed Nov 11 2026. No macro, syntax, notation, axiom, sorry.
-/
import Derived.Test.YtplledmhbbmgiaaDoorChecked
import GoSem.Claim
import GoSem.ClaimJoined
import GoSem.ClaimMapViews
import Derived.JoinedTies
import Derived.KernelRfl
namespace Go.Proofs.YtplledmhbbmgiaaDoor
/- THE CELL 'sum', in the pinned program and in every row, IS THE sha256 OF THE DUMP (.gsa) THAT YtplledmhbbmgiaaDoorProg.lean LOADS. Nothing in Lean hashes anything: it is a label: what it is worth is what the hold of that sum in a sandbox is worth. -/
noncomputable def Tryd.pinned : Pinned := { name := "ytplledmhbbmgiaadoor", sum := "4524e0f98a60d3a92acae4eb0de110b42ccfb7cd90c90b69a47b0f05b60ee065", checked := Tryd.checked }
namespace Rows
def none {H : Type} : Left H := { results := [], args := [] }

/- WHAT THE LISTED PACKAGE-LEVEL VARIABLES READ AS WHEN THE CALL BEGINS. Each datum BY PROGRAM (the guide's laid-datum.mjs) off the statement by which the dump's own 'gosem.cut.vars' lays the variable. In a bare row this is a premise. The card (YtplledmhbbmgiaaDoorCards.lean) ties it to the program's text. -/
def laid_loop_example_prologserver_impl_signNames {H : Type} : DataW H := .agg [.lit (.string [43]), .lit (.string [45]), .lit (.string [42]), .lit (.string [47, 47]), .lit (.string [61]), .lit (.string [92, 61]), .lit (.string [61, 61]), .lit (.string [60]), .lit (.string [62]), .lit (.string [61, 60]), .lit (.string [62, 61]), .lit (.string [61, 58, 61]), .lit (.string [46]), .lit (.string [91, 93]), .lit (.string [33])]

/-- 'laws.FnExactCountNodes': WHATEVER THE INPUT: true; the input reads as it did. -/
def fnExactCountNodesSpec : ChangeSpec := { name := "fnExactCountNodes", vars := ["loop.example/prologserver/impl.signNames"], fn := fun _ => fun
  | [d, g1] => { results := [.lit (.bool true)], args := [d], vars := [g1] }
  | _ => none }
def fnExactCountNodesRow : OpenClaim := { program := "ytplledmhbbmgiaadoor", sum := "4524e0f98a60d3a92acae4eb0de110b42ccfb7cd90c90b69a47b0f05b60ee065", func := "loop.example/prologserver/laws.FnExactCountNodes", spec := "fnExactCountNodes", recurses := true, named := ["loop.example/prologserver/impl.signNames"], loops := true, apart := false, laid := [("loop.example/prologserver/impl.signNames", laid_loop_example_prologserver_impl_signNames)] }
def FnExactCountNodesSaid : Prop := fnExactCountNodesRow.holds Tryd.pinned (OpenSpec.ofChange fnExactCountNodesSpec)

/-- ITS FALSE NEIGHBOUR: 'it returns false'. Refute it at one input. -/
def fnExactCountNodesWrong : ChangeSpec := { name := "fnExactCountNodes", vars := ["loop.example/prologserver/impl.signNames"], fn := fun _ => fun
  | [d, g1] => { results := [.lit (.bool false)], args := [d], vars := [g1] }
  | _ => none }
def FnExactCountNodesWrongFalsely : Prop := fnExactCountNodesRow.holds Tryd.pinned (OpenSpec.ofChange fnExactCountNodesWrong)

/-- 'laws.FnExactApplyBinds': WHATEVER THE INPUT: true; the input reads as it did. -/
def fnExactApplyBindsSpec : ChangeSpec := { name := "fnExactApplyBinds", vars := ["loop.example/prologserver/impl.signNames"], fn := fun _ => fun
  | [d1, d2, g1] => { results := [.lit (.bool true)], args := [d1, d2], vars := [g1] }
  | _ => none }
def fnExactApplyBindsRow : OpenClaim := { program := "ytplledmhbbmgiaadoor", sum := "4524e0f98a60d3a92acae4eb0de110b42ccfb7cd90c90b69a47b0f05b60ee065", func := "loop.example/prologserver/laws.FnExactApplyBinds", spec := "fnExactApplyBinds", unfollowed := true, recurses := true, named := ["loop.example/prologserver/impl.signNames"], loops := true, apart := false, laid := [("loop.example/prologserver/impl.signNames", laid_loop_example_prologserver_impl_signNames)] }
def FnExactApplyBindsSaid : Prop := fnExactApplyBindsRow.holds Tryd.pinned (OpenSpec.ofChange fnExactApplyBindsSpec)

/-- ITS FALSE NEIGHBOUR: 'it returns false'. Refute it at one input. -/
def fnExactApplyBindsWrong : ChangeSpec := { name := "fnExactApplyBinds", vars := ["loop.example/prologserver/impl.signNames"], fn := fun _ => fun
  | [d1, d2, g1] => { results := [.lit (.bool false)], args := [d1, d2], vars := [g1] }
  | _ => none }
def FnExactApplyBindsWrongFalsely : Prop := fnExactApplyBindsRow.holds Tryd.pinned (OpenSpec.ofChange fnExactApplyBindsWrong)

/-- 'laws.FnExactVariantTerms': WHATEVER THE INPUT: true; the input reads as it did. -/
def fnExactVariantTermsSpec : ChangeSpec := { name := "fnExactVariantTerms", vars := ["loop.example/prologserver/impl.signNames"], fn := fun _ => fun
  | [d1, d2, g1] => { results := [.lit (.bool true)], args := [d1, d2], vars := [g1] }
  | _ => none }
def fnExactVariantTermsRow : OpenClaim := { program := "ytplledmhbbmgiaadoor", sum := "4524e0f98a60d3a92acae4eb0de110b42ccfb7cd90c90b69a47b0f05b60ee065", func := "loop.example/prologserver/laws.FnExactVariantTerms", spec := "fnExactVariantTerms", unfollowed := true, recurses := true, named := ["loop.example/prologserver/impl.signNames"], loops := true, apart := false, laid := [("loop.example/prologserver/impl.signNames", laid_loop_example_prologserver_impl_signNames)] }
def FnExactVariantTermsSaid : Prop := fnExactVariantTermsRow.holds Tryd.pinned (OpenSpec.ofChange fnExactVariantTermsSpec)

/-- ITS FALSE NEIGHBOUR: 'it returns false'. Refute it at one input. -/
def fnExactVariantTermsWrong : ChangeSpec := { name := "fnExactVariantTerms", vars := ["loop.example/prologserver/impl.signNames"], fn := fun _ => fun
  | [d1, d2, g1] => { results := [.lit (.bool false)], args := [d1, d2], vars := [g1] }
  | _ => none }
def FnExactVariantTermsWrongFalsely : Prop := fnExactVariantTermsRow.holds Tryd.pinned (OpenSpec.ofChange fnExactVariantTermsWrong)

/-- 'laws.FnExactInstanceOf': WHATEVER THE INPUT: true; the input reads as it did. -/
def fnExactInstanceOfSpec : ChangeSpec := { name := "fnExactInstanceOf", vars := ["loop.example/prologserver/impl.signNames"], fn := fun _ => fun
  | [d1, d2, g1] => { results := [.lit (.bool true)], args := [d1, d2], vars := [g1] }
  | _ => none }
def fnExactInstanceOfRow : OpenClaim := { program := "ytplledmhbbmgiaadoor", sum := "4524e0f98a60d3a92acae4eb0de110b42ccfb7cd90c90b69a47b0f05b60ee065", func := "loop.example/prologserver/laws.FnExactInstanceOf", spec := "fnExactInstanceOf", unfollowed := true, recurses := true, named := ["loop.example/prologserver/impl.signNames"], loops := true, apart := false, laid := [("loop.example/prologserver/impl.signNames", laid_loop_example_prologserver_impl_signNames)] }
def FnExactInstanceOfSaid : Prop := fnExactInstanceOfRow.holds Tryd.pinned (OpenSpec.ofChange fnExactInstanceOfSpec)

/-- ITS FALSE NEIGHBOUR: 'it returns false'. Refute it at one input. -/
def fnExactInstanceOfWrong : ChangeSpec := { name := "fnExactInstanceOf", vars := ["loop.example/prologserver/impl.signNames"], fn := fun _ => fun
  | [d1, d2, g1] => { results := [.lit (.bool false)], args := [d1, d2], vars := [g1] }
  | _ => none }
def FnExactInstanceOfWrongFalsely : Prop := fnExactInstanceOfRow.holds Tryd.pinned (OpenSpec.ofChange fnExactInstanceOfWrong)

/-- 'laws.FnExactShiftTerm': WHATEVER THE INPUT: true; the input reads as it did. -/
def fnExactShiftTermSpec : ChangeSpec := { name := "fnExactShiftTerm", vars := ["loop.example/prologserver/impl.signNames"], fn := fun _ => fun
  | [d1, d2, g1] => { results := [.lit (.bool true)], args := [d1, d2], vars := [g1] }
  | _ => none }
def fnExactShiftTermRow : OpenClaim := { program := "ytplledmhbbmgiaadoor", sum := "4524e0f98a60d3a92acae4eb0de110b42ccfb7cd90c90b69a47b0f05b60ee065", func := "loop.example/prologserver/laws.FnExactShiftTerm", spec := "fnExactShiftTerm", unfollowed := true, recurses := true, named := ["loop.example/prologserver/impl.signNames"], loops := true, apart := false, laid := [("loop.example/prologserver/impl.signNames", laid_loop_example_prologserver_impl_signNames)] }
def FnExactShiftTermSaid : Prop := fnExactShiftTermRow.holds Tryd.pinned (OpenSpec.ofChange fnExactShiftTermSpec)

/-- ITS FALSE NEIGHBOUR: 'it returns false'. Refute it at one input. -/
def fnExactShiftTermWrong : ChangeSpec := { name := "fnExactShiftTerm", vars := ["loop.example/prologserver/impl.signNames"], fn := fun _ => fun
  | [d1, d2, g1] => { results := [.lit (.bool false)], args := [d1, d2], vars := [g1] }
  | _ => none }
def FnExactShiftTermWrongFalsely : Prop := fnExactShiftTermRow.holds Tryd.pinned (OpenSpec.ofChange fnExactShiftTermWrong)

/- THE SECOND FORM. 'bulk': how many values and letters a reading holds, each counted each time it is reached (what is shared counts as often as it is met; a slice's spare places count too). A statement '..UptoSaid' is the law's where the arguments, and the package variables that the reading takes, are together of bulk at most 1048576: NARROWER than '..Said'. Prove '..Said' where nothing that the law and all that it calls make is longer than what came in: it says more and counts as full. Else prove '..UptoSaid'. A law counts once. -/
mutual
def uptoBulk {H : Type} : DataW H → Nat
  | .lit (.string bytes) => bytes.length + 1
  | .lit _ => 1
  | .nil => 1
  | .ptr d => uptoBulk d + 1
  | .slice elems spare => uptoBulkAll elems + uptoBulkAll spare + 1
  | .agg parts => uptoBulkAll parts + 1
  | .iface _ d => uptoBulk d + 1
  | .map entries => uptoBulkEntries entries + 1
  | .held _ => 1
def uptoBulkAll {H : Type} : List (DataW H) → Nat
  | [] => 0
  | d :: r => uptoBulk d + uptoBulkAll r
def uptoBulkEntries {H : Type} : List (Lit × DataW H) → Nat
  | [] => 0
  | x :: r => uptoBulkEntry x + uptoBulkEntries r
def uptoBulkEntry {H : Type} : Lit × DataW H → Nat
  | (.string bytes, d) => bytes.length + uptoBulk d + 1
  | (_, d) => uptoBulk d + 1
 end
def uptoSmall : (H : Type) → List (DataW H) → Bool := fun _ ds => decide (uptoBulkAll ds ≤ 1048576)
def OpenSpec.upto (s : _root_.Go.ChangeSpec) : _root_.Go.OpenSpec := { _root_.Go.OpenSpec.ofChange s with cond := some uptoSmall }

/-- 'laws.FnExactCountNodes', WHERE WHAT IT READS IS OF BULK AT MOST 1048576: true; the input reads as it did. -/
def fnExactCountNodesUptoRow : OpenClaim := { program := "ytplledmhbbmgiaadoor", sum := "4524e0f98a60d3a92acae4eb0de110b42ccfb7cd90c90b69a47b0f05b60ee065", func := "loop.example/prologserver/laws.FnExactCountNodes", spec := "fnExactCountNodes", recurses := true, named := ["loop.example/prologserver/impl.signNames"], loops := true, apart := false, laid := [("loop.example/prologserver/impl.signNames", laid_loop_example_prologserver_impl_signNames)], narrowed := true }
def FnExactCountNodesUptoSaid : Prop := fnExactCountNodesUptoRow.holds Tryd.pinned (OpenSpec.upto fnExactCountNodesSpec)

/-- 'laws.FnExactApplyBinds', WHERE WHAT IT READS IS OF BULK AT MOST 1048576: true; the input reads as it did. -/
def fnExactApplyBindsUptoRow : OpenClaim := { program := "ytplledmhbbmgiaadoor", sum := "4524e0f98a60d3a92acae4eb0de110b42ccfb7cd90c90b69a47b0f05b60ee065", func := "loop.example/prologserver/laws.FnExactApplyBinds", spec := "fnExactApplyBinds", unfollowed := true, recurses := true, named := ["loop.example/prologserver/impl.signNames"], loops := true, apart := false, laid := [("loop.example/prologserver/impl.signNames", laid_loop_example_prologserver_impl_signNames)], narrowed := true }
def FnExactApplyBindsUptoSaid : Prop := fnExactApplyBindsUptoRow.holds Tryd.pinned (OpenSpec.upto fnExactApplyBindsSpec)

/-- 'laws.FnExactVariantTerms', WHERE WHAT IT READS IS OF BULK AT MOST 1048576: true; the input reads as it did. -/
def fnExactVariantTermsUptoRow : OpenClaim := { program := "ytplledmhbbmgiaadoor", sum := "4524e0f98a60d3a92acae4eb0de110b42ccfb7cd90c90b69a47b0f05b60ee065", func := "loop.example/prologserver/laws.FnExactVariantTerms", spec := "fnExactVariantTerms", unfollowed := true, recurses := true, named := ["loop.example/prologserver/impl.signNames"], loops := true, apart := false, laid := [("loop.example/prologserver/impl.signNames", laid_loop_example_prologserver_impl_signNames)], narrowed := true }
def FnExactVariantTermsUptoSaid : Prop := fnExactVariantTermsUptoRow.holds Tryd.pinned (OpenSpec.upto fnExactVariantTermsSpec)

/-- 'laws.FnExactInstanceOf', WHERE WHAT IT READS IS OF BULK AT MOST 1048576: true; the input reads as it did. -/
def fnExactInstanceOfUptoRow : OpenClaim := { program := "ytplledmhbbmgiaadoor", sum := "4524e0f98a60d3a92acae4eb0de110b42ccfb7cd90c90b69a47b0f05b60ee065", func := "loop.example/prologserver/laws.FnExactInstanceOf", spec := "fnExactInstanceOf", unfollowed := true, recurses := true, named := ["loop.example/prologserver/impl.signNames"], loops := true, apart := false, laid := [("loop.example/prologserver/impl.signNames", laid_loop_example_prologserver_impl_signNames)], narrowed := true }
def FnExactInstanceOfUptoSaid : Prop := fnExactInstanceOfUptoRow.holds Tryd.pinned (OpenSpec.upto fnExactInstanceOfSpec)

/-- 'laws.FnExactShiftTerm', WHERE WHAT IT READS IS OF BULK AT MOST 1048576: true; the input reads as it did. -/
def fnExactShiftTermUptoRow : OpenClaim := { program := "ytplledmhbbmgiaadoor", sum := "4524e0f98a60d3a92acae4eb0de110b42ccfb7cd90c90b69a47b0f05b60ee065", func := "loop.example/prologserver/laws.FnExactShiftTerm", spec := "fnExactShiftTerm", unfollowed := true, recurses := true, named := ["loop.example/prologserver/impl.signNames"], loops := true, apart := false, laid := [("loop.example/prologserver/impl.signNames", laid_loop_example_prologserver_impl_signNames)], narrowed := true }
def FnExactShiftTermUptoSaid : Prop := fnExactShiftTermUptoRow.holds Tryd.pinned (OpenSpec.upto fnExactShiftTermSpec)

end Rows
end Go.Proofs.YtplledmhbbmgiaaDoor

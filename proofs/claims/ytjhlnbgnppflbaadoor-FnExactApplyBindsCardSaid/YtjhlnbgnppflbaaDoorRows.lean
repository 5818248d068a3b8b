/-
  NARROWER THAN 'FOR EVERY INPUT', by the rows' own cells (each row's printed sentence says how): FnExactShiftTerm: loops, laid · FnExactApplyBinds: loops, laid · FnExactVariantTerms: loops, laid · FnExactInstanceOf: loops, laid · FnExactGeneralize: loops, laid · FnExactTermValid: loops, laid · FnExactCountNodes: loops, laid · FnExactCompareTerms: loops, laid · FnExactListOf: loops, laid · FnExactMakeList: loops, laid · FnExactTermVars: loops, laid · FnExactRenumberTerms: loops, laid.
  DERIVED. THE GIVEN ROWS OF THIS SEAT. 12 by the template 'for every input the law returns true; each argument reads behind the call as it read before'; 0 by the template 'total and deterministic' (their statements: YtjhlnbgnppflbaaDoorTotals.lean).
  GIVEN WITH THE SEED: the statements are not yours to turn. If you find one false, say at which input.
  Laid BY PROGRAM, IN A SANDBOX (cutbox-rows.mjs): the forced cells as the released guide's own fill.sh prints them over the translation f23077bb37870cb4… (all of the seat's roots in one cut). By AI agents, Wed Nov 11 2026. No macro, syntax, notation, axiom, sorry.
-/
import Derived.Test.YtjhlnbgnppflbaaDoorChecked
import GoSem.Claim
import GoSem.ClaimJoined
import GoSem.ClaimMapViews
import Derived.JoinedTies
import Derived.KernelRfl
namespace Go.Proofs.YtjhlnbgnppflbaaDoor
/- THE CELL 'sum', in the pinned program and in every row, IS THE sha256 OF THE DUMP (.gsa) THAT YtjhlnbgnppflbaaDoorProg.lean LOADS. Nothing in Lean hashes anything: it is a label: what it is worth is what the hold of that sum in a sandbox is worth. -/
noncomputable def Tryd.pinned : Pinned := { name := "ytjhlnbgnppflbaadoor", sum := "f23077bb37870cb4a38ca215ca29ee8656a95a69926fcea1d886268f2f12a485", checked := Tryd.checked }
namespace Rows
def none {H : Type} : Left H := { results := [], args := [] }

/- WHAT THE LISTED PACKAGE-LEVEL VARIABLES READ AS WHEN THE CALL BEGINS. Each datum BY PROGRAM (the guide's laid-datum.mjs) off the statement by which the dump's own 'gosem.cut.vars' lays the variable. In a bare row this is a premise. The card (YtjhlnbgnppflbaaDoorCards.lean) ties it to the program's text. -/
def laid_loop_example_prologserver_impl_signNames {H : Type} : DataW H := .agg [.lit (.string [43]), .lit (.string [45]), .lit (.string [42]), .lit (.string [47, 47]), .lit (.string [61]), .lit (.string [92, 61]), .lit (.string [61, 61]), .lit (.string [60]), .lit (.string [62]), .lit (.string [61, 60]), .lit (.string [62, 61]), .lit (.string [61, 58, 61]), .lit (.string [46]), .lit (.string [91, 93]), .lit (.string [33])]

/-- 'laws.FnExactShiftTerm': WHATEVER THE INPUT: true; the input reads as it did. -/
def fnExactShiftTermSpec : ChangeSpec := { name := "fnExactShiftTerm", vars := ["loop.example/prologserver/impl.signNames"], fn := fun _ => fun
  | [d1, d2, g1] => { results := [.lit (.bool true)], args := [d1, d2], vars := [g1] }
  | _ => none }
def fnExactShiftTermRow : OpenClaim := { program := "ytjhlnbgnppflbaadoor", sum := "f23077bb37870cb4a38ca215ca29ee8656a95a69926fcea1d886268f2f12a485", func := "loop.example/prologserver/laws.FnExactShiftTerm", spec := "fnExactShiftTerm", unfollowed := true, recurses := true, named := ["loop.example/prologserver/impl.signNames"], loops := true, apart := false, laid := [("loop.example/prologserver/impl.signNames", laid_loop_example_prologserver_impl_signNames)] }
def FnExactShiftTermSaid : Prop := fnExactShiftTermRow.holds Tryd.pinned (OpenSpec.ofChange fnExactShiftTermSpec)

/-- ITS FALSE NEIGHBOUR: 'it returns false'. Refute it at one input. -/
def fnExactShiftTermWrong : ChangeSpec := { name := "fnExactShiftTerm", vars := ["loop.example/prologserver/impl.signNames"], fn := fun _ => fun
  | [d1, d2, g1] => { results := [.lit (.bool false)], args := [d1, d2], vars := [g1] }
  | _ => none }
def FnExactShiftTermWrongFalsely : Prop := fnExactShiftTermRow.holds Tryd.pinned (OpenSpec.ofChange fnExactShiftTermWrong)

/-- 'laws.FnExactApplyBinds': WHATEVER THE INPUT: true; the input reads as it did. -/
def fnExactApplyBindsSpec : ChangeSpec := { name := "fnExactApplyBinds", vars := ["loop.example/prologserver/impl.signNames"], fn := fun _ => fun
  | [d1, d2, g1] => { results := [.lit (.bool true)], args := [d1, d2], vars := [g1] }
  | _ => none }
def fnExactApplyBindsRow : OpenClaim := { program := "ytjhlnbgnppflbaadoor", sum := "f23077bb37870cb4a38ca215ca29ee8656a95a69926fcea1d886268f2f12a485", func := "loop.example/prologserver/laws.FnExactApplyBinds", spec := "fnExactApplyBinds", unfollowed := true, recurses := true, named := ["loop.example/prologserver/impl.signNames"], loops := true, apart := false, laid := [("loop.example/prologserver/impl.signNames", laid_loop_example_prologserver_impl_signNames)] }
def FnExactApplyBindsSaid : Prop := fnExactApplyBindsRow.holds Tryd.pinned (OpenSpec.ofChange fnExactApplyBindsSpec)

/-- ITS FALSE NEIGHBOUR: 'it returns false'. Refute it at one input. -/
def fnExactApplyBindsWrong : ChangeSpec := { name := "fnExactApplyBinds", vars := ["loop.example/prologserver/impl.signNames"], fn := fun _ => fun
  | [d1, d2, g1] => { results := [.lit (.bool false)], args := [d1, d2], vars := [g1] }
  | _ => none }
def FnExactApplyBindsWrongFalsely : Prop := fnExactApplyBindsRow.holds Tryd.pinned (OpenSpec.ofChange fnExactApplyBindsWrong)

/-- 'laws.FnExactVariantTerms': WHATEVER THE INPUT: true; the input reads as it did. -/
def fnExactVariantTermsSpec : ChangeSpec := { name := "fnExactVariantTerms", vars := ["loop.example/prologserver/impl.signNames"], fn := fun _ => fun
  | [d1, d2, g1] => { results := [.lit (.bool true)], args := [d1, d2], vars := [g1] }
  | _ => none }
def fnExactVariantTermsRow : OpenClaim := { program := "ytjhlnbgnppflbaadoor", sum := "f23077bb37870cb4a38ca215ca29ee8656a95a69926fcea1d886268f2f12a485", func := "loop.example/prologserver/laws.FnExactVariantTerms", spec := "fnExactVariantTerms", unfollowed := true, recurses := true, named := ["loop.example/prologserver/impl.signNames"], loops := true, apart := false, laid := [("loop.example/prologserver/impl.signNames", laid_loop_example_prologserver_impl_signNames)] }
def FnExactVariantTermsSaid : Prop := fnExactVariantTermsRow.holds Tryd.pinned (OpenSpec.ofChange fnExactVariantTermsSpec)

/-- ITS FALSE NEIGHBOUR: 'it returns false'. Refute it at one input. -/
def fnExactVariantTermsWrong : ChangeSpec := { name := "fnExactVariantTerms", vars := ["loop.example/prologserver/impl.signNames"], fn := fun _ => fun
  | [d1, d2, g1] => { results := [.lit (.bool false)], args := [d1, d2], vars := [g1] }
  | _ => none }
def FnExactVariantTermsWrongFalsely : Prop := fnExactVariantTermsRow.holds Tryd.pinned (OpenSpec.ofChange fnExactVariantTermsWrong)

/-- 'laws.FnExactInstanceOf': WHATEVER THE INPUT: true; the input reads as it did. -/
def fnExactInstanceOfSpec : ChangeSpec := { name := "fnExactInstanceOf", vars := ["loop.example/prologserver/impl.signNames"], fn := fun _ => fun
  | [d1, d2, g1] => { results := [.lit (.bool true)], args := [d1, d2], vars := [g1] }
  | _ => none }
def fnExactInstanceOfRow : OpenClaim := { program := "ytjhlnbgnppflbaadoor", sum := "f23077bb37870cb4a38ca215ca29ee8656a95a69926fcea1d886268f2f12a485", func := "loop.example/prologserver/laws.FnExactInstanceOf", spec := "fnExactInstanceOf", unfollowed := true, recurses := true, named := ["loop.example/prologserver/impl.signNames"], loops := true, apart := false, laid := [("loop.example/prologserver/impl.signNames", laid_loop_example_prologserver_impl_signNames)] }
def FnExactInstanceOfSaid : Prop := fnExactInstanceOfRow.holds Tryd.pinned (OpenSpec.ofChange fnExactInstanceOfSpec)

/-- ITS FALSE NEIGHBOUR: 'it returns false'. Refute it at one input. -/
def fnExactInstanceOfWrong : ChangeSpec := { name := "fnExactInstanceOf", vars := ["loop.example/prologserver/impl.signNames"], fn := fun _ => fun
  | [d1, d2, g1] => { results := [.lit (.bool false)], args := [d1, d2], vars := [g1] }
  | _ => none }
def FnExactInstanceOfWrongFalsely : Prop := fnExactInstanceOfRow.holds Tryd.pinned (OpenSpec.ofChange fnExactInstanceOfWrong)

/-- 'laws.FnExactGeneralize': WHATEVER THE INPUT: true; the input reads as it did. -/
def fnExactGeneralizeSpec : ChangeSpec := { name := "fnExactGeneralize", vars := ["loop.example/prologserver/impl.signNames"], fn := fun _ => fun
  | [d1, d2, g1] => { results := [.lit (.bool true)], args := [d1, d2], vars := [g1] }
  | _ => none }
def fnExactGeneralizeRow : OpenClaim := { program := "ytjhlnbgnppflbaadoor", sum := "f23077bb37870cb4a38ca215ca29ee8656a95a69926fcea1d886268f2f12a485", func := "loop.example/prologserver/laws.FnExactGeneralize", spec := "fnExactGeneralize", unfollowed := true, recurses := true, named := ["loop.example/prologserver/impl.signNames"], loops := true, apart := false, laid := [("loop.example/prologserver/impl.signNames", laid_loop_example_prologserver_impl_signNames)] }
def FnExactGeneralizeSaid : Prop := fnExactGeneralizeRow.holds Tryd.pinned (OpenSpec.ofChange fnExactGeneralizeSpec)

/-- ITS FALSE NEIGHBOUR: 'it returns false'. Refute it at one input. -/
def fnExactGeneralizeWrong : ChangeSpec := { name := "fnExactGeneralize", vars := ["loop.example/prologserver/impl.signNames"], fn := fun _ => fun
  | [d1, d2, g1] => { results := [.lit (.bool false)], args := [d1, d2], vars := [g1] }
  | _ => none }
def FnExactGeneralizeWrongFalsely : Prop := fnExactGeneralizeRow.holds Tryd.pinned (OpenSpec.ofChange fnExactGeneralizeWrong)

/-- 'laws.FnExactTermValid': WHATEVER THE INPUT: true; the input reads as it did. -/
def fnExactTermValidSpec : ChangeSpec := { name := "fnExactTermValid", vars := ["loop.example/prologserver/impl.signNames"], fn := fun _ => fun
  | [d, g1] => { results := [.lit (.bool true)], args := [d], vars := [g1] }
  | _ => none }
def fnExactTermValidRow : OpenClaim := { program := "ytjhlnbgnppflbaadoor", sum := "f23077bb37870cb4a38ca215ca29ee8656a95a69926fcea1d886268f2f12a485", func := "loop.example/prologserver/laws.FnExactTermValid", spec := "fnExactTermValid", recurses := true, named := ["loop.example/prologserver/impl.signNames"], loops := true, apart := false, laid := [("loop.example/prologserver/impl.signNames", laid_loop_example_prologserver_impl_signNames)] }
def FnExactTermValidSaid : Prop := fnExactTermValidRow.holds Tryd.pinned (OpenSpec.ofChange fnExactTermValidSpec)

/-- ITS FALSE NEIGHBOUR: 'it returns false'. Refute it at one input. -/
def fnExactTermValidWrong : ChangeSpec := { name := "fnExactTermValid", vars := ["loop.example/prologserver/impl.signNames"], fn := fun _ => fun
  | [d, g1] => { results := [.lit (.bool false)], args := [d], vars := [g1] }
  | _ => none }
def FnExactTermValidWrongFalsely : Prop := fnExactTermValidRow.holds Tryd.pinned (OpenSpec.ofChange fnExactTermValidWrong)

/-- 'laws.FnExactCountNodes': WHATEVER THE INPUT: true; the input reads as it did. -/
def fnExactCountNodesSpec : ChangeSpec := { name := "fnExactCountNodes", vars := ["loop.example/prologserver/impl.signNames"], fn := fun _ => fun
  | [d, g1] => { results := [.lit (.bool true)], args := [d], vars := [g1] }
  | _ => none }
def fnExactCountNodesRow : OpenClaim := { program := "ytjhlnbgnppflbaadoor", sum := "f23077bb37870cb4a38ca215ca29ee8656a95a69926fcea1d886268f2f12a485", func := "loop.example/prologserver/laws.FnExactCountNodes", spec := "fnExactCountNodes", recurses := true, named := ["loop.example/prologserver/impl.signNames"], loops := true, apart := false, laid := [("loop.example/prologserver/impl.signNames", laid_loop_example_prologserver_impl_signNames)] }
def FnExactCountNodesSaid : Prop := fnExactCountNodesRow.holds Tryd.pinned (OpenSpec.ofChange fnExactCountNodesSpec)

/-- ITS FALSE NEIGHBOUR: 'it returns false'. Refute it at one input. -/
def fnExactCountNodesWrong : ChangeSpec := { name := "fnExactCountNodes", vars := ["loop.example/prologserver/impl.signNames"], fn := fun _ => fun
  | [d, g1] => { results := [.lit (.bool false)], args := [d], vars := [g1] }
  | _ => none }
def FnExactCountNodesWrongFalsely : Prop := fnExactCountNodesRow.holds Tryd.pinned (OpenSpec.ofChange fnExactCountNodesWrong)

/-- 'laws.FnExactCompareTerms': WHATEVER THE INPUT: true; the input reads as it did. -/
def fnExactCompareTermsSpec : ChangeSpec := { name := "fnExactCompareTerms", vars := ["loop.example/prologserver/impl.signNames"], fn := fun _ => fun
  | [d1, d2, g1] => { results := [.lit (.bool true)], args := [d1, d2], vars := [g1] }
  | _ => none }
def fnExactCompareTermsRow : OpenClaim := { program := "ytjhlnbgnppflbaadoor", sum := "f23077bb37870cb4a38ca215ca29ee8656a95a69926fcea1d886268f2f12a485", func := "loop.example/prologserver/laws.FnExactCompareTerms", spec := "fnExactCompareTerms", unfollowed := true, recurses := true, named := ["loop.example/prologserver/impl.signNames"], loops := true, apart := false, laid := [("loop.example/prologserver/impl.signNames", laid_loop_example_prologserver_impl_signNames)] }
def FnExactCompareTermsSaid : Prop := fnExactCompareTermsRow.holds Tryd.pinned (OpenSpec.ofChange fnExactCompareTermsSpec)

/-- ITS FALSE NEIGHBOUR: 'it returns false'. Refute it at one input. -/
def fnExactCompareTermsWrong : ChangeSpec := { name := "fnExactCompareTerms", vars := ["loop.example/prologserver/impl.signNames"], fn := fun _ => fun
  | [d1, d2, g1] => { results := [.lit (.bool false)], args := [d1, d2], vars := [g1] }
  | _ => none }
def FnExactCompareTermsWrongFalsely : Prop := fnExactCompareTermsRow.holds Tryd.pinned (OpenSpec.ofChange fnExactCompareTermsWrong)

/-- 'laws.FnExactListOf': WHATEVER THE INPUT: true; the input reads as it did. -/
def fnExactListOfSpec : ChangeSpec := { name := "fnExactListOf", vars := ["loop.example/prologserver/impl.signNames"], fn := fun _ => fun
  | [d, g1] => { results := [.lit (.bool true)], args := [d], vars := [g1] }
  | _ => none }
def fnExactListOfRow : OpenClaim := { program := "ytjhlnbgnppflbaadoor", sum := "f23077bb37870cb4a38ca215ca29ee8656a95a69926fcea1d886268f2f12a485", func := "loop.example/prologserver/laws.FnExactListOf", spec := "fnExactListOf", recurses := true, named := ["loop.example/prologserver/impl.signNames"], loops := true, apart := false, laid := [("loop.example/prologserver/impl.signNames", laid_loop_example_prologserver_impl_signNames)] }
def FnExactListOfSaid : Prop := fnExactListOfRow.holds Tryd.pinned (OpenSpec.ofChange fnExactListOfSpec)

/-- ITS FALSE NEIGHBOUR: 'it returns false'. Refute it at one input. -/
def fnExactListOfWrong : ChangeSpec := { name := "fnExactListOf", vars := ["loop.example/prologserver/impl.signNames"], fn := fun _ => fun
  | [d, g1] => { results := [.lit (.bool false)], args := [d], vars := [g1] }
  | _ => none }
def FnExactListOfWrongFalsely : Prop := fnExactListOfRow.holds Tryd.pinned (OpenSpec.ofChange fnExactListOfWrong)

/-- 'laws.FnExactMakeList': WHATEVER THE INPUT: true; the input reads as it did. -/
def fnExactMakeListSpec : ChangeSpec := { name := "fnExactMakeList", vars := ["loop.example/prologserver/impl.signNames"], fn := fun _ => fun
  | [d1, d2, g1] => { results := [.lit (.bool true)], args := [d1, d2], vars := [g1] }
  | _ => none }
def fnExactMakeListRow : OpenClaim := { program := "ytjhlnbgnppflbaadoor", sum := "f23077bb37870cb4a38ca215ca29ee8656a95a69926fcea1d886268f2f12a485", func := "loop.example/prologserver/laws.FnExactMakeList", spec := "fnExactMakeList", recurses := true, named := ["loop.example/prologserver/impl.signNames"], loops := true, apart := false, laid := [("loop.example/prologserver/impl.signNames", laid_loop_example_prologserver_impl_signNames)] }
def FnExactMakeListSaid : Prop := fnExactMakeListRow.holds Tryd.pinned (OpenSpec.ofChange fnExactMakeListSpec)

/-- ITS FALSE NEIGHBOUR: 'it returns false'. Refute it at one input. -/
def fnExactMakeListWrong : ChangeSpec := { name := "fnExactMakeList", vars := ["loop.example/prologserver/impl.signNames"], fn := fun _ => fun
  | [d1, d2, g1] => { results := [.lit (.bool false)], args := [d1, d2], vars := [g1] }
  | _ => none }
def FnExactMakeListWrongFalsely : Prop := fnExactMakeListRow.holds Tryd.pinned (OpenSpec.ofChange fnExactMakeListWrong)

/-- 'laws.FnExactTermVars': WHATEVER THE INPUT: true; the input reads as it did. -/
def fnExactTermVarsSpec : ChangeSpec := { name := "fnExactTermVars", vars := ["loop.example/prologserver/impl.signNames"], fn := fun _ => fun
  | [d, g1] => { results := [.lit (.bool true)], args := [d], vars := [g1] }
  | _ => none }
def fnExactTermVarsRow : OpenClaim := { program := "ytjhlnbgnppflbaadoor", sum := "f23077bb37870cb4a38ca215ca29ee8656a95a69926fcea1d886268f2f12a485", func := "loop.example/prologserver/laws.FnExactTermVars", spec := "fnExactTermVars", unfollowed := true, recurses := true, named := ["loop.example/prologserver/impl.signNames"], loops := true, apart := false, laid := [("loop.example/prologserver/impl.signNames", laid_loop_example_prologserver_impl_signNames)] }
def FnExactTermVarsSaid : Prop := fnExactTermVarsRow.holds Tryd.pinned (OpenSpec.ofChange fnExactTermVarsSpec)

/-- ITS FALSE NEIGHBOUR: 'it returns false'. Refute it at one input. -/
def fnExactTermVarsWrong : ChangeSpec := { name := "fnExactTermVars", vars := ["loop.example/prologserver/impl.signNames"], fn := fun _ => fun
  | [d, g1] => { results := [.lit (.bool false)], args := [d], vars := [g1] }
  | _ => none }
def FnExactTermVarsWrongFalsely : Prop := fnExactTermVarsRow.holds Tryd.pinned (OpenSpec.ofChange fnExactTermVarsWrong)

/-- 'laws.FnExactRenumberTerms': WHATEVER THE INPUT: true; the input reads as it did. -/
def fnExactRenumberTermsSpec : ChangeSpec := { name := "fnExactRenumberTerms", vars := ["loop.example/prologserver/impl.signNames"], fn := fun _ => fun
  | [d, g1] => { results := [.lit (.bool true)], args := [d], vars := [g1] }
  | _ => none }
def fnExactRenumberTermsRow : OpenClaim := { program := "ytjhlnbgnppflbaadoor", sum := "f23077bb37870cb4a38ca215ca29ee8656a95a69926fcea1d886268f2f12a485", func := "loop.example/prologserver/laws.FnExactRenumberTerms", spec := "fnExactRenumberTerms", unfollowed := true, recurses := true, named := ["loop.example/prologserver/impl.signNames"], loops := true, apart := false, laid := [("loop.example/prologserver/impl.signNames", laid_loop_example_prologserver_impl_signNames)] }
def FnExactRenumberTermsSaid : Prop := fnExactRenumberTermsRow.holds Tryd.pinned (OpenSpec.ofChange fnExactRenumberTermsSpec)

/-- ITS FALSE NEIGHBOUR: 'it returns false'. Refute it at one input. -/
def fnExactRenumberTermsWrong : ChangeSpec := { name := "fnExactRenumberTerms", vars := ["loop.example/prologserver/impl.signNames"], fn := fun _ => fun
  | [d, g1] => { results := [.lit (.bool false)], args := [d], vars := [g1] }
  | _ => none }
def FnExactRenumberTermsWrongFalsely : Prop := fnExactRenumberTermsRow.holds Tryd.pinned (OpenSpec.ofChange fnExactRenumberTermsWrong)

/- THE SECOND FORM. 'bulk': how many values and letters a reading holds, each counted each time it is reached (what is shared counts as often as it is met; a slice's spare places count too). A statement '..UptoSaid' is the law's where the arguments, and the package variables that the reading takes, are together of bulk at most 1048576: NARROWER than '..Said'. Prove '..Said' where nothing that the law and all that it calls make is longer than what came in: it says more and counts as full. Else prove '..UptoSaid'. A law counts once. -/
mutual
def uptoBulk {H : Type} : DataW H → Nat
  | .lit (.string bytes) => bytes.length + 1
  | .lit _ => 1
  | .nil => 1
  | .ptr d => uptoBulk d + 1
  | .slice elems spare => uptoBulkAll elems + uptoBulkAll spare + 1
  | .agg parts => uptoBulkAll parts + 1
  | .iface _ d => uptoBulk d + 1
  | .map entries => uptoBulkEntries entries + 1
  | .held _ => 1
def uptoBulkAll {H : Type} : List (DataW H) → Nat
  | [] => 0
  | d :: r => uptoBulk d + uptoBulkAll r
def uptoBulkEntries {H : Type} : List (Lit × DataW H) → Nat
  | [] => 0
  | x :: r => uptoBulkEntry x + uptoBulkEntries r
def uptoBulkEntry {H : Type} : Lit × DataW H → Nat
  | (.string bytes, d) => bytes.length + uptoBulk d + 1
  | (_, d) => uptoBulk d + 1
 end
def uptoSmall : (H : Type) → List (DataW H) → Bool := fun _ ds => decide (uptoBulkAll ds ≤ 1048576)
def OpenSpec.upto (s : _root_.Go.ChangeSpec) : _root_.Go.OpenSpec := { _root_.Go.OpenSpec.ofChange s with cond := some uptoSmall }

/-- 'laws.FnExactShiftTerm', WHERE WHAT IT READS IS OF BULK AT MOST 1048576: true; the input reads as it did. -/
def fnExactShiftTermUptoRow : OpenClaim := { program := "ytjhlnbgnppflbaadoor", sum := "f23077bb37870cb4a38ca215ca29ee8656a95a69926fcea1d886268f2f12a485", func := "loop.example/prologserver/laws.FnExactShiftTerm", spec := "fnExactShiftTerm", unfollowed := true, recurses := true, named := ["loop.example/prologserver/impl.signNames"], loops := true, apart := false, laid := [("loop.example/prologserver/impl.signNames", laid_loop_example_prologserver_impl_signNames)], narrowed := true }
def FnExactShiftTermUptoSaid : Prop := fnExactShiftTermUptoRow.holds Tryd.pinned (OpenSpec.upto fnExactShiftTermSpec)

/-- 'laws.FnExactApplyBinds', WHERE WHAT IT READS IS OF BULK AT MOST 1048576: true; the input reads as it did. -/
def fnExactApplyBindsUptoRow : OpenClaim := { program := "ytjhlnbgnppflbaadoor", sum := "f23077bb37870cb4a38ca215ca29ee8656a95a69926fcea1d886268f2f12a485", func := "loop.example/prologserver/laws.FnExactApplyBinds", spec := "fnExactApplyBinds", unfollowed := true, recurses := true, named := ["loop.example/prologserver/impl.signNames"], loops := true, apart := false, laid := [("loop.example/prologserver/impl.signNames", laid_loop_example_prologserver_impl_signNames)], narrowed := true }
def FnExactApplyBindsUptoSaid : Prop := fnExactApplyBindsUptoRow.holds Tryd.pinned (OpenSpec.upto fnExactApplyBindsSpec)

/-- 'laws.FnExactVariantTerms', WHERE WHAT IT READS IS OF BULK AT MOST 1048576: true; the input reads as it did. -/
def fnExactVariantTermsUptoRow : OpenClaim := { program := "ytjhlnbgnppflbaadoor", sum := "f23077bb37870cb4a38ca215ca29ee8656a95a69926fcea1d886268f2f12a485", func := "loop.example/prologserver/laws.FnExactVariantTerms", spec := "fnExactVariantTerms", unfollowed := true, recurses := true, named := ["loop.example/prologserver/impl.signNames"], loops := true, apart := false, laid := [("loop.example/prologserver/impl.signNames", laid_loop_example_prologserver_impl_signNames)], narrowed := true }
def FnExactVariantTermsUptoSaid : Prop := fnExactVariantTermsUptoRow.holds Tryd.pinned (OpenSpec.upto fnExactVariantTermsSpec)

/-- 'laws.FnExactInstanceOf', WHERE WHAT IT READS IS OF BULK AT MOST 1048576: true; the input reads as it did. -/
def fnExactInstanceOfUptoRow : OpenClaim := { program := "ytjhlnbgnppflbaadoor", sum := "f23077bb37870cb4a38ca215ca29ee8656a95a69926fcea1d886268f2f12a485", func := "loop.example/prologserver/laws.FnExactInstanceOf", spec := "fnExactInstanceOf", unfollowed := true, recurses := true, named := ["loop.example/prologserver/impl.signNames"], loops := true, apart := false, laid := [("loop.example/prologserver/impl.signNames", laid_loop_example_prologserver_impl_signNames)], narrowed := true }
def FnExactInstanceOfUptoSaid : Prop := fnExactInstanceOfUptoRow.holds Tryd.pinned (OpenSpec.upto fnExactInstanceOfSpec)

/-- 'laws.FnExactGeneralize', WHERE WHAT IT READS IS OF BULK AT MOST 1048576: true; the input reads as it did. -/
def fnExactGeneralizeUptoRow : OpenClaim := { program := "ytjhlnbgnppflbaadoor", sum := "f23077bb37870cb4a38ca215ca29ee8656a95a69926fcea1d886268f2f12a485", func := "loop.example/prologserver/laws.FnExactGeneralize", spec := "fnExactGeneralize", unfollowed := true, recurses := true, named := ["loop.example/prologserver/impl.signNames"], loops := true, apart := false, laid := [("loop.example/prologserver/impl.signNames", laid_loop_example_prologserver_impl_signNames)], narrowed := true }
def FnExactGeneralizeUptoSaid : Prop := fnExactGeneralizeUptoRow.holds Tryd.pinned (OpenSpec.upto fnExactGeneralizeSpec)

/-- 'laws.FnExactTermValid', WHERE WHAT IT READS IS OF BULK AT MOST 1048576: true; the input reads as it did. -/
def fnExactTermValidUptoRow : OpenClaim := { program := "ytjhlnbgnppflbaadoor", sum := "f23077bb37870cb4a38ca215ca29ee8656a95a69926fcea1d886268f2f12a485", func := "loop.example/prologserver/laws.FnExactTermValid", spec := "fnExactTermValid", recurses := true, named := ["loop.example/prologserver/impl.signNames"], loops := true, apart := false, laid := [("loop.example/prologserver/impl.signNames", laid_loop_example_prologserver_impl_signNames)], narrowed := true }
def FnExactTermValidUptoSaid : Prop := fnExactTermValidUptoRow.holds Tryd.pinned (OpenSpec.upto fnExactTermValidSpec)

/-- 'laws.FnExactCountNodes', WHERE WHAT IT READS IS OF BULK AT MOST 1048576: true; the input reads as it did. -/
def fnExactCountNodesUptoRow : OpenClaim := { program := "ytjhlnbgnppflbaadoor", sum := "f23077bb37870cb4a38ca215ca29ee8656a95a69926fcea1d886268f2f12a485", func := "loop.example/prologserver/laws.FnExactCountNodes", spec := "fnExactCountNodes", recurses := true, named := ["loop.example/prologserver/impl.signNames"], loops := true, apart := false, laid := [("loop.example/prologserver/impl.signNames", laid_loop_example_prologserver_impl_signNames)], narrowed := true }
def FnExactCountNodesUptoSaid : Prop := fnExactCountNodesUptoRow.holds Tryd.pinned (OpenSpec.upto fnExactCountNodesSpec)

/-- 'laws.FnExactCompareTerms', WHERE WHAT IT READS IS OF BULK AT MOST 1048576: true; the input reads as it did. -/
def fnExactCompareTermsUptoRow : OpenClaim := { program := "ytjhlnbgnppflbaadoor", sum := "f23077bb37870cb4a38ca215ca29ee8656a95a69926fcea1d886268f2f12a485", func := "loop.example/prologserver/laws.FnExactCompareTerms", spec := "fnExactCompareTerms", unfollowed := true, recurses := true, named := ["loop.example/prologserver/impl.signNames"], loops := true, apart := false, laid := [("loop.example/prologserver/impl.signNames", laid_loop_example_prologserver_impl_signNames)], narrowed := true }
def FnExactCompareTermsUptoSaid : Prop := fnExactCompareTermsUptoRow.holds Tryd.pinned (OpenSpec.upto fnExactCompareTermsSpec)

/-- 'laws.FnExactListOf', WHERE WHAT IT READS IS OF BULK AT MOST 1048576: true; the input reads as it did. -/
def fnExactListOfUptoRow : OpenClaim := { program := "ytjhlnbgnppflbaadoor", sum := "f23077bb37870cb4a38ca215ca29ee8656a95a69926fcea1d886268f2f12a485", func := "loop.example/prologserver/laws.FnExactListOf", spec := "fnExactListOf", recurses := true, named := ["loop.example/prologserver/impl.signNames"], loops := true, apart := false, laid := [("loop.example/prologserver/impl.signNames", laid_loop_example_prologserver_impl_signNames)], narrowed := true }
def FnExactListOfUptoSaid : Prop := fnExactListOfUptoRow.holds Tryd.pinned (OpenSpec.upto fnExactListOfSpec)

/-- 'laws.FnExactMakeList', WHERE WHAT IT READS IS OF BULK AT MOST 1048576: true; the input reads as it did. -/
def fnExactMakeListUptoRow : OpenClaim := { program := "ytjhlnbgnppflbaadoor", sum := "f23077bb37870cb4a38ca215ca29ee8656a95a69926fcea1d886268f2f12a485", func := "loop.example/prologserver/laws.FnExactMakeList", spec := "fnExactMakeList", recurses := true, named := ["loop.example/prologserver/impl.signNames"], loops := true, apart := false, laid := [("loop.example/prologserver/impl.signNames", laid_loop_example_prologserver_impl_signNames)], narrowed := true }
def FnExactMakeListUptoSaid : Prop := fnExactMakeListUptoRow.holds Tryd.pinned (OpenSpec.upto fnExactMakeListSpec)

/-- 'laws.FnExactTermVars', WHERE WHAT IT READS IS OF BULK AT MOST 1048576: true; the input reads as it did. -/
def fnExactTermVarsUptoRow : OpenClaim := { program := "ytjhlnbgnppflbaadoor", sum := "f23077bb37870cb4a38ca215ca29ee8656a95a69926fcea1d886268f2f12a485", func := "loop.example/prologserver/laws.FnExactTermVars", spec := "fnExactTermVars", unfollowed := true, recurses := true, named := ["loop.example/prologserver/impl.signNames"], loops := true, apart := false, laid := [("loop.example/prologserver/impl.signNames", laid_loop_example_prologserver_impl_signNames)], narrowed := true }
def FnExactTermVarsUptoSaid : Prop := fnExactTermVarsUptoRow.holds Tryd.pinned (OpenSpec.upto fnExactTermVarsSpec)

/-- 'laws.FnExactRenumberTerms', WHERE WHAT IT READS IS OF BULK AT MOST 1048576: true; the input reads as it did. -/
def fnExactRenumberTermsUptoRow : OpenClaim := { program := "ytjhlnbgnppflbaadoor", sum := "f23077bb37870cb4a38ca215ca29ee8656a95a69926fcea1d886268f2f12a485", func := "loop.example/prologserver/laws.FnExactRenumberTerms", spec := "fnExactRenumberTerms", unfollowed := true, recurses := true, named := ["loop.example/prologserver/impl.signNames"], loops := true, apart := false, laid := [("loop.example/prologserver/impl.signNames", laid_loop_example_prologserver_impl_signNames)], narrowed := true }
def FnExactRenumberTermsUptoSaid : Prop := fnExactRenumberTermsUptoRow.holds Tryd.pinned (OpenSpec.upto fnExactRenumberTermsSpec)

end Rows
end Go.Proofs.YtjhlnbgnppflbaaDoor

/-
  NARROWER THAN 'FOR EVERY INPUT', by the rows' own cells (each row's printed sentence says how): FnExactNameValid: laid · FnExactTermVars: loops, laid · FnExactCompareTerms: loops, laid · FnExactMakeList: loops, laid · FnExactListOf: loops, laid.
  DERIVED. THE GIVEN ROWS OF THIS SEAT. 5 by the template 'for every input the law returns true; each argument reads behind the call as it read before'; 0 by the template 'total and deterministic' (their statements: YtppnmodemhoebaaDoorTotals.lean).
  GIVEN WITH THE SEED: the statements are not yours to turn. If you find one false, say at which input.
  Laid BY PROGRAM, IN A SANDBOX (cutbox-rows.mjs): the forced cells as the released guide's own fill.sh prints them over the translation 72ee6bd976670c81… (all of the seat's roots in one cut). By AI agents, Wed Nov 11 2026. No macro, syntax, notation, axiom, sorry.
-/
import Derived.Test.YtppnmodemhoebaaDoorChecked
import GoSem.Claim
import GoSem.ClaimJoined
import GoSem.ClaimMapViews
import Derived.JoinedTies
import Derived.KernelRfl
namespace Go.Proofs.YtppnmodemhoebaaDoor
/- THE CELL 'sum', in the pinned program and in every row, IS THE sha256 OF THE DUMP (.gsa) THAT YtppnmodemhoebaaDoorProg.lean LOADS. Nothing in Lean hashes anything: it is a label: what it is worth is what the hold of that sum in a sandbox is worth. -/
noncomputable def Tryd.pinned : Pinned := { name := "ytppnmodemhoebaadoor", sum := "72ee6bd976670c817bd8ae9abf83d6d276d723087b12957a3b5886fde927fd69", checked := Tryd.checked }
namespace Rows
def none {H : Type} : Left H := { results := [], args := [] }

/- WHAT THE LISTED PACKAGE-LEVEL VARIABLES READ AS WHEN THE CALL BEGINS. Each datum BY PROGRAM (the guide's laid-datum.mjs) off the statement by which the dump's own 'gosem.cut.vars' lays the variable. In a bare row this is a premise. The card (YtppnmodemhoebaaDoorCards.lean) ties it to the program's text. -/
def laid_loop_example_prologserver_impl_signNames {H : Type} : DataW H := .agg [.lit (.string [43]), .lit (.string [45]), .lit (.string [42]), .lit (.string [47, 47]), .lit (.string [61]), .lit (.string [92, 61]), .lit (.string [61, 61]), .lit (.string [60]), .lit (.string [62]), .lit (.string [61, 60]), .lit (.string [62, 61]), .lit (.string [61, 58, 61]), .lit (.string [46]), .lit (.string [91, 93]), .lit (.string [33])]

/-- 'laws.FnExactNameValid': WHATEVER THE INPUT: true; the input reads as it did. -/
def fnExactNameValidSpec : ChangeSpec := { name := "fnExactNameValid", vars := ["loop.example/prologserver/impl.signNames"], fn := fun _ => fun
  | [d, g1] => { results := [.lit (.bool true)], args := [d], vars := [g1] }
  | _ => none }
def fnExactNameValidRow : OpenClaim := { program := "ytppnmodemhoebaadoor", sum := "72ee6bd976670c817bd8ae9abf83d6d276d723087b12957a3b5886fde927fd69", func := "loop.example/prologserver/laws.FnExactNameValid", spec := "fnExactNameValid", named := ["loop.example/prologserver/impl.signNames"], apart := false, laid := [("loop.example/prologserver/impl.signNames", laid_loop_example_prologserver_impl_signNames)] }
def FnExactNameValidSaid : Prop := fnExactNameValidRow.holds Tryd.pinned (OpenSpec.ofChange fnExactNameValidSpec)

/-- ITS FALSE NEIGHBOUR: 'it returns false'. Refute it at one input. -/
def fnExactNameValidWrong : ChangeSpec := { name := "fnExactNameValid", vars := ["loop.example/prologserver/impl.signNames"], fn := fun _ => fun
  | [d, g1] => { results := [.lit (.bool false)], args := [d], vars := [g1] }
  | _ => none }
def FnExactNameValidWrongFalsely : Prop := fnExactNameValidRow.holds Tryd.pinned (OpenSpec.ofChange fnExactNameValidWrong)

/-- 'laws.FnExactTermVars': WHATEVER THE INPUT: true; the input reads as it did. -/
def fnExactTermVarsSpec : ChangeSpec := { name := "fnExactTermVars", vars := ["loop.example/prologserver/impl.signNames"], fn := fun _ => fun
  | [d, g1] => { results := [.lit (.bool true)], args := [d], vars := [g1] }
  | _ => none }
def fnExactTermVarsRow : OpenClaim := { program := "ytppnmodemhoebaadoor", sum := "72ee6bd976670c817bd8ae9abf83d6d276d723087b12957a3b5886fde927fd69", func := "loop.example/prologserver/laws.FnExactTermVars", spec := "fnExactTermVars", unfollowed := true, recurses := true, named := ["loop.example/prologserver/impl.signNames"], loops := true, apart := false, laid := [("loop.example/prologserver/impl.signNames", laid_loop_example_prologserver_impl_signNames)] }
def FnExactTermVarsSaid : Prop := fnExactTermVarsRow.holds Tryd.pinned (OpenSpec.ofChange fnExactTermVarsSpec)

/-- ITS FALSE NEIGHBOUR: 'it returns false'. Refute it at one input. -/
def fnExactTermVarsWrong : ChangeSpec := { name := "fnExactTermVars", vars := ["loop.example/prologserver/impl.signNames"], fn := fun _ => fun
  | [d, g1] => { results := [.lit (.bool false)], args := [d], vars := [g1] }
  | _ => none }
def FnExactTermVarsWrongFalsely : Prop := fnExactTermVarsRow.holds Tryd.pinned (OpenSpec.ofChange fnExactTermVarsWrong)

/-- 'laws.FnExactCompareTerms': WHATEVER THE INPUT: true; the input reads as it did. -/
def fnExactCompareTermsSpec : ChangeSpec := { name := "fnExactCompareTerms", vars := ["loop.example/prologserver/impl.signNames"], fn := fun _ => fun
  | [d1, d2, g1] => { results := [.lit (.bool true)], args := [d1, d2], vars := [g1] }
  | _ => none }
def fnExactCompareTermsRow : OpenClaim := { program := "ytppnmodemhoebaadoor", sum := "72ee6bd976670c817bd8ae9abf83d6d276d723087b12957a3b5886fde927fd69", func := "loop.example/prologserver/laws.FnExactCompareTerms", spec := "fnExactCompareTerms", unfollowed := true, recurses := true, named := ["loop.example/prologserver/impl.signNames"], loops := true, apart := false, laid := [("loop.example/prologserver/impl.signNames", laid_loop_example_prologserver_impl_signNames)] }
def FnExactCompareTermsSaid : Prop := fnExactCompareTermsRow.holds Tryd.pinned (OpenSpec.ofChange fnExactCompareTermsSpec)

/-- ITS FALSE NEIGHBOUR: 'it returns false'. Refute it at one input. -/
def fnExactCompareTermsWrong : ChangeSpec := { name := "fnExactCompareTerms", vars := ["loop.example/prologserver/impl.signNames"], fn := fun _ => fun
  | [d1, d2, g1] => { results := [.lit (.bool false)], args := [d1, d2], vars := [g1] }
  | _ => none }
def FnExactCompareTermsWrongFalsely : Prop := fnExactCompareTermsRow.holds Tryd.pinned (OpenSpec.ofChange fnExactCompareTermsWrong)

/-- 'laws.FnExactMakeList': WHATEVER THE INPUT: true; the input reads as it did. -/
def fnExactMakeListSpec : ChangeSpec := { name := "fnExactMakeList", vars := ["loop.example/prologserver/impl.signNames"], fn := fun _ => fun
  | [d1, d2, g1] => { results := [.lit (.bool true)], args := [d1, d2], vars := [g1] }
  | _ => none }
def fnExactMakeListRow : OpenClaim := { program := "ytppnmodemhoebaadoor", sum := "72ee6bd976670c817bd8ae9abf83d6d276d723087b12957a3b5886fde927fd69", func := "loop.example/prologserver/laws.FnExactMakeList", spec := "fnExactMakeList", recurses := true, named := ["loop.example/prologserver/impl.signNames"], loops := true, apart := false, laid := [("loop.example/prologserver/impl.signNames", laid_loop_example_prologserver_impl_signNames)] }
def FnExactMakeListSaid : Prop := fnExactMakeListRow.holds Tryd.pinned (OpenSpec.ofChange fnExactMakeListSpec)

/-- ITS FALSE NEIGHBOUR: 'it returns false'. Refute it at one input. -/
def fnExactMakeListWrong : ChangeSpec := { name := "fnExactMakeList", vars := ["loop.example/prologserver/impl.signNames"], fn := fun _ => fun
  | [d1, d2, g1] => { results := [.lit (.bool false)], args := [d1, d2], vars := [g1] }
  | _ => none }
def FnExactMakeListWrongFalsely : Prop := fnExactMakeListRow.holds Tryd.pinned (OpenSpec.ofChange fnExactMakeListWrong)

/-- 'laws.FnExactListOf': WHATEVER THE INPUT: true; the input reads as it did. -/
def fnExactListOfSpec : ChangeSpec := { name := "fnExactListOf", vars := ["loop.example/prologserver/impl.signNames"], fn := fun _ => fun
  | [d, g1] => { results := [.lit (.bool true)], args := [d], vars := [g1] }
  | _ => none }
def fnExactListOfRow : OpenClaim := { program := "ytppnmodemhoebaadoor", sum := "72ee6bd976670c817bd8ae9abf83d6d276d723087b12957a3b5886fde927fd69", func := "loop.example/prologserver/laws.FnExactListOf", spec := "fnExactListOf", recurses := true, named := ["loop.example/prologserver/impl.signNames"], loops := true, apart := false, laid := [("loop.example/prologserver/impl.signNames", laid_loop_example_prologserver_impl_signNames)] }
def FnExactListOfSaid : Prop := fnExactListOfRow.holds Tryd.pinned (OpenSpec.ofChange fnExactListOfSpec)

/-- ITS FALSE NEIGHBOUR: 'it returns false'. Refute it at one input. -/
def fnExactListOfWrong : ChangeSpec := { name := "fnExactListOf", vars := ["loop.example/prologserver/impl.signNames"], fn := fun _ => fun
  | [d, g1] => { results := [.lit (.bool false)], args := [d], vars := [g1] }
  | _ => none }
def FnExactListOfWrongFalsely : Prop := fnExactListOfRow.holds Tryd.pinned (OpenSpec.ofChange fnExactListOfWrong)

/- THE SECOND FORM. 'bulk': how many values and letters a reading holds, each counted each time it is reached (what is shared counts as often as it is met; a slice's spare places count too). A statement '..UptoSaid' is the law's where the arguments, and the package variables that the reading takes, are together of bulk at most 1048576: NARROWER than '..Said'. Prove '..Said' where nothing that the law and all that it calls make is longer than what came in: it says more and counts as full. Else prove '..UptoSaid'. A law counts once. -/
mutual
def uptoBulk {H : Type} : DataW H → Nat
  | .lit (.string bytes) => bytes.length + 1
  | .lit _ => 1
  | .nil => 1
  | .ptr d => uptoBulk d + 1
  | .slice elems spare => uptoBulkAll elems + uptoBulkAll spare + 1
  | .agg parts => uptoBulkAll parts + 1
  | .iface _ d => uptoBulk d + 1
  | .map entries => uptoBulkEntries entries + 1
  | .held _ => 1
def uptoBulkAll {H : Type} : List (DataW H) → Nat
  | [] => 0
  | d :: r => uptoBulk d + uptoBulkAll r
def uptoBulkEntries {H : Type} : List (Lit × DataW H) → Nat
  | [] => 0
  | x :: r => uptoBulkEntry x + uptoBulkEntries r
def uptoBulkEntry {H : Type} : Lit × DataW H → Nat
  | (.string bytes, d) => bytes.length + uptoBulk d + 1
  | (_, d) => uptoBulk d + 1
 end
def uptoSmall : (H : Type) → List (DataW H) → Bool := fun _ ds => decide (uptoBulkAll ds ≤ 1048576)
def OpenSpec.upto (s : _root_.Go.ChangeSpec) : _root_.Go.OpenSpec := { _root_.Go.OpenSpec.ofChange s with cond := some uptoSmall }

/-- 'laws.FnExactNameValid', WHERE WHAT IT READS IS OF BULK AT MOST 1048576: true; the input reads as it did. -/
def fnExactNameValidUptoRow : OpenClaim := { program := "ytppnmodemhoebaadoor", sum := "72ee6bd976670c817bd8ae9abf83d6d276d723087b12957a3b5886fde927fd69", func := "loop.example/prologserver/laws.FnExactNameValid", spec := "fnExactNameValid", named := ["loop.example/prologserver/impl.signNames"], apart := false, laid := [("loop.example/prologserver/impl.signNames", laid_loop_example_prologserver_impl_signNames)], narrowed := true }
def FnExactNameValidUptoSaid : Prop := fnExactNameValidUptoRow.holds Tryd.pinned (OpenSpec.upto fnExactNameValidSpec)

/-- 'laws.FnExactTermVars', WHERE WHAT IT READS IS OF BULK AT MOST 1048576: true; the input reads as it did. -/
def fnExactTermVarsUptoRow : OpenClaim := { program := "ytppnmodemhoebaadoor", sum := "72ee6bd976670c817bd8ae9abf83d6d276d723087b12957a3b5886fde927fd69", func := "loop.example/prologserver/laws.FnExactTermVars", spec := "fnExactTermVars", unfollowed := true, recurses := true, named := ["loop.example/prologserver/impl.signNames"], loops := true, apart := false, laid := [("loop.example/prologserver/impl.signNames", laid_loop_example_prologserver_impl_signNames)], narrowed := true }
def FnExactTermVarsUptoSaid : Prop := fnExactTermVarsUptoRow.holds Tryd.pinned (OpenSpec.upto fnExactTermVarsSpec)

/-- 'laws.FnExactCompareTerms', WHERE WHAT IT READS IS OF BULK AT MOST 1048576: true; the input reads as it did. -/
def fnExactCompareTermsUptoRow : OpenClaim := { program := "ytppnmodemhoebaadoor", sum := "72ee6bd976670c817bd8ae9abf83d6d276d723087b12957a3b5886fde927fd69", func := "loop.example/prologserver/laws.FnExactCompareTerms", spec := "fnExactCompareTerms", unfollowed := true, recurses := true, named := ["loop.example/prologserver/impl.signNames"], loops := true, apart := false, laid := [("loop.example/prologserver/impl.signNames", laid_loop_example_prologserver_impl_signNames)], narrowed := true }
def FnExactCompareTermsUptoSaid : Prop := fnExactCompareTermsUptoRow.holds Tryd.pinned (OpenSpec.upto fnExactCompareTermsSpec)

/-- 'laws.FnExactMakeList', WHERE WHAT IT READS IS OF BULK AT MOST 1048576: true; the input reads as it did. -/
def fnExactMakeListUptoRow : OpenClaim := { program := "ytppnmodemhoebaadoor", sum := "72ee6bd976670c817bd8ae9abf83d6d276d723087b12957a3b5886fde927fd69", func := "loop.example/prologserver/laws.FnExactMakeList", spec := "fnExactMakeList", recurses := true, named := ["loop.example/prologserver/impl.signNames"], loops := true, apart := false, laid := [("loop.example/prologserver/impl.signNames", laid_loop_example_prologserver_impl_signNames)], narrowed := true }
def FnExactMakeListUptoSaid : Prop := fnExactMakeListUptoRow.holds Tryd.pinned (OpenSpec.upto fnExactMakeListSpec)

/-- 'laws.FnExactListOf', WHERE WHAT IT READS IS OF BULK AT MOST 1048576: true; the input reads as it did. -/
def fnExactListOfUptoRow : OpenClaim := { program := "ytppnmodemhoebaadoor", sum := "72ee6bd976670c817bd8ae9abf83d6d276d723087b12957a3b5886fde927fd69", func := "loop.example/prologserver/laws.FnExactListOf", spec := "fnExactListOf", recurses := true, named := ["loop.example/prologserver/impl.signNames"], loops := true, apart := false, laid := [("loop.example/prologserver/impl.signNames", laid_loop_example_prologserver_impl_signNames)], narrowed := true }
def FnExactListOfUptoSaid : Prop := fnExactListOfUptoRow.holds Tryd.pinned (OpenSpec.upto fnExactListOfSpec)

end Rows
end Go.Proofs.YtppnmodemhoebaaDoor

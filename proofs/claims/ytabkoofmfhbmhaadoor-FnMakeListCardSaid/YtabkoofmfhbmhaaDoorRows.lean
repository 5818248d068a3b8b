/-
  NARROWER THAN 'FOR EVERY INPUT', by the rows' own cells (each row's printed sentence says how): FnRenumberTerms: laid · FnMakeList: laid · FnShiftTerm: laid · FnEvalArith: laid · FnDivMod: laid.
  DERIVED. THE GIVEN ROWS OF THIS SEAT. 5 by the template 'for every input the law returns true; each argument reads behind the call as it read before'; 0 by the template 'total and deterministic' (their statements: YtabkoofmfhbmhaaDoorTotals.lean).
  GIVEN WITH THE SEED: the statements are not yours to turn. If you find one false, say at which input.
  Laid BY PROGRAM, IN A SANDBOX (cutbox-rows.mjs): the forced cells as the released guide's own fill.sh prints them over the translation 603cb57c79708f2c… (all of the seat's roots in one cut). By AI agents, Wed Nov 11 2026. No macro, syntax, notation, axiom, sorry.
-/
import Derived.Test.YtabkoofmfhbmhaaDoorChecked
import GoSem.Claim
import GoSem.ClaimJoined
import GoSem.ClaimMapViews
import Derived.JoinedTies
import Derived.KernelRfl
namespace Go.Proofs.YtabkoofmfhbmhaaDoor
/- THE CELL 'sum', in the pinned program and in every row, IS THE sha256 OF THE DUMP (.gsa) THAT YtabkoofmfhbmhaaDoorProg.lean LOADS. Nothing in Lean hashes anything: it is a label: what it is worth is what the hold of that sum in a sandbox is worth. -/
noncomputable def Tryd.pinned : Pinned := { name := "ytabkoofmfhbmhaadoor", sum := "603cb57c79708f2cfa41de251fb0f6f90cb925b0e6409f8fd567f11b5e6800d9", checked := Tryd.checked }
namespace Rows
def none {H : Type} : Left H := { results := [], args := [] }

/- WHAT THE LISTED PACKAGE-LEVEL VARIABLES READ AS WHEN THE CALL BEGINS. Each datum BY PROGRAM (the guide's laid-datum.mjs) off the statement by which the dump's own 'gosem.cut.vars' lays the variable. In a bare row this is a premise. The card (YtabkoofmfhbmhaaDoorCards.lean) ties it to the program's text. -/
def laid_loop_example_prologserver_impl_signNames {H : Type} : DataW H := .agg [.lit (.string [43]), .lit (.string [45]), .lit (.string [42]), .lit (.string [47, 47]), .lit (.string [61]), .lit (.string [92, 61]), .lit (.string [61, 61]), .lit (.string [60]), .lit (.string [62]), .lit (.string [61, 60]), .lit (.string [62, 61]), .lit (.string [61, 58, 61]), .lit (.string [46]), .lit (.string [91, 93]), .lit (.string [33])]
def laid_errors_errorType {H : Type} : DataW H := .iface "internal/reflectlite.rtype" (.agg [.ptr (.lit (.string [101, 114, 114, 111, 114]))])

/-- 'laws.FnRenumberTerms': WHATEVER THE INPUT: true; the input reads as it did. -/
def fnRenumberTermsSpec : ChangeSpec := { name := "fnRenumberTerms", vars := ["loop.example/prologserver/impl.signNames"], fn := fun _ => fun
  | [d, g1] => { results := [.lit (.bool true)], args := [d], vars := [g1] }
  | _ => none }
def fnRenumberTermsRow : OpenClaim := { program := "ytabkoofmfhbmhaadoor", sum := "603cb57c79708f2cfa41de251fb0f6f90cb925b0e6409f8fd567f11b5e6800d9", func := "loop.example/prologserver/laws.FnRenumberTerms", spec := "fnRenumberTerms", unfollowed := true, recurses := true, named := ["loop.example/prologserver/impl.signNames"], plainKeys := false, apart := false, laid := [("loop.example/prologserver/impl.signNames", laid_loop_example_prologserver_impl_signNames)] }
def FnRenumberTermsSaid : Prop := fnRenumberTermsRow.holds Tryd.pinned (OpenSpec.ofChange fnRenumberTermsSpec)

/-- ITS FALSE NEIGHBOUR: 'it returns false'. Refute it at one input. -/
def fnRenumberTermsWrong : ChangeSpec := { name := "fnRenumberTerms", vars := ["loop.example/prologserver/impl.signNames"], fn := fun _ => fun
  | [d, g1] => { results := [.lit (.bool false)], args := [d], vars := [g1] }
  | _ => none }
def FnRenumberTermsWrongFalsely : Prop := fnRenumberTermsRow.holds Tryd.pinned (OpenSpec.ofChange fnRenumberTermsWrong)

/-- 'laws.FnMakeList': WHATEVER THE INPUT: true; the input reads as it did. -/
def fnMakeListSpec : ChangeSpec := { name := "fnMakeList", vars := ["loop.example/prologserver/impl.signNames"], fn := fun _ => fun
  | [d, g1] => { results := [.lit (.bool true)], args := [d], vars := [g1] }
  | _ => none }
def fnMakeListRow : OpenClaim := { program := "ytabkoofmfhbmhaadoor", sum := "603cb57c79708f2cfa41de251fb0f6f90cb925b0e6409f8fd567f11b5e6800d9", func := "loop.example/prologserver/laws.FnMakeList", spec := "fnMakeList", recurses := true, named := ["loop.example/prologserver/impl.signNames"], plainKeys := false, apart := false, laid := [("loop.example/prologserver/impl.signNames", laid_loop_example_prologserver_impl_signNames)] }
def FnMakeListSaid : Prop := fnMakeListRow.holds Tryd.pinned (OpenSpec.ofChange fnMakeListSpec)

/-- ITS FALSE NEIGHBOUR: 'it returns false'. Refute it at one input. -/
def fnMakeListWrong : ChangeSpec := { name := "fnMakeList", vars := ["loop.example/prologserver/impl.signNames"], fn := fun _ => fun
  | [d, g1] => { results := [.lit (.bool false)], args := [d], vars := [g1] }
  | _ => none }
def FnMakeListWrongFalsely : Prop := fnMakeListRow.holds Tryd.pinned (OpenSpec.ofChange fnMakeListWrong)

/-- 'laws.FnShiftTerm': WHATEVER THE INPUT: true; the input reads as it did. -/
def fnShiftTermSpec : ChangeSpec := { name := "fnShiftTerm", vars := ["loop.example/prologserver/impl.signNames"], fn := fun _ => fun
  | [d, g1] => { results := [.lit (.bool true)], args := [d], vars := [g1] }
  | _ => none }
def fnShiftTermRow : OpenClaim := { program := "ytabkoofmfhbmhaadoor", sum := "603cb57c79708f2cfa41de251fb0f6f90cb925b0e6409f8fd567f11b5e6800d9", func := "loop.example/prologserver/laws.FnShiftTerm", spec := "fnShiftTerm", unfollowed := true, recurses := true, named := ["loop.example/prologserver/impl.signNames"], plainKeys := false, apart := false, laid := [("loop.example/prologserver/impl.signNames", laid_loop_example_prologserver_impl_signNames)] }
def FnShiftTermSaid : Prop := fnShiftTermRow.holds Tryd.pinned (OpenSpec.ofChange fnShiftTermSpec)

/-- ITS FALSE NEIGHBOUR: 'it returns false'. Refute it at one input. -/
def fnShiftTermWrong : ChangeSpec := { name := "fnShiftTerm", vars := ["loop.example/prologserver/impl.signNames"], fn := fun _ => fun
  | [d, g1] => { results := [.lit (.bool false)], args := [d], vars := [g1] }
  | _ => none }
def FnShiftTermWrongFalsely : Prop := fnShiftTermRow.holds Tryd.pinned (OpenSpec.ofChange fnShiftTermWrong)

/-- 'laws.FnEvalArith': WHATEVER THE INPUT: true; the input reads as it did. -/
def fnEvalArithSpec : ChangeSpec := { name := "fnEvalArith", vars := ["loop.example/prologserver/impl.signNames"], fn := fun _ => fun
  | [d1, d2, g1] => { results := [.lit (.bool true)], args := [d1, d2], vars := [g1] }
  | _ => none }
def fnEvalArithRow : OpenClaim := { program := "ytabkoofmfhbmhaadoor", sum := "603cb57c79708f2cfa41de251fb0f6f90cb925b0e6409f8fd567f11b5e6800d9", func := "loop.example/prologserver/laws.FnEvalArith", spec := "fnEvalArith", inPlace := ["internal/reflectlite.ValueOf", "(internal/reflectlite.Value).Type", "(internal/reflectlite.Value).IsNil", "internal/reflectlite.TypeOf", "(internal/reflectlite.Value).Elem", "(internal/reflectlite.Value).Set"], unfollowed := true, recurses := true, named := ["loop.example/prologserver/impl.signNames", "errors.errorType"], plainKeys := false, apart := false, laid := [("errors.errorType", laid_errors_errorType), ("loop.example/prologserver/impl.signNames", laid_loop_example_prologserver_impl_signNames)] }
def FnEvalArithSaid : Prop := fnEvalArithRow.holds Tryd.pinned (OpenSpec.ofChange fnEvalArithSpec)

/-- ITS FALSE NEIGHBOUR: 'it returns false'. Refute it at one input. -/
def fnEvalArithWrong : ChangeSpec := { name := "fnEvalArith", vars := ["loop.example/prologserver/impl.signNames"], fn := fun _ => fun
  | [d1, d2, g1] => { results := [.lit (.bool false)], args := [d1, d2], vars := [g1] }
  | _ => none }
def FnEvalArithWrongFalsely : Prop := fnEvalArithRow.holds Tryd.pinned (OpenSpec.ofChange fnEvalArithWrong)

/-- 'laws.FnDivMod': WHATEVER THE INPUT: true; the input reads as it did. -/
def fnDivModSpec : ChangeSpec := { name := "fnDivMod", vars := ["loop.example/prologserver/impl.signNames"], fn := fun _ => fun
  | [d1, d2, g1] => { results := [.lit (.bool true)], args := [d1, d2], vars := [g1] }
  | _ => none }
def fnDivModRow : OpenClaim := { program := "ytabkoofmfhbmhaadoor", sum := "603cb57c79708f2cfa41de251fb0f6f90cb925b0e6409f8fd567f11b5e6800d9", func := "loop.example/prologserver/laws.FnDivMod", spec := "fnDivMod", inPlace := ["internal/reflectlite.ValueOf", "(internal/reflectlite.Value).Type", "(internal/reflectlite.Value).IsNil", "internal/reflectlite.TypeOf", "(internal/reflectlite.Value).Elem", "(internal/reflectlite.Value).Set"], unfollowed := true, recurses := true, named := ["loop.example/prologserver/impl.signNames", "errors.errorType"], plainKeys := false, apart := false, laid := [("errors.errorType", laid_errors_errorType), ("loop.example/prologserver/impl.signNames", laid_loop_example_prologserver_impl_signNames)] }
def FnDivModSaid : Prop := fnDivModRow.holds Tryd.pinned (OpenSpec.ofChange fnDivModSpec)

/-- ITS FALSE NEIGHBOUR: 'it returns false'. Refute it at one input. -/
def fnDivModWrong : ChangeSpec := { name := "fnDivMod", vars := ["loop.example/prologserver/impl.signNames"], fn := fun _ => fun
  | [d1, d2, g1] => { results := [.lit (.bool false)], args := [d1, d2], vars := [g1] }
  | _ => none }
def FnDivModWrongFalsely : Prop := fnDivModRow.holds Tryd.pinned (OpenSpec.ofChange fnDivModWrong)

/- THE SECOND FORM. 'bulk': how many values and letters a reading holds, each counted each time it is reached (what is shared counts as often as it is met; a slice's spare places count too). A statement '..UptoSaid' is the law's where the arguments, and the package variables that the reading takes, are together of bulk at most 1048576: NARROWER than '..Said'. Prove '..Said' where nothing that the law and all that it calls make is longer than what came in: it says more and counts as full. Else prove '..UptoSaid'. A law counts once. -/
mutual
def uptoBulk {H : Type} : DataW H → Nat
  | .lit (.string bytes) => bytes.length + 1
  | .lit _ => 1
  | .nil => 1
  | .ptr d => uptoBulk d + 1
  | .slice elems spare => uptoBulkAll elems + uptoBulkAll spare + 1
  | .agg parts => uptoBulkAll parts + 1
  | .iface _ d => uptoBulk d + 1
  | .map entries => uptoBulkEntries entries + 1
  | .held _ => 1
def uptoBulkAll {H : Type} : List (DataW H) → Nat
  | [] => 0
  | d :: r => uptoBulk d + uptoBulkAll r
def uptoBulkEntries {H : Type} : List (Lit × DataW H) → Nat
  | [] => 0
  | x :: r => uptoBulkEntry x + uptoBulkEntries r
def uptoBulkEntry {H : Type} : Lit × DataW H → Nat
  | (.string bytes, d) => bytes.length + uptoBulk d + 1
  | (_, d) => uptoBulk d + 1
 end
def uptoSmall : (H : Type) → List (DataW H) → Bool := fun _ ds => decide (uptoBulkAll ds ≤ 1048576)
def OpenSpec.upto (s : _root_.Go.ChangeSpec) : _root_.Go.OpenSpec := { _root_.Go.OpenSpec.ofChange s with cond := some uptoSmall }

/-- 'laws.FnRenumberTerms', WHERE WHAT IT READS IS OF BULK AT MOST 1048576: true; the input reads as it did. -/
def fnRenumberTermsUptoRow : OpenClaim := { program := "ytabkoofmfhbmhaadoor", sum := "603cb57c79708f2cfa41de251fb0f6f90cb925b0e6409f8fd567f11b5e6800d9", func := "loop.example/prologserver/laws.FnRenumberTerms", spec := "fnRenumberTerms", unfollowed := true, recurses := true, named := ["loop.example/prologserver/impl.signNames"], plainKeys := false, apart := false, laid := [("loop.example/prologserver/impl.signNames", laid_loop_example_prologserver_impl_signNames)], narrowed := true }
def FnRenumberTermsUptoSaid : Prop := fnRenumberTermsUptoRow.holds Tryd.pinned (OpenSpec.upto fnRenumberTermsSpec)

/-- 'laws.FnMakeList', WHERE WHAT IT READS IS OF BULK AT MOST 1048576: true; the input reads as it did. -/
def fnMakeListUptoRow : OpenClaim := { program := "ytabkoofmfhbmhaadoor", sum := "603cb57c79708f2cfa41de251fb0f6f90cb925b0e6409f8fd567f11b5e6800d9", func := "loop.example/prologserver/laws.FnMakeList", spec := "fnMakeList", recurses := true, named := ["loop.example/prologserver/impl.signNames"], plainKeys := false, apart := false, laid := [("loop.example/prologserver/impl.signNames", laid_loop_example_prologserver_impl_signNames)], narrowed := true }
def FnMakeListUptoSaid : Prop := fnMakeListUptoRow.holds Tryd.pinned (OpenSpec.upto fnMakeListSpec)

/-- 'laws.FnShiftTerm', WHERE WHAT IT READS IS OF BULK AT MOST 1048576: true; the input reads as it did. -/
def fnShiftTermUptoRow : OpenClaim := { program := "ytabkoofmfhbmhaadoor", sum := "603cb57c79708f2cfa41de251fb0f6f90cb925b0e6409f8fd567f11b5e6800d9", func := "loop.example/prologserver/laws.FnShiftTerm", spec := "fnShiftTerm", unfollowed := true, recurses := true, named := ["loop.example/prologserver/impl.signNames"], plainKeys := false, apart := false, laid := [("loop.example/prologserver/impl.signNames", laid_loop_example_prologserver_impl_signNames)], narrowed := true }
def FnShiftTermUptoSaid : Prop := fnShiftTermUptoRow.holds Tryd.pinned (OpenSpec.upto fnShiftTermSpec)

/-- 'laws.FnEvalArith', WHERE WHAT IT READS IS OF BULK AT MOST 1048576: true; the input reads as it did. -/
def fnEvalArithUptoRow : OpenClaim := { program := "ytabkoofmfhbmhaadoor", sum := "603cb57c79708f2cfa41de251fb0f6f90cb925b0e6409f8fd567f11b5e6800d9", func := "loop.example/prologserver/laws.FnEvalArith", spec := "fnEvalArith", inPlace := ["internal/reflectlite.ValueOf", "(internal/reflectlite.Value).Type", "(internal/reflectlite.Value).IsNil", "internal/reflectlite.TypeOf", "(internal/reflectlite.Value).Elem", "(internal/reflectlite.Value).Set"], unfollowed := true, recurses := true, named := ["loop.example/prologserver/impl.signNames", "errors.errorType"], plainKeys := false, apart := false, laid := [("errors.errorType", laid_errors_errorType), ("loop.example/prologserver/impl.signNames", laid_loop_example_prologserver_impl_signNames)], narrowed := true }
def FnEvalArithUptoSaid : Prop := fnEvalArithUptoRow.holds Tryd.pinned (OpenSpec.upto fnEvalArithSpec)

/-- 'laws.FnDivMod', WHERE WHAT IT READS IS OF BULK AT MOST 1048576: true; the input reads as it did. -/
def fnDivModUptoRow : OpenClaim := { program := "ytabkoofmfhbmhaadoor", sum := "603cb57c79708f2cfa41de251fb0f6f90cb925b0e6409f8fd567f11b5e6800d9", func := "loop.example/prologserver/laws.FnDivMod", spec := "fnDivMod", inPlace := ["internal/reflectlite.ValueOf", "(internal/reflectlite.Value).Type", "(internal/reflectlite.Value).IsNil", "internal/reflectlite.TypeOf", "(internal/reflectlite.Value).Elem", "(internal/reflectlite.Value).Set"], unfollowed := true, recurses := true, named := ["loop.example/prologserver/impl.signNames", "errors.errorType"], plainKeys := false, apart := false, laid := [("errors.errorType", laid_errors_errorType), ("loop.example/prologserver/impl.signNames", laid_loop_example_prologserver_impl_signNames)], narrowed := true }
def FnDivModUptoSaid : Prop := fnDivModUptoRow.holds Tryd.pinned (OpenSpec.upto fnDivModSpec)

end Rows
end Go.Proofs.YtabkoofmfhbmhaaDoor

/-
  NARROWER THAN 'FOR EVERY INPUT', by the rows' own cells (each row's printed sentence says how): FnExactUnifyTerms: loops, laid · FnUnifyTerms: laid.
  DERIVED. THE GIVEN ROWS OF THIS SEAT. 2 by the template 'for every input the law returns true; each argument reads behind the call as it read before'; 0 by the template 'total and deterministic' (their statements: YtkefpickpjjllaaDoorTotals.lean).
  GIVEN WITH THE SEED: the statements are not yours to turn. If you find one false, say at which input.
  Laid BY PROGRAM, IN A SANDBOX (cutbox-rows.mjs): the forced cells as the released guide's own fill.sh prints them over the translation 8677e4906c00402c… (all of the seat's roots in one cut). By AI agents, Wed Nov 11 2026. No macro, syntax, notation, axiom, sorry.
-/
import Derived.Test.YtkefpickpjjllaaDoorChecked
import GoSem.Claim
import GoSem.ClaimJoined
import GoSem.ClaimMapViews
import Derived.JoinedTies
import Derived.KernelRfl
namespace Go.Proofs.YtkefpickpjjllaaDoor
/- THE CELL 'sum', in the pinned program and in every row, IS THE sha256 OF THE DUMP (.gsa) THAT YtkefpickpjjllaaDoorProg.lean LOADS. Nothing in Lean hashes anything: it is a label: what it is worth is what the hold of that sum in a sandbox is worth. -/
noncomputable def Tryd.pinned : Pinned := { name := "ytkefpickpjjllaadoor", sum := "8677e4906c00402cf1f9eb78016b981d1f1888da3b3409121a32a3ef7c6c0116", checked := Tryd.checked }
namespace Rows
def none {H : Type} : Left H := { results := [], args := [] }

/- WHAT THE LISTED PACKAGE-LEVEL VARIABLES READ AS WHEN THE CALL BEGINS. Each datum BY PROGRAM (the guide's laid-datum.mjs) off the statement by which the dump's own 'gosem.cut.vars' lays the variable. In a bare row this is a premise. The card (YtkefpickpjjllaaDoorCards.lean) ties it to the program's text. -/
def laid_loop_example_prologserver_impl_signNames {H : Type} : DataW H := .agg [.lit (.string [43]), .lit (.string [45]), .lit (.string [42]), .lit (.string [47, 47]), .lit (.string [61]), .lit (.string [92, 61]), .lit (.string [61, 61]), .lit (.string [60]), .lit (.string [62]), .lit (.string [61, 60]), .lit (.string [62, 61]), .lit (.string [61, 58, 61]), .lit (.string [46]), .lit (.string [91, 93]), .lit (.string [33])]

/-- 'laws.FnExactUnifyTerms': WHATEVER THE INPUT: true; the input reads as it did. -/
def fnExactUnifyTermsSpec : ChangeSpec := { name := "fnExactUnifyTerms", vars := ["loop.example/prologserver/impl.signNames"], fn := fun _ => fun
  | [d1, d2, g1] => { results := [.lit (.bool true)], args := [d1, d2], vars := [g1] }
  | _ => none }
def fnExactUnifyTermsRow : OpenClaim := { program := "ytkefpickpjjllaadoor", sum := "8677e4906c00402cf1f9eb78016b981d1f1888da3b3409121a32a3ef7c6c0116", func := "loop.example/prologserver/laws.FnExactUnifyTerms", spec := "fnExactUnifyTerms", unfollowed := true, recurses := true, named := ["loop.example/prologserver/impl.signNames"], loops := true, plainKeys := false, apart := false, laid := [("loop.example/prologserver/impl.signNames", laid_loop_example_prologserver_impl_signNames)] }
def FnExactUnifyTermsSaid : Prop := fnExactUnifyTermsRow.holds Tryd.pinned (OpenSpec.ofChange fnExactUnifyTermsSpec)

/-- ITS FALSE NEIGHBOUR: 'it returns false'. Refute it at one input. -/
def fnExactUnifyTermsWrong : ChangeSpec := { name := "fnExactUnifyTerms", vars := ["loop.example/prologserver/impl.signNames"], fn := fun _ => fun
  | [d1, d2, g1] => { results := [.lit (.bool false)], args := [d1, d2], vars := [g1] }
  | _ => none }
def FnExactUnifyTermsWrongFalsely : Prop := fnExactUnifyTermsRow.holds Tryd.pinned (OpenSpec.ofChange fnExactUnifyTermsWrong)

/-- 'laws.FnUnifyTerms': WHATEVER THE INPUT: true; the input reads as it did. -/
def fnUnifyTermsSpec : ChangeSpec := { name := "fnUnifyTerms", vars := ["loop.example/prologserver/impl.signNames"], fn := fun _ => fun
  | [d, g1] => { results := [.lit (.bool true)], args := [d], vars := [g1] }
  | _ => none }
def fnUnifyTermsRow : OpenClaim := { program := "ytkefpickpjjllaadoor", sum := "8677e4906c00402cf1f9eb78016b981d1f1888da3b3409121a32a3ef7c6c0116", func := "loop.example/prologserver/laws.FnUnifyTerms", spec := "fnUnifyTerms", unfollowed := true, recurses := true, named := ["loop.example/prologserver/impl.signNames"], plainKeys := false, apart := false, laid := [("loop.example/prologserver/impl.signNames", laid_loop_example_prologserver_impl_signNames)] }
def FnUnifyTermsSaid : Prop := fnUnifyTermsRow.holds Tryd.pinned (OpenSpec.ofChange fnUnifyTermsSpec)

/-- ITS FALSE NEIGHBOUR: 'it returns false'. Refute it at one input. -/
def fnUnifyTermsWrong : ChangeSpec := { name := "fnUnifyTerms", vars := ["loop.example/prologserver/impl.signNames"], fn := fun _ => fun
  | [d, g1] => { results := [.lit (.bool false)], args := [d], vars := [g1] }
  | _ => none }
def FnUnifyTermsWrongFalsely : Prop := fnUnifyTermsRow.holds Tryd.pinned (OpenSpec.ofChange fnUnifyTermsWrong)

/- THE SECOND FORM. 'bulk': how many values and letters a reading holds, each counted each time it is reached (what is shared counts as often as it is met; a slice's spare places count too). A statement '..UptoSaid' is the law's where the arguments, and the package variables that the reading takes, are together of bulk at most 1048576: NARROWER than '..Said'. Prove '..Said' where nothing that the law and all that it calls make is longer than what came in: it says more and counts as full. Else prove '..UptoSaid'. A law counts once. -/
mutual
def uptoBulk {H : Type} : DataW H → Nat
  | .lit (.string bytes) => bytes.length + 1
  | .lit _ => 1
  | .nil => 1
  | .ptr d => uptoBulk d + 1
  | .slice elems spare => uptoBulkAll elems + uptoBulkAll spare + 1
  | .agg parts => uptoBulkAll parts + 1
  | .iface _ d => uptoBulk d + 1
  | .map entries => uptoBulkEntries entries + 1
  | .held _ => 1
def uptoBulkAll {H : Type} : List (DataW H) → Nat
  | [] => 0
  | d :: r => uptoBulk d + uptoBulkAll r
def uptoBulkEntries {H : Type} : List (Lit × DataW H) → Nat
  | [] => 0
  | x :: r => uptoBulkEntry x + uptoBulkEntries r
def uptoBulkEntry {H : Type} : Lit × DataW H → Nat
  | (.string bytes, d) => bytes.length + uptoBulk d + 1
  | (_, d) => uptoBulk d + 1
 end
def uptoSmall : (H : Type) → List (DataW H) → Bool := fun _ ds => decide (uptoBulkAll ds ≤ 1048576)
def OpenSpec.upto (s : _root_.Go.ChangeSpec) : _root_.Go.OpenSpec := { _root_.Go.OpenSpec.ofChange s with cond := some uptoSmall }

/-- 'laws.FnExactUnifyTerms', WHERE WHAT IT READS IS OF BULK AT MOST 1048576: true; the input reads as it did. -/
def fnExactUnifyTermsUptoRow : OpenClaim := { program := "ytkefpickpjjllaadoor", sum := "8677e4906c00402cf1f9eb78016b981d1f1888da3b3409121a32a3ef7c6c0116", func := "loop.example/prologserver/laws.FnExactUnifyTerms", spec := "fnExactUnifyTerms", unfollowed := true, recurses := true, named := ["loop.example/prologserver/impl.signNames"], loops := true, plainKeys := false, apart := false, laid := [("loop.example/prologserver/impl.signNames", laid_loop_example_prologserver_impl_signNames)], narrowed := true }
def FnExactUnifyTermsUptoSaid : Prop := fnExactUnifyTermsUptoRow.holds Tryd.pinned (OpenSpec.upto fnExactUnifyTermsSpec)

/-- 'laws.FnUnifyTerms', WHERE WHAT IT READS IS OF BULK AT MOST 1048576: true; the input reads as it did. -/
def fnUnifyTermsUptoRow : OpenClaim := { program := "ytkefpickpjjllaadoor", sum := "8677e4906c00402cf1f9eb78016b981d1f1888da3b3409121a32a3ef7c6c0116", func := "loop.example/prologserver/laws.FnUnifyTerms", spec := "fnUnifyTerms", unfollowed := true, recurses := true, named := ["loop.example/prologserver/impl.signNames"], plainKeys := false, apart := false, laid := [("loop.example/prologserver/impl.signNames", laid_loop_example_prologserver_impl_signNames)], narrowed := true }
def FnUnifyTermsUptoSaid : Prop := fnUnifyTermsUptoRow.holds Tryd.pinned (OpenSpec.upto fnUnifyTermsSpec)

end Rows
end Go.Proofs.YtkefpickpjjllaaDoor

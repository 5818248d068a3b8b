/-
  NARROWER THAN 'FOR EVERY INPUT', by the rows' own cells (each row's printed sentence says how): FnExactClauseSame: loops · FnExactTermSame: loops.
  DERIVED. THE GIVEN ROWS OF THIS SEAT. 3 by the template 'for every input the law returns true; each argument reads behind the call as it read before'; 0 by the template 'total and deterministic' (their statements: YtojilompidmfiaaTotals.lean).
  GIVEN WITH THE SEED: the statements are not yours to turn. If you find one false, say at which input.
  Laid BY PROGRAM, IN A SANDBOX (cutbox-rows.mjs): the forced cells as the released guide's own fill.sh prints them over the translation ac7aecb5099d5dbe… (all of the seat's roots in one cut). By AI agents, Wed Nov 11 2026. No macro, syntax, notation, axiom, sorry.
-/
import Derived.Test.YtojilompidmfiaaChecked
import GoSem.Claim
import GoSem.ClaimJoined
import GoSem.ClaimMapViews
import Derived.JoinedTies
import Derived.KernelRfl
namespace Go.Proofs.Ytojilompidmfiaa
/- THE CELL 'sum', in the pinned program and in every row, IS THE sha256 OF THE DUMP (.gsa) THAT YtojilompidmfiaaProg.lean LOADS. Nothing in Lean hashes anything: it is a label: what it is worth is what the hold of that sum in a sandbox is worth. -/
noncomputable def Try.pinned : Pinned := { name := "ytojilompidmfiaa", sum := "ac7aecb5099d5dbea6a4547a6c6468b3bffd42f086d7a995bdfbcf4ec73c4267", checked := Try.checked }
namespace Rows
def none {H : Type} : Left H := { results := [], args := [] }

/-- 'laws.FnExactIsBuiltin': WHATEVER THE INPUT: true; the input reads as it did. -/
def fnExactIsBuiltinSpec : ChangeSpec := { name := "fnExactIsBuiltin", fn := fun _ => fun
  | [d1, d2] => { results := [.lit (.bool true)], args := [d1, d2] }
  | _ => none }
def fnExactIsBuiltinRow : OpenClaim := { program := "ytojilompidmfiaa", sum := "ac7aecb5099d5dbea6a4547a6c6468b3bffd42f086d7a995bdfbcf4ec73c4267", func := "loop.example/prologserver/laws.FnExactIsBuiltin", spec := "fnExactIsBuiltin", plainKeys := false, apart := false }
def FnExactIsBuiltinSaid : Prop := fnExactIsBuiltinRow.holds Try.pinned (OpenSpec.ofChange fnExactIsBuiltinSpec)

/-- ITS FALSE NEIGHBOUR: 'it returns false'. Refute it at one input. -/
def fnExactIsBuiltinWrong : ChangeSpec := { name := "fnExactIsBuiltin", fn := fun _ => fun
  | [d1, d2] => { results := [.lit (.bool false)], args := [d1, d2] }
  | _ => none }
def FnExactIsBuiltinWrongFalsely : Prop := fnExactIsBuiltinRow.holds Try.pinned (OpenSpec.ofChange fnExactIsBuiltinWrong)

/-- 'laws.FnExactClauseSame': WHATEVER THE INPUT: true; the input reads as it did. -/
def fnExactClauseSameSpec : ChangeSpec := { name := "fnExactClauseSame", fn := fun _ => fun
  | [d1, d2] => { results := [.lit (.bool true)], args := [d1, d2] }
  | _ => none }
def fnExactClauseSameRow : OpenClaim := { program := "ytojilompidmfiaa", sum := "ac7aecb5099d5dbea6a4547a6c6468b3bffd42f086d7a995bdfbcf4ec73c4267", func := "loop.example/prologserver/laws.FnExactClauseSame", spec := "fnExactClauseSame", recurses := true, loops := true, plainKeys := false, apart := false }
def FnExactClauseSameSaid : Prop := fnExactClauseSameRow.holds Try.pinned (OpenSpec.ofChange fnExactClauseSameSpec)

/-- ITS FALSE NEIGHBOUR: 'it returns false'. Refute it at one input. -/
def fnExactClauseSameWrong : ChangeSpec := { name := "fnExactClauseSame", fn := fun _ => fun
  | [d1, d2] => { results := [.lit (.bool false)], args := [d1, d2] }
  | _ => none }
def FnExactClauseSameWrongFalsely : Prop := fnExactClauseSameRow.holds Try.pinned (OpenSpec.ofChange fnExactClauseSameWrong)

/-- 'laws.FnExactTermSame': WHATEVER THE INPUT: true; the input reads as it did. -/
def fnExactTermSameSpec : ChangeSpec := { name := "fnExactTermSame", fn := fun _ => fun
  | [d1, d2] => { results := [.lit (.bool true)], args := [d1, d2] }
  | _ => none }
def fnExactTermSameRow : OpenClaim := { program := "ytojilompidmfiaa", sum := "ac7aecb5099d5dbea6a4547a6c6468b3bffd42f086d7a995bdfbcf4ec73c4267", func := "loop.example/prologserver/laws.FnExactTermSame", spec := "fnExactTermSame", recurses := true, loops := true, plainKeys := false, apart := false }
def FnExactTermSameSaid : Prop := fnExactTermSameRow.holds Try.pinned (OpenSpec.ofChange fnExactTermSameSpec)

/-- ITS FALSE NEIGHBOUR: 'it returns false'. Refute it at one input. -/
def fnExactTermSameWrong : ChangeSpec := { name := "fnExactTermSame", fn := fun _ => fun
  | [d1, d2] => { results := [.lit (.bool false)], args := [d1, d2] }
  | _ => none }
def FnExactTermSameWrongFalsely : Prop := fnExactTermSameRow.holds Try.pinned (OpenSpec.ofChange fnExactTermSameWrong)

/- THE SECOND FORM. 'bulk': how many values and letters a reading holds, each counted each time it is reached (what is shared counts as often as it is met; a slice's spare places count too). A statement '..UptoSaid' is the law's where the arguments, and the package variables that the reading takes, are together of bulk at most 1048576: NARROWER than '..Said'. Prove '..Said' where nothing that the law and all that it calls make is longer than what came in: it says more and counts as full. Else prove '..UptoSaid'. A law counts once. -/
mutual
def uptoBulk {H : Type} : DataW H → Nat
  | .lit (.string bytes) => bytes.length + 1
  | .lit _ => 1
  | .nil => 1
  | .ptr d => uptoBulk d + 1
  | .slice elems spare => uptoBulkAll elems + uptoBulkAll spare + 1
  | .agg parts => uptoBulkAll parts + 1
  | .iface _ d => uptoBulk d + 1
  | .map entries => uptoBulkEntries entries + 1
  | .held _ => 1
def uptoBulkAll {H : Type} : List (DataW H) → Nat
  | [] => 0
  | d :: r => uptoBulk d + uptoBulkAll r
def uptoBulkEntries {H : Type} : List (Lit × DataW H) → Nat
  | [] => 0
  | x :: r => uptoBulkEntry x + uptoBulkEntries r
def uptoBulkEntry {H : Type} : Lit × DataW H → Nat
  | (.string bytes, d) => bytes.length + uptoBulk d + 1
  | (_, d) => uptoBulk d + 1
 end
def uptoSmall : (H : Type) → List (DataW H) → Bool := fun _ ds => decide (uptoBulkAll ds ≤ 1048576)
def OpenSpec.upto (s : _root_.Go.ChangeSpec) : _root_.Go.OpenSpec := { _root_.Go.OpenSpec.ofChange s with cond := some uptoSmall }

/-- 'laws.FnExactIsBuiltin', WHERE WHAT IT READS IS OF BULK AT MOST 1048576: true; the input reads as it did. -/
def fnExactIsBuiltinUptoRow : OpenClaim := { program := "ytojilompidmfiaa", sum := "ac7aecb5099d5dbea6a4547a6c6468b3bffd42f086d7a995bdfbcf4ec73c4267", func := "loop.example/prologserver/laws.FnExactIsBuiltin", spec := "fnExactIsBuiltin", plainKeys := false, apart := false, narrowed := true }
def FnExactIsBuiltinUptoSaid : Prop := fnExactIsBuiltinUptoRow.holds Try.pinned (OpenSpec.upto fnExactIsBuiltinSpec)

/-- 'laws.FnExactClauseSame', WHERE WHAT IT READS IS OF BULK AT MOST 1048576: true; the input reads as it did. -/
def fnExactClauseSameUptoRow : OpenClaim := { program := "ytojilompidmfiaa", sum := "ac7aecb5099d5dbea6a4547a6c6468b3bffd42f086d7a995bdfbcf4ec73c4267", func := "loop.example/prologserver/laws.FnExactClauseSame", spec := "fnExactClauseSame", recurses := true, loops := true, plainKeys := false, apart := false, narrowed := true }
def FnExactClauseSameUptoSaid : Prop := fnExactClauseSameUptoRow.holds Try.pinned (OpenSpec.upto fnExactClauseSameSpec)

/-- 'laws.FnExactTermSame', WHERE WHAT IT READS IS OF BULK AT MOST 1048576: true; the input reads as it did. -/
def fnExactTermSameUptoRow : OpenClaim := { program := "ytojilompidmfiaa", sum := "ac7aecb5099d5dbea6a4547a6c6468b3bffd42f086d7a995bdfbcf4ec73c4267", func := "loop.example/prologserver/laws.FnExactTermSame", spec := "fnExactTermSame", recurses := true, loops := true, plainKeys := false, apart := false, narrowed := true }
def FnExactTermSameUptoSaid : Prop := fnExactTermSameUptoRow.holds Try.pinned (OpenSpec.upto fnExactTermSameSpec)

end Rows
end Go.Proofs.Ytojilompidmfiaa

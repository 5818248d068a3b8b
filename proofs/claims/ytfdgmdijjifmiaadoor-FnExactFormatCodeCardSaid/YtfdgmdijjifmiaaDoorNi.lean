/- Instructions' texts in plain words; the table of notations. No condition (the table lies in its variable: NotTab). -/
import Derived.Test.YtfdgmdijjifmiaaDoorIn
import Derived.Test.YtfdgmdijjifmiaaDoorNvPlain
import Derived.Lib.ItoaNum
import Derived.KernelRfl
namespace Go.Proofs.YtfdgmdijjifmiaaDoor.ins
open Go.RowKit

/-- The notations: operation, word, numbers, whether there is a name. -/
def tab : List (Int × List UInt8 × Int × Bool) := [(1, [103, 101, 116, 118, 97, 108], 2, false), (2, [103, 101, 116, 105, 110, 116], 2, false), (3, [103, 101, 116, 115, 116, 114], 2, true), (4, [117, 110, 105, 118, 97, 114], 1, false), (5, [117, 110, 105, 118, 97, 108], 1, false), (6, [117, 110, 105, 105, 110, 116], 1, false), (7, [115, 101, 116, 115, 116, 114], 2, true), (8, [112, 117, 116, 118, 97, 114], 2, false), (9, [112, 117, 116, 118, 97, 108], 2, false), (10, [112, 117, 116, 105, 110, 116], 2, false), (11, [99, 97, 108, 108], 1, true), (12, [98, 117, 105, 108, 116], 1, true), (13, [99, 117, 116], 0, false), (14, [101, 110, 100], 0, false)]
def wd (k : Nat) : List UInt8 := (tab.getD k (0, [], 0, false)).2.1
def nu (k : Nat) : Int := (tab.getD k (0, [], 0, false)).2.2.1
def nm (k : Nat) : Bool := (tab.getD k (0, [], 0, false)).2.2.2
/-- The table as the variable's cells. -/
def notV : Array Value := (tab.flatMap fun r => [.int .i64 r.1, .string ⟨r.2.1.toArray⟩, .int .i64 r.2.2.1, .bool r.2.2.2]).toArray
/-- The table lies in its variable. -/
def NotTab (w : World) : Prop := ∃ t fr, w.heap[0]? = some (.cells notV t fr)
theorem NotTab.below {w w' : World} (h : NotTab w) (hb : Below w.heap.size w w') : NotTab w' := by
  obtain ⟨t, fr, hf⟩ := h
  refine ⟨t, fr, ?_⟩
  have hlt : 0 < w.heap.size := by
    rcases Nat.lt_or_ge 0 w.heap.size with h | h
    · exact h
    · rw [Array.getElem?_eq_none h] at hf; cases hf
  exact (hb.block _ hlt).trans hf
/-- The notation of an operation: row k of the table, for operation k + 1. -/
def isOp (op : Int) : Prop := 1 ≤ op ∧ op ≤ 14
instance (op : Int) : Decidable (isOp op) := inferInstanceAs (Decidable (_ ∧ _))
/-- The fields are within the limits, and those that are not written are empty. -/
def allB (k : Nat) (x : Ins) : Bool :=
  if x.a < -999 ∨ x.a > 999 ∨ x.b < 0 ∨ x.b > 999 then false
  else if (nu k < 1 ∧ x.a ≠ 0) ∨ (nu k < 2 ∧ x.b ≠ 0) then false
  else if nm k = true then nv.nameB x.s.data.toList else x.s.data.toList == []
def okB (x : Ins) : Bool := if isOp x.op then allB (x.op - 1).toNat x else false
/-- The words of an instruction's text behind the first one. -/
def restW (k : Nat) (x : Ins) : List (List UInt8) :=
  (if 1 ≤ nu k then [Lib.itoa x.a] else []) ++ (if 2 ≤ nu k then [Lib.itoa x.b] else []) ++ (if nm k = true then [x.s.data.toList] else [])
def fmtB (x : Ins) : List UInt8 := if okB x = true then wd (x.op - 1).toNat ++ (restW (x.op - 1).toNat x).flatMap (32 :: ·) else []
theorem op_cases {op : Int} (h : isOp op) : op = 1 ∨ op = 2 ∨ op = 3 ∨ op = 4 ∨ op = 5 ∨ op = 6 ∨ op = 7 ∨ op = 8 ∨ op = 9 ∨ op = 10 ∨ op = 11 ∨ op = 12 ∨ op = 13 ∨ op = 14 := by
  obtain ⟨h1, h2⟩ := h; omega
end Go.Proofs.YtfdgmdijjifmiaaDoor.ins

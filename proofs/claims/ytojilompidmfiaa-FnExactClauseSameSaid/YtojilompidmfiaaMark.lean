/- laws.markText, markTermS, markTerm: rows of terms are marked. Condition: the call owns the row. -/
import Derived.Test.YtojilompidmfiaaProg
import Derived.Test.YtojilompidmfiaaMk
import Derived.WalkKit
import Derived.WalkSpells
import Derived.Outline
import Derived.Lib.SlBytesConst
namespace Go.Proofs.Ytojilompidmfiaa
open Go.RowKit

theorem digs_step (fu j : Nat) (out : List UInt8) (hj : j ≤ fu) (h0 : ¬ j = 0) : ∃ fu', j / 10 ≤ fu' ∧ digs fu j out = digs fu' (j / 10) (UInt8.ofNat (48 + j % 10) :: out) := by
  cases fu with
  | zero => omega
  | succ fu => exact ⟨fu, by omega, by simp only [digs]; rw [if_neg h0]⟩
theorem digs_zero (fu : Nat) (out : List UInt8) : digs fu 0 out = out := by
  cases fu with
  | zero => rfl
  | succ fu => rfl
theorem str_cons (d : UInt8) (out : List UInt8) : (.string (⟨[d].toArray⟩ ++ ⟨out.toArray⟩) : Value) = .string ⟨(d :: out).toArray⟩ := congrArg Value.string (ByteArray.mk_append_mk [d] out)
/-- What marking a row leaves: the marked row, in the same blocks; no other block was written. -/
def MarkedS (w : World) (f : Fr) (A : Option Addr) (cap : Nat) (L : List Nat) (k : Nat) (e : Ending) (w' : World) : Prop :=
  e = .returned (.int .i64 ((k + 3 * nodes f : Nat) : Int)) ∧ OwnS w' (markF f k) A cap L ∧ Wrote L w w'
end Go.Proofs.Ytojilompidmfiaa

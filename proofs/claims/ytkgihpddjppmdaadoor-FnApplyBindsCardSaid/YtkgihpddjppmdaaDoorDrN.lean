/- spec.DrawRenumberTerms. Condition: the bytes lie in memory. -/
import Derived.Test.YtkgihpddjppmdaaDoorProg
import Derived.Test.YtkgihpddjppmdaaDoorDrL
namespace Go.Proofs.YtkgihpddjppmdaaDoor
open Go.RowKit

/-- A row that was drawn. -/
def DrN (M : Nat) (w : World) (e : Ending) (w' : World) : Prop :=
  ∃ (F : Fr) (A : Option Addr) (cap : Nat), e = .returned (.slice A F.len cap) ∧ F.len ≤ 3 ∧ nodes F ≤ M ∧ (∃ L, OwnS w' F A cap L ∧ L.Nodup ∧ ∀ x ∈ L, w.heap.size ≤ x) ∧ Below w.heap.size w w'
theorem below_w {w w1 w2 : World} {rb B : Nat} (h : Below B w w1) (hw : Wrote [rb] w1 w2) (hB : B ≤ w1.heap.size) (hr : B ≤ rb) : Below B w w2 :=
  h.trans (hw.below hB fun x hx => by simp at hx; omega)

end Go.Proofs.YtkgihpddjppmdaaDoor

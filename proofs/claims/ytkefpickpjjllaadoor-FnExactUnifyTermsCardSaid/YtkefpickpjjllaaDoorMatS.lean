/- spec.l3Match. Condition: the terms and the table lie in memory; the terms are well-formed. -/
import Derived.Test.YtkefpickpjjllaaDoorProg
import Derived.Test.YtkefpickpjjllaaDoorMatch
import Derived.Test.YtkefpickpjjllaaDoorSameS
import Derived.Test.YtkefpickpjjllaaDoorLawTV0
import Derived.Deep.RegionHeld3
namespace Go.Proofs.YtkefpickpjjllaaDoor
open Go.RowKit

/-- What l3Match leaves. -/
def MsRes (w : World) (lo hi g : Nat) (r : Option St) (e : Ending) (w' : World) : Prop :=
  Wrote [g] w w' ∧ ((∃ st', r = some st' ∧ e = .returned (.bool true) ∧ KnS w' lo hi g st') ∨ (r = none ∧ e = .returned (.bool false)))
theorem shapeT_fits {k n : Int} {s : ByteArray} {f : Fr} {d : Int} (h : shapeT k n s f d = true) : Fits k n s ∧ (-999 ≤ n ∧ n ≤ 999) := by
  have hk := shapeT_kind h
  by_cases h3 : k = 3
  · subst h3
    obtain ⟨rfl, hnm, _, _⟩ := shapeT_struct h
    exact ⟨⟨by omega, by omega, by have := nameB_size hnm; unfold maxLen; omega⟩, by omega⟩
  · obtain ⟨rfl, _, hn⟩ := shapeT_leaf h h3
    exact ⟨⟨by omega, by omega, by unfold maxLen; simp [ByteArray.size]⟩, hn⟩
theorem MsRes.no {w w' : World} {lo hi g : Nat} {r : Option St} (hw : Wrote [g] w w') (hr : r = none) : MsRes w lo hi g r (.returned (.bool false)) w' := ⟨hw, .inr ⟨hr, rfl⟩⟩
theorem two_boxes (w : World) (a b : Array Value) : Below w.heap.size w ((w.alloc (.cells a 31)).alloc (.cells b 31)) ∧ Blk ((w.alloc (.cells a 31)).alloc (.cells b 31)) w.heap.size 31 a ∧ Blk ((w.alloc (.cells a 31)).alloc (.cells b 31)) (w.heap.size + 1) 31 b := by
  refine ⟨two_alloc w _ _, (Blk.new w _ _).alloc _, ?_⟩
  have h := Blk.new (w.alloc (.cells a 31)) 31 b
  simpa using h

end Go.Proofs.YtkefpickpjjllaaDoor

/- spec.l3Shift: a term with a number added to its variables. Condition: the term lies in memory and is well-formed. -/
import Derived.Test.YtohkpgpcipjpkaaGreatDoorProg
import Derived.Test.YtohkpgpcipjpkaaGreatDoorRen
import Derived.Test.YtohkpgpcipjpkaaGreatDoorTermOf
namespace Go.Proofs.YtohkpgpcipjpkaaGreatDoor
open Go.RowKit

/-- The new number; the row with all variables shifted. -/
def shN (V k n : Int) : Int := if k = 1 then n + V else n
def shF (V : Int) : Fr → Fr
  | .nil => .nil
  | .cons k n s kids rest => .cons k (shN V k n) s (shF V kids) (shF V rest)
theorem shF_len (V : Int) (f : Fr) : (shF V f).len = f.len := by
  induction f with
  | nil => rfl
  | cons _ _ _ _ _ _ ih => simp only [shF, Fr.len, ih]
theorem shF_nodes (V : Int) (f : Fr) : nodes (shF V f) = nodes f := by
  induction f with
  | nil => rfl
  | cons _ _ _ _ _ ihk ih => simp only [shF, nodes, ih, ihk]
theorem shF_drop (V : Int) (f : Fr) : ∀ j, (shF V f).drop j = shF V (f.drop j) := by
  induction f with
  | nil => intro j; cases j <;> rfl
  | cons _ _ _ _ _ _ ih =>
    intro j
    cases j with
    | zero => rfl
    | succ j => exact ih j
theorem shapeT_small {k n : Int} {s : ByteArray} {f : Fr} {d : Int} (h : shapeT k n s f d = true) : Fits k n s ∧ (-999 ≤ n ∧ n ≤ 999) := by
  have hk := shapeT_kind h
  by_cases h3 : k = 3
  · subst h3
    obtain ⟨rfl, hnm, _, _⟩ := shapeT_struct h
    exact ⟨⟨by omega, by omega, by have := nameB_size hnm; unfold maxLen; omega⟩, by omega⟩
  · obtain ⟨rfl, _, hn⟩ := shapeT_leaf h h3
    exact ⟨⟨by omega, by omega, by unfold maxLen; simp [ByteArray.size]⟩, hn⟩
theorem shN_fits {k n V : Int} {s : ByteArray} {f : Fr} {d : Int} (h : shapeT k n s f d = true) (hV : -25 ≤ V ∧ V ≤ 25) : Fits k (shN V k n) s := by
  obtain ⟨⟨h1, h2, h3⟩, h4⟩ := shapeT_small h
  refine ⟨h1, ?_, h3⟩
  unfold shN
  split <;> omega

end Go.Proofs.YtohkpgpcipjpkaaGreatDoor

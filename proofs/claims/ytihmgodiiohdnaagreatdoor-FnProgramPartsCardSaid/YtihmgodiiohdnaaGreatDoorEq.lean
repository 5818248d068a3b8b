/- laws.eqTerm, laws.eqTermS: terms are compared field by field. Condition: both lie in memory. -/
import Derived.Test.YtihmgodiiohdnaaGreatDoorProg
import Derived.Test.YtihmgodiiohdnaaGreatDoorFr
import Derived.WalkKit
import Derived.WalkSpells
import Derived.Outline
import Derived.StillTailTactics
namespace Go.Proofs.YtihmgodiiohdnaaGreatDoor
open Go.RowKit

/-- Two rows are equal, field by field. -/
def eqF : Fr → Fr → Bool
  | .nil, .nil => true
  | .cons k n s kids rest, .cons k' n' s' kids' rest' => (k == k') && ((n == n') && ((s.data.toList == s'.data.toList) && (eqF kids kids' && eqF rest rest')))
  | _, _ => false
def eqT (k n : Int) (s : ByteArray) (f : Fr) (k' n' : Int) (s' : ByteArray) (g : Fr) : Bool := (k == k') && ((n == n') && ((s.data.toList == s'.data.toList) && eqF f g))
theorem eqF_len (f : Fr) : ∀ g, eqF f g = true → f.len = g.len := by
  induction f with
  | nil => intro g h; cases g with
    | nil => rfl
    | cons _ _ _ _ _ => cases h
  | cons k n s kids rest _ ihr =>
    intro g h
    cases g with
    | nil => cases h
    | cons k' n' s' kids' rest' =>
      simp only [eqF, Bool.and_eq_true] at h
      simp only [Fr.len]; rw [ihr rest' h.2.2.2.2]
theorem eqF_cons (k n : Int) (s : ByteArray) (kids rest : Fr) (k' n' : Int) (s' : ByteArray) (kids' rest' : Fr) :
    eqF (.cons k n s kids rest) (.cons k' n' s' kids' rest') = (eqT k n s kids k' n' s' kids' && eqF rest rest') := by
  simp only [eqF, eqT, Bool.and_assoc]
theorem eqF_refl (f : Fr) : eqF f f = true := by
  induction f with
  | nil => rfl
  | cons k n s kids rest ihk ihr => simp [eqF, ihk, ihr]
theorem eqT_refl (k n : Int) (s : ByteArray) (f : Fr) : eqT k n s f k n s f = true := by simp [eqT, eqF_refl]

theorem two_alloc (w : World) (o o' : Obj) : Below w.heap.size w ((w.alloc o).alloc o') := ((Below.refl _ _).alloc (Nat.le_refl _) _).alloc (by simp) _

end Go.Proofs.YtihmgodiiohdnaaGreatDoor

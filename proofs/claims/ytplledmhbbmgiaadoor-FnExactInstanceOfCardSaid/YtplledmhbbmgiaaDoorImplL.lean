/- impl.ListOf. Condition: the term lies in memory, the table of signs in its variable. -/
import Derived.Test.YtplledmhbbmgiaaDoorProg
import Derived.Test.YtplledmhbbmgiaaDoorSplit
import Derived.Test.YtplledmhbbmgiaaDoorTermOf
namespace Go.Proofs.YtplledmhbbmgiaaDoor
open Go.RowKit

theorem shape_fronts (k n : Int) (s : ByteArray) (f : Fr) (d : Int) (h : shapeT k n s f d = true) : shapeF (fronts k s f) d = true := by
  have all : ∀ N : Nat, ∀ f : Fr, f.size ≤ N → ∀ k n s d, shapeT k n s f d = true → shapeF (fronts k s f) d = true := by
    intro N
    induction N with
    | zero =>
      intro f hf k n s d _
      cases f with
      | nil => rfl
      | cons _ _ _ _ _ => simp [Fr.size] at hf
    | succ N ih =>
      intro f hf k n s d h
      cases hp : pairB k s f.len
      · rw [(pair_no 0 hp).1]; rfl
      · obtain ⟨k1, n1, s1, kd1, k2, n2, s2, kd2, rfl, hfr, _⟩ := pair_yes 0 hp
        rw [hfr, shapeF_cons]
        simp only [Fr.size] at hf
        have h1 := shapeT_kids h
        rw [shapeF_cons, shapeF_cons, Bool.and_eq_true, Bool.and_eq_true] at h1
        have h2 := ih kd2 (by omega) k2 n2 s2 (d - 1) h1.2.1
        rw [Bool.and_eq_true]
        refine ⟨?_, shapeF_mono _ (d - 1) d (by omega) h2⟩
        have h3 : shapeF (.cons k1 n1 s1 kd1 .nil) (d - 1) = true := by rw [shapeF_cons, h1.1]; rfl
        have h4 := shapeF_mono _ (d - 1) d (by omega) h3
        rw [shapeF_cons, Bool.and_eq_true] at h4
        exact h4.1
  exact all f.size f (Nat.le_refl _) k n s d h
theorem validT_shape {k n : Int} {s : ByteArray} {f : Fr} (h : validT k n s f = true) : shapeT k n s f 30 = true := by
  unfold validT at h
  rw [Bool.and_eq_true] at h
  exact h.1


end Go.Proofs.YtplledmhbbmgiaaDoor

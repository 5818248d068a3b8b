/- spec.l1Renumber, spec.RenumberTerms. Condition: the row lies in memory. -/
import Derived.Test.YtplledmhbbmgiaaDoorProg
import Derived.Test.YtplledmhbbmgiaaDoorRen
import Derived.Test.YtplledmhbbmgiaaDoorAll
namespace Go.Proofs.YtplledmhbbmgiaaDoor
open Go.RowKit

theorem addV_nodup {acc : List Int} (h : acc.Nodup) (n : Int) : (addV acc n).Nodup := by
  unfold addV
  split
  · exact h
  · rename_i hn
    have hm : n ∉ acc := fun e => hn (List.contains_iff_mem.2 e)
    refine List.nodup_append.2 ⟨h, by simp, fun a ha b hb e => ?_⟩
    have hb' : b = n := by simpa using hb
    subst e hb'
    exact hm ha
theorem varsF_nodup (f : Fr) : ∀ acc : List Int, acc.Nodup → (varsF acc f).Nodup := by
  induction f with
  | nil => intro acc h; exact h
  | cons k n s kids rest ihk ihr =>
    intro acc h
    simp only [varsF]
    refine ihr _ ?_
    split
    · exact addV_nodup h n
    · exact ihk acc h
theorem made_below' {w w2 : World} {f : Fr} {A : Option Addr} {cap : Nat} (h : Made w f A cap w2) : Below w.heap.size w w2 := by
  obtain ⟨L, _, _, _, h4⟩ := h
  exact h4
/-- The variables of the terms of a row. -/
def allVars (f : Fr) : List Int := varsF [] f

end Go.Proofs.YtplledmhbbmgiaaDoor

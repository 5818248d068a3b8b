/- A row that lays both tables: what its condition gives; the witness's world. No condition of its own. -/
import Derived.Test.YtihmgodiiohdnaaGreatDoorRows
import Derived.Test.YtihmgodiiohdnaaGreatDoorLaw
import Derived.Test.YtihmgodiiohdnaaGreatDoorOpTab
namespace Go.Proofs.YtihmgodiiohdnaaGreatDoor
open Go.ChangeShapes Go.WideShapes Go.ChangeAt Go.RowKit

theorem opTab_of_vars {W : World} {rest : List (String × DataW Unit)} {ps : List MemPlace} (h : DataW.LaidVars Tryz.prog W (("loop.example/prologserver/impl.operatorRows", Rows.laid_loop_example_prologserver_impl_operatorRows) :: rest) ps) : op.OpTab W := by
  obtain ⟨g', t', cs, fuel, p, q, hg', ht', hvar, hd, _, _⟩ := h
  obtain rfl := Option.some.inj (op.gOps.symm.trans hg')
  obtain rfl := Option.some.inj (op.gOpsType.symm.trans ht')
  have hc := op.cells_of_ops hd
  have hcs : cs = op.opV := by
    rw [← Array.toList_inj, hc]
    unfold op.opV
    simp [List.flatMap_def]
  subst hcs
  simp only [World.var?, op.gOps, Option.bind_some] at hvar
  split at hvar
  · rename_i c t fr hb
    cases hvar
    exact ⟨t, fr, hb⟩
  · cases hvar
theorem tabs_of_laid {W : World} (h : laidMet Tryz.prog [("loop.example/prologserver/impl.signNames", Rows.laid_loop_example_prologserver_impl_signNames), ("loop.example/prologserver/impl.operatorRows", Rows.laid_loop_example_prologserver_impl_operatorRows)] W) : nv.Tab W ∧ op.OpTab W := by
  refine ⟨tab_of_laid h, ?_⟩
  obtain ⟨ps, ⟨g', t', cs, fuel, p, q, hg', ht', hvar, hd, hrest, _⟩, _⟩ := h
  exact opTab_of_vars hrest
/-- A world for the witness: the settled one, both tables holding what their initialisers lay. -/
noncomputable def laidWorld2 (os : Os) : World :=
  { World.holding Tryz.prog os ⟨#[], #[], []⟩ with heap := (((World.holding Tryz.prog os ⟨#[], #[], []⟩).heap.modify 2 (fun
      | .cells _ t frozen => .cells nv.signV t frozen
      | o => o)).modify 0 (fun
      | .cells _ t frozen => .cells op.opV t frozen
      | o => o)) }
end Go.Proofs.YtihmgodiiohdnaaGreatDoor

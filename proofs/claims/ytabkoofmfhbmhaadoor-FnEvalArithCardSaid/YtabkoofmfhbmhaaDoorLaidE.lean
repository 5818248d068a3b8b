/- A row that lays the table of signs and the handle of the type error: what its condition gives; the witness's world. No condition of its own. -/
import Derived.Test.YtabkoofmfhbmhaaDoorRows
import Derived.Test.YtabkoofmfhbmhaaDoorLaw
import Derived.Test.YtabkoofmfhbmhaaDoorEvA
import Derived.LaidHandle
import Derived.KernelRfl
namespace Go.Proofs.YtabkoofmfhbmhaaDoor
open Go.ChangeShapes Go.WideShapes Go.ChangeAt Go.RowKit

theorem gErr : Tryd.prog.globalNamed "errors.errorType" = some 0 := by kernel_rfl
theorem rtypeRow : (Tryd.prog.cutTypes.find? (·.1 == "internal/reflectlite.rtype")).map (·.2) = some 153 := by kernel_rfl
theorem errorRow : ((List.range Tryd.prog.types.size).filter fun t => Tryd.prog.rowNamed t [101, 114, 114, 111, 114]) = [92] := by kernel_rfl
theorem err_of_handles {W : World} {rest : List (String × DataW Unit)} (h : handlesMet Tryd.prog (("errors.errorType", Rows.laid_errors_errorType) :: rest) W) : ErrT W := by
  obtain ⟨name, u, ty, e1, e2, e3, e4, e5⟩ := h _ (List.mem_cons_self ..)
  have en : name = [101, 114, 114, 111, 114] := (Option.some.inj e1).symm
  subst en
  obtain rfl := Option.some.inj (rtypeRow.symm.trans e2)
  have hm : ty ∈ (List.range Tryd.prog.types.size).filter fun t => Tryd.prog.rowNamed t [101, 114, 114, 111, 114] := List.mem_filter.2 ⟨List.mem_range.2 e3, e4⟩
  rw [errorRow] at hm
  obtain rfl := List.mem_singleton.1 hm
  have hh : typeHandle Tryd.prog 92 = .pointer (some ⟨2, 92, none⟩) := by kernel_rfl
  rw [hh] at e5
  unfold ErrT
  simpa using World.var?_cell gErr e5 0
theorem tabE_of_laid {W : World} (h : laidMetH Tryd.prog [("errors.errorType", Rows.laid_errors_errorType), ("loop.example/prologserver/impl.signNames", Rows.laid_loop_example_prologserver_impl_signNames)] W) : nv.Tab W ∧ ErrT W := by
  have h' : laidMet Tryd.prog [("loop.example/prologserver/impl.signNames", Rows.laid_loop_example_prologserver_impl_signNames)] W ∧ handlesMet Tryd.prog [("errors.errorType", Rows.laid_errors_errorType)] W := h
  exact ⟨tab_of_laid h'.1, err_of_handles h'.2⟩
/-- A world for the witness: the settled one, the table and the handle laid. -/
noncomputable def laidWorldE (os : Os) : World :=
  { World.holding Tryd.prog os ⟨#[], #[], []⟩ with heap := (((World.holding Tryd.prog os ⟨#[], #[], []⟩).heap.modify 1 (fun
      | .cells _ t frozen => .cells nv.signV t frozen
      | o => o)).modify 0 (fun
      | .cells _ t frozen => .cells #[.iface 153 (.agg #[.pointer (some ⟨2, 92, none⟩)])] t frozen
      | o => o)) }
end Go.Proofs.YtabkoofmfhbmhaaDoor

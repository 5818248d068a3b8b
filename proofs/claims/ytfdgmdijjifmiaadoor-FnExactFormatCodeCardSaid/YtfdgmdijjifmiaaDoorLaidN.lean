/- A row that lays the tables of signs and of notations and the library's tables of numbers: what its condition gives; the witness's world. No condition of its own. -/
import Derived.Test.YtfdgmdijjifmiaaDoorNiL
import Derived.Test.YtfdgmdijjifmiaaDoorLaidT
namespace Go.Proofs.YtfdgmdijjifmiaaDoor
open Go.ChangeShapes Go.WideShapes Go.ChangeAt Go.RowKit

theorem tabN_of_laid {W : World} (h : laidMet Tryd.prog [("math/bits.deBruijn32tab", Rows.laid_math_bits_deBruijn32tab), ("math/bits.deBruijn64tab", Rows.laid_math_bits_deBruijn64tab), ("internal/strconv.uint64pow10", Rows.laid_internal_strconv_uint64pow10), ("loop.example/prologserver/impl.signNames", Rows.laid_loop_example_prologserver_impl_signNames), ("loop.example/prologserver/impl.notations", Rows.laid_loop_example_prologserver_impl_notations)] W) : nv.Tab W ∧ ins.NotTab W ∧ Lib.TabIs Tryd.prog W "internal/strconv.uint64pow10" .u64 Lib.pow10Tab := by
  have h2 := laid_tail (laid_tail h)
  refine ⟨tab_of_laid (laid_tail h2), ins.tab_of_laid (laid_tail (laid_tail h2)), ?_⟩
  rw [powData] at h2
  exact Lib.tabIs_of_head gPow gPowType Tryd.underlying236 Tryd.underlying199 cellsU64 cellsPow h2
/-- A world for the witness: the settled one, the tables holding what their initialisers lay. -/
noncomputable def laidWorldN (os : Os) : World :=
  { laidWorldT os with heap := (laidWorldT os).heap.modify 0 (fun
      | .cells _ t frozen => .cells ins.notV t frozen
      | o => o) }
end Go.Proofs.YtfdgmdijjifmiaaDoor

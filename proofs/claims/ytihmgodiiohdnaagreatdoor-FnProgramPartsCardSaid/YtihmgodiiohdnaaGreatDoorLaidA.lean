/- A row that lays both tables and the library's tables of numbers: what its condition gives; the witness's world. No condition of its own. -/
import Derived.Test.YtihmgodiiohdnaaGreatDoorRows
import Derived.Test.YtihmgodiiohdnaaGreatDoorLaw
import Derived.Test.YtihmgodiiohdnaaGreatDoorLaid2
import Derived.Test.YtihmgodiiohdnaaGreatDoorLaidT
namespace Go.Proofs.YtihmgodiiohdnaaGreatDoor
open Go.ChangeShapes Go.WideShapes Go.ChangeAt Go.RowKit

theorem tabA_of_laid {W : World} (h : laidMet Tryz.prog [("math/bits.deBruijn32tab", Rows.laid_math_bits_deBruijn32tab), ("math/bits.deBruijn64tab", Rows.laid_math_bits_deBruijn64tab), ("internal/strconv.uint64pow10", Rows.laid_internal_strconv_uint64pow10), ("loop.example/prologserver/impl.signNames", Rows.laid_loop_example_prologserver_impl_signNames), ("loop.example/prologserver/impl.operatorRows", Rows.laid_loop_example_prologserver_impl_operatorRows)] W) : nv.Tab W ∧ op.OpTab W ∧ Lib.TabIs Tryz.prog W "internal/strconv.uint64pow10" .u64 Lib.pow10Tab := by
  have h2 := laid_tail (laid_tail h)
  obtain ⟨a, b⟩ := tabs_of_laid (laid_tail h2)
  refine ⟨a, b, ?_⟩
  rw [powData] at h2
  exact Lib.tabIs_of_head gPow gPowType Tryz.underlying180 Tryz.underlying162 cellsU64 cellsPow h2
/-- A world for the witness: the settled one, the tables holding what their initialisers lay. -/
noncomputable def laidWorldA (os : Os) : World :=
  { laidWorldT os with heap := (laidWorldT os).heap.modify 0 (fun
      | .cells _ t frozen => .cells op.opV t frozen
      | o => o) }
end Go.Proofs.YtihmgodiiohdnaaGreatDoor

/-
  DERIVED. GIVEN WITH THE SEED: THE PROGRAM's TIES (one call each: nine closed facts by the kernel) AND EACH ROW's TIE, after the 31st guide's Derived/Test/Toyas{Tie, Card}.lean. No idea stands in it: it is a product of the set-up. Laid BY PROGRAM, IN A SANDBOX (cutbox-door.mjs). By AI agents, Wed Nov 11 2026. No macro, syntax, notation, axiom, sorry.
-/
import Derived.Test.YtgfdikmogdpchaaDoorRows
import Derived.LaidByTextLater
import Derived.SevenTiedAt
import Derived.LaidSub
import Derived.LaidOnce
namespace Go.Proofs.YtgfdikmogdpchaaDoor
open Go
set_option maxRecDepth 100000
theorem seatTie1 : Tryd.prog.laidByTextLater [("errors.errorType", Rows.laid_errors_errorType), ("loop.example/prologserver/impl.signNames", Rows.laid_loop_example_prologserver_impl_signNames), ("loop.example/prologserver/impl.operatorRows", Rows.laid_loop_example_prologserver_impl_operatorRows)] [.handle, .data, .data] true :=
  Program.laidByTextLater_by_one 40 8 43 (by kernel_rfl) (by kernel_rfl) (by kernel_rfl) (by kernel_rfl) (by kernel_rfl) (by kernel_rfl) (fun _ _ => by kernel_rfl)
theorem noOwnUnsafe : Tryd.pinned.checked.prog.headLifts.contains "ownunsafe" = false := by kernel_rfl
theorem tie : Tryd.prog.laidByTextLater [("errors.errorType", Rows.laid_errors_errorType), ("loop.example/prologserver/impl.signNames", Rows.laid_loop_example_prologserver_impl_signNames)] [.handle, .data] true :=
  Program.laidByTextLater.sub seatTie1 ["errors.errorType", "loop.example/prologserver/impl.signNames"] (by kernel_rfl) (by kernel_rfl)
theorem fnExactEvalArith_row_tie : Rows.fnExactEvalArithRow.laidByTextAt .later Tryd.pinned [.handle, .data] true :=
  OpenClaim.laidByTextAt_later rfl rfl tie noOwnUnsafe
theorem tie2 : Tryd.prog.laidByTextLater [("loop.example/prologserver/impl.signNames", Rows.laid_loop_example_prologserver_impl_signNames), ("loop.example/prologserver/impl.operatorRows", Rows.laid_loop_example_prologserver_impl_operatorRows)] [.data, .data] true :=
  Program.laidByTextLater.sub seatTie1 ["loop.example/prologserver/impl.signNames", "loop.example/prologserver/impl.operatorRows"] (by kernel_rfl) (by kernel_rfl)
theorem fnExactCompareGoal_row_tie : Rows.fnExactCompareGoalRow.laidByTextAt .later Tryd.pinned [.data, .data] true :=
  OpenClaim.laidByTextAt_later rfl rfl tie2 noOwnUnsafe
theorem fnExactEvalArithUpto_row_tie : Rows.fnExactEvalArithUptoRow.laidByTextAt .later Tryd.pinned [.handle, .data] true :=
  OpenClaim.laidByTextAt_later rfl rfl tie noOwnUnsafe
theorem fnExactCompareGoalUpto_row_tie : Rows.fnExactCompareGoalUptoRow.laidByTextAt .later Tryd.pinned [.data, .data] true :=
  OpenClaim.laidByTextAt_later rfl rfl tie2 noOwnUnsafe
end Go.Proofs.YtgfdikmogdpchaaDoor

/- Closed facts of the program that every row asks, each paid once. No condition. -/
import Derived.Test.YtdpmjpjbcpdgnaaDoorRows
import Derived.JoinedOf
import Derived.JoinedCond
import Derived.KernelRfl
namespace Go.Proofs.YtdpmjpjbcpdgnaaDoor
open Go
theorem tt {a b : Bool} (ha : a = true) (hb : b = true) : (a && b) = true := by rw [ha, hb]; rfl
theorem fLaidOut : laidOutB Tryd.prog = true := by kernel_rfl
theorem fMapsRowed : mapsRowed Tryd.prog = true := by kernel_rfl
theorem fStops : (Tryd.prog.stops == []) = true := by kernel_rfl
theorem fKnobs : (Tryd.prog.stopKnobs == []) = true := by kernel_rfl
theorem fHeard : Tryd.prog.stopsHeard = true := by kernel_rfl
theorem fEnter : Tryd.prog.mayEnter = true := by kernel_rfl
theorem fLifts : (false == Tryd.prog.liftsFinal) = true := by kernel_rfl
theorem fMake : (Tryd.prog.make == some Make.cut) = true := by kernel_rfl
end Go.Proofs.YtdpmjpjbcpdgnaaDoor

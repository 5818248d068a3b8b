/- spec.TermSame. Condition: the terms lie in memory. -/
import Derived.Test.YtkefpickpjjllaaDoorProg
import Derived.Test.YtkefpickpjjllaaDoorEq
import Derived.Test.YtkefpickpjjllaaDoorTb
namespace Go.Proofs.YtkefpickpjjllaaDoor
open Go.RowKit

end Go.Proofs.YtkefpickpjjllaaDoor

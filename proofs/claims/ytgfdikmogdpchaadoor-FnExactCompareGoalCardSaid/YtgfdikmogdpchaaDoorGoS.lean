/- Goals: the plain mathematics, and the model's l4Cut, l4Plain, l4Goal, GoalValid. Condition: the term lies in memory. -/
import Derived.Test.YtgfdikmogdpchaaDoorProg
import Derived.Test.YtgfdikmogdpchaaDoorBi
import Derived.Test.YtgfdikmogdpchaaDoorSpecV
import Derived.Test.YtgfdikmogdpchaaDoorSpecC
import Derived.Test.YtgfdikmogdpchaaDoorImplV
namespace Go.Proofs.YtgfdikmogdpchaaDoor
open Go.RowKit

def cutB (s : ByteArray) (len : Nat) : Bool := (s.data.toList == [33]) && (len == 0)
def plainB (s : ByteArray) (len : Nat) : Bool := nv.wordB s.data.toList && (!biB s.data.toList len && (op.level s.data.toList == 0))
def cutK (k : Int) (s : ByteArray) (len : Nat) : Bool := (k == 3) && cutB s len
def plainK (k : Int) (s : ByteArray) (len : Nat) : Bool := (k == 3) && plainB s len
def goalK (k : Int) (s : ByteArray) (len : Nat) : Bool := cutK k s len || (plainK k s len || ((k == 3) && biB s.data.toList len))
/-- The term is a goal. -/
def goalV (k n : Int) (s : ByteArray) (f : Fr) : Bool := validT k n s f && goalK k s f.len

end Go.Proofs.YtgfdikmogdpchaaDoor

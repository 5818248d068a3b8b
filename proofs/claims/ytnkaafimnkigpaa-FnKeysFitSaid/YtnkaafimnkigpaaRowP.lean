/- Rows of terms that a call makes by append. No condition. -/
import Derived.Test.YtnkaafimnkigpaaMk
import Derived.Deep.AppendLies
namespace Go.Proofs.Ytnkaafimnkigpaa
open Go.RowKit

section
variable {w w' : World}
theorem Fr.len_app (f g : Fr) : (f.app g).len = f.len + g.len := by
  induction f with
  | nil => simp [Fr.app, Fr.len]
  | cons _ _ _ _ _ _ ih => simp only [Fr.app, Fr.len, ih]; omega

variable {base : Nat} {v : Value} {f : Fr}
end
end Go.Proofs.Ytnkaafimnkigpaa

/- NameValid: the walks of spec.NameValid, impl.NameValid and what they call. Condition: the table of signs lies in its variable. -/
import Derived.Test.YtejflpmecpmhkaaProg
import Derived.Test.YtejflpmecpmhkaaNvPlain
import Derived.WalkKit
import Derived.WalkSpells
import Derived.Outline
import Derived.Laws.Rows
import Derived.Below
import Derived.Lib.Hide
namespace Go.Proofs.Ytejflpmecpmhkaa.nv
open Go.RowKit

theorem extract_le (s : ByteArray) (n : Nat) (_h : n ≤ s.size) : (s.extract 0 n).data.toList = s.data.toList.take n := by
  simp [ByteArray.data_extract]

/-- What spec.l1Has answers. -/
def hasB (xs : List ByteArray) (s : ByteArray) : Bool := (xs.map (·.data.toList)).contains s.data.toList
/-- The table of signs, as an array's cells. -/
def signV : Array Value := (signB.map Value.string).toArray
theorem step_yes (l p : List UInt8) (n : Nat) (h : n < p.length) (hp : p.isPrefixOf l = true) : stepSign l n p = p.length := by unfold stepSign; rw [if_pos ⟨h, hp⟩]
theorem step_no (l p : List UInt8) (n : Nat) (h : n < p.length → p.isPrefixOf l = false) : stepSign l n p = n := by
  unfold stepSign
  rw [if_neg]
  rintro ⟨h1, h2⟩
  rw [h h1] at h2
  cases h2

end Go.Proofs.Ytejflpmecpmhkaa.nv

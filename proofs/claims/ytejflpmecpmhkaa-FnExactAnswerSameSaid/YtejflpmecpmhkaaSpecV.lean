/- spec.TermValid and what it calls: the model's validity. Condition: the term lies in memory. -/
import Derived.Test.YtejflpmecpmhkaaProg
import Derived.Test.YtejflpmecpmhkaaValid
import Derived.Test.YtejflpmecpmhkaaNvWalks
import Derived.Test.YtejflpmecpmhkaaOwn
import Derived.WalkKit
import Derived.WalkSpells
import Derived.Outline
namespace Go.Proofs.Ytejflpmecpmhkaa
open Go.RowKit

theorem empty_yes {s : ByteArray} (h : noName s = true) : s.toList.isEmpty = true := by rw [ByteArray.toList_eq]; exact h
theorem empty_no {s : ByteArray} (h : noName s = false) : s.toList.isEmpty = false := by rw [ByteArray.toList_eq]; exact h

/-- The box of an argument, read in a later world. -/
theorem boxed {w w2 : World} {t : TypeId} {cs : Array Value} (hb : Below (w.alloc (.cells cs t)).heap.size (w.alloc (.cells cs t)) w2) (i : Nat) : w2.cell? ⟨w.heap.size, i, none⟩ = cs[i]? :=
  ((Blk.new w t cs).below hb (by simp)).cell i

end Go.Proofs.Ytejflpmecpmhkaa

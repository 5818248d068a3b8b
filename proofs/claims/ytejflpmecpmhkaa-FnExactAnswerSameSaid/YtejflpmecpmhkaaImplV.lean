/- impl.nodeOf, impl.TermValid. Condition: the term lies in memory, the table of signs in its variable. -/
import Derived.Test.YtejflpmecpmhkaaProg
import Derived.Test.YtejflpmecpmhkaaMake
import Derived.Test.YtejflpmecpmhkaaEq
namespace Go.Proofs.Ytejflpmecpmhkaa
open Go.RowKit

theorem cells4 {w : World} {g : Nat} {t : TypeId} {a b c d : Value} (h : Blk w g t #[a, b, c, d]) :
    w.cell? ⟨g, 0, none⟩ = some a ∧ w.cell? ⟨g, 1, none⟩ = some b ∧ w.cell? ⟨g, 2, none⟩ = some c ∧ w.cell? ⟨g, 3, none⟩ = some d := ⟨h.cell 0, h.cell 1, h.cell 2, h.cell 3⟩
end Go.Proofs.Ytejflpmecpmhkaa

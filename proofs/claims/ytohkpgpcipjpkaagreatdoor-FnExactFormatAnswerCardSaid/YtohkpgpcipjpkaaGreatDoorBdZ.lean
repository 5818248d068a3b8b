/- laws.szBind, szBindS, toBind, toBindS. Condition: the bindings lie in memory; no more than the law's budget. -/
import Derived.Test.YtohkpgpcipjpkaaGreatDoorProg
import Derived.Test.YtohkpgpcipjpkaaGreatDoorBd
import Derived.Test.YtohkpgpcipjpkaaGreatDoorSz
import Derived.OwnWalk
namespace Go.Proofs.YtohkpgpcipjpkaaGreatDoor
open Go.RowKit

theorem set5 {w : World} {g : Nat} {t : TypeId} {x0 x1 x2 x3 x4 : Value} (h : Blk w g t #[x0, x1, x2, x3, x4]) (a b c d e : Value) : Blk (((((w.setCell ⟨g, 0, none⟩ a).setCell ⟨g, 1, none⟩ b).setCell ⟨g, 2, none⟩ c).setCell ⟨g, 3, none⟩ d).setCell ⟨g, 4, none⟩ e) g t #[a, b, c, d, e] := ((((h.set_ 0 a).set_ 1 b).set_ 2 c).set_ 3 d).set_ 4 e
theorem cells5i {w : World} {g : Nat} {t : TypeId} {a b c d e : Value} (h : Blk w g t #[a, b, c, d, e]) :
    w.cell? ⟨g, 0, none⟩ = some a ∧ w.cell? ⟨g, 1, none⟩ = some b ∧ w.cell? ⟨g, 2, none⟩ = some c ∧ w.cell? ⟨g, 3, none⟩ = some d ∧ w.cell? ⟨g, 4, none⟩ = some e := ⟨h.cell 0, h.cell 1, h.cell 2, h.cell 3, h.cell 4⟩
theorem frozen5 {w : World} {g : Nat} {t : TypeId} {cs : Array Value} (h : Blk w g t cs) :
    w.frozen? ⟨g, 0, none⟩ = false ∧ w.frozen? ⟨g, 1, none⟩ = false ∧ w.frozen? ⟨g, 2, none⟩ = false ∧ w.frozen? ⟨g, 3, none⟩ = false ∧ w.frozen? ⟨g, 4, none⟩ = false := ⟨h.frozen 0, h.frozen 1, h.frozen 2, h.frozen 3, h.frozen 4⟩

theorem take_getD : ∀ (ns : List Int) (i : Nat), i < ns.length → ns.take (i + 1) = ns.take i ++ [ns.getD i 0]
  | [], _, h => absurd h (Nat.not_lt_zero _)
  | _ :: _, 0, _ => rfl
  | x :: ns, i + 1, h => by
    have := take_getD ns i (Nat.lt_of_succ_lt_succ h)
    simpa using this
end Go.Proofs.YtohkpgpcipjpkaaGreatDoor

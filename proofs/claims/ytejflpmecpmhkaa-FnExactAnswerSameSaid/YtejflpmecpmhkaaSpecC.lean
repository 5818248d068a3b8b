/- spec.l1Count, spec.TermValid, spec.CountNodes. Condition: the term lies in memory and has at most 2^20 nodes. -/
import Derived.Test.YtejflpmecpmhkaaProg
import Derived.Test.YtejflpmecpmhkaaSpecV
namespace Go.Proofs.Ytejflpmecpmhkaa
open Go.RowKit

theorem nodes_elem (i : Nat) : ∀ (f : Fr) {k n : Int} {s : ByteArray} {kids rest : Fr}, f.drop i = .cons k n s kids rest → nodes kids + 1 + nodes rest ≤ nodes f := by
  induction i with
  | zero =>
    intro f k n s kids rest h
    cases f with
    | nil => cases h
    | cons k' n' s' kids' rest' =>
      injection h with h1 h2 h3 h4 h5
      subst h4 h5
      simp only [nodes]; omega
  | succ i ih =>
    intro f k n s kids rest h
    cases f with
    | nil => cases h
    | cons k' n' s' kids' rest' =>
      have := ih rest' h
      simp only [nodes]; omega

end Go.Proofs.Ytejflpmecpmhkaa

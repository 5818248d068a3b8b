/- What every law's walk shares. No condition. -/
import Derived.Test.YtkefpickpjjllaaDoorProg
import Derived.Test.YtkefpickpjjllaaDoorImplV
import Derived.Test.YtkefpickpjjllaaDoorTo
namespace Go.Proofs.YtkefpickpjjllaaDoor
open Go.RowKit

theorem nodes_le_wt (f : Fr) : nodes f ≤ f.len + wt f := by
  induction f with
  | nil => exact Nat.le_refl _
  | cons k n s kids rest h1 h2 => simp only [nodes, Fr.len, wt]; omega
theorem kids_of_made {w w' : World} {f : Fr} {A : Option Addr} {cap : Nat} (h : Made w f A cap w') : KidsAt w' w.heap.size w'.heap.size f A cap ∧ Below w.heap.size w w' := by
  obtain ⟨L, ho, _, hL, hb⟩ := h
  exact ⟨ho.kids hL, hb⟩

end Go.Proofs.YtkefpickpjjllaaDoor

/- The table of notations as a row's condition lays it; reading it. No condition of its own. -/
import Derived.Test.YtfdgmdijjifmiaaDoorProg
import Derived.Test.YtfdgmdijjifmiaaDoorNi
import Derived.Test.YtfdgmdijjifmiaaDoorNvProof
namespace Go.Proofs.YtfdgmdijjifmiaaDoor.ins
open Go.RowKit

theorem nv_below {w w1 : World} (h : nv.Tab w) (hb : Below w.heap.size w w1) : nv.Tab w1 := by
  obtain ⟨t, fr, hf⟩ := h
  refine ⟨t, fr, ?_⟩
  have hlt : 1 < w.heap.size := by
    rcases Nat.lt_or_ge 1 w.heap.size with h | h
    · exact h
    · rw [Array.getElem?_eq_none h] at hf; cases hf
  exact (hb.block _ hlt).trans hf
theorem index_not (k : Nat) (h : k < 14) (w : World) :
    (Instr.index 77 (.agg notV) (.int .i64 k)).run Tryd.prog w = .ok (.agg #[.int .i64 ((k : Int) + 1), .string ⟨(wd k).toArray⟩, .int .i64 (nu k), .bool (nm k)]) w := by
  have all : ∀ j : Fin 14, ∀ w, (Instr.index 77 (.agg notV) (.int .i64 (j.val : Nat))).run Tryd.prog w = .ok (.agg #[.int .i64 ((j.val : Int) + 1), .string ⟨(wd j.val).toArray⟩, .int .i64 (nu j.val), .bool (nm j.val)]) w := by
    intro j w
    match j with
    | ⟨0, _⟩ => (change _ = _; kernel_rfl)
    | ⟨1, _⟩ => (change _ = _; kernel_rfl)
    | ⟨2, _⟩ => (change _ = _; kernel_rfl)
    | ⟨3, _⟩ => (change _ = _; kernel_rfl)
    | ⟨4, _⟩ => (change _ = _; kernel_rfl)
    | ⟨5, _⟩ => (change _ = _; kernel_rfl)
    | ⟨6, _⟩ => (change _ = _; kernel_rfl)
    | ⟨7, _⟩ => (change _ = _; kernel_rfl)
    | ⟨8, _⟩ => (change _ = _; kernel_rfl)
    | ⟨9, _⟩ => (change _ = _; kernel_rfl)
    | ⟨10, _⟩ => (change _ = _; kernel_rfl)
    | ⟨11, _⟩ => (change _ = _; kernel_rfl)
    | ⟨12, _⟩ => (change _ = _; kernel_rfl)
    | ⟨13, _⟩ => (change _ = _; kernel_rfl)
  exact all ⟨k, h⟩ w
end Go.Proofs.YtfdgmdijjifmiaaDoor.ins

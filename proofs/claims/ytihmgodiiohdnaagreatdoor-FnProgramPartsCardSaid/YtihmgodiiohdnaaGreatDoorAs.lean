/- What a type assertion of a node finds, and what a well-formed term is. No condition. -/
import Derived.Test.YtihmgodiiohdnaaGreatDoorProg
import Derived.Test.YtihmgodiiohdnaaGreatDoorImplV
namespace Go.Proofs.YtihmgodiiohdnaaGreatDoor
open Go.RowKit

@[go_sem] theorem as_v_s (v : Value) (w : World) : (Instr.typeAssert (.iface 133 v) 115 84 true).run Tryz.prog w = .ok (.tuple #[.agg #[.string ⟨#[]⟩, .slice none 0 0], .bool false]) w := by kernel_rfl
@[go_sem] theorem as_n_s (v : Value) (w : World) : (Instr.typeAssert (.iface 134 v) 115 84 true).run Tryz.prog w = .ok (.tuple #[.agg #[.string ⟨#[]⟩, .slice none 0 0], .bool false]) w := by kernel_rfl
@[go_sem] theorem as_s_s (v : Value) (w : World) : (Instr.typeAssert (.iface 84 v) 115 84 true).run Tryz.prog w = .ok (.tuple #[v, .bool true]) w := by kernel_rfl
@[go_sem] theorem as_v_v (v : Value) (w : World) : (Instr.typeAssert (.iface 133 v) 115 133 true).run Tryz.prog w = .ok (.tuple #[v, .bool true]) w := by kernel_rfl
@[go_sem] theorem as_v_v' (v : Value) (w : World) : (Instr.typeAssert (.iface 133 v) 115 133 false).run Tryz.prog w = .ok v w := by kernel_rfl
@[go_sem] theorem as_n_v (v : Value) (w : World) : (Instr.typeAssert (.iface 134 v) 115 133 true).run Tryz.prog w = .ok (.tuple #[.int .i64 0, .bool false]) w := by kernel_rfl
@[go_sem] theorem as_s_v (v : Value) (w : World) : (Instr.typeAssert (.iface 84 v) 115 133 true).run Tryz.prog w = .ok (.tuple #[.int .i64 0, .bool false]) w := by kernel_rfl
@[go_sem] theorem as_n_n (v : Value) (w : World) : (Instr.typeAssert (.iface 134 v) 115 134 true).run Tryz.prog w = .ok (.tuple #[v, .bool true]) w := by kernel_rfl
@[go_sem] theorem as_n_n' (v : Value) (w : World) : (Instr.typeAssert (.iface 134 v) 115 134 false).run Tryz.prog w = .ok v w := by kernel_rfl
@[go_sem] theorem as_s_n (v : Value) (w : World) : (Instr.typeAssert (.iface 84 v) 115 134 true).run Tryz.prog w = .ok (.tuple #[.int .i64 0, .bool false]) w := by kernel_rfl
@[go_sem] theorem as_s_s' (v : Value) (w : World) : (Instr.typeAssert (.iface 84 v) 115 84 false).run Tryz.prog w = .ok v w := by kernel_rfl

theorem shapeT_len {k n : Int} {s : ByteArray} {kids : Fr} {d : Int} (h : shapeT k n s kids d = true) (hk : k ≠ 3) : kids.len = 0 := by
  unfold shapeT ownB at h
  simp only [Bool.and_eq_true, Bool.or_eq_true, decide_eq_true_eq, beq_iff_eq] at h
  obtain ⟨_, h, _⟩ := h
  rcases h with (⟨_, _, h⟩ | ⟨_, _, h⟩) | ⟨h, _⟩
  · exact h
  · exact h
  · exact absurd h hk
theorem shapeT_kids {k n : Int} {s : ByteArray} {kids : Fr} {d : Int} (h : shapeT k n s kids d = true) : shapeF kids (d - 1) = true := by
  unfold shapeT at h
  simp only [Bool.and_eq_true] at h
  exact h.2.2

theorem shapeF_mono (f : Fr) : ∀ d d' : Int, d ≤ d' → shapeF f d = true → shapeF f d' = true := by
  induction f with
  | nil => intro d d' _ _; rfl
  | cons k n s kids rest ihk ihr =>
    intro d d' hd h
    simp only [shapeF, Bool.and_eq_true, decide_eq_true_eq] at h ⊢
    exact ⟨⟨by omega, h.1.2.1, ihk (d - 1) (d' - 1) (by omega) h.1.2.2⟩, ihr d d' hd h.2⟩
end Go.Proofs.YtihmgodiiohdnaaGreatDoor

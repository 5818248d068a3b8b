/- CodeSlots: what it answers, in plain words. No condition. -/
import Derived.Test.YtfdgmdijjifmiaaIn
namespace Go.Proofs.Ytfdgmdijjifmiaa

/-- The slot that an instruction uses, or -1. -/
def useI (x : Ins) : Int := if x.op = 1 ∨ x.op = 4 ∨ x.op = 5 ∨ x.op = 8 ∨ x.op = 9 then x.a else if x.op = 7 then x.b else -1
/-- So many slots, with one more instruction. -/
def moreI (m : Int) (x : Ins) : Int := max m (min (useI x) 9223372036854775806 + 1)
def slotsI (xs : List Ins) (m : Int) : Int := xs.foldl moreI m
theorem useI_range {x : Ins} (h : x.ok) : I64 (useI x) := by
  obtain ⟨_, h1, h2, _⟩ := h
  unfold useI
  split
  · exact h1
  · split
    · exact h2
    · exact ⟨by omega, by omega⟩
theorem moreI_range {m : Int} {x : Ins} (h : x.ok) (h4 : 4 ≤ m) (hm : m ≤ 9223372036854775807) : 4 ≤ moreI m x ∧ moreI m x ≤ 9223372036854775807 := by
  have := useI_range h
  unfold moreI I64 at *
  omega
theorem slotsI_drop {xs rest : List Ins} {x : Ins} {k : Nat} (hd : xs.drop k = x :: rest) (m : Int) : slotsI (xs.drop k) m = slotsI (xs.drop (k + 1)) (moreI m x) := by
  have e : xs.drop (k + 1) = rest := by rw [← List.tail_drop, hd]; rfl
  rw [e, hd]; rfl
end Go.Proofs.Ytfdgmdijjifmiaa

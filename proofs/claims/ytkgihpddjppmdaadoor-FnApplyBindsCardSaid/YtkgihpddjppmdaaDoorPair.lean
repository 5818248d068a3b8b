/- spec.l1Pair, l1Nil, impl.isEmptyList: what a list's nodes are. Condition: the term lies in memory. -/
import Derived.Test.YtkgihpddjppmdaaDoorProg
import Derived.Test.YtkgihpddjppmdaaDoorMk
import Derived.Test.YtkgihpddjppmdaaDoorAs
import Derived.WalkKit
import Derived.WalkSpells
import Derived.Outline
namespace Go.Proofs.YtkgihpddjppmdaaDoor
open Go.RowKit

def dotB (s : ByteArray) : Bool := s.data.toList == [46]
def emptyB (s : ByteArray) : Bool := s.data.toList == [91, 93]
/-- A pair of a list. -/
def pairB (k : Int) (s : ByteArray) (len : Nat) : Bool := k == 3 && (dotB s && len == 2)
/-- The empty list. -/
def nilB (k : Int) (s : ByteArray) (len : Nat) : Bool := k == 3 && (emptyB s && len == 0)

/-! The elements of a list, and what stands behind the last pair. -/
def fronts : Int → ByteArray → Fr → Fr
  | k, s, .cons k1 n1 s1 kd1 (.cons k2 _ s2 kd2 .nil) => if pairB k s 2 = true then .cons k1 n1 s1 kd1 (fronts k2 s2 kd2) else .nil
  | _, _, _ => .nil
def tails : Int → Int → ByteArray → Fr → Fr
  | k, n, s, .cons k1 n1 s1 kd1 (.cons k2 n2 s2 kd2 .nil) => if pairB k s 2 = true then tails k2 n2 s2 kd2 else .cons k n s (.cons k1 n1 s1 kd1 (.cons k2 n2 s2 kd2 .nil)) .nil
  | k, n, s, f => .cons k n s f .nil
theorem two_of (f : Fr) (h : f.len = 2) : ∃ k1 n1 s1 kd1 k2 n2 s2 kd2, f = .cons k1 n1 s1 kd1 (.cons k2 n2 s2 kd2 .nil) := by
  cases f with
  | nil => simp [Fr.len] at h
  | cons k1 n1 s1 kd1 r =>
    cases r with
    | nil => simp [Fr.len] at h
    | cons k2 n2 s2 kd2 r =>
      cases r with
      | nil => exact ⟨_, _, _, _, _, _, _, _, rfl⟩
      | cons _ _ _ _ _ => simp [Fr.len] at h
theorem pairB_len {k : Int} {s : ByteArray} {len : Nat} (h : pairB k s len = true) : len = 2 ∧ k = 3 ∧ dotB s = true := by
  simp only [pairB, Bool.and_eq_true, beq_iff_eq] at h
  exact ⟨h.2.2, h.1, h.2.1⟩
theorem pair_yes {k : Int} (n : Int) {s : ByteArray} {f : Fr} (h : pairB k s f.len = true) : ∃ k1 n1 s1 kd1 k2 n2 s2 kd2, f = .cons k1 n1 s1 kd1 (.cons k2 n2 s2 kd2 .nil) ∧ fronts k s f = .cons k1 n1 s1 kd1 (fronts k2 s2 kd2) ∧ tails k n s f = tails k2 n2 s2 kd2 := by
  have hl := (pairB_len h).1
  obtain ⟨k1, n1, s1, kd1, k2, n2, s2, kd2, rfl⟩ := two_of f hl
  have h2 : pairB k s 2 = true := h
  exact ⟨k1, n1, s1, kd1, k2, n2, s2, kd2, rfl, by rw [fronts, if_pos h2], by rw [tails, if_pos h2]⟩
theorem pair_no {k : Int} (n : Int) {s : ByteArray} {f : Fr} (h : pairB k s f.len = false) : fronts k s f = .nil ∧ tails k n s f = .cons k n s f .nil := by
  by_cases hl : f.len = 2
  · obtain ⟨k1, n1, s1, kd1, k2, n2, s2, kd2, rfl⟩ := two_of f hl
    have h2 : ¬ pairB k s 2 = true := by rw [Bool.not_eq_true]; exact h
    exact ⟨by rw [fronts, if_neg h2], by rw [tails, if_neg h2]⟩
  · cases f with
    | nil => exact ⟨rfl, rfl⟩
    | cons k1 n1 s1 kd1 r =>
      cases r with
      | nil => exact ⟨rfl, rfl⟩
      | cons k2 n2 s2 kd2 r =>
        cases r with
        | nil => simp [Fr.len] at hl
        | cons _ _ _ _ _ => exact ⟨rfl, rfl⟩
/-- The term is a list. -/
def listB (k n : Int) (s : ByteArray) (f : Fr) : Bool := match tails k n s f with
  | .cons k' _ s' f' _ => nilB k' s' f'.len
  | .nil => false
theorem app_assoc (a b c : Fr) : (a.app b).app c = a.app (b.app c) := by
  induction a with
  | nil => rfl
  | cons _ _ _ _ _ _ ih => simp only [Fr.app, ih]
theorem app_nil (a : Fr) : a.app .nil = a := by
  induction a with
  | nil => rfl
  | cons _ _ _ _ _ _ ih => simp only [Fr.app, ih]
end Go.Proofs.YtkgihpddjppmdaaDoor

/- impl.termOf, termsOf: terms are made of nodes. Condition: the nodes lie in memory and are well-formed. -/
import Derived.Test.YtihmgodiiohdnaaGreatDoorProg
import Derived.Test.YtihmgodiiohdnaaGreatDoorTo
import Derived.Test.YtihmgodiiohdnaaGreatDoorAs
import Derived.Test.YtihmgodiiohdnaaGreatDoorMk
import Derived.Deep.RegionHeld3
namespace Go.Proofs.YtihmgodiiohdnaaGreatDoor
open Go.RowKit

theorem noName_eq {s : ByteArray} (h : noName s = true) : s = ⟨#[]⟩ := by
  unfold noName at h
  have h1 : s.data.toList = [] := by simpa using h
  have h2 : s.data = #[] := by simpa using h1
  cases s
  simp_all
/-- A well-formed variable or number has no name and no kids. -/
theorem shapeT_leaf {k n : Int} {s : ByteArray} {f : Fr} {d : Int} (h : shapeT k n s f d = true) (hk : k ≠ 3) : s = ⟨#[]⟩ ∧ f = .nil ∧ (-999 ≤ n ∧ n ≤ 999) := by
  have h0 := shapeT_len h hk
  unfold shapeT ownB at h
  simp only [Bool.and_eq_true, Bool.or_eq_true, decide_eq_true_eq, beq_iff_eq] at h
  have hf : f = .nil := by
    cases f with
    | nil => rfl
    | cons _ _ _ _ _ => simp [Fr.len] at h0
  obtain ⟨_, h, _⟩ := h
  rcases h with (⟨_, ⟨⟨h1, h2⟩, h3⟩, _⟩ | ⟨_, ⟨⟨h1, h2⟩, h3⟩, _⟩) | ⟨h, _⟩
  · exact ⟨noName_eq h3, hf, by omega, by omega⟩
  · exact ⟨noName_eq h3, hf, by omega, by omega⟩
  · exact absurd h hk
theorem shapeT_struct {n : Int} {s : ByteArray} {f : Fr} {d : Int} (h : shapeT 3 n s f d = true) : n = 0 ∧ nv.nameB s.data.toList = true ∧ f.len ≤ 4 ∧ shapeF f (d - 1) = true := by
  have hk := shapeT_kids h
  unfold shapeT ownB at h
  simp only [Bool.and_eq_true, Bool.or_eq_true, decide_eq_true_eq, beq_iff_eq] at h
  obtain ⟨_, h, _⟩ := h
  rcases h with (⟨h, _⟩ | ⟨h, _⟩) | ⟨_, ⟨h1, h2⟩, h3⟩
  · omega
  · omega
  · exact ⟨h1, h2, h3, hk⟩

theorem shapeT_kind {k n : Int} {s : ByteArray} {f : Fr} {d : Int} (h : shapeT k n s f d = true) : 1 ≤ k ∧ k ≤ 3 := by
  unfold shapeT ownB at h
  simp only [Bool.and_eq_true, Bool.or_eq_true, decide_eq_true_eq, beq_iff_eq] at h
  omega
theorem nameB_size {s : ByteArray} (h : nv.nameB s.data.toList = true) : s.size ≤ 6 := by
  have hs : s.size = s.data.toList.length := (Array.length_toList (xs := s.data)).symm
  rw [hs]
  unfold nv.nameB nv.wordB at h
  generalize s.data.toList = l at h
  rcases Bool.or_eq_true_iff.1 h with h | h
  · simp only [Bool.and_eq_true, decide_eq_true_eq] at h
    omega
  · rw [List.contains_iff_mem] at h
    have hall : ∀ x ∈ nv.signs, x.length ≤ 6 := by decide
    exact hall l h

end Go.Proofs.YtihmgodiiohdnaaGreatDoor

/- impl.termOf, termsOf: terms are made of nodes. Condition: the nodes lie in memory and are well-formed. -/
import Derived.Test.YtejehnmnocokiaaDoorProg
import Derived.Test.YtejehnmnocokiaaDoorTo
import Derived.Test.YtejehnmnocokiaaDoorAs
import Derived.Test.YtejehnmnocokiaaDoorMk
import Derived.Deep.RegionHeld3
import Derived.Test.YtejehnmnocokiaaDoorTxP
namespace Go.Proofs.YtejehnmnocokiaaDoor
open Go.RowKit

theorem noName_eq {s : ByteArray} (h : noName s = true) : s = ⟨#[]⟩ := by
  unfold noName at h
  have h1 : s.data.toList = [] := by simpa using h
  have h2 : s.data = #[] := by simpa using h1
  cases s
  simp_all
/-- A well-formed variable or number has no name and no kids. -/
theorem shapeT_leaf {k n : Int} {s : ByteArray} {f : Fr} {d : Int} (h : shapeT k n s f d = true) (hk : k ≠ 3) : s = ⟨#[]⟩ ∧ f = .nil ∧ (-999 ≤ n ∧ n ≤ 999) := by
  have h0 := shapeT_len h hk
  unfold shapeT ownB at h
  simp only [Bool.and_eq_true, Bool.or_eq_true, decide_eq_true_eq, beq_iff_eq] at h
  have hf : f = .nil := by
    cases f with
    | nil => rfl
    | cons _ _ _ _ _ => simp [Fr.len] at h0
  obtain ⟨_, h, _⟩ := h
  rcases h with (⟨_, ⟨⟨h1, h2⟩, h3⟩, _⟩ | ⟨_, ⟨⟨h1, h2⟩, h3⟩, _⟩) | ⟨h, _⟩
  · exact ⟨noName_eq h3, hf, by omega, by omega⟩
  · exact ⟨noName_eq h3, hf, by omega, by omega⟩
  · exact absurd h hk
theorem shapeT_struct {n : Int} {s : ByteArray} {f : Fr} {d : Int} (h : shapeT 3 n s f d = true) : n = 0 ∧ nv.nameB s.data.toList = true ∧ f.len ≤ 4 ∧ shapeF f (d - 1) = true := by
  have hk := shapeT_kids h
  unfold shapeT ownB at h
  simp only [Bool.and_eq_true, Bool.or_eq_true, decide_eq_true_eq, beq_iff_eq] at h
  obtain ⟨_, h, _⟩ := h
  rcases h with (⟨h, _⟩ | ⟨h, _⟩) | ⟨_, ⟨h1, h2⟩, h3⟩
  · omega
  · omega
  · exact ⟨h1, h2, h3, hk⟩

theorem shapeT_kind {k n : Int} {s : ByteArray} {f : Fr} {d : Int} (h : shapeT k n s f d = true) : 1 ≤ k ∧ k ≤ 3 := by
  unfold shapeT ownB at h
  simp only [Bool.and_eq_true, Bool.or_eq_true, decide_eq_true_eq, beq_iff_eq] at h
  omega
theorem nameB_size {s : ByteArray} (h : nv.nameB s.data.toList = true) : s.size ≤ 6 := by
  have hs : s.size = s.data.toList.length := (Array.length_toList (xs := s.data)).symm
  rw [hs]
  unfold nv.nameB nv.wordB at h
  generalize s.data.toList = l at h
  rcases Bool.or_eq_true_iff.1 h with h | h
  · simp only [Bool.and_eq_true, decide_eq_true_eq] at h
    omega
  · rw [List.contains_iff_mem] at h
    have hall : ∀ x ∈ nv.signs, x.length ≤ 6 := by decide
    exact hall l h

end Go.Proofs.YtejehnmnocokiaaDoor

/- Texts, as plain data: what is still to come. No condition. -/
namespace Go.Proofs.YtejehnmnocokiaaDoor
open Go.RowKit

/-- The texts of a row that is written from element j on. -/
def moreB (j : Nat) (f : Fr) : List UInt8 := if j = 0 then (match txs f with | [] => [] | t :: ts => 40 :: (t ++ ts.flatMap (fun x => 44 :: x))) else (txs f).flatMap (fun x => 44 :: x)
theorem moreB_step (j : Nat) (k n : Int) (s : ByteArray) (kids rest : Fr) : moreB j (.cons k n s kids rest) = (if j = 0 then 40 else 44) :: (txT k n s kids ++ moreB (j + 1) rest) := by
  unfold moreB
  rw [if_neg (show ¬ j + 1 = 0 by omega), txs_cons]
  by_cases h : j = 0
  · rw [if_pos h, if_pos h]
  · rw [if_neg h, if_neg h, List.flatMap_cons]; rfl
theorem moreB_nil (j : Nat) : moreB j .nil = [] := by unfold moreB; split <;> rfl
theorem argsB_more (f : Fr) : argsB (txs f) = if f.len = 0 then [] else moreB 0 f ++ [41] := by
  cases f with
  | nil => rfl
  | cons k n s kids rest =>
    rw [if_neg (by simp [Fr.len]), moreB_step, txs_cons]
    unfold moreB
    rw [if_neg (show ¬ 0 + 1 = 0 by omega)]
    simp [argsB]
theorem smF_shape (f : Fr) : ∀ d, shapeF f d = true → smF f := by
  induction f with
  | nil => intro _ _; trivial
  | cons k n s kids rest ihk ihr =>
    intro d h
    rw [shapeF_cons, Bool.and_eq_true] at h
    refine ⟨?_, ihk _ (shapeT_kids h.1), ihr _ h.2⟩
    by_cases h3 : k = 3
    · subst h3
      obtain ⟨_, hn, _⟩ := shapeT_struct h.1
      exact ⟨nameB_size hn, fun e => absurd e (by decide)⟩
    · obtain ⟨rfl, _, hn⟩ := shapeT_leaf h.1 h3
      exact ⟨by decide, fun _ => hn⟩
theorem txT_shape {k n : Int} {s : ByteArray} {f : Fr} {d : Int} (h : shapeT k n s f d = true) : (txT k n s f).length + 1 ≤ 32 * (nodes f + 1) ∧ (tlT k n s f).length ≤ 32 * (nodes f + 1) := by
  have h1 := smF_shape (.cons k n s f .nil) d (by rw [shapeF_cons, h]; rfl)
  exact txT_len h1.1.1 h1.1.2 h1.2.1
theorem shape_drop {k n : Int} {s : ByteArray} {kids rest : Fr} : ∀ (f : Fr) (j : Nat) (d : Int), f.drop j = .cons k n s kids rest → shapeF f d = true → shapeT k n s kids d = true
  | .nil, j, _, h, _ => by cases j <;> cases h
  | .cons _ _ _ _ _, 0, d, h, hs => by
    injection h with h1 h2 h3 h4 h5
    subst h1 h2 h3 h4
    rw [shapeF_cons, Bool.and_eq_true] at hs
    exact hs.1
  | .cons _ _ _ _ rest, j + 1, d, h, hs => by
    rw [shapeF_cons, Bool.and_eq_true] at hs
    exact shape_drop rest j d h hs.2
theorem shapeT_kind3 {k n : Int} {s : ByteArray} {f : Fr} {d : Int} (h : shapeT k n s f d = true) : k = 1 ∧ 0 ≤ n ∧ n ≤ 25 ∨ k = 2 ∧ -999 ≤ n ∧ n ≤ 999 ∨ k = 3 := by
  unfold shapeT ownB at h
  simp only [Bool.and_eq_true, Bool.or_eq_true, decide_eq_true_eq, beq_iff_eq] at h
  obtain ⟨_, h, _⟩ := h
  rcases h with (⟨h1, ⟨h2, h3⟩, _⟩ | ⟨h1, ⟨h2, h3⟩, _⟩) | ⟨h1, _⟩
  · exact .inl ⟨h1, h2.1, h2.2⟩
  · exact .inr (.inl ⟨h1, h2.1, h2.2⟩)
  · exact .inr (.inr h1)
end Go.Proofs.YtejehnmnocokiaaDoor

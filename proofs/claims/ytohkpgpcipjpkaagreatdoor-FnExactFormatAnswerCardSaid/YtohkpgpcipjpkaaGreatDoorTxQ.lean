/- Texts, as plain data: what is still to come. No condition. -/
import Derived.Test.YtohkpgpcipjpkaaGreatDoorProg
import Derived.Test.YtohkpgpcipjpkaaGreatDoorTxP
import Derived.Test.YtohkpgpcipjpkaaGreatDoorTermOf
namespace Go.Proofs.YtohkpgpcipjpkaaGreatDoor
open Go.RowKit

/-- The texts of a row that is written from element j on. -/
def moreB (j : Nat) (f : Fr) : List UInt8 := if j = 0 then (match txs f with | [] => [] | t :: ts => 40 :: (t ++ ts.flatMap (fun x => 44 :: x))) else (txs f).flatMap (fun x => 44 :: x)
theorem moreB_step (j : Nat) (k n : Int) (s : ByteArray) (kids rest : Fr) : moreB j (.cons k n s kids rest) = (if j = 0 then 40 else 44) :: (txT k n s kids ++ moreB (j + 1) rest) := by
  unfold moreB
  rw [if_neg (show ¬ j + 1 = 0 by omega), txs_cons]
  by_cases h : j = 0
  · rw [if_pos h, if_pos h]
  · rw [if_neg h, if_neg h, List.flatMap_cons]; rfl
theorem moreB_nil (j : Nat) : moreB j .nil = [] := by unfold moreB; split <;> rfl
theorem argsB_more (f : Fr) : argsB (txs f) = if f.len = 0 then [] else moreB 0 f ++ [41] := by
  cases f with
  | nil => rfl
  | cons k n s kids rest =>
    rw [if_neg (by simp [Fr.len]), moreB_step, txs_cons]
    unfold moreB
    rw [if_neg (show ¬ 0 + 1 = 0 by omega)]
    simp [argsB]
theorem smF_shape (f : Fr) : ∀ d, shapeF f d = true → smF f := by
  induction f with
  | nil => intro _ _; trivial
  | cons k n s kids rest ihk ihr =>
    intro d h
    rw [shapeF_cons, Bool.and_eq_true] at h
    refine ⟨?_, ihk _ (shapeT_kids h.1), ihr _ h.2⟩
    by_cases h3 : k = 3
    · subst h3
      obtain ⟨_, hn, _⟩ := shapeT_struct h.1
      exact ⟨nameB_size hn, fun e => absurd e (by decide)⟩
    · obtain ⟨rfl, _, hn⟩ := shapeT_leaf h.1 h3
      exact ⟨by decide, fun _ => hn⟩
theorem txT_shape {k n : Int} {s : ByteArray} {f : Fr} {d : Int} (h : shapeT k n s f d = true) : (txT k n s f).length + 1 ≤ 32 * (nodes f + 1) ∧ (tlT k n s f).length ≤ 32 * (nodes f + 1) := by
  have h1 := smF_shape (.cons k n s f .nil) d (by rw [shapeF_cons, h]; rfl)
  exact txT_len h1.1.1 h1.1.2 h1.2.1
theorem shape_drop {k n : Int} {s : ByteArray} {kids rest : Fr} : ∀ (f : Fr) (j : Nat) (d : Int), f.drop j = .cons k n s kids rest → shapeF f d = true → shapeT k n s kids d = true
  | .nil, j, _, h, _ => by cases j <;> cases h
  | .cons _ _ _ _ _, 0, d, h, hs => by
    injection h with h1 h2 h3 h4 h5
    subst h1 h2 h3 h4
    rw [shapeF_cons, Bool.and_eq_true] at hs
    exact hs.1
  | .cons _ _ _ _ rest, j + 1, d, h, hs => by
    rw [shapeF_cons, Bool.and_eq_true] at hs
    exact shape_drop rest j d h hs.2
theorem shapeT_kind3 {k n : Int} {s : ByteArray} {f : Fr} {d : Int} (h : shapeT k n s f d = true) : k = 1 ∧ 0 ≤ n ∧ n ≤ 25 ∨ k = 2 ∧ -999 ≤ n ∧ n ≤ 999 ∨ k = 3 := by
  unfold shapeT ownB at h
  simp only [Bool.and_eq_true, Bool.or_eq_true, decide_eq_true_eq, beq_iff_eq] at h
  obtain ⟨_, h, _⟩ := h
  rcases h with (⟨h1, ⟨h2, h3⟩, _⟩ | ⟨h1, ⟨h2, h3⟩, _⟩) | ⟨h1, _⟩
  · exact .inl ⟨h1, h2.1, h2.2⟩
  · exact .inr (.inl ⟨h1, h2.1, h2.2⟩)
  · exact .inr (.inr h1)
end Go.Proofs.YtohkpgpcipjpkaaGreatDoor

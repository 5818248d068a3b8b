/- Where the comparison of two nodes is 0, the terms are the same: plain mathematics. No condition. -/
import Derived.Test.YtplledmhbbmgiaaDoorCmpI
import Derived.Test.YtplledmhbbmgiaaDoorTermOf
namespace Go.Proofs.YtplledmhbbmgiaaDoor
open Go.RowKit

theorem cmpH_zero {k n : Int} {s : ByteArray} {f : Fr} {k' n' : Int} {s' : ByteArray} {g : Fr} {d d' : Int} (h : shapeT k n s f d = true) (h' : shapeT k' n' s' g d' = true) (hc : f.len = g.len → (cmpF f g = 0 ↔ eqF f g = true)) :
    cmpT k n s f k' n' s' g = 0 ↔ eqT k n s f k' n' s' g = true := by
  have r := shapeT_kind h
  have r' := shapeT_kind h'
  have hz := lessI_zero
  unfold cmpT cmpH eqT
  simp only [Bool.and_eq_true, beq_iff_eq]
  by_cases e : k = 3
  · by_cases e' : k' = 3
    · subst e e'
      obtain ⟨rfl, _⟩ := shapeT_struct h
      obtain ⟨rfl, _⟩ := shapeT_struct h'
      by_cases el : f.len = g.len
      · rw [if_pos (show rankT 3 f.len = rankT 3 g.len by rw [el]), if_pos rfl, if_pos (by rw [el])]
        have hn : s.toList = s'.toList ↔ s.data.toList = s'.data.toList := by rw [ByteArray.toList_eq, ByteArray.toList_eq]
        have hl := lessS_zero s s'
        rw [beq_iff_eq] at hl
        by_cases en : s.toList = s'.toList
        · rw [if_pos en, hc el]
          constructor
          · intro h; exact ⟨rfl, rfl, hn.1 en, h⟩
          · rintro ⟨_, _, _, h⟩; exact h
        · rw [if_neg en, hl]
          constructor
          · intro h; exact absurd h en
          · rintro ⟨_, _, h, _⟩; exact absurd (hn.2 h) en
      · have hne : ¬ eqF f g = true := fun h => el (eqF_len f g h)
        by_cases er : rankT 3 f.len = rankT 3 g.len
        · rw [if_pos er, if_pos rfl, if_neg el, hz]
          constructor
          · intro h; omega
          · rintro ⟨_, _, _, h⟩; exact absurd h hne
        · rw [if_neg er, hz]
          constructor
          · intro h; exact absurd h er
          · rintro ⟨_, _, _, h⟩; exact absurd h hne
    · subst e
      have hr : rankT 3 f.len ≠ rankT k' g.len := by
        unfold rankT
        rw [if_neg (show ¬ (k' = 3 ∧ 0 < g.len) from fun h => e' h.1)]
        split <;> omega
      rw [if_neg hr, hz]
      constructor
      · intro h; exact absurd h hr
      · rintro ⟨h, _⟩; exact absurd h.symm e'
  · obtain ⟨rfl, rfl, _⟩ := shapeT_leaf h e
    have q : rankT k Fr.nil.len = k := by unfold rankT; rw [if_neg (fun h => e h.1)]
    by_cases e' : k' = 3
    · subst e'
      have hr : rankT k Fr.nil.len ≠ rankT 3 g.len := by
        rw [q]
        unfold rankT
        split <;> omega
      rw [if_neg hr, hz]
      constructor
      · intro h; exact absurd h hr
      · rintro ⟨h, _⟩; exact absurd h e
    · obtain ⟨rfl, rfl, _⟩ := shapeT_leaf h' e'
      have q' : rankT k' Fr.nil.len = k' := by unfold rankT; rw [if_neg (fun h => e' h.1)]
      rw [q, q']
      by_cases ek : k = k'
      · rw [if_pos ek, if_neg e, hz]
        constructor
        · intro h; exact ⟨ek, h, rfl, rfl⟩
        · rintro ⟨_, h, _⟩; exact h
      · rw [if_neg ek, hz]
        constructor
        · intro h; exact absurd h ek
        · rintro ⟨h, _⟩; exact absurd h ek
theorem cmpF_zero (f : Fr) : ∀ (g : Fr) (d d' : Int), shapeF f d = true → shapeF g d' = true → f.len = g.len → (cmpF f g = 0 ↔ eqF f g = true) := by
  induction f with
  | nil =>
    intro g d d' _ _ hl
    cases g with
    | nil => exact ⟨fun _ => rfl, fun _ => rfl⟩
    | cons _ _ _ _ _ => simp [Fr.len] at hl
  | cons k n s kids rest ihk ihr =>
    intro g d d' hf hg hl
    cases g with
    | nil => simp [Fr.len] at hl
    | cons k' n' s' kids' rest' =>
      rw [shapeF_cons, Bool.and_eq_true] at hf hg
      simp only [Fr.len] at hl
      have h1 := cmpH_zero hf.1 hg.1 fun hl => ihk kids' (d - 1) (d' - 1) (shapeT_kids hf.1) (shapeT_kids hg.1) hl
      have h2 := ihr rest' d d' hf.2 hg.2 (by omega)
      rw [cmpF_cons]
      have e : eqF (.cons k n s kids rest) (.cons k' n' s' kids' rest') = (eqT k n s kids k' n' s' kids' && eqF rest rest') := by simp only [eqF, eqT, Bool.and_assoc]
      rw [e, Bool.and_eq_true]
      split
      · rename_i h
        rw [h2]
        exact ⟨fun h' => ⟨h1.1 h, h'⟩, fun h' => h'.2⟩
      · rename_i h
        exact ⟨fun h' => absurd h' h, fun h' => absurd (h1.2 h'.1) h⟩
/-- The comparison is 0 just where the terms are the same. -/
theorem cmpT_zero {k n : Int} {s : ByteArray} {f : Fr} {k' n' : Int} {s' : ByteArray} {g : Fr} {d d' : Int} (h : shapeT k n s f d = true) (h' : shapeT k' n' s' g d' = true) : (cmpT k n s f k' n' s' g == 0) = eqT k n s f k' n' s' g := by
  rw [Bool.eq_iff_iff, beq_iff_eq]
  exact cmpH_zero h h' fun hl => cmpF_zero f g (d - 1) (d' - 1) (shapeT_kids h) (shapeT_kids h') hl
end Go.Proofs.YtplledmhbbmgiaaDoor

/- impl.nodesOf with the row that it makes; shapes of renamed terms. Condition: the row lies in memory, the table of signs in its variable. -/
import Derived.Test.YtplledmhbbmgiaaDoorProg
import Derived.Test.YtplledmhbbmgiaaDoorAll
import Derived.Test.YtplledmhbbmgiaaDoorNumP
import Derived.Test.YtplledmhbbmgiaaDoorSpecR
import Derived.Test.YtplledmhbbmgiaaDoorTermOf
namespace Go.Proofs.YtplledmhbbmgiaaDoor
open Go.RowKit

theorem shape_of_valid {k n : Int} {s : ByteArray} {f : Fr} (h : validT k n s f = true) : shapeT k n s f 30 = true := by
  unfold validT at h
  rw [Bool.and_eq_true] at h
  exact h.1

/-- What nodesOf answers. -/
def NodesRes2 (w : World) (f : Fr) (e : Ending) (w' : World) : Prop :=
  Below w.heap.size w w' ∧ ((allV f = true ∧ e = .returned (.tuple #[.slice (some ⟨w.heap.size, 0, none⟩) f.len f.len, .bool true]) ∧ NPart w f w.heap.size f.len w') ∨ (allV f = false ∧ e = .returned (.tuple #[.slice none 0 0, .bool false])))
theorem nodup_len (N : Nat) : ∀ l : List Int, l.Nodup → (∀ x ∈ l, 0 ≤ x ∧ x < N) → l.length ≤ N := by
  induction N with
  | zero =>
    intro l _ h
    cases l with
    | nil => exact Nat.le_refl _
    | cons x _ => have := h x (by simp); omega
  | succ N ih =>
    intro l hn h
    have h1 := ih (l.erase (N : Int)) (hn.erase _) fun x hx => by
      have h2 := (hn.mem_erase_iff).1 hx
      have h3 := h x h2.2
      have h4 := h2.1
      omega
    rw [List.length_erase] at h1
    split at h1 <;> omega
theorem vars_range (f : Fr) : ∀ (d : Int) (acc : List Int), shapeF f d = true → (∀ x ∈ acc, 0 ≤ x ∧ x < (26 : Nat)) → ∀ x ∈ varsF acc f, 0 ≤ x ∧ x < (26 : Nat) := by
  induction f with
  | nil => intro d acc _ h; exact h
  | cons k n s kids rest ihk ihr =>
    intro d acc hs h
    rw [shapeF_cons, Bool.and_eq_true] at hs
    simp only [varsF]
    refine ihr d _ hs.2 ?_
    split
    · rename_i hk
      subst hk
      have h0 := hs.1
      unfold shapeT ownB at h0
      simp only [Bool.and_eq_true, Bool.or_eq_true, decide_eq_true_eq, beq_iff_eq] at h0
      unfold addV
      split
      · exact h
      · intro x hx
        rcases List.mem_append.1 hx with hx | hx
        · exact h x hx
        · have : x = n := by simpa using hx
          omega
    · exact ihk _ _ (shapeT_kids hs.1) h
theorem shapeF_ren (V : List Int) (hV : V.length ≤ 26) (f : Fr) : ∀ d, shapeF f d = true → shapeF (renF V f) d = true := by
  induction f with
  | nil => intro d h; exact h
  | cons k n s kids rest ihk ihr =>
    intro d hs
    rw [shapeF_cons, Bool.and_eq_true] at hs
    simp only [renF]
    rw [shapeF_cons, Bool.and_eq_true]
    refine ⟨?_, ihr d hs.2⟩
    have hk := ihk _ (shapeT_kids hs.1)
    have h0 := hs.1
    unfold shapeT ownB at h0 ⊢
    simp only [Bool.and_eq_true, Bool.or_eq_true, decide_eq_true_eq, beq_iff_eq, renF_len] at h0 ⊢
    refine ⟨h0.1, ?_, hk⟩
    by_cases h1 : k = 1
    · have hr : 0 ≤ renN V k n ∧ renN V k n ≤ 25 := by
        unfold renN
        split
        · rename_i hh
          have := List.idxOf_lt_length_iff.2 hh.2
          omega
        · omega
      rcases h0.2.1 with (h | h) | h
      · exact .inl (.inl ⟨h.1, ⟨⟨hr, h.2.1.2⟩, h.2.2⟩⟩)
      · omega
      · omega
    · have e : renN V k n = n := by unfold renN; rw [if_neg (fun e => h1 e.1)]
      rw [e]
      exact h0.2.1
theorem allV_shape (f : Fr) (h : allV f = true) : shapeF f 30 = true := by
  induction f with
  | nil => rfl
  | cons k n s kids rest _ ihr =>
    simp only [allV, Bool.and_eq_true] at h
    rw [shapeF_cons, Bool.and_eq_true]
    exact ⟨shape_of_valid h.1, ihr h.2⟩
theorem allVars_small (f : Fr) (h : allV f = true) : (allVars f).length ≤ 26 := by
  unfold allVars
  exact nodup_len 26 _ (varsF_nodup f [] List.nodup_nil) (vars_range f 30 [] (allV_shape f h) fun x hx => by simp at hx)

end Go.Proofs.YtplledmhbbmgiaaDoor

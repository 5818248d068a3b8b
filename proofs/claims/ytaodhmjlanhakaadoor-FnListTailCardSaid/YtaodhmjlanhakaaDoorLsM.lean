/- Lists: a valid list is the chain of its elements; its elements are valid. No condition. -/
import Derived.Test.YtaodhmjlanhakaaDoorProg
import Derived.Test.YtaodhmjlanhakaaDoorMakeL
namespace Go.Proofs.YtaodhmjlanhakaaDoor
open Go.RowKit

def brk : ByteArray := ⟨#[91, 93]⟩
theorem bytes_of {s : ByteArray} {t : ByteArray} (h : s.data.toList = t.data.toList) : s = t := by
  cases s; cases t; congr 1; exact Array.toList_inj.1 h
theorem pairB_is {k : Int} {s : ByteArray} {len : Nat} (h : pairB k s len = true) : k = 3 ∧ s = dot := by
  unfold pairB dotB at h
  simp only [Bool.and_eq_true, beq_iff_eq] at h
  exact ⟨h.1, bytes_of h.2.1⟩
theorem nilB_is {k : Int} {s : ByteArray} {f : Fr} (h : nilB k s f.len = true) : k = 3 ∧ s = brk ∧ f = .nil := by
  unfold nilB emptyB at h
  simp only [Bool.and_eq_true, beq_iff_eq] at h
  refine ⟨h.1, bytes_of h.2.1, ?_⟩
  cases f with
  | nil => rfl
  | cons _ _ _ _ _ => simp [Fr.len] at h
theorem listB_next {k n k2 n2 : Int} {s s2 : ByteArray} {f f2 : Fr} (h : tails k n s f = tails k2 n2 s2 f2) : listB k n s f = listB k2 n2 s2 f2 := by unfold listB; rw [h]
/-- A list that is well-formed is the chain of its elements. -/
theorem chain_fronts (f : Fr) : ∀ (k n : Int) (s : ByteArray) (d : Int), shapeT k n s f d = true → listB k n s f = true → chain (fronts k s f) (.cons 3 0 brk .nil .nil) = .cons k n s f .nil := by
  have one : ∀ (f : Fr) (k n : Int) (s : ByteArray) (d : Int), pairB k s f.len = false → shapeT k n s f d = true → listB k n s f = true → chain (fronts k s f) (.cons 3 0 brk .nil .nil) = .cons k n s f .nil := by
    intro f k n s d hp h hl
    obtain ⟨h1, h2⟩ := pair_no n hp
    have h3 : nilB k s f.len = true := by
      unfold listB at hl
      rw [h2] at hl
      exact hl
    obtain ⟨rfl, rfl, rfl⟩ := nilB_is h3
    obtain ⟨rfl, _⟩ := shapeT_struct h
    rw [h1]; rfl
  have all : ∀ N : Nat, ∀ f : Fr, f.size ≤ N → ∀ (k n : Int) (s : ByteArray) (d : Int), shapeT k n s f d = true → listB k n s f = true → chain (fronts k s f) (.cons 3 0 brk .nil .nil) = .cons k n s f .nil := by
    intro N
    induction N with
    | zero =>
      intro f hf k n s d h hl
      cases f with
      | nil =>
        refine one _ k n s d ?_ h hl
        unfold pairB
        simp [Fr.len]
      | cons _ _ _ _ _ => simp [Fr.size] at hf
    | succ N ih =>
      intro f hf k n s d h hl
      cases hp : pairB k s f.len
      · exact one f k n s d hp h hl
      · obtain ⟨k1, n1, s1, kd1, k2, n2, s2, kd2, rfl, hfr, ht⟩ := pair_yes n hp
        obtain ⟨rfl, rfl⟩ := pairB_is hp
        obtain ⟨rfl, _⟩ := shapeT_struct h
        have h1 := shapeT_kids h
        rw [shapeF_cons, shapeF_cons, Bool.and_eq_true, Bool.and_eq_true] at h1
        simp only [Fr.size] at hf
        rw [hfr]
        show Fr.cons 3 0 dot (.cons k1 n1 s1 kd1 (chain (fronts k2 s2 kd2) (.cons 3 0 brk .nil .nil))) .nil = _
        rw [ih kd2 (by omega) k2 n2 s2 (d - 1) h1.2.1 (by rw [← listB_next ht]; exact hl)]
  exact all f.size f (Nat.le_refl _)
theorem allV_of (f : Fr) (h : shapeF f 30 = true) (hn : nodes f ≤ 119) : allV f = true := by
  induction f with
  | nil => rfl
  | cons k n s kids rest _ ih =>
    rw [shapeF_cons, Bool.and_eq_true] at h
    simp only [nodes] at hn
    unfold allV validT
    rw [h.1, ih h.2 (by omega), decide_eq_true (by omega)]
    rfl
theorem valid_brk : validT 3 0 brk .nil = true := by decide
/-- What MakeList makes of a list's elements is the list. -/
theorem make_fronts {k n : Int} {s : ByteArray} {f : Fr} (hv : validT k n s f = true) (hl : listB k n s f = true) :
    mlB (fronts k s f) 3 0 brk .nil = true ∧ mlF (fronts k s f) 3 0 brk .nil = .cons k n s f .nil := by
  have hs := validT_shape hv
  have hn := validT_nodes hv
  have hc := chain_fronts f k n s 30 hs hl
  have hfn := fronts_nodes k s f
  have hfl := len_le_nodes (fronts k s f)
  have hb : mlB (fronts k s f) 3 0 brk .nil = true := by
    unfold mlB
    rw [hc, decide_eq_true (by omega), allV_of _ (shape_fronts k n s f 30 hs) (by omega), valid_brk]
    show validT k n s f = true
    exact hv
  refine ⟨hb, ?_⟩
  unfold mlF
  rw [if_pos hb, hc]
theorem eqT_same (k n : Int) (s : ByteArray) (f : Fr) : eqT k n s f k n s f = true := by
  unfold eqT
  rw [eqF_refl]
  simp
end Go.Proofs.YtaodhmjlanhakaaDoor

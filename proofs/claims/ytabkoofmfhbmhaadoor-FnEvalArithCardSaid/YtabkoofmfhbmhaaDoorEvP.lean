/- Values of terms: plain facts for the laws of arithmetic. No condition. -/
import Derived.Test.YtabkoofmfhbmhaaDoorProg
import Derived.Test.YtabkoofmfhbmhaaDoorEvS
namespace Go.Proofs.YtabkoofmfhbmhaaDoor
open Go.RowKit

theorem rg_zero {n : Int} (h : (rg n).2 ≠ 0) : (rg n).1 = 0 := by
  unfold rg at h ⊢
  split
  · rfl
  · rename_i hc; rw [if_neg hc] at h; exact absurd rfl h
theorem opV_zero {o : Nat} {a b : Int} (h : (opV o a b).2 ≠ 0) : (opV o a b).1 = 0 := by
  unfold opV at h ⊢
  split
  · rename_i hc; rw [if_pos hc] at h; exact rg_zero h
  · rename_i hc
    rw [if_neg hc] at h
    split
    · rename_i hc; rw [if_pos hc] at h; exact rg_zero h
    · rename_i hc
      rw [if_neg hc] at h
      split
      · rename_i hc; rw [if_pos hc] at h; exact rg_zero h
      · rename_i hc
        rw [if_neg hc] at h
        split
        · rfl
        · rename_i hc
          rw [if_neg hc] at h
          split
          · rename_i hc; rw [if_pos hc] at h; exact absurd rfl h
          · rename_i hc; rw [if_neg hc] at h; exact absurd rfl h
theorem evF_zero (s : ByteArray) (f : Fr) (h : (evF s f).2 ≠ 0) : (evF s f).1 = 0 := by
  by_cases h2 : f.len = 2
  · obtain ⟨k1, n1, s1, f1, k2, n2, s2, f2, rfl⟩ := two_of f h2
    rw [ev_two] at h ⊢
    split
    · rfl
    · rename_i hc
      rw [if_neg hc] at h
      split
      · rfl
      · rename_i hc
        rw [if_neg hc] at h
        split
        · rfl
        · rename_i hc
          rw [if_neg hc] at h
          exact opV_zero h
  · rw [ev_len s f h2]
theorem evK_zero {k n : Int} {r : Int × Int} (hr : r.2 ≠ 0 → r.1 = 0) (h : (evK k n r).2 ≠ 0) : (evK k n r).1 = 0 := by
  unfold evK at h ⊢
  split
  · rfl
  · rename_i hc
    rw [if_neg hc] at h
    split
    · rename_i hc; rw [if_pos hc] at h; exact absurd rfl h
    · rename_i hc; rw [if_neg hc] at h; exact hr h
/-- Where there is no value, it is 0. -/
theorem evT_zero (k n : Int) (s : ByteArray) (f : Fr) (h : (evT k n s f).2 ≠ 0) : (evT k n s f).1 = 0 := by
  unfold evT at h ⊢
  split
  · rename_i hc
    rw [if_pos hc] at h
    exact evK_zero (evF_zero s f) h
  · rfl
theorem evT_valid {k n : Int} {s : ByteArray} {f : Fr} (h : (evT k n s f).2 ≠ 6) : validT k n s f = true := by
  unfold evT at h
  split at h
  · assumption
  · exact absurd rfl h
theorem evT_of {k n : Int} {s : ByteArray} {f : Fr} (h : validT k n s f = true) : evT k n s f = evK k n (evF s f) := by
  unfold evT; rw [if_pos h]
/-- A value is small. -/
theorem evT_small (k n : Int) (s : ByteArray) (f : Fr) : Small (evT k n s f).1 := by
  unfold evT
  split
  · rename_i h
    have hs : shapeT k n s f 30 = true := by
      unfold validT at h
      rw [Bool.and_eq_true] at h
      exact h.1
    exact evK_small hs (ev_small _ s f (30 - 1) (Nat.le_refl _) (shapeT_kids hs))
  · exact ⟨by show (-999 : Int) ≤ 0; decide, by show (0 : Int) ≤ 999; decide⟩
/-- The value of an operation of two terms that have values. -/
theorem evT_op {s : ByteArray} {k1 n1 : Int} {s1 : ByteArray} {f1 : Fr} {k2 n2 : Int} {s2 : ByteArray} {f2 : Fr} {a b : Int} (h1 : evT k1 n1 s1 f1 = (a, 0)) (h2 : evT k2 n2 s2 f2 = (b, 0)) (h0 : arOp s.data.toList ≠ 0)
    (h6 : (evT 3 0 s (.cons k1 n1 s1 f1 (.cons k2 n2 s2 f2 .nil))).2 ≠ 6) : evT 3 0 s (.cons k1 n1 s1 f1 (.cons k2 n2 s2 f2 .nil)) = opV (arOp s.data.toList) a b := by
  have v1 := evT_valid (k := k1) (n := n1) (s := s1) (f := f1) (by rw [h1]; show (0 : Int) ≠ 6; decide)
  have v2 := evT_valid (k := k2) (n := n2) (s := s2) (f := f2) (by rw [h2]; show (0 : Int) ≠ 6; decide)
  rw [evT_of v1] at h1
  rw [evT_of v2] at h2
  rw [evT_of (evT_valid h6)]
  show evF s _ = _
  rw [ev_two, if_neg h0, h1, h2, if_neg (by simp), if_neg (by simp)]
theorem evT_int {d : Int} (h : Small d) : evT 2 d ⟨#[]⟩ .nil = (d, 0) := by
  unfold Small at h
  have hv : validT 2 d ⟨#[]⟩ .nil = true := by
    unfold validT shapeT ownB
    have h1 : decide (-999 ≤ d) = true := by simpa using h.1
    have h2 : decide (d ≤ 999) = true := by simpa using h.2
    rw [h1, h2]
    rfl
  rw [evT_of hv]
  rfl
end Go.Proofs.YtabkoofmfhbmhaaDoor

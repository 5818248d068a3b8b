/- Division: plain facts. No condition. -/
import Derived.Test.YtabkoofmfhbmhaaDoorProg
import Derived.Test.YtabkoofmfhbmhaaDoorEv
namespace Go.Proofs.YtabkoofmfhbmhaaDoor
open Go.RowKit

theorem sq_lt {r d : Int} (h : r.natAbs < d.natAbs) : r * r < d * d := by
  rw [← Int.natAbs_mul_self (a := r), ← Int.natAbs_mul_self (a := d)]
  have h1 := Nat.mul_self_lt_mul_self h
  exact_mod_cast h1
theorem tmod_lt {a d : Int} (h0 : d ≠ 0) : (a.tmod d).natAbs < d.natAbs := by
  rw [Int.natAbs_tmod]
  exact Nat.mod_lt _ (by omega)
theorem tmod_sign (a d : Int) : 0 ≤ a.tmod d * a := by
  rcases Int.le_total 0 a with h | h
  · exact Int.mul_nonneg (Int.tmod_nonneg d h) h
  · have h1 : 0 ≤ (-a).tmod d := Int.tmod_nonneg d (by omega)
    rw [Int.neg_tmod] at h1
    have h2 := Int.mul_nonneg h1 (show 0 ≤ -a by omega)
    rwa [Int.neg_mul_neg] at h2
theorem tdiv_eq (a d : Int) : a - a.tdiv d * d = a.tmod d := by
  rw [Int.tmod_def, Int.mul_comm]
theorem modV_lt {a d : Int} (h0 : d ≠ 0) : (modV a d).natAbs < d.natAbs := by
  have h1 := tmod_lt (a := a) h0
  unfold modV
  split
  · rename_i h
    obtain ⟨h3, h4⟩ := h
    by_cases h5 : a.tmod d < 0 <;> by_cases h6 : d < 0 <;> simp [h5, h6] at h4 <;> omega
  · exact h1
theorem modV_sign {a d : Int} (h0 : d ≠ 0) : 0 ≤ modV a d * d := by
  have h1 := tmod_lt (a := a) h0
  unfold modV
  split
  · rename_i h
    obtain ⟨h3, h4⟩ := h
    rcases Int.lt_or_lt_of_ne h0 with hd | hd
    · have h5 : ¬ a.tmod d < 0 := fun h => by simp [h, hd] at h4
      exact Int.mul_nonneg_of_nonpos_of_nonpos (by omega) (by omega)
    · have h5 : a.tmod d < 0 := by
        by_cases h5 : a.tmod d < 0
        · exact h5
        · have h6 : ¬ d < 0 := by omega
          simp [h5, h6] at h4
      exact Int.mul_nonneg (by omega) (by omega)
  · rename_i h
    rcases Int.lt_or_lt_of_ne h0 with hd | hd
    · have h5 : a.tmod d ≤ 0 := by
        rcases Int.lt_or_le 0 (a.tmod d) with h5 | h5
        · exact absurd ⟨by omega, by have h6 : ¬ a.tmod d < 0 := by omega
                                     simp [h6, hd]⟩ h
        · exact h5
      exact Int.mul_nonneg_of_nonpos_of_nonpos h5 (by omega)
    · have h5 : 0 ≤ a.tmod d := by
        rcases Int.lt_or_le (a.tmod d) 0 with h5 | h5
        · have h6 : ¬ d < 0 := by omega
          exact absurd ⟨by omega, by simp [h6, h5]⟩ h
        · exact h5
      exact Int.mul_nonneg h5 (by omega)
theorem modV_div (a d : Int) : (a - modV a d).tmod d = 0 := by
  have h := tdiv_eq a d
  unfold modV
  split
  · have e : a - (a.tmod d + d) = (a.tdiv d - 1) * d := by rw [Int.sub_mul]; omega
    rw [e]
    exact Int.mul_tmod_left ..
  · have e : a - a.tmod d = a.tdiv d * d := by omega
    rw [e]
    exact Int.mul_tmod_left ..
end Go.Proofs.YtabkoofmfhbmhaaDoor

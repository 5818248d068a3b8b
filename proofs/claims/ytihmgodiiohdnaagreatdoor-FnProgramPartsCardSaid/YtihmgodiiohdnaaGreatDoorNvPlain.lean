/- Names of atoms: the plain mathematics of NameValid. No condition. -/
import Derived.Lib.IndexBytes
namespace Go.Proofs.YtihmgodiiohdnaaGreatDoor.nv

/-- A lowercase letter. -/
def lowB (c : UInt8) : Bool := decide (97 ≤ c.toNat) && decide (c.toNat ≤ 122)
/-- How many bytes at the head are lowercase letters. -/
def lowN (l : List UInt8) : Nat := (l.takeWhile lowB).length
def wordB (l : List UInt8) : Bool := l.all lowB && decide (1 ≤ l.length) && decide (l.length ≤ 6)
/-- The names that consist of signs. -/
def signs : List (List UInt8) := [[43], [45], [42], [47, 47], [61], [92, 61], [61, 61], [60], [62], [61, 60], [62, 61], [61, 58, 61], [46], [91, 93], [33]]
def stepSign (l : List UInt8) (n : Nat) (p : List UInt8) : Nat := if n < p.length ∧ p.isPrefixOf l = true then p.length else n
def signN (l : List UInt8) (k : Nat) : Nat := (signs.take k).foldl (stepSign l) (lowN l)
def nameLen (l : List UInt8) : Nat := if 6 < lowN l then 0 else signN l 15
def nameB (l : List UInt8) : Bool := wordB l || signs.contains l

theorem lowN_le (l : List UInt8) : lowN l ≤ l.length := (List.takeWhile_sublist lowB (l := l)).length_le
theorem lowN_low (l : List UInt8) (k : Nat) (h : k < lowN l) : ∃ c, l[k]? = some c ∧ lowB c = true := by
  induction l generalizing k with
  | nil => simp [lowN] at h
  | cons x xs ih =>
    by_cases hx : lowB x = true
    · cases k with
      | zero => exact ⟨x, rfl, hx⟩
      | succ k =>
        have : k < lowN xs := by simp [lowN, hx] at h ⊢; omega
        simpa using ih k this
    · simp [lowN, hx] at h
theorem lowN_stop (l : List UInt8) (c : UInt8) (h : l[lowN l]? = some c) : lowB c = false := by
  induction l with
  | nil => simp at h
  | cons x xs ih =>
    by_cases hx : lowB x = true
    · have e : lowN (x :: xs) = lowN xs + 1 := by simp [lowN, hx]
      rw [e] at h
      exact ih (by simpa using h)
    · have e : lowN (x :: xs) = 0 := by simp [lowN, hx]
      rw [e] at h
      simp at h
      subst h
      simpa using hx
/-- Where k letters stand at the head, and behind them none, there are k. -/
theorem lowN_eq (l : List UInt8) (k : Nat) (_hk : k ≤ l.length) (h : ∀ j, j < k → ∃ c, l[j]? = some c ∧ lowB c = true) (hs : ∀ c, l[k]? = some c → lowB c = false) : lowN l = k := by
  rcases Nat.lt_trichotomy (lowN l) k with h1 | h1 | h1
  · obtain ⟨c, hc, hl⟩ := h _ h1
    rw [lowN_stop l c hc] at hl
    cases hl
  · exact h1
  · obtain ⟨c, hc, hl⟩ := lowN_low l k h1
    rw [hs c hc] at hl
    cases hl
theorem all_low (l : List UInt8) : l.all lowB = decide (lowN l = l.length) := by
  induction l with
  | nil => rfl
  | cons x xs ih =>
    by_cases hx : lowB x = true
    · have e : lowN (x :: xs) = lowN xs + 1 := by simp [lowN, hx]
      simp [List.all_cons, hx, ih, e]
    · have e : lowN (x :: xs) = 0 := by simp [lowN, hx]
      simp [List.all_cons, hx, e]
theorem stepSign_le (l p : List UInt8) (n : Nat) (h : n ≤ l.length) : stepSign l n p ≤ l.length := by
  unfold stepSign
  split
  · rename_i hh
    exact (List.isPrefixOf_iff_prefix.1 hh.2).length_le
  · exact h
theorem stepSign_ge (l p : List UInt8) (n : Nat) : n ≤ stepSign l n p := by
  unfold stepSign
  split <;> omega
theorem fold_le (l : List UInt8) (ps : List (List UInt8)) (n : Nat) (h : n ≤ l.length) : ps.foldl (stepSign l) n ≤ l.length := by
  induction ps generalizing n with
  | nil => exact h
  | cons p ps ih => exact ih _ (stepSign_le l p n h)
theorem fold_ge (l : List UInt8) (ps : List (List UInt8)) (n : Nat) : n ≤ ps.foldl (stepSign l) n := by
  induction ps generalizing n with
  | nil => exact Nat.le_refl _
  | cons p ps ih => exact Nat.le_trans (stepSign_ge l p n) (ih _)
/-- The fold reaches the whole length just where it began there, or a sign is the whole. -/
theorem fold_eq (l : List UInt8) (ps : List (List UInt8)) (n : Nat) (hn : n ≤ l.length) : ps.foldl (stepSign l) n = l.length ↔ n = l.length ∨ l ∈ ps := by
  induction ps generalizing n with
  | nil => simp
  | cons p ps ih =>
    rw [List.foldl_cons, ih _ (stepSign_le l p n hn)]
    have key : stepSign l n p = l.length ↔ n = l.length ∨ l = p := by
      unfold stepSign
      constructor
      · split
        · rename_i hh
          intro hl
          have := (List.isPrefixOf_iff_prefix.1 hh.2).eq_of_length hl
          exact .inr this.symm
        · exact .inl
      · rintro (h | h)
        · rw [if_neg]; exact h
          rintro ⟨h1, h2⟩
          have := (List.isPrefixOf_iff_prefix.1 h2).length_le
          omega
        · subst h
          split
          · rfl
          · rename_i hh
            have : ¬ n < l.length := fun hlt => hh ⟨hlt, by simp⟩
            omega
    rw [key]
    simp [or_assoc]
theorem sign_short (l : List UInt8) (h : l ∈ signs) : lowN l ≤ 6 := by
  have : ∀ x ∈ signs, lowN x ≤ 6 := by decide
  exact this l h
theorem sign_pos (l : List UInt8) (h : l ∈ signs) : l ≠ [] := by
  have : ∀ x ∈ signs, x ≠ [] := by decide
  exact this l h
/-- The two ways to say what a name is agree. -/
theorem name_agree (l : List UInt8) : (decide (l ≠ []) && decide (nameLen l = l.length)) = nameB l := by
  have hle := lowN_le l
  unfold nameB wordB nameLen
  rw [all_low]
  by_cases h0 : l = []
  · subst h0; decide
  · have hp : 1 ≤ l.length := by cases l with | nil => exact absurd rfl h0 | cons _ _ => simp
    by_cases h6 : 6 < lowN l
    · have hns : l ∉ signs := fun hm => by have := sign_short l hm; omega
      have e1 : decide (l ≠ []) = true := by simpa using h0
      have e2 : decide (0 = l.length) = false := by simp; omega
      have e3 : signs.contains l = false := by simpa using hns
      have e4 : (decide (lowN l = l.length) && decide (1 ≤ l.length) && decide (l.length ≤ 6)) = false := by
        rcases Nat.lt_or_ge 6 l.length with h | h
        · have : decide (l.length ≤ 6) = false := by simp; omega
          rw [this, Bool.and_false]
        · omega
      rw [if_pos h6, e1, e2, e3, e4]; rfl
    · have hf := fold_eq l signs (lowN l) hle
      have ht : signN l 15 = signs.foldl (stepSign l) (lowN l) := rfl
      rw [if_neg h6, ht]
      rw [Bool.eq_iff_iff]
      simp only [Bool.and_eq_true, Bool.or_eq_true, decide_eq_true_eq, List.contains_iff_mem]
      constructor
      · rintro ⟨_, h⟩
        rcases hf.1 h with h | h
        · exact .inl ⟨⟨h, hp⟩, by omega⟩
        · exact .inr h
      · rintro (⟨⟨h, _⟩, _⟩ | h)
        · exact ⟨h0, hf.2 (.inl h)⟩
        · exact ⟨h0, hf.2 (.inr h)⟩
theorem nameLen_le (l : List UInt8) : nameLen l ≤ l.length := by
  unfold nameLen
  split
  · omega
  · exact fold_le l _ _ (lowN_le l)
theorem signN_le (l : List UInt8) (k : Nat) : signN l k ≤ l.length := fold_le l _ _ (lowN_le l)
theorem signN_succ (l : List UInt8) (k : Nat) (h : k < 15) : signN l (k + 1) = stepSign l (signN l k) (signs.getD k []) := by
  unfold signN
  have hk : k < signs.length := h
  rw [List.take_succ_eq_append_getElem hk, List.foldl_append]
  simp [List.getD, hk]
theorem signN_zero (l : List UInt8) : signN l 0 = lowN l := rfl
/-- The signs as the program's strings. -/
def signB : List ByteArray := signs.map fun l => ⟨l.toArray⟩
theorem signB_at (k : Nat) (h : k < 15) : (signB.getD k ByteArray.empty).data.toList = signs.getD k [] := by
  have hk : k < signs.length := h
  simp [signB, List.getD, hk]
theorem signB_size (k : Nat) (h : k < 15) : (signB.getD k ByteArray.empty).size = (signs.getD k []).length := by
  rw [← signB_at k h]; rfl
theorem signs_small (k : Nat) : (signs.getD k []).length ≤ 3 := by
  by_cases h : k < 15
  · have : ∀ j, j < 15 → (signs.getD j []).length ≤ 3 := by decide
    exact this k h
  · have e : signs[k]? = none := List.getElem?_eq_none (by show 15 ≤ k; omega)
    simp [List.getD, e]
end Go.Proofs.YtihmgodiiohdnaaGreatDoor.nv

/- The model's reader as plain data: what is read is not empty and ends within the text. No condition. -/
import Derived.Test.YtihmgodiiohdnaaGreatDoorProg
import Derived.Test.YtihmgodiiohdnaaGreatDoorRpl
namespace Go.Proofs.YtihmgodiiohdnaaGreatDoor.rdr
open Go.RowKit

theorem atB_lt {p : UInt8 → Bool} {s : ByteArray} {i : Nat} (h : atB p s.data.toList i = true) : i < s.size := by
  rcases Nat.lt_or_ge i s.size with h1 | h1
  · exact h1
  · rw [atB_none (by exact h1)] at h
    cases h
theorem bA_lt {s : ByteArray} {i : Nat} {x : Int} (h : bA s i x = true) : i < s.size := atB_lt h
theorem opA_prog {s : ByteArray} {a f : Nat} {sp : Bool} (hf : a ≤ f) (h : (opA s a sp f).1.size ≠ 0) : a < (opA s a sp f).2 ∧ (opA s a sp f).2 ≤ s.size := by
  have hn := nmN_le s f
  unfold opA at h ⊢
  split at h
  · exact absurd rfl h
  · rename_i h1
    rw [if_neg h1]
    split at h
    · exact absurd rfl h
    · rename_i h2
      rw [if_neg h2]
      split at h
      · exact absurd rfl h
      · rename_i h3
        rw [if_neg h3]
        split at h
        · exact absurd rfl h
        · rename_i h4
          rw [if_neg h4]
          split at h
          · exact absurd rfl h
          · rename_i h5
            rw [if_neg h5]
            by_cases hw : isW (nmS s f) = true
            · have h6 : atB (sgC 32) s.data.toList (f + nmN s f) = true := by
                cases h7 : atB (sgC 32) s.data.toList (f + nmN s f) with
                | true => rfl
                | false => exact absurd ⟨hw, h7⟩ h5
              have := atB_lt h6
              simp only [hw, if_true]
              omega
            · simp only [hw]
              simp
              omega
theorem opR_prog {s : ByteArray} {a : Nat} (h : (opR s a).1.size ≠ 0) : a < (opR s a).2 ∧ (opR s a).2 ≤ s.size := by
  unfold opR at h ⊢
  split at h
  · rename_i h1
    rw [if_pos h1]
    exact opA_prog (by omega) h
  · rename_i h1
    rw [if_neg h1]
    exact opA_prog (Nat.le_refl _) h
theorem nu_prog {s : ByteArray} {a : Nat} (h : nuK (nuG s.data.toList a) (nuB s.data.toList (nuF s.data.toList a)) = true) : a < nuF s.data.toList a + nuD s.data.toList (nuF s.data.toList a) ∧ nuF s.data.toList a + nuD s.data.toList (nuF s.data.toList a) ≤ s.size := by
  have h1 : a ≤ nuF s.data.toList a := by unfold nuF; split <;> omega
  unfold nuK okN at h
  simp only [Bool.and_eq_true, decide_eq_true_eq] at h
  have h2 := h.1.1
  generalize nuF s.data.toList a = f at *
  have h3 : nuL s.data.toList f ≤ s.size - f := by
    have h4 := (List.takeWhile_sublist dgC (l := s.data.toList.drop f)).length_le
    rw [List.length_drop] at h4
    exact h4
  unfold nuB at h2
  rw [List.length_take, List.length_drop] at h2
  have h5 : s.data.toList.length = s.size := rfl
  have h6 : nuD s.data.toList f ≤ nuL s.data.toList f := by unfold nuD; omega
  omega

theorem rd_prog (n : Nat) : (∀ s a dp lv t e, rdT n s a dp lv = some (t, e) → a < e ∧ e ≤ s.size) ∧ (∀ s dp lv t0 e0 t e, rdL n s dp lv t0 e0 = some (t, e) → e0 ≤ s.size → e0 ≤ e ∧ e ≤ s.size) ∧
    (∀ s a dp t e, rdP n s a dp = some (t, e) → a < e ∧ e ≤ s.size) ∧ (∀ s a dp x y acc f e, rdS n s a dp x y acc = some (f, e) → a < e ∧ e < s.size) ∧ (∀ s a dp t e, rdI n s a dp = some (t, e) → a < e ∧ e ≤ s.size) := by
  induction n with
  | zero =>
    refine ⟨?_, ?_, ?_, ?_, ?_⟩
    · intro s a dp lv t e h; rw [rdT] at h; cases h
    · intro s dp lv t0 e0 t e h; rw [rdL] at h; cases h
    · intro s a dp t e h; rw [rdP] at h; cases h
    · intro s a dp x y acc f e h; rw [rdS] at h; cases h
    · intro s a dp t e h; rw [rdI] at h; cases h
  | succ n ih =>
    obtain ⟨iT, iL, iP, iS, iI⟩ := ih
    refine ⟨?_, ?_, ?_, ?_, ?_⟩
    · intro s a dp lv t e h
      cases lv with
      | zero => rw [rdT] at h; exact iP _ _ _ _ _ h
      | succ lv =>
        rw [rdT] at h
        cases hq : rdT n s a dp lv with
        | none => rw [hq] at h; cases h
        | some r =>
          obtain ⟨t1, e1⟩ := r
          rw [hq] at h
          have h1 := iT _ _ _ _ _ _ hq
          have h2 := iL _ _ _ _ _ _ _ h h1.2
          omega
    · intro s dp lv t0 e0 t e h h0
      rw [rdL] at h
      split at h
      · injection h with h
        injection h with _ h
        omega
      · rename_i hc
        have hp := opR_prog (s := s) (a := e0) (fun hz => hc (.inl hz))
        cases hq : rdT n s (opR s e0).2 dp (lv - 1) with
        | none => rw [hq] at h; cases h
        | some r =>
          obtain ⟨r1, e2⟩ := r
          rw [hq] at h
          have h1 := iT _ _ _ _ _ _ hq
          simp only at h
          split at h
          · injection h with h
            injection h with _ h
            omega
          · have h2 := iL _ _ _ _ _ _ _ h h1.2
            omega
    · intro s a dp t e h
      rw [rdP] at h
      split at h
      · cases h
      · split at h
        · cases hq : rdT n s (a + 1) dp 3 with
          | none => rw [hq] at h; cases h
          | some r =>
            obtain ⟨t1, e1⟩ := r
            rw [hq] at h
            have h1 := iT _ _ _ _ _ _ hq
            simp only at h
            split at h
            · rename_i hb
              have := bA_lt hb
              injection h with h
              injection h with _ h
              omega
            · cases h
        · split at h
          · have := iI _ _ _ _ _ h
            omega
          · split at h
            · rename_i hb
              have := atB_lt hb
              injection h with h
              injection h with _ h
              omega
            · split at h
              · split at h
                · rename_i hb
                  have := nu_prog hb
                  injection h with h
                  injection h with _ h
                  omega
                · cases h
              · split at h
                · cases h
                · rename_i hz
                  have hn := nmN_le s a
                  split at h
                  · injection h with h
                    injection h with _ h
                    omega
                  · cases hq : rdS n s (a + nmN s a + 1) (dp - 1) 41 41 .nil with
                    | none => rw [hq] at h; cases h
                    | some r =>
                      obtain ⟨f1, e1⟩ := r
                      rw [hq] at h
                      have h1 := iS _ _ _ _ _ _ _ _ hq
                      injection h with h
                      injection h with _ h
                      omega
    · intro s a dp x y acc f e h
      rw [rdS] at h
      cases hq : rdT n s a dp 3 with
      | none => rw [hq] at h; cases h
      | some r =>
        obtain ⟨t1, e1⟩ := r
        rw [hq] at h
        have h1 := iT _ _ _ _ _ _ hq
        simp only at h
        split at h
        · rename_i hb
          have : e1 < s.size := hb.elim bA_lt bA_lt
          injection h with h
          injection h with _ h
          omega
        · split at h
          · cases h
          · have := iS _ _ _ _ _ _ _ _ h
            omega
    · intro s a dp t e h
      rw [rdI] at h
      cases hq : rdS n s a dp 93 124 .nil with
      | none => rw [hq] at h; cases h
      | some r =>
        obtain ⟨f1, e1⟩ := r
        rw [hq] at h
        have h1 := iS _ _ _ _ _ _ _ _ hq
        simp only at h
        split at h
        · injection h with h
          injection h with _ h
          omega
        · cases hq2 : rdT n s (e1 + 1) dp 3 with
          | none => rw [hq2] at h; cases h
          | some r2 =>
            obtain ⟨t2, e2⟩ := r2
            rw [hq2] at h
            have h2 := iT _ _ _ _ _ _ hq2
            simp only at h
            split at h
            · rename_i hb
              have := bA_lt hb
              injection h with h
              injection h with _ h
              omega
            · cases h
end Go.Proofs.YtihmgodiiohdnaaGreatDoor.rdr

/- spec.l8Instr, spec.FormatInstr. Condition: the name is no longer than the law's budget. -/
import Derived.Test.YtfdgmdijjifmiaaDoorProg
import Derived.Test.YtfdgmdijjifmiaaDoorNiS
import Derived.Test.YtfdgmdijjifmiaaDoorNiI
namespace Go.Proofs.YtfdgmdijjifmiaaDoor.ins
open Go.RowKit

set_option maxRecDepth 100000 in
set_option maxHeartbeats 4000000 in
/-- spec.l8Instr of an operation. -/
theorem instr_row (k : Nat) (hk : k < 14) (a b : Int) (s : ByteArray) (hs : s.size ≤ maxLen) (w : World) :
    Calls Tryd.prog 34 #[.agg #[.int .i64 ((k : Int) + 1), .int .i64 a, .int .i64 b, .string s]] w fun e w' => e = .returned (.bool (allB k ⟨(k : Int) + 1, a, b, s⟩)) ∧ Below w.heap.size w w' := by
  have C1 := fun w1 => shape_any k hk w1
  have C2 := fun w1 => nv.spec_any s w1 hs
  have HA : Hid (∀ v, (if a < -999 ∨ a > 999 ∨ b < 0 ∨ b > 999 then false
    else if (nu k < 1 ∧ a ≠ 0) ∨ (nu k < 2 ∧ b ≠ 0) then false
    else if nm k = true then nv.nameB s.data.toList else s.data.toList == []) = v → allB k ⟨(k : Int) + 1, a, b, s⟩ = v) := Lib.hid fun v h => by unfold allB; exact h
  have hnn := nu_nm k hk
  have HB0 : Hid (Below w.heap.size w (w.alloc (.cells #[.int .i64 ((k : Int) + 1), .int .i64 a, .int .i64 b, .string s] 26))) := Lib.hid ((Below.refl _ _).alloc (Nat.le_refl _) _)
  have hsz : s.size ≤ 9223372036854775807 := by unfold maxLen at hs; omega
  unfold shpK at C1
  generalize allB k ⟨(k : Int) + 1, a, b, s⟩ = r at *
  generalize nu k = u at *
  generalize nm k = z at *
  have H2 := Lib.hid C2
  clear C2 hs
  rcases hnn with ⟨rfl, rfl⟩ | ⟨rfl, rfl⟩ | ⟨rfl, rfl⟩ | ⟨rfl, rfl⟩ | ⟨rfl, rfl⟩
  · have H1 : Hid (∀ w1, Calls Tryd.prog 36 #[.int .i64 ((k : Int) + 1)] w1 fun e w' => e = .returned (.string ⟨#[97, 98]⟩) ∧ w' = w1) := Lib.hid C1
    clear C1
    by_cases h1 : a < -999
    · have HV : Hid (r = false) := Lib.hid (HA.out _ (if_pos (.inl h1)))
      go_enter Tryd.func34, Tryd.ntmps34
      go_wp2_with fail
      refine (H1.out _).mono ?_
      rintro e w2 ⟨rfl, rfl⟩
      go_wp2_with fail
      go_ret
      rw [HV.out]; exact ⟨rfl, HB0.out⟩
    by_cases h2 : a > 999
    · have HV : Hid (r = false) := Lib.hid (HA.out _ (if_pos (.inr (.inl h2))))
      go_enter Tryd.func34, Tryd.ntmps34
      go_wp2_with fail
      refine (H1.out _).mono ?_
      rintro e w2 ⟨rfl, rfl⟩
      go_wp2_with fail
      go_ret
      rw [HV.out]; exact ⟨rfl, HB0.out⟩
    by_cases h3 : b < 0
    · have HV : Hid (r = false) := Lib.hid (HA.out _ (if_pos (.inr (.inr (.inl h3)))))
      go_enter Tryd.func34, Tryd.ntmps34
      go_wp2_with fail
      refine (H1.out _).mono ?_
      rintro e w2 ⟨rfl, rfl⟩
      go_wp2_with fail
      go_ret
      rw [HV.out]; exact ⟨rfl, HB0.out⟩
    by_cases h4 : b > 999
    · have HV : Hid (r = false) := Lib.hid (HA.out _ (if_pos (.inr (.inr (.inr h4)))))
      go_enter Tryd.func34, Tryd.ntmps34
      go_wp2_with fail
      refine (H1.out _).mono ?_
      rintro e w2 ⟨rfl, rfl⟩
      go_wp2_with fail
      go_ret
      rw [HV.out]; exact ⟨rfl, HB0.out⟩
    have hn : ¬ (a < -999 ∨ a > 999 ∨ b < 0 ∨ b > 999) := by omega
    have hm : ¬ (((2 : Int) < 1 ∧ a ≠ 0) ∨ ((2 : Int) < 2 ∧ b ≠ 0)) := by omega
    by_cases hs0 : s.data.toList = []
    · have HV : Hid (r = true) := Lib.hid (HA.out _ (by rw [if_neg hn, if_neg hm, hs0]; rfl))
      have e2 : s.toList.isEmpty = true := by rw [ByteArray.toList_eq, hs0]; rfl
      clear hn hm HA hs0
      go_enter Tryd.func34, Tryd.ntmps34
      go_wp2_with fail
      refine (H1.out _).mono ?_
      rintro e w2 ⟨rfl, rfl⟩
      go_wp2_with fail
      go_ret
      rw [HV.out]; exact ⟨rfl, HB0.out⟩
    · have HV : Hid (r = false) := Lib.hid (HA.out _ (by rw [if_neg hn, if_neg hm]; simpa using hs0))
      have e2 : s.toList.isEmpty = false := by
        rw [ByteArray.toList_eq]
        cases hl : s.data.toList with
        | nil => exact absurd hl hs0
        | cons _ _ => rfl
      clear hn hm HA hs0
      go_enter Tryd.func34, Tryd.ntmps34
      go_wp2_with fail
      refine (H1.out _).mono ?_
      rintro e w2 ⟨rfl, rfl⟩
      go_wp2_with fail
      go_ret
      rw [HV.out]; exact ⟨rfl, HB0.out⟩
  · have H1 : Hid (∀ w1, Calls Tryd.prog 36 #[.int .i64 ((k : Int) + 1)] w1 fun e w' => e = .returned (.string ⟨#[97, 98, 110]⟩) ∧ w' = w1) := Lib.hid C1
    clear C1
    by_cases h1 : a < -999
    · have HV : Hid (r = false) := Lib.hid (HA.out _ (if_pos (.inl h1)))
      go_enter Tryd.func34, Tryd.ntmps34
      go_wp2_with fail
      refine (H1.out _).mono ?_
      rintro e w2 ⟨rfl, rfl⟩
      go_wp2_with fail
      go_ret
      rw [HV.out]; exact ⟨rfl, HB0.out⟩
    by_cases h2 : a > 999
    · have HV : Hid (r = false) := Lib.hid (HA.out _ (if_pos (.inr (.inl h2))))
      go_enter Tryd.func34, Tryd.ntmps34
      go_wp2_with fail
      refine (H1.out _).mono ?_
      rintro e w2 ⟨rfl, rfl⟩
      go_wp2_with fail
      go_ret
      rw [HV.out]; exact ⟨rfl, HB0.out⟩
    by_cases h3 : b < 0
    · have HV : Hid (r = false) := Lib.hid (HA.out _ (if_pos (.inr (.inr (.inl h3)))))
      go_enter Tryd.func34, Tryd.ntmps34
      go_wp2_with fail
      refine (H1.out _).mono ?_
      rintro e w2 ⟨rfl, rfl⟩
      go_wp2_with fail
      go_ret
      rw [HV.out]; exact ⟨rfl, HB0.out⟩
    by_cases h4 : b > 999
    · have HV : Hid (r = false) := Lib.hid (HA.out _ (if_pos (.inr (.inr (.inr h4)))))
      go_enter Tryd.func34, Tryd.ntmps34
      go_wp2_with fail
      refine (H1.out _).mono ?_
      rintro e w2 ⟨rfl, rfl⟩
      go_wp2_with fail
      go_ret
      rw [HV.out]; exact ⟨rfl, HB0.out⟩
    have hn : ¬ (a < -999 ∨ a > 999 ∨ b < 0 ∨ b > 999) := by omega
    have hm : ¬ (((2 : Int) < 1 ∧ a ≠ 0) ∨ ((2 : Int) < 2 ∧ b ≠ 0)) := by omega
    have HV : Hid (r = nv.nameB s.data.toList) := Lib.hid (HA.out _ (by rw [if_neg hn, if_neg hm]; rfl))
    clear hn hm HA
    generalize nv.nameB s.data.toList = v at *
    cases v
    all_goals
      go_enter Tryd.func34, Tryd.ntmps34
      go_wp2_with fail
      refine (H1.out _).mono ?_
      rintro e w2 ⟨rfl, rfl⟩
      go_wp2_with fail
      refine (H2.out _).mono ?_
      rintro e w3 ⟨rfl, hb3⟩
      have HB3 := Lib.hid (HB0.out.trans (hb3.mono HB0.out.size))
      clear hb3
      go_wp2_with fail
      go_ret
      rw [HV.out]; exact ⟨rfl, HB3.out⟩
  · have H1 : Hid (∀ w1, Calls Tryd.prog 36 #[.int .i64 ((k : Int) + 1)] w1 fun e w' => e = .returned (.string ⟨#[97]⟩) ∧ w' = w1) := Lib.hid C1
    clear C1
    by_cases h1 : a < -999
    · have HV : Hid (r = false) := Lib.hid (HA.out _ (if_pos (.inl h1)))
      go_enter Tryd.func34, Tryd.ntmps34
      go_wp2_with fail
      refine (H1.out _).mono ?_
      rintro e w2 ⟨rfl, rfl⟩
      go_wp2_with fail
      go_ret
      rw [HV.out]; exact ⟨rfl, HB0.out⟩
    by_cases h2 : a > 999
    · have HV : Hid (r = false) := Lib.hid (HA.out _ (if_pos (.inr (.inl h2))))
      go_enter Tryd.func34, Tryd.ntmps34
      go_wp2_with fail
      refine (H1.out _).mono ?_
      rintro e w2 ⟨rfl, rfl⟩
      go_wp2_with fail
      go_ret
      rw [HV.out]; exact ⟨rfl, HB0.out⟩
    by_cases h3 : b < 0
    · have HV : Hid (r = false) := Lib.hid (HA.out _ (if_pos (.inr (.inr (.inl h3)))))
      go_enter Tryd.func34, Tryd.ntmps34
      go_wp2_with fail
      refine (H1.out _).mono ?_
      rintro e w2 ⟨rfl, rfl⟩
      go_wp2_with fail
      go_ret
      rw [HV.out]; exact ⟨rfl, HB0.out⟩
    by_cases h4 : b > 999
    · have HV : Hid (r = false) := Lib.hid (HA.out _ (if_pos (.inr (.inr (.inr h4)))))
      go_enter Tryd.func34, Tryd.ntmps34
      go_wp2_with fail
      refine (H1.out _).mono ?_
      rintro e w2 ⟨rfl, rfl⟩
      go_wp2_with fail
      go_ret
      rw [HV.out]; exact ⟨rfl, HB0.out⟩
    have hn : ¬ (a < -999 ∨ a > 999 ∨ b < 0 ∨ b > 999) := by omega
    by_cases hb : b = 0
    · subst hb
      have hm : ¬ (((1 : Int) < 1 ∧ a ≠ 0) ∨ ((1 : Int) < 2 ∧ (0 : Int) ≠ 0)) := by omega
      by_cases hs0 : s.data.toList = []
      · have HV : Hid (r = true) := Lib.hid (HA.out _ (by rw [if_neg hn, if_neg hm, hs0]; rfl))
        have e2 : s.toList.isEmpty = true := by rw [ByteArray.toList_eq, hs0]; rfl
        clear hn hm HA hs0
        go_enter Tryd.func34, Tryd.ntmps34
        go_wp2_with fail
        refine (H1.out _).mono ?_
        rintro e w2 ⟨rfl, rfl⟩
        go_wp2_with fail
        go_ret
        rw [HV.out]; exact ⟨rfl, HB0.out⟩
      · have HV : Hid (r = false) := Lib.hid (HA.out _ (by rw [if_neg hn, if_neg hm]; simpa using hs0))
        have e2 : s.toList.isEmpty = false := by
          rw [ByteArray.toList_eq]
          cases hl : s.data.toList with
          | nil => exact absurd hl hs0
          | cons _ _ => rfl
        clear hn hm HA hs0
        go_enter Tryd.func34, Tryd.ntmps34
        go_wp2_with fail
        refine (H1.out _).mono ?_
        rintro e w2 ⟨rfl, rfl⟩
        go_wp2_with fail
        go_ret
        rw [HV.out]; exact ⟨rfl, HB0.out⟩
    · have HV : Hid (r = false) := Lib.hid (HA.out _ (by rw [if_neg hn, if_pos (.inr ⟨by decide, hb⟩)]))
      have t0 : (b == 0) = false := by simpa using hb
      clear hn HA hb
      go_enter Tryd.func34, Tryd.ntmps34
      go_wp2_with fail
      refine (H1.out _).mono ?_
      rintro e w2 ⟨rfl, rfl⟩
      go_wp2_with fail
      go_ret
      rw [HV.out]; exact ⟨rfl, HB0.out⟩
  · have H1 : Hid (∀ w1, Calls Tryd.prog 36 #[.int .i64 ((k : Int) + 1)] w1 fun e w' => e = .returned (.string ⟨#[97, 110]⟩) ∧ w' = w1) := Lib.hid C1
    clear C1
    by_cases h1 : a < -999
    · have HV : Hid (r = false) := Lib.hid (HA.out _ (if_pos (.inl h1)))
      go_enter Tryd.func34, Tryd.ntmps34
      go_wp2_with fail
      refine (H1.out _).mono ?_
      rintro e w2 ⟨rfl, rfl⟩
      go_wp2_with fail
      go_ret
      rw [HV.out]; exact ⟨rfl, HB0.out⟩
    by_cases h2 : a > 999
    · have HV : Hid (r = false) := Lib.hid (HA.out _ (if_pos (.inr (.inl h2))))
      go_enter Tryd.func34, Tryd.ntmps34
      go_wp2_with fail
      refine (H1.out _).mono ?_
      rintro e w2 ⟨rfl, rfl⟩
      go_wp2_with fail
      go_ret
      rw [HV.out]; exact ⟨rfl, HB0.out⟩
    by_cases h3 : b < 0
    · have HV : Hid (r = false) := Lib.hid (HA.out _ (if_pos (.inr (.inr (.inl h3)))))
      go_enter Tryd.func34, Tryd.ntmps34
      go_wp2_with fail
      refine (H1.out _).mono ?_
      rintro e w2 ⟨rfl, rfl⟩
      go_wp2_with fail
      go_ret
      rw [HV.out]; exact ⟨rfl, HB0.out⟩
    by_cases h4 : b > 999
    · have HV : Hid (r = false) := Lib.hid (HA.out _ (if_pos (.inr (.inr (.inr h4)))))
      go_enter Tryd.func34, Tryd.ntmps34
      go_wp2_with fail
      refine (H1.out _).mono ?_
      rintro e w2 ⟨rfl, rfl⟩
      go_wp2_with fail
      go_ret
      rw [HV.out]; exact ⟨rfl, HB0.out⟩
    have hn : ¬ (a < -999 ∨ a > 999 ∨ b < 0 ∨ b > 999) := by omega
    by_cases hb : b = 0
    · subst hb
      have hm : ¬ (((1 : Int) < 1 ∧ a ≠ 0) ∨ ((1 : Int) < 2 ∧ (0 : Int) ≠ 0)) := by omega
      have HV : Hid (r = nv.nameB s.data.toList) := Lib.hid (HA.out _ (by rw [if_neg hn, if_neg hm]; rfl))
      clear hn hm HA
      generalize nv.nameB s.data.toList = v at *
      cases v
      all_goals
        go_enter Tryd.func34, Tryd.ntmps34
        go_wp2_with fail
        refine (H1.out _).mono ?_
        rintro e w2 ⟨rfl, rfl⟩
        go_wp2_with fail
        refine (H2.out _).mono ?_
        rintro e w3 ⟨rfl, hb3⟩
        have HB3 := Lib.hid (HB0.out.trans (hb3.mono HB0.out.size))
        clear hb3
        go_wp2_with fail
        go_ret
        rw [HV.out]; exact ⟨rfl, HB3.out⟩
    · have HV : Hid (r = false) := Lib.hid (HA.out _ (by rw [if_neg hn, if_pos (.inr ⟨by decide, hb⟩)]))
      have t0 : (b == 0) = false := by simpa using hb
      clear hn HA hb
      go_enter Tryd.func34, Tryd.ntmps34
      go_wp2_with fail
      refine (H1.out _).mono ?_
      rintro e w2 ⟨rfl, rfl⟩
      go_wp2_with fail
      go_ret
      rw [HV.out]; exact ⟨rfl, HB0.out⟩
  · have H1 : Hid (∀ w1, Calls Tryd.prog 36 #[.int .i64 ((k : Int) + 1)] w1 fun e w' => e = .returned (.string ⟨#[]⟩) ∧ w' = w1) := Lib.hid C1
    clear C1
    by_cases h1 : a < -999
    · have HV : Hid (r = false) := Lib.hid (HA.out _ (if_pos (.inl h1)))
      go_enter Tryd.func34, Tryd.ntmps34
      go_wp2_with fail
      refine (H1.out _).mono ?_
      rintro e w2 ⟨rfl, rfl⟩
      go_wp2_with fail
      go_ret
      rw [HV.out]; exact ⟨rfl, HB0.out⟩
    by_cases h2 : a > 999
    · have HV : Hid (r = false) := Lib.hid (HA.out _ (if_pos (.inr (.inl h2))))
      go_enter Tryd.func34, Tryd.ntmps34
      go_wp2_with fail
      refine (H1.out _).mono ?_
      rintro e w2 ⟨rfl, rfl⟩
      go_wp2_with fail
      go_ret
      rw [HV.out]; exact ⟨rfl, HB0.out⟩
    by_cases h3 : b < 0
    · have HV : Hid (r = false) := Lib.hid (HA.out _ (if_pos (.inr (.inr (.inl h3)))))
      go_enter Tryd.func34, Tryd.ntmps34
      go_wp2_with fail
      refine (H1.out _).mono ?_
      rintro e w2 ⟨rfl, rfl⟩
      go_wp2_with fail
      go_ret
      rw [HV.out]; exact ⟨rfl, HB0.out⟩
    by_cases h4 : b > 999
    · have HV : Hid (r = false) := Lib.hid (HA.out _ (if_pos (.inr (.inr (.inr h4)))))
      go_enter Tryd.func34, Tryd.ntmps34
      go_wp2_with fail
      refine (H1.out _).mono ?_
      rintro e w2 ⟨rfl, rfl⟩
      go_wp2_with fail
      go_ret
      rw [HV.out]; exact ⟨rfl, HB0.out⟩
    have hn : ¬ (a < -999 ∨ a > 999 ∨ b < 0 ∨ b > 999) := by omega
    by_cases ha : a = 0
    · subst ha
      by_cases hb : b = 0
      · subst hb
        have hm : ¬ (((0 : Int) < 1 ∧ (0 : Int) ≠ 0) ∨ ((0 : Int) < 2 ∧ (0 : Int) ≠ 0)) := by omega
        by_cases hs0 : s.data.toList = []
        · have HV : Hid (r = true) := Lib.hid (HA.out _ (by rw [if_neg hn, if_neg hm, hs0]; rfl))
          have e2 : s.toList.isEmpty = true := by rw [ByteArray.toList_eq, hs0]; rfl
          clear hn hm HA hs0
          go_enter Tryd.func34, Tryd.ntmps34
          go_wp2_with fail
          refine (H1.out _).mono ?_
          rintro e w2 ⟨rfl, rfl⟩
          go_wp2_with fail
          go_ret
          rw [HV.out]; exact ⟨rfl, HB0.out⟩
        · have HV : Hid (r = false) := Lib.hid (HA.out _ (by rw [if_neg hn, if_neg hm]; simpa using hs0))
          have e2 : s.toList.isEmpty = false := by
            rw [ByteArray.toList_eq]
            cases hl : s.data.toList with
            | nil => exact absurd hl hs0
            | cons _ _ => rfl
          clear hn hm HA hs0
          go_enter Tryd.func34, Tryd.ntmps34
          go_wp2_with fail
          refine (H1.out _).mono ?_
          rintro e w2 ⟨rfl, rfl⟩
          go_wp2_with fail
          go_ret
          rw [HV.out]; exact ⟨rfl, HB0.out⟩
      · have HV : Hid (r = false) := Lib.hid (HA.out _ (by rw [if_neg hn, if_pos (.inr ⟨by decide, hb⟩)]))
        have t0 : (b == 0) = false := by simpa using hb
        clear hn HA hb
        go_enter Tryd.func34, Tryd.ntmps34
        go_wp2_with fail
        refine (H1.out _).mono ?_
        rintro e w2 ⟨rfl, rfl⟩
        go_wp2_with fail
        go_ret
        rw [HV.out]; exact ⟨rfl, HB0.out⟩
    · have HV : Hid (r = false) := Lib.hid (HA.out _ (by rw [if_neg hn, if_pos (.inl ⟨by decide, ha⟩)]))
      have t0 : (a == 0) = false := by simpa using ha
      clear hn HA ha
      go_enter Tryd.func34, Tryd.ntmps34
      go_wp2_with fail
      refine (H1.out _).mono ?_
      rintro e w2 ⟨rfl, rfl⟩
      go_wp2_with fail
      go_ret
      rw [HV.out]; exact ⟨rfl, HB0.out⟩
set_option maxRecDepth 100000 in
set_option maxHeartbeats 1000000 in
/-- spec.l8Instr of no operation. -/
theorem instr_no (op a b : Int) (s : ByteArray) (h : ¬ isOp op) (w : World) :
    Calls Tryd.prog 34 #[.agg #[.int .i64 op, .int .i64 a, .int .i64 b, .string s]] w fun e w' => e = .returned (.bool false) ∧ Below w.heap.size w w' := by
  have H1 := Lib.hid (fun w1 => shape_no op h w1)
  have HB0 : Hid (Below w.heap.size w (w.alloc (.cells #[.int .i64 op, .int .i64 a, .int .i64 b, .string s] 26))) := Lib.hid ((Below.refl _ _).alloc (Nat.le_refl _) _)
  clear h
  go_enter Tryd.func34, Tryd.ntmps34
  go_wp2_with fail
  refine (H1.out _).mono ?_
  rintro e w2 ⟨rfl, rfl⟩
  go_wp2_with fail
  go_ret
  exact ⟨rfl, HB0.out⟩
end Go.Proofs.YtfdgmdijjifmiaaDoor.ins

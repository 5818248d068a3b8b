/- The model's texts with operators, first part: spec.l2Infix, l2Sole, l2Spaced, l2Plain, l2Bracket, l2Left, l2Right. Condition: the term lies in memory and is well-formed. -/
import Derived.Test.YtmgfndgmebignaaDoorProg
import Derived.Test.YtmgfndgmebignaaDoorZmWR40
import Derived.Test.YtmgfndgmebignaaDoorZmWR43
import Derived.Test.YtmgfndgmebignaaDoorZmWR44
namespace Go.Proofs.YtmgfndgmebignaaDoor.wr
open Go.RowKit

set_option maxHeartbeats 1000000 in
/-- spec.l2Infix. -/
theorem infix_any (k n : Int) (s : ByteArray) (A : Option Addr) (len cap : Nat) (w : World) :
    Calls Tryd.prog 21 #[.agg #[.int .i64 k, .int .i64 n, .string s, .slice A len cap]] w fun e w' => e = .returned (.bool (infB k s len)) ∧ Below w.heap.size w w' := by
  have hb0 : Below w.heap.size w (w.alloc (.cells #[.int .i64 k, .int .i64 n, .string s, .slice A len cap] 29)) := (Below.refl _ _).alloc (Nat.le_refl _) _
  have HB := Lib.hid hb0
  clear hb0
  by_cases h1 : k = 3
  · subst h1
    by_cases h2 : len = 2
    · subst h2
      have HV : Hid (infB 3 s 2 = decide (0 < op.level s.data.toList)) := Lib.hid rfl
      have C := fun w1 => op.l2_any s w1
      have H := Lib.hid C
      clear C
      generalize op.level s.data.toList = lv at *
      by_cases h3 : 0 < lv
      · have HW : Hid (infB 3 s 2 = true) := Lib.hid (by rw [HV.out, decide_eq_true h3])
        have d3 : decide ((0 : Int) < lv) = true := decide_eq_true h3
        clear HV
        go_enter Tryd.func21, Tryd.ntmps21
        go_wp2_with (first | (go_at_call 22; refine (H.out _).mono ?_; rintro e w' ⟨rfl, rfl⟩) | fail)
        go_ret
        rw [HW.out]; exact ⟨rfl, HB.out⟩
      · have HW : Hid (infB 3 s 2 = false) := Lib.hid (by rw [HV.out, decide_eq_false h3])
        have d3 : decide ((0 : Int) < lv) = false := decide_eq_false h3
        clear HV
        go_enter Tryd.func21, Tryd.ntmps21
        go_wp2_with (first | (go_at_call 22; refine (H.out _).mono ?_; rintro e w' ⟨rfl, rfl⟩) | fail)
        go_ret
        rw [HW.out]; exact ⟨rfl, HB.out⟩
    · have HV : Hid (infB 3 s len = false) := Lib.hid (by simp [infB, h2])
      have t2 : ((len : Int) == 2) = false := by rw [beq_eq_false_iff_ne]; omega
      clear h2
      go_enter Tryd.func21, Tryd.ntmps21
      go_wp2_with fail
      go_ret
      rw [HV.out]; exact ⟨rfl, HB.out⟩
  · have HV : Hid (infB k s len = false) := Lib.hid (by simp [infB, h1])
    have t1 : (k == 3) = false := by rw [beq_eq_false_iff_ne]; exact h1
    clear h1
    go_enter Tryd.func21, Tryd.ntmps21
    go_wp2_with fail
    go_ret
    rw [HV.out]; exact ⟨rfl, HB.out⟩
set_option maxHeartbeats 1000000 in
/-- spec.l2Sole. -/
theorem sole_any (k n : Int) (s : ByteArray) (A : Option Addr) (len cap : Nat) (w : World) :
    Calls Tryd.prog 37 #[.agg #[.int .i64 k, .int .i64 n, .string s, .slice A len cap]] w fun e w' => e = .returned (.bool (soleB k s len)) ∧ Below w.heap.size w w' := by
  have hb0 : Below w.heap.size w (w.alloc (.cells #[.int .i64 k, .int .i64 n, .string s, .slice A len cap] 29)) := (Below.refl _ _).alloc (Nat.le_refl _) _
  have HB := Lib.hid hb0
  clear hb0
  by_cases h1 : k = 3
  · subst h1
    by_cases h2 : len = 0
    · subst h2
      have HV : Hid (soleB 3 s 0 = decide (0 < op.level s.data.toList)) := Lib.hid rfl
      have C := fun w1 => op.l2_any s w1
      have H := Lib.hid C
      clear C
      generalize op.level s.data.toList = lv at *
      by_cases h3 : 0 < lv
      · have HW : Hid (soleB 3 s 0 = true) := Lib.hid (by rw [HV.out, decide_eq_true h3])
        have d3 : decide ((0 : Int) < lv) = true := decide_eq_true h3
        clear HV
        go_enter Tryd.func37, Tryd.ntmps37
        go_wp2_with (first | (go_at_call 22; refine (H.out _).mono ?_; rintro e w' ⟨rfl, rfl⟩) | fail)
        go_ret
        rw [HW.out]; exact ⟨rfl, HB.out⟩
      · have HW : Hid (soleB 3 s 0 = false) := Lib.hid (by rw [HV.out, decide_eq_false h3])
        have d3 : decide ((0 : Int) < lv) = false := decide_eq_false h3
        clear HV
        go_enter Tryd.func37, Tryd.ntmps37
        go_wp2_with (first | (go_at_call 22; refine (H.out _).mono ?_; rintro e w' ⟨rfl, rfl⟩) | fail)
        go_ret
        rw [HW.out]; exact ⟨rfl, HB.out⟩
    · have HV : Hid (soleB 3 s len = false) := Lib.hid (by simp [soleB, h2])
      have t2 : ((len : Int) == 0) = false := by rw [beq_eq_false_iff_ne]; omega
      clear h2
      go_enter Tryd.func37, Tryd.ntmps37
      go_wp2_with fail
      go_ret
      rw [HV.out]; exact ⟨rfl, HB.out⟩
  · have HV : Hid (soleB k s len = false) := Lib.hid (by simp [soleB, h1])
    have t1 : (k == 3) = false := by rw [beq_eq_false_iff_ne]; exact h1
    clear h1
    go_enter Tryd.func37, Tryd.ntmps37
    go_wp2_with fail
    go_ret
    rw [HV.out]; exact ⟨rfl, HB.out⟩
set_option maxHeartbeats 1000000 in
/-- spec.l2Spaced. -/
theorem spaced_any (s : ByteArray) (w : World) (hs : s.size ≤ 6) :
    Calls Tryd.prog 24 #[.string s] w fun e w' => e = .returned (.string ⟨(spB s.data.toList).toArray⟩) ∧ w' = w := by
  by_cases h1 : s.data.toList = [105, 115]
  · obtain rfl := op.str_of h1
    go_enter Tryd.func24, Tryd.ntmps24
    go_wp2_with fail
    go_ret
    exact ⟨rfl, rfl⟩
  · by_cases h2 : s.data.toList = [109, 111, 100]
    · obtain rfl := op.str_of h2
      go_enter Tryd.func24, Tryd.ntmps24
      go_wp2_with fail
      go_ret
      exact ⟨rfl, rfl⟩
    · have HV : Hid (⟨(spB s.data.toList).toArray⟩ = s) := Lib.hid (by
        have e : spB s.data.toList = s.data.toList := by unfold spB; rw [if_neg (by rintro (h | h); exact h1 h; exact h2 h)]
        rw [e])
      have t1 : (s.toList == [105, 115]) = false := by rw [ByteArray.toList_eq, beq_eq_false_iff_ne]; exact h1
      have t2 : (s.toList == [109, 111, 100]) = false := by rw [ByteArray.toList_eq, beq_eq_false_iff_ne]; exact h2
      clear h1 h2
      go_enter Tryd.func24, Tryd.ntmps24
      go_wp2_with fail
      go_ret
      rw [HV.out]; exact ⟨rfl, rfl⟩
theorem plC_of (c : UInt8) : plC c = (smC c || (dgC c || ((decide (65 ≤ c.toNat) && decide (c.toNat ≤ 90)) || (((c.toNat : Int) == 91) || ((c.toNat : Int) == 40))))) := by
  have e1 : (c == 91) = ((c.toNat : Int) == 91) := by
    rw [Bool.eq_iff_iff, beq_iff_eq, beq_iff_eq]
    constructor
    · rintro rfl; rfl
    · intro h
      have : c.toNat = 91 := by omega
      exact UInt8.toNat_inj.1 this
  have e2 : (c == 40) = ((c.toNat : Int) == 40) := by
    rw [Bool.eq_iff_iff, beq_iff_eq, beq_iff_eq]
    constructor
    · rintro rfl; rfl
    · intro h
      have : c.toNat = 40 := by omega
      exact UInt8.toNat_inj.1 this
  unfold plC smC dgC
  rw [e1, e2]
  simp only [Bool.or_assoc]
set_option maxHeartbeats 2000000 in
/-- spec.l2Plain. -/
theorem plain_any (s : ByteArray) (w : World) (hs : s.size ≤ maxLen) (h0 : 0 < s.size) :
    Calls Tryd.prog 39 #[.string s] w fun e w' => e = .returned (.bool (plB s.data.toList)) ∧ w' = w := by
  have hat : s.data.toList[0]? = some s[0] := Lib.data_getElem? s 0 h0
  have hpl : plB s.data.toList = plC s[0] := by
    cases hc : s.data.toList with
    | nil => rw [hc] at hat; cases hat
    | cons c l => rw [hc] at hat; simp at hat; rw [← hat]; rfl
  rw [plC_of] at hpl
  have C1 := small_any s 0 w hs (Nat.zero_le _)
  have C2 := digit_any s 0 w hs (Nat.zero_le _)
  rw [atB_some hat] at C1 C2
  have HV := Lib.hid hpl
  clear hpl hat
  cases b1 : smC s[0]
  · rw [b1] at C1
    cases b2 : dgC s[0]
    · rw [b2] at C2
      have HV2 : Hid (plB s.data.toList = ((decide (65 ≤ s[0].toNat) && decide (s[0].toNat ≤ 90)) || (((s[0].toNat : Int) == 91) || ((s[0].toNat : Int) == 40)))) := Lib.hid (by rw [HV.out, b1, b2]; rfl)
      have H1 := Lib.hid C1
      have H2 := Lib.hid C2
      clear C1 C2 b1 b2 HV
      have hs' : s.size ≤ 9223372036854775807 := hs
      clear hs
      by_cases b3 : 65 ≤ s[0].toNat ∧ s[0].toNat ≤ 90
      · have HW : Hid (plB s.data.toList = true) := Lib.hid (by rw [HV2.out, decide_eq_true b3.1, decide_eq_true b3.2]; rfl)
        have d1 : (65 : Int) ≤ (s[0].toNat : Int) := by omega
        have d2 : (s[0].toNat : Int) ≤ 90 := by omega
        clear HV2 b3
        go_enter Tryd.func39, Tryd.ntmps39
        go_wp2_with (first
          | (go_at_call 53; refine H1.out.mono ?_; rintro e w' ⟨rfl, rfl⟩)
          | (go_at_call 54; refine H2.out.mono ?_; rintro e w' ⟨rfl, rfl⟩)
          | fail)
        go_ret
        rw [HW.out]; exact ⟨rfl, rfl⟩
      · have HV3 : Hid (plB s.data.toList = (((s[0].toNat : Int) == 91) || ((s[0].toNat : Int) == 40))) := Lib.hid (by
          have : (decide (65 ≤ s[0].toNat) && decide (s[0].toNat ≤ 90)) = false := by
            rw [← Bool.not_eq_true, Bool.and_eq_true, decide_eq_true_iff, decide_eq_true_iff]; exact b3
          rw [HV2.out, this]; rfl)
        have d1 : (s[0].toNat : Int) < 65 ∨ (65 : Int) ≤ (s[0].toNat : Int) ∧ decide ((s[0].toNat : Int) ≤ 90) = false := by simp; omega
        clear HV2 b3
        cases b4 : ((s[0].toNat : Int) == 91)
        · cases b5 : ((s[0].toNat : Int) == 40)
          · have HW : Hid (plB s.data.toList = false) := Lib.hid (by rw [HV3.out, b4, b5]; rfl)
            clear HV3
            rcases d1 with d1 | ⟨d1, d2⟩
            · go_enter Tryd.func39, Tryd.ntmps39
              go_wp2_with (first
                | (go_at_call 53; refine H1.out.mono ?_; rintro e w' ⟨rfl, rfl⟩)
                | (go_at_call 54; refine H2.out.mono ?_; rintro e w' ⟨rfl, rfl⟩)
                | fail)
              go_ret
              rw [HW.out]; exact ⟨rfl, rfl⟩
            · go_enter Tryd.func39, Tryd.ntmps39
              go_wp2_with (first
                | (go_at_call 53; refine H1.out.mono ?_; rintro e w' ⟨rfl, rfl⟩)
                | (go_at_call 54; refine H2.out.mono ?_; rintro e w' ⟨rfl, rfl⟩)
                | fail)
              go_ret
              rw [HW.out]; exact ⟨rfl, rfl⟩
          · have HW : Hid (plB s.data.toList = true) := Lib.hid (by rw [HV3.out, b4, b5]; rfl)
            clear HV3
            rcases d1 with d1 | ⟨d1, d2⟩
            · go_enter Tryd.func39, Tryd.ntmps39
              go_wp2_with (first
                | (go_at_call 53; refine H1.out.mono ?_; rintro e w' ⟨rfl, rfl⟩)
                | (go_at_call 54; refine H2.out.mono ?_; rintro e w' ⟨rfl, rfl⟩)
                | fail)
              go_ret
              rw [HW.out]; exact ⟨rfl, rfl⟩
            · go_enter Tryd.func39, Tryd.ntmps39
              go_wp2_with (first
                | (go_at_call 53; refine H1.out.mono ?_; rintro e w' ⟨rfl, rfl⟩)
                | (go_at_call 54; refine H2.out.mono ?_; rintro e w' ⟨rfl, rfl⟩)
                | fail)
              go_ret
              rw [HW.out]; exact ⟨rfl, rfl⟩
        · have HW : Hid (plB s.data.toList = true) := Lib.hid (by rw [HV3.out, b4]; rfl)
          clear HV3
          rcases d1 with d1 | ⟨d1, d2⟩
          · go_enter Tryd.func39, Tryd.ntmps39
            go_wp2_with (first
              | (go_at_call 53; refine H1.out.mono ?_; rintro e w' ⟨rfl, rfl⟩)
              | (go_at_call 54; refine H2.out.mono ?_; rintro e w' ⟨rfl, rfl⟩)
              | fail)
            go_ret
            rw [HW.out]; exact ⟨rfl, rfl⟩
          · go_enter Tryd.func39, Tryd.ntmps39
            go_wp2_with (first
              | (go_at_call 53; refine H1.out.mono ?_; rintro e w' ⟨rfl, rfl⟩)
              | (go_at_call 54; refine H2.out.mono ?_; rintro e w' ⟨rfl, rfl⟩)
              | fail)
            go_ret
            rw [HW.out]; exact ⟨rfl, rfl⟩
    · rw [b2] at C2
      have HW : Hid (plB s.data.toList = true) := Lib.hid (by rw [HV.out, b1, b2]; rfl)
      have H1 := Lib.hid C1
      have H2 := Lib.hid C2
      clear C1 C2 b1 b2 HV hs
      go_enter Tryd.func39, Tryd.ntmps39
      go_wp2_with (first
        | (go_at_call 53; refine H1.out.mono ?_; rintro e w' ⟨rfl, rfl⟩)
        | (go_at_call 54; refine H2.out.mono ?_; rintro e w' ⟨rfl, rfl⟩)
        | fail)
      go_ret
      rw [HW.out]; exact ⟨rfl, rfl⟩
  · rw [b1] at C1
    have HW : Hid (plB s.data.toList = true) := Lib.hid (by rw [HV.out, b1]; rfl)
    have H1 := Lib.hid C1
    clear C1 C2 b1 HV hs
    go_enter Tryd.func39, Tryd.ntmps39
    go_wp2_with (first
      | (go_at_call 53; refine H1.out.mono ?_; rintro e w' ⟨rfl, rfl⟩)
      | fail)
    go_ret
    rw [HW.out]; exact ⟨rfl, rfl⟩
end Go.Proofs.YtmgfndgmebignaaDoor.wr

/- impl.canFollowOperator, operator.rightLevel, opWriter.named, opWriter.operandLevel. Condition: the node lies in memory, the map of operators in the writer's block. -/
namespace Go.Proofs.YtmgfndgmebignaaDoor.wr
open Go.RowKit Go.Maps

set_option maxHeartbeats 1000000 in
/-- impl.isLetter. -/
theorem letterI_any (c : UInt8) (w : World) : Calls Tryd.prog 59 #[.int .u8 (c.toNat : Int)] w fun e w' => e = .returned (.bool (smC c)) ∧ w' = w := by
  have HV : Hid (smC c = (decide (97 ≤ c.toNat) && decide (c.toNat ≤ 122))) := Lib.hid rfl
  by_cases h1 : 97 ≤ c.toNat
  · by_cases h2 : c.toNat ≤ 122
    · have HW : Hid (smC c = true) := Lib.hid (by rw [HV.out, decide_eq_true h1, decide_eq_true h2]; rfl)
      have b1 : decide ((97 : Int) ≤ (c.toNat : Int)) = true := by simp; omega
      have b2 : decide ((c.toNat : Int) ≤ 122) = true := by simp; omega
      clear HV h1 h2
      go_enter Tryd.func59, Tryd.ntmps59
      go_wp2_with fail
      go_ret
      rw [HW.out]; exact ⟨rfl, rfl⟩
    · have HW : Hid (smC c = false) := Lib.hid (by rw [HV.out, decide_eq_true h1, decide_eq_false h2]; rfl)
      have b1 : decide ((97 : Int) ≤ (c.toNat : Int)) = true := by simp; omega
      have b2 : decide ((c.toNat : Int) ≤ 122) = false := by simp; omega
      clear HV h1 h2
      go_enter Tryd.func59, Tryd.ntmps59
      go_wp2_with fail
      go_ret
      rw [HW.out]; exact ⟨rfl, rfl⟩
  · have HW : Hid (smC c = false) := Lib.hid (by rw [HV.out, decide_eq_false h1]; rfl)
    have b1 : decide ((97 : Int) ≤ (c.toNat : Int)) = false := by simp; omega
    clear HV h1
    go_enter Tryd.func59, Tryd.ntmps59
    go_wp2_with fail
    go_ret
    rw [HW.out]; exact ⟨rfl, rfl⟩
set_option maxHeartbeats 1000000 in
/-- impl.isDigit. -/
theorem digitI_any (c : UInt8) (w : World) : Calls Tryd.prog 60 #[.int .u8 (c.toNat : Int)] w fun e w' => e = .returned (.bool (dgC c)) ∧ w' = w := by
  have HV : Hid (dgC c = (decide (48 ≤ c.toNat) && decide (c.toNat ≤ 57))) := Lib.hid rfl
  by_cases h1 : 48 ≤ c.toNat
  · by_cases h2 : c.toNat ≤ 57
    · have HW : Hid (dgC c = true) := Lib.hid (by rw [HV.out, decide_eq_true h1, decide_eq_true h2]; rfl)
      have b1 : decide ((48 : Int) ≤ (c.toNat : Int)) = true := by simp; omega
      have b2 : decide ((c.toNat : Int) ≤ 57) = true := by simp; omega
      clear HV h1 h2
      go_enter Tryd.func60, Tryd.ntmps60
      go_wp2_with fail
      go_ret
      rw [HW.out]; exact ⟨rfl, rfl⟩
    · have HW : Hid (dgC c = false) := Lib.hid (by rw [HV.out, decide_eq_true h1, decide_eq_false h2]; rfl)
      have b1 : decide ((48 : Int) ≤ (c.toNat : Int)) = true := by simp; omega
      have b2 : decide ((c.toNat : Int) ≤ 57) = false := by simp; omega
      clear HV h1 h2
      go_enter Tryd.func60, Tryd.ntmps60
      go_wp2_with fail
      go_ret
      rw [HW.out]; exact ⟨rfl, rfl⟩
  · have HW : Hid (dgC c = false) := Lib.hid (by rw [HV.out, decide_eq_false h1]; rfl)
    have b1 : decide ((48 : Int) ≤ (c.toNat : Int)) = false := by simp; omega
    clear HV h1
    go_enter Tryd.func60, Tryd.ntmps60
    go_wp2_with fail
    go_ret
    rw [HW.out]; exact ⟨rfl, rfl⟩
set_option maxHeartbeats 2000000 in
/-- impl.canFollowOperator. -/
theorem follow_any (c : UInt8) (w : World) : Calls Tryd.prog 50 #[.int .u8 (c.toNat : Int)] w fun e w' => e = .returned (.bool (plC c)) ∧ w' = w := by
  have C1 := letterI_any c w
  have C2 := digitI_any c w
  have HV := Lib.hid (plC_of c)
  cases b1 : smC c
  · rw [b1] at C1
    by_cases h1 : 65 ≤ c.toNat
    · by_cases h2 : c.toNat ≤ 90
      · have HW : Hid (plC c = true) := Lib.hid (by rw [HV.out, decide_eq_true h1, decide_eq_true h2]; simp)
        have d1 : decide ((65 : Int) ≤ (c.toNat : Int)) = true := by simp; omega
        have d2 : decide ((c.toNat : Int) ≤ 90) = true := by simp; omega
        have H1 := Lib.hid C1
        clear C1 C2 b1 HV h1 h2
        go_enter Tryd.func50, Tryd.ntmps50
        go_wp2_with (first
          | (go_at_call 59; refine H1.out.mono ?_; rintro e w' ⟨rfl, rfl⟩)
          | fail)
        go_ret
        rw [HW.out]; exact ⟨rfl, rfl⟩
      · have d1 : decide ((65 : Int) ≤ (c.toNat : Int)) = true := by simp; omega
        have d2 : decide ((c.toNat : Int) ≤ 90) = false := by simp; omega
        have HV2 : Hid (plC c = (dgC c || (((c.toNat : Int) == 91) || ((c.toNat : Int) == 40)))) := Lib.hid (by rw [HV.out, b1, decide_eq_true h1, decide_eq_false h2]; simp)
        have H1 := Lib.hid C1
        have H2 := Lib.hid C2
        clear C1 C2 b1 HV h1 h2
        cases b2 : dgC c <;> rw [b2] at H2 HV2
        · cases b3 : ((c.toNat : Int) == 91) <;> rw [b3] at HV2
          · have HW : Hid (plC c = ((c.toNat : Int) == 40)) := Lib.hid (by rw [HV2.out]; simp)
            clear HV2 b2
            cases b4 : ((c.toNat : Int) == 40) <;> rw [b4] at HW
            · go_enter Tryd.func50, Tryd.ntmps50
              go_wp2_with (first
                | (go_at_call 59; refine H1.out.mono ?_; rintro e w' ⟨rfl, rfl⟩)
                | (go_at_call 60; refine H2.out.mono ?_; rintro e w' ⟨rfl, rfl⟩)
                | fail)
              go_ret
              rw [HW.out]; exact ⟨rfl, rfl⟩
            · go_enter Tryd.func50, Tryd.ntmps50
              go_wp2_with (first
                | (go_at_call 59; refine H1.out.mono ?_; rintro e w' ⟨rfl, rfl⟩)
                | (go_at_call 60; refine H2.out.mono ?_; rintro e w' ⟨rfl, rfl⟩)
                | fail)
              go_ret
              rw [HW.out]; exact ⟨rfl, rfl⟩
          · have HW : Hid (plC c = true) := Lib.hid (by rw [HV2.out]; simp)
            clear HV2 b2
            go_enter Tryd.func50, Tryd.ntmps50
            go_wp2_with (first
              | (go_at_call 59; refine H1.out.mono ?_; rintro e w' ⟨rfl, rfl⟩)
              | (go_at_call 60; refine H2.out.mono ?_; rintro e w' ⟨rfl, rfl⟩)
              | fail)
            go_ret
            rw [HW.out]; exact ⟨rfl, rfl⟩
        · have HW : Hid (plC c = true) := Lib.hid (by rw [HV2.out]; simp)
          clear HV2 b2
          go_enter Tryd.func50, Tryd.ntmps50
          go_wp2_with (first
            | (go_at_call 59; refine H1.out.mono ?_; rintro e w' ⟨rfl, rfl⟩)
            | (go_at_call 60; refine H2.out.mono ?_; rintro e w' ⟨rfl, rfl⟩)
            | fail)
          go_ret
          rw [HW.out]; exact ⟨rfl, rfl⟩
    · have d1 : decide ((65 : Int) ≤ (c.toNat : Int)) = false := by simp; omega
      have HV2 : Hid (plC c = (dgC c || (((c.toNat : Int) == 91) || ((c.toNat : Int) == 40)))) := Lib.hid (by rw [HV.out, b1, decide_eq_false h1]; simp)
      have H1 := Lib.hid C1
      have H2 := Lib.hid C2
      clear C1 C2 b1 HV h1
      cases b2 : dgC c <;> rw [b2] at H2 HV2
      · cases b3 : ((c.toNat : Int) == 91) <;> rw [b3] at HV2
        · have HW : Hid (plC c = ((c.toNat : Int) == 40)) := Lib.hid (by rw [HV2.out]; simp)
          clear HV2 b2
          cases b4 : ((c.toNat : Int) == 40) <;> rw [b4] at HW
          · go_enter Tryd.func50, Tryd.ntmps50
            go_wp2_with (first
              | (go_at_call 59; refine H1.out.mono ?_; rintro e w' ⟨rfl, rfl⟩)
              | (go_at_call 60; refine H2.out.mono ?_; rintro e w' ⟨rfl, rfl⟩)
              | fail)
            go_ret
            rw [HW.out]; exact ⟨rfl, rfl⟩
          · go_enter Tryd.func50, Tryd.ntmps50
            go_wp2_with (first
              | (go_at_call 59; refine H1.out.mono ?_; rintro e w' ⟨rfl, rfl⟩)
              | (go_at_call 60; refine H2.out.mono ?_; rintro e w' ⟨rfl, rfl⟩)
              | fail)
            go_ret
            rw [HW.out]; exact ⟨rfl, rfl⟩
        · have HW : Hid (plC c = true) := Lib.hid (by rw [HV2.out]; simp)
          clear HV2 b2
          go_enter Tryd.func50, Tryd.ntmps50
          go_wp2_with (first
            | (go_at_call 59; refine H1.out.mono ?_; rintro e w' ⟨rfl, rfl⟩)
            | (go_at_call 60; refine H2.out.mono ?_; rintro e w' ⟨rfl, rfl⟩)
            | fail)
          go_ret
          rw [HW.out]; exact ⟨rfl, rfl⟩
      · have HW : Hid (plC c = true) := Lib.hid (by rw [HV2.out]; simp)
        clear HV2 b2
        go_enter Tryd.func50, Tryd.ntmps50
        go_wp2_with (first
          | (go_at_call 59; refine H1.out.mono ?_; rintro e w' ⟨rfl, rfl⟩)
          | (go_at_call 60; refine H2.out.mono ?_; rintro e w' ⟨rfl, rfl⟩)
          | fail)
        go_ret
        rw [HW.out]; exact ⟨rfl, rfl⟩
  · rw [b1] at C1
    have HW : Hid (plC c = true) := Lib.hid (by rw [HV.out, b1]; rfl)
    have H1 := Lib.hid C1
    clear C1 C2 b1 HV
    go_enter Tryd.func50, Tryd.ntmps50
    go_wp2_with (first
      | (go_at_call 59; refine H1.out.mono ?_; rintro e w' ⟨rfl, rfl⟩)
      | fail)
    go_ret
    rw [HW.out]; exact ⟨rfl, rfl⟩
/-- operator.rightLevel. -/
theorem rightLv_any (a b : ByteArray) (l : Int) (hl : 0 ≤ l ∧ l ≤ 3) (w : World) :
    Calls Tryd.prog 34 #[.agg #[.string a, .string b, .int .i64 l]] w fun e w' => e = .returned (.int .i64 (l - 1)) ∧ Below w.heap.size w w' := by
  have hb0 : ∀ o, Below w.heap.size w (w.alloc o) := fun o => (Below.refl _ _).alloc (Nat.le_refl _) _
  have HB := Lib.hid hb0
  clear hb0
  obtain ⟨h0, h1⟩ := hl
  go_enter Tryd.func34, Tryd.ntmps34
  go_wp2_with fail
  go_ret
  exact ⟨rfl, HB.out _⟩
theorem lmin_lfl (l : Int) (h : l ≤ 3) : op.lmin l = lfl l := by
  unfold op.lmin lfl
  split <;> split <;> omega
end Go.Proofs.YtmgfndgmebignaaDoor.wr

/- What opWriter.named leaves. No condition. -/
namespace Go.Proofs.YtmgfndgmebignaaDoor.wr
open Go.RowKit Go.Maps

theorem results_cells2s {P : Program} {fn : Func} {p q u : Tmp} {ty ty' : TypeId} (h : fn.results = #[.cell p ty, .cell q ty', .tmp u]) (tmps : Array Value) (w : World) (g g' : Nat) (t t' : TypeId) (cs cs' : Array Value) (d d' : TypeDesc)
    (hp : tmps.getD p undef = .pointer (some ⟨g, 0, none⟩)) (hq : tmps.getD q undef = .pointer (some ⟨g', 0, none⟩)) (hg : Blk w g t cs) (hg' : Blk w g' t' cs')
    (hu : P.underlying ty = some d) (hd : (match d with | .struct _ | .array _ _ => true | _ => false) = true) (hi : (P.info? ty).map (·.size) = some cs.size)
    (hu' : P.underlying ty' = some d') (hd' : (match d' with | .struct _ | .array _ _ => true | _ => false) = true) (hi' : (P.info? ty').map (·.size) = some cs'.size) :
    (results fn tmps).run P w = .ok (.tuple #[.agg cs, .agg cs', tmps.getD u undef]) w := by
  have hp' : tmps[p]?.getD undef = .pointer (some ⟨g, 0, none⟩) := by simpa using hp
  have hq' : tmps[q]?.getD undef = .pointer (some ⟨g', 0, none⟩) := by simpa using hq
  simp [results, h, hp', hq', asAddr, run_loadVar_row w g t ty cs (0, 0) d hg hu hd hi, run_loadVar_row w g' t' ty' cs' (0, 0) d' hg' hu' hd' hi']

/-- What opWriter.named leaves. -/
def NmR (w : World) (k : Int) (s : ByteArray) (A : Option Addr) (len cap : Nat) (e : Ending) (w' : World) : Prop :=
  Below w.heap.size w w' ∧ ((k = 3 ∧ 0 < op.level s.data.toList ∧ ∃ a, e = .returned (.tuple #[.agg #[.string s, .slice A len cap], .agg #[.string a, .string ⟨(spB s.data.toList).toArray⟩, .int .i64 (op.level s.data.toList)], .bool true])) ∨
    ((k = 3 → op.level s.data.toList = 0) ∧ ∃ x1 x2 x3 x4 y1 y2 y3, e = .returned (.tuple #[.agg #[.string x1, .slice x2 x3 x4], .agg #[.string y1, .string y2, .int .i64 y3], .bool false])))

/-- The two results' blocks are written. -/
def nmW (w2 : World) (g : Nat) (a b c d e : Value) : World := ((((w2.setCell ⟨g, 0, none⟩ a).setCell ⟨g, 1, none⟩ b).setCell ⟨g + 1, 0, none⟩ c).setCell ⟨g + 1, 1, none⟩ d).setCell ⟨g + 1, 2, none⟩ e
theorem nm_store {w w2 : World} {a b c d e : Value} {t t' : TypeId} (hb : Below w.heap.size w w2) (h1 : Blk w2 w.heap.size t #[a, b]) (h2 : Blk w2 (w.heap.size + 1) t' #[c, d, e]) (a' b' c' d' e' : Value) :
    Blk (nmW w2 w.heap.size a' b' c' d' e') w.heap.size t #[a', b'] ∧ Blk (nmW w2 w.heap.size a' b' c' d' e') (w.heap.size + 1) t' #[c', d', e'] ∧ Below w.heap.size w (nmW w2 w.heap.size a' b' c' d' e') := by
  unfold nmW
  exact ⟨((((h1.set_ 0 a').set_ 1 b').far (by simp) _).far (by simp) _).far (by simp) _, ((((h2.far (by simp) _).far (by simp) _).set_ 0 c').set_ 1 d').set_ 2 e', ((((hb.setCell (by simp) _).setCell (by simp) _).setCell (by simp) _).setCell (by simp) _).setCell (by simp) _⟩

end Go.Proofs.YtmgfndgmebignaaDoor.wr

/- opWriter.named of a structure whose name is an operator. Condition: the map of operators in the writer's block. -/
namespace Go.Proofs.YtmgfndgmebignaaDoor.wr
open Go.RowKit Go.Maps

set_option maxRecDepth 100000 in
set_option maxHeartbeats 4000000 in
/-- opWriter.named of a structure whose name is an operator. -/
theorem named_yes (s : ByteArray) (hs : s.size ≤ maxLen) (A : Option Addr) (len cap ob mb : Nat) (tv fv : Value) (w : World) (hq : Blk w mb 48 #[tv, fv, .map (some ob)]) (hm : op.OpM w ob) (hpos : 0 < op.level s.data.toList) :
    Calls Tryd.prog 30 #[.pointer (some ⟨mb, 0, none⟩), .iface 62 (.agg #[.string s, .slice A len cap])] w fun e w' => NmR w 3 s A len cap e w' := by
  have hml := hq.lt
  have c2 := hq.cell 2
  simp only [List.getElem?_toArray, List.getElem?_cons_zero, List.getElem?_cons_succ] at c2
  have hkey := op.key_ok s hs
  have HM := Lib.hid hm
  have HQ := Lib.hid hq
  have hal : (op.opD2 14).atKey (.string s.data.toList) op.opZ = .agg [.lit (.string s.data.toList), .lit (.string (spB s.data.toList)), .lit (.int .i64 (op.level s.data.toList))] ∧ has (op.opD2 14) (.string s.data.toList) = true := by
    rcases op.at2_all s.data.toList with ⟨_, h⟩ | ⟨h, _⟩
    · exact h
    · omega
  have HAL := Lib.hid hal
  have HPOS := Lib.hid hpos
  clear hm hq hal hs hpos
  go_enter Tryd.func30, Tryd.ntmps30
  go_wp2_with fail
  have hb3 : Below w.heap.size w (((w.alloc (.cells #[.string ⟨#[]⟩, .slice none 0 0] 62)).alloc (.cells #[.string ⟨#[]⟩, .string ⟨#[]⟩, .int .i64 0] 64)).alloc (.cells #[.string s, .slice A len cap] 62)) :=
    (((Below.refl _ _).alloc (Nat.le_refl _) _).alloc (by simp) _).alloc (by simp; omega) _
  have q1 : Blk (((w.alloc (.cells #[.string ⟨#[]⟩, .slice none 0 0] 62)).alloc (.cells #[.string ⟨#[]⟩, .string ⟨#[]⟩, .int .i64 0] 64)).alloc (.cells #[.string s, .slice A len cap] 62)) w.heap.size 62 #[.string ⟨#[]⟩, .slice none 0 0] :=
    ((Blk.new w _ _).alloc _).alloc _
  have q2 : Blk (((w.alloc (.cells #[.string ⟨#[]⟩, .slice none 0 0] 62)).alloc (.cells #[.string ⟨#[]⟩, .string ⟨#[]⟩, .int .i64 0] 64)).alloc (.cells #[.string s, .slice A len cap] 62)) (w.heap.size + 1) 64 #[.string ⟨#[]⟩, .string ⟨#[]⟩, .int .i64 0] := by
    have h := (Blk.new (w.alloc (.cells #[.string ⟨#[]⟩, .slice none 0 0] 62)) 64 #[.string ⟨#[]⟩, .string ⟨#[]⟩, .int .i64 0]).alloc (.cells #[.string s, .slice A len cap] 62)
    simpa using h
  have q3 : Blk (((w.alloc (.cells #[.string ⟨#[]⟩, .slice none 0 0] 62)).alloc (.cells #[.string ⟨#[]⟩, .string ⟨#[]⟩, .int .i64 0] 64)).alloc (.cells #[.string s, .slice A len cap] 62)) (w.heap.size + 1 + 1) 62 #[.string s, .slice A len cap] := by
    have h := Blk.new ((w.alloc (.cells #[.string ⟨#[]⟩, .slice none 0 0] 62)).alloc (.cells #[.string ⟨#[]⟩, .string ⟨#[]⟩, .int .i64 0] 64)) 62 #[.string s, .slice A len cap]
    simpa using h
  have hm3 : op.OpM (((w.alloc (.cells #[.string ⟨#[]⟩, .slice none 0 0] 62)).alloc (.cells #[.string ⟨#[]⟩, .string ⟨#[]⟩, .int .i64 0] 64)).alloc (.cells #[.string s, .slice A len cap] 62)) ob := ((HM.out.alloc _).alloc _).alloc _
  generalize (((w.alloc (.cells #[.string ⟨#[]⟩, .slice none 0 0] 62)).alloc (.cells #[.string ⟨#[]⟩, .string ⟨#[]⟩, .int .i64 0] 64)).alloc (.cells #[.string s, .slice A len cap] 62)) = W at *
  have m2 := (hb3.cell (p := ⟨mb, 2, none⟩) hml).trans c2
  have x0 := q3.cell 0
  have x1 := q3.cell 1
  simp only [List.getElem?_toArray, List.getElem?_cons_zero, List.getElem?_cons_succ] at x0 x1
  obtain ⟨v, ps, hlk, hv⟩ := World.ownsMap.look_ok (e := 64) hm3.drew op.law Tryd.underlying46 (op.zero_op _) (zd := op.opZ) (zp := []) rfl hkey
  obtain ⟨v2, ps2, hlk2, hv2⟩ := World.ownsMap.look_ok (e := 64) (hm3.alloc (.cells #[.string ⟨#[]⟩, .string ⟨#[]⟩, .int .i64 0] 64)).drew op.law Tryd.underlying46 (op.zero_op _) (zd := op.opZ) (zp := []) rfl hkey
  have hmW : mb < W.heap.size := Nat.lt_of_lt_of_le hml hb3.size
  have hq3l := q3.lt
  have HB3 := Lib.hid hb3
  have HQ1 := Lib.hid q1
  have HQ2 := Lib.hid q2
  have HQ3 := Lib.hid q3
  have n2 : ∀ o, (W.alloc o).cell? ⟨mb, 2, none⟩ = some (.map (some ob)) := fun o => (((Below.refl W.heap.size W).alloc (Nat.le_refl _) o).cell (p := ⟨mb, 2, none⟩) hmW).trans m2
  have z0 : ∀ o, (W.alloc o).cell? ⟨w.heap.size + 1 + 1, 0, none⟩ = some (.string s) := fun o => (((Below.refl W.heap.size W).alloc (Nat.le_refl _) o).cell (p := ⟨w.heap.size + 1 + 1, 0, none⟩) hq3l).trans x0
  have z1 : ∀ o, (W.alloc o).cell? ⟨w.heap.size + 1 + 1, 1, none⟩ = some (.slice A len cap) := fun o => (((Below.refl W.heap.size W).alloc (Nat.le_refl _) o).cell (p := ⟨w.heap.size + 1 + 1, 1, none⟩) hq3l).trans x1
  have HN2 := Lib.hid n2
  have HZ0 := Lib.hid z0
  have HZ1 := Lib.hid z1
  clear hb3 q1 q2 q3 hm3 hkey c2 n2 z0 z1
  obtain ⟨hat, hhas⟩ := HAL.out
  rw [hat] at hv hv2
  obtain rfl := op.opR2_inv hv
  obtain rfl := op.opR2_inv hv2
  rw [hhas] at hlk hlk2
  clear hv hv2 hat hhas HAL
  have HEQ : Hid ((Ending.returned (.tuple #[.agg #[.string s, .slice A len cap], .agg #[.string ⟨s.data.toList.toArray⟩, .string ⟨(spB s.data.toList).toArray⟩, .int .i64 (op.level s.data.toList)], .bool true])) = Ending.returned (.tuple #[.agg #[.string s, .slice A len cap], .agg #[.string ⟨s.data.toList.toArray⟩, .string ⟨(spB s.data.toList).toArray⟩, .int .i64 (op.level s.data.toList)], .bool true])) := Lib.hid rfl
  generalize hlv : op.level s.data.toList = lv at *
  generalize (⟨s.data.toList.toArray⟩ : ByteArray) = a at *
  generalize hb : (⟨(spB s.data.toList).toArray⟩ : ByteArray) = b at *
  have HLV := Lib.hid hlv
  have HBB := Lib.hid hb
  clear hlv hb HEQ
  go_region_held3 (fun w' => w'.cell? ⟨mb, 2, none⟩ = some (.map (some ob)) ∧ w'.cell? ⟨w.heap.size + 1 + 1, 0, none⟩ = some (.string s) ∧ w'.cell? ⟨w.heap.size + 1 + 1, 1, none⟩ = some (.slice A len cap))
    (first | exact ⟨m2, x0, x1⟩ | exact ⟨HN2.out _, HZ0.out _, HZ1.out _⟩) (fail)
  all_goals
    have q1 : Blk (W.alloc (.cells #[.string a, .string b, .int .i64 lv] 64)).drew w.heap.size 62 #[.string ⟨#[]⟩, .slice none 0 0] := HQ1.out.alloc _
    have q2 : Blk (W.alloc (.cells #[.string a, .string b, .int .i64 lv] 64)).drew (w.heap.size + 1) 64 #[.string ⟨#[]⟩, .string ⟨#[]⟩, .int .i64 0] := HQ2.out.alloc _
    have q3 : Blk (W.alloc (.cells #[.string a, .string b, .int .i64 lv] 64)).drew (w.heap.size + 1 + 1) 62 #[.string s, .slice A len cap] := HQ3.out.alloc _
    have q4 : Blk (W.alloc (.cells #[.string a, .string b, .int .i64 lv] 64)).drew W.heap.size 64 #[.string a, .string b, .int .i64 lv] := Blk.new W _ _
    have hb4 : Below w.heap.size w (W.alloc (.cells #[.string a, .string b, .int .i64 lv] 64)).drew := (HB3.out.alloc HB3.out.size _).drew
    generalize (W.alloc (.cells #[.string a, .string b, .int .i64 lv] 64)).drew = W4 at *
    have r0 := q1.cell 0
    have r1 := q1.cell 1
    have r2 := q2.cell 0
    have r3 := q2.cell 1
    have r4 := q2.cell 2
    have r5 := q3.cell 0
    have r6 := q3.cell 1
    have r7 := q4.cell 0
    have r8 := q4.cell 1
    have r9 := q4.cell 2
    have g0 := q1.frozen 0
    have g1 := q1.frozen 1
    have g2 := q2.frozen 0
    have g3 := q2.frozen 1
    have g4 := q2.frozen 2
    simp only [List.getElem?_toArray, List.getElem?_cons_zero, List.getElem?_cons_succ] at r0 r1 r2 r3 r4 r5 r6 r7 r8 r9
    have hs4 : W.heap.size < W4.heap.size := q4.lt
    have hw4 : w.heap.size + 1 < W4.heap.size := q2.lt
    have hw5 : w.heap.size + 1 < W.heap.size := by omega
    have hw6 : w.heap.size + 1 + 1 < W.heap.size := by omega
    obtain ⟨p1, p2, p3⟩ := nm_store hb4 q1 q2 (.string s) (.slice A len cap) (.string a) (.string b) (.int .i64 lv)
    have HP1 := Lib.hid p1
    have HP2 := Lib.hid p2
    have HP3 := Lib.hid p3
    clear q1 q2 q3 q4 hb4 p1 p2 p3 HQ1 HQ2 HQ3 HB3 m2 x0 x1
    go_wp2_with fail
    go_region
    all_goals
      go_wp2_with fail
      refine bodyPost_ret (v := .tuple #[.agg #[.string s, .slice A len cap], .agg #[.string a, .string b, .int .i64 lv], .bool true]) ?_ rfl ⟨?_, .inl ⟨rfl, by rw [HLV.out]; exact HPOS.out, a, by rw [HLV.out, HBB.out]⟩⟩
      · exact results_cells2s Tryd.results30 _ _ w.heap.size (w.heap.size + 1) _ _ _ _ _ _ rfl rfl HP1.out HP2.out Tryd.underlying62 rfl (by kernel_rfl) Tryd.underlying64 rfl (by kernel_rfl)
      · exact HP3.out.drew
end Go.Proofs.YtmgfndgmebignaaDoor.wr

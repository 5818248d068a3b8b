/- The model's texts with operators, first part: spec.l2Infix, l2Sole, l2Spaced, l2Plain, l2Bracket, l2Left, l2Right. Condition: the term lies in memory and is well-formed. -/
import Derived.Test.YtmgfndgmebignaaGreatDoorProg
import Derived.Test.YtmgfndgmebignaaGreatDoorZmFQ43
import Derived.Test.YtmgfndgmebignaaGreatDoorZmFQ44
import Derived.Test.YtmgfndgmebignaaGreatDoorMk
import Derived.Test.YtmgfndgmebignaaGreatDoorSpecL
namespace Go.Proofs.YtmgfndgmebignaaGreatDoor.wr
open Go.RowKit

set_option maxHeartbeats 1000000 in
/-- spec.l2Infix. -/
theorem infix_any (k n : Int) (s : ByteArray) (A : Option Addr) (len cap : Nat) (w : World) :
    Calls Tryz.prog 82 #[.agg #[.int .i64 k, .int .i64 n, .string s, .slice A len cap]] w fun e w' => e = .returned (.bool (infB k s len)) ∧ Below w.heap.size w w' := by
  have hb0 : Below w.heap.size w (w.alloc (.cells #[.int .i64 k, .int .i64 n, .string s, .slice A len cap] 31)) := (Below.refl _ _).alloc (Nat.le_refl _) _
  have HB := Lib.hid hb0
  clear hb0
  by_cases h1 : k = 3
  · subst h1
    by_cases h2 : len = 2
    · subst h2
      have HV : Hid (infB 3 s 2 = decide (0 < op.level s.data.toList)) := Lib.hid rfl
      have C := fun w1 => op.l2_any s w1
      have H := Lib.hid C
      clear C
      generalize op.level s.data.toList = lv at *
      by_cases h3 : 0 < lv
      · have HW : Hid (infB 3 s 2 = true) := Lib.hid (by rw [HV.out, decide_eq_true h3])
        have d3 : decide ((0 : Int) < lv) = true := decide_eq_true h3
        clear HV
        go_enter Tryz.func82, Tryz.ntmps82
        go_wp2_with (first | (go_at_call 69; refine (H.out _).mono ?_; rintro e w' ⟨rfl, rfl⟩) | fail)
        go_ret
        rw [HW.out]; exact ⟨rfl, HB.out⟩
      · have HW : Hid (infB 3 s 2 = false) := Lib.hid (by rw [HV.out, decide_eq_false h3])
        have d3 : decide ((0 : Int) < lv) = false := decide_eq_false h3
        clear HV
        go_enter Tryz.func82, Tryz.ntmps82
        go_wp2_with (first | (go_at_call 69; refine (H.out _).mono ?_; rintro e w' ⟨rfl, rfl⟩) | fail)
        go_ret
        rw [HW.out]; exact ⟨rfl, HB.out⟩
    · have HV : Hid (infB 3 s len = false) := Lib.hid (by simp [infB, h2])
      have t2 : ((len : Int) == 2) = false := by rw [beq_eq_false_iff_ne]; omega
      clear h2
      go_enter Tryz.func82, Tryz.ntmps82
      go_wp2_with fail
      go_ret
      rw [HV.out]; exact ⟨rfl, HB.out⟩
  · have HV : Hid (infB k s len = false) := Lib.hid (by simp [infB, h1])
    have t1 : (k == 3) = false := by rw [beq_eq_false_iff_ne]; exact h1
    clear h1
    go_enter Tryz.func82, Tryz.ntmps82
    go_wp2_with fail
    go_ret
    rw [HV.out]; exact ⟨rfl, HB.out⟩
set_option maxHeartbeats 1000000 in
/-- spec.l2Sole. -/
theorem sole_any (k n : Int) (s : ByteArray) (A : Option Addr) (len cap : Nat) (w : World) :
    Calls Tryz.prog 107 #[.agg #[.int .i64 k, .int .i64 n, .string s, .slice A len cap]] w fun e w' => e = .returned (.bool (soleB k s len)) ∧ Below w.heap.size w w' := by
  have hb0 : Below w.heap.size w (w.alloc (.cells #[.int .i64 k, .int .i64 n, .string s, .slice A len cap] 31)) := (Below.refl _ _).alloc (Nat.le_refl _) _
  have HB := Lib.hid hb0
  clear hb0
  by_cases h1 : k = 3
  · subst h1
    by_cases h2 : len = 0
    · subst h2
      have HV : Hid (soleB 3 s 0 = decide (0 < op.level s.data.toList)) := Lib.hid rfl
      have C := fun w1 => op.l2_any s w1
      have H := Lib.hid C
      clear C
      generalize op.level s.data.toList = lv at *
      by_cases h3 : 0 < lv
      · have HW : Hid (soleB 3 s 0 = true) := Lib.hid (by rw [HV.out, decide_eq_true h3])
        have d3 : decide ((0 : Int) < lv) = true := decide_eq_true h3
        clear HV
        go_enter Tryz.func107, Tryz.ntmps107
        go_wp2_with (first | (go_at_call 69; refine (H.out _).mono ?_; rintro e w' ⟨rfl, rfl⟩) | fail)
        go_ret
        rw [HW.out]; exact ⟨rfl, HB.out⟩
      · have HW : Hid (soleB 3 s 0 = false) := Lib.hid (by rw [HV.out, decide_eq_false h3])
        have d3 : decide ((0 : Int) < lv) = false := decide_eq_false h3
        clear HV
        go_enter Tryz.func107, Tryz.ntmps107
        go_wp2_with (first | (go_at_call 69; refine (H.out _).mono ?_; rintro e w' ⟨rfl, rfl⟩) | fail)
        go_ret
        rw [HW.out]; exact ⟨rfl, HB.out⟩
    · have HV : Hid (soleB 3 s len = false) := Lib.hid (by simp [soleB, h2])
      have t2 : ((len : Int) == 0) = false := by rw [beq_eq_false_iff_ne]; omega
      clear h2
      go_enter Tryz.func107, Tryz.ntmps107
      go_wp2_with fail
      go_ret
      rw [HV.out]; exact ⟨rfl, HB.out⟩
  · have HV : Hid (soleB k s len = false) := Lib.hid (by simp [soleB, h1])
    have t1 : (k == 3) = false := by rw [beq_eq_false_iff_ne]; exact h1
    clear h1
    go_enter Tryz.func107, Tryz.ntmps107
    go_wp2_with fail
    go_ret
    rw [HV.out]; exact ⟨rfl, HB.out⟩
set_option maxHeartbeats 1000000 in
/-- spec.l2Spaced. -/
theorem spaced_any (s : ByteArray) (w : World) (hs : s.size ≤ 6) :
    Calls Tryz.prog 84 #[.string s] w fun e w' => e = .returned (.string ⟨(spB s.data.toList).toArray⟩) ∧ w' = w := by
  by_cases h1 : s.data.toList = [105, 115]
  · obtain rfl := op.str_of h1
    go_enter Tryz.func84, Tryz.ntmps84
    go_wp2_with fail
    go_ret
    exact ⟨rfl, rfl⟩
  · by_cases h2 : s.data.toList = [109, 111, 100]
    · obtain rfl := op.str_of h2
      go_enter Tryz.func84, Tryz.ntmps84
      go_wp2_with fail
      go_ret
      exact ⟨rfl, rfl⟩
    · have HV : Hid (⟨(spB s.data.toList).toArray⟩ = s) := Lib.hid (by
        have e : spB s.data.toList = s.data.toList := by unfold spB; rw [if_neg (by rintro (h | h); exact h1 h; exact h2 h)]
        rw [e])
      have t1 : (s.toList == [105, 115]) = false := by rw [ByteArray.toList_eq, beq_eq_false_iff_ne]; exact h1
      have t2 : (s.toList == [109, 111, 100]) = false := by rw [ByteArray.toList_eq, beq_eq_false_iff_ne]; exact h2
      clear h1 h2
      go_enter Tryz.func84, Tryz.ntmps84
      go_wp2_with fail
      go_ret
      rw [HV.out]; exact ⟨rfl, rfl⟩
theorem plC_of (c : UInt8) : plC c = (smC c || (dgC c || ((decide (65 ≤ c.toNat) && decide (c.toNat ≤ 90)) || (((c.toNat : Int) == 91) || ((c.toNat : Int) == 40))))) := by
  have e1 : (c == 91) = ((c.toNat : Int) == 91) := by
    rw [Bool.eq_iff_iff, beq_iff_eq, beq_iff_eq]
    constructor
    · rintro rfl; rfl
    · intro h
      have : c.toNat = 91 := by omega
      exact UInt8.toNat_inj.1 this
  have e2 : (c == 40) = ((c.toNat : Int) == 40) := by
    rw [Bool.eq_iff_iff, beq_iff_eq, beq_iff_eq]
    constructor
    · rintro rfl; rfl
    · intro h
      have : c.toNat = 40 := by omega
      exact UInt8.toNat_inj.1 this
  unfold plC smC dgC
  rw [e1, e2]
  simp only [Bool.or_assoc]
set_option maxHeartbeats 2000000 in
/-- spec.l2Plain. -/
theorem plain_any (s : ByteArray) (w : World) (hs : s.size ≤ maxLen) (h0 : 0 < s.size) :
    Calls Tryz.prog 109 #[.string s] w fun e w' => e = .returned (.bool (plB s.data.toList)) ∧ w' = w := by
  have hat : s.data.toList[0]? = some s[0] := Lib.data_getElem? s 0 h0
  have hpl : plB s.data.toList = plC s[0] := by
    cases hc : s.data.toList with
    | nil => rw [hc] at hat; cases hat
    | cons c l => rw [hc] at hat; simp at hat; rw [← hat]; rfl
  rw [plC_of] at hpl
  have C1 := small_any s 0 w hs (Nat.zero_le _)
  have C2 := digit_any s 0 w hs (Nat.zero_le _)
  rw [atB_some hat] at C1 C2
  have HV := Lib.hid hpl
  clear hpl hat
  cases b1 : smC s[0]
  · rw [b1] at C1
    cases b2 : dgC s[0]
    · rw [b2] at C2
      have HV2 : Hid (plB s.data.toList = ((decide (65 ≤ s[0].toNat) && decide (s[0].toNat ≤ 90)) || (((s[0].toNat : Int) == 91) || ((s[0].toNat : Int) == 40)))) := Lib.hid (by rw [HV.out, b1, b2]; rfl)
      have H1 := Lib.hid C1
      have H2 := Lib.hid C2
      clear C1 C2 b1 b2 HV
      have hs' : s.size ≤ 9223372036854775807 := hs
      clear hs
      by_cases b3 : 65 ≤ s[0].toNat ∧ s[0].toNat ≤ 90
      · have HW : Hid (plB s.data.toList = true) := Lib.hid (by rw [HV2.out, decide_eq_true b3.1, decide_eq_true b3.2]; rfl)
        have d1 : (65 : Int) ≤ (s[0].toNat : Int) := by omega
        have d2 : (s[0].toNat : Int) ≤ 90 := by omega
        clear HV2 b3
        go_enter Tryz.func109, Tryz.ntmps109
        go_wp2_with (first
          | (go_at_call 125; refine H1.out.mono ?_; rintro e w' ⟨rfl, rfl⟩)
          | (go_at_call 97; refine H2.out.mono ?_; rintro e w' ⟨rfl, rfl⟩)
          | fail)
        go_ret
        rw [HW.out]; exact ⟨rfl, rfl⟩
      · have HV3 : Hid (plB s.data.toList = (((s[0].toNat : Int) == 91) || ((s[0].toNat : Int) == 40))) := Lib.hid (by
          have : (decide (65 ≤ s[0].toNat) && decide (s[0].toNat ≤ 90)) = false := by
            rw [← Bool.not_eq_true, Bool.and_eq_true, decide_eq_true_iff, decide_eq_true_iff]; exact b3
          rw [HV2.out, this]; rfl)
        have d1 : (s[0].toNat : Int) < 65 ∨ (65 : Int) ≤ (s[0].toNat : Int) ∧ decide ((s[0].toNat : Int) ≤ 90) = false := by simp; omega
        clear HV2 b3
        cases b4 : ((s[0].toNat : Int) == 91)
        · cases b5 : ((s[0].toNat : Int) == 40)
          · have HW : Hid (plB s.data.toList = false) := Lib.hid (by rw [HV3.out, b4, b5]; rfl)
            clear HV3
            rcases d1 with d1 | ⟨d1, d2⟩
            · go_enter Tryz.func109, Tryz.ntmps109
              go_wp2_with (first
                | (go_at_call 125; refine H1.out.mono ?_; rintro e w' ⟨rfl, rfl⟩)
                | (go_at_call 97; refine H2.out.mono ?_; rintro e w' ⟨rfl, rfl⟩)
                | fail)
              go_ret
              rw [HW.out]; exact ⟨rfl, rfl⟩
            · go_enter Tryz.func109, Tryz.ntmps109
              go_wp2_with (first
                | (go_at_call 125; refine H1.out.mono ?_; rintro e w' ⟨rfl, rfl⟩)
                | (go_at_call 97; refine H2.out.mono ?_; rintro e w' ⟨rfl, rfl⟩)
                | fail)
              go_ret
              rw [HW.out]; exact ⟨rfl, rfl⟩
          · have HW : Hid (plB s.data.toList = true) := Lib.hid (by rw [HV3.out, b4, b5]; rfl)
            clear HV3
            rcases d1 with d1 | ⟨d1, d2⟩
            · go_enter Tryz.func109, Tryz.ntmps109
              go_wp2_with (first
                | (go_at_call 125; refine H1.out.mono ?_; rintro e w' ⟨rfl, rfl⟩)
                | (go_at_call 97; refine H2.out.mono ?_; rintro e w' ⟨rfl, rfl⟩)
                | fail)
              go_ret
              rw [HW.out]; exact ⟨rfl, rfl⟩
            · go_enter Tryz.func109, Tryz.ntmps109
              go_wp2_with (first
                | (go_at_call 125; refine H1.out.mono ?_; rintro e w' ⟨rfl, rfl⟩)
                | (go_at_call 97; refine H2.out.mono ?_; rintro e w' ⟨rfl, rfl⟩)
                | fail)
              go_ret
              rw [HW.out]; exact ⟨rfl, rfl⟩
        · have HW : Hid (plB s.data.toList = true) := Lib.hid (by rw [HV3.out, b4]; rfl)
          clear HV3
          rcases d1 with d1 | ⟨d1, d2⟩
          · go_enter Tryz.func109, Tryz.ntmps109
            go_wp2_with (first
              | (go_at_call 125; refine H1.out.mono ?_; rintro e w' ⟨rfl, rfl⟩)
              | (go_at_call 97; refine H2.out.mono ?_; rintro e w' ⟨rfl, rfl⟩)
              | fail)
            go_ret
            rw [HW.out]; exact ⟨rfl, rfl⟩
          · go_enter Tryz.func109, Tryz.ntmps109
            go_wp2_with (first
              | (go_at_call 125; refine H1.out.mono ?_; rintro e w' ⟨rfl, rfl⟩)
              | (go_at_call 97; refine H2.out.mono ?_; rintro e w' ⟨rfl, rfl⟩)
              | fail)
            go_ret
            rw [HW.out]; exact ⟨rfl, rfl⟩
    · rw [b2] at C2
      have HW : Hid (plB s.data.toList = true) := Lib.hid (by rw [HV.out, b1, b2]; rfl)
      have H1 := Lib.hid C1
      have H2 := Lib.hid C2
      clear C1 C2 b1 b2 HV hs
      go_enter Tryz.func109, Tryz.ntmps109
      go_wp2_with (first
        | (go_at_call 125; refine H1.out.mono ?_; rintro e w' ⟨rfl, rfl⟩)
        | (go_at_call 97; refine H2.out.mono ?_; rintro e w' ⟨rfl, rfl⟩)
        | fail)
      go_ret
      rw [HW.out]; exact ⟨rfl, rfl⟩
  · rw [b1] at C1
    have HW : Hid (plB s.data.toList = true) := Lib.hid (by rw [HV.out, b1]; rfl)
    have H1 := Lib.hid C1
    clear C1 C2 b1 HV hs
    go_enter Tryz.func109, Tryz.ntmps109
    go_wp2_with (first
      | (go_at_call 125; refine H1.out.mono ?_; rintro e w' ⟨rfl, rfl⟩)
      | fail)
    go_ret
    rw [HW.out]; exact ⟨rfl, rfl⟩
end Go.Proofs.YtmgfndgmebignaaGreatDoor.wr

/- impl.canFollowOperator, operator.rightLevel, opWriter.named, opWriter.operandLevel. Condition: the node lies in memory, the map of operators in the writer's block. -/
namespace Go.Proofs.YtmgfndgmebignaaGreatDoor.wr
open Go.RowKit Go.Maps

set_option maxHeartbeats 1000000 in
/-- impl.isLetter. -/
theorem letterI_any (c : UInt8) (w : World) : Calls Tryz.prog 135 #[.int .u8 (c.toNat : Int)] w fun e w' => e = .returned (.bool (smC c)) ∧ w' = w := by
  have HV : Hid (smC c = (decide (97 ≤ c.toNat) && decide (c.toNat ≤ 122))) := Lib.hid rfl
  by_cases h1 : 97 ≤ c.toNat
  · by_cases h2 : c.toNat ≤ 122
    · have HW : Hid (smC c = true) := Lib.hid (by rw [HV.out, decide_eq_true h1, decide_eq_true h2]; rfl)
      have b1 : decide ((97 : Int) ≤ (c.toNat : Int)) = true := by simp; omega
      have b2 : decide ((c.toNat : Int) ≤ 122) = true := by simp; omega
      clear HV h1 h2
      go_enter Tryz.func135, Tryz.ntmps135
      go_wp2_with fail
      go_ret
      rw [HW.out]; exact ⟨rfl, rfl⟩
    · have HW : Hid (smC c = false) := Lib.hid (by rw [HV.out, decide_eq_true h1, decide_eq_false h2]; rfl)
      have b1 : decide ((97 : Int) ≤ (c.toNat : Int)) = true := by simp; omega
      have b2 : decide ((c.toNat : Int) ≤ 122) = false := by simp; omega
      clear HV h1 h2
      go_enter Tryz.func135, Tryz.ntmps135
      go_wp2_with fail
      go_ret
      rw [HW.out]; exact ⟨rfl, rfl⟩
  · have HW : Hid (smC c = false) := Lib.hid (by rw [HV.out, decide_eq_false h1]; rfl)
    have b1 : decide ((97 : Int) ≤ (c.toNat : Int)) = false := by simp; omega
    clear HV h1
    go_enter Tryz.func135, Tryz.ntmps135
    go_wp2_with fail
    go_ret
    rw [HW.out]; exact ⟨rfl, rfl⟩
set_option maxHeartbeats 1000000 in
/-- impl.isDigit. -/
theorem digitI_any (c : UInt8) (w : World) : Calls Tryz.prog 139 #[.int .u8 (c.toNat : Int)] w fun e w' => e = .returned (.bool (dgC c)) ∧ w' = w := by
  have HV : Hid (dgC c = (decide (48 ≤ c.toNat) && decide (c.toNat ≤ 57))) := Lib.hid rfl
  by_cases h1 : 48 ≤ c.toNat
  · by_cases h2 : c.toNat ≤ 57
    · have HW : Hid (dgC c = true) := Lib.hid (by rw [HV.out, decide_eq_true h1, decide_eq_true h2]; rfl)
      have b1 : decide ((48 : Int) ≤ (c.toNat : Int)) = true := by simp; omega
      have b2 : decide ((c.toNat : Int) ≤ 57) = true := by simp; omega
      clear HV h1 h2
      go_enter Tryz.func139, Tryz.ntmps139
      go_wp2_with fail
      go_ret
      rw [HW.out]; exact ⟨rfl, rfl⟩
    · have HW : Hid (dgC c = false) := Lib.hid (by rw [HV.out, decide_eq_true h1, decide_eq_false h2]; rfl)
      have b1 : decide ((48 : Int) ≤ (c.toNat : Int)) = true := by simp; omega
      have b2 : decide ((c.toNat : Int) ≤ 57) = false := by simp; omega
      clear HV h1 h2
      go_enter Tryz.func139, Tryz.ntmps139
      go_wp2_with fail
      go_ret
      rw [HW.out]; exact ⟨rfl, rfl⟩
  · have HW : Hid (dgC c = false) := Lib.hid (by rw [HV.out, decide_eq_false h1]; rfl)
    have b1 : decide ((48 : Int) ≤ (c.toNat : Int)) = false := by simp; omega
    clear HV h1
    go_enter Tryz.func139, Tryz.ntmps139
    go_wp2_with fail
    go_ret
    rw [HW.out]; exact ⟨rfl, rfl⟩
set_option maxHeartbeats 2000000 in
/-- impl.canFollowOperator. -/
theorem follow_any (c : UInt8) (w : World) : Calls Tryz.prog 120 #[.int .u8 (c.toNat : Int)] w fun e w' => e = .returned (.bool (plC c)) ∧ w' = w := by
  have C1 := letterI_any c w
  have C2 := digitI_any c w
  have HV := Lib.hid (plC_of c)
  cases b1 : smC c
  · rw [b1] at C1
    by_cases h1 : 65 ≤ c.toNat
    · by_cases h2 : c.toNat ≤ 90
      · have HW : Hid (plC c = true) := Lib.hid (by rw [HV.out, decide_eq_true h1, decide_eq_true h2]; simp)
        have d1 : decide ((65 : Int) ≤ (c.toNat : Int)) = true := by simp; omega
        have d2 : decide ((c.toNat : Int) ≤ 90) = true := by simp; omega
        have H1 := Lib.hid C1
        clear C1 C2 b1 HV h1 h2
        go_enter Tryz.func120, Tryz.ntmps120
        go_wp2_with (first
          | (go_at_call 135; refine H1.out.mono ?_; rintro e w' ⟨rfl, rfl⟩)
          | fail)
        go_ret
        rw [HW.out]; exact ⟨rfl, rfl⟩
      · have d1 : decide ((65 : Int) ≤ (c.toNat : Int)) = true := by simp; omega
        have d2 : decide ((c.toNat : Int) ≤ 90) = false := by simp; omega
        have HV2 : Hid (plC c = (dgC c || (((c.toNat : Int) == 91) || ((c.toNat : Int) == 40)))) := Lib.hid (by rw [HV.out, b1, decide_eq_true h1, decide_eq_false h2]; simp)
        have H1 := Lib.hid C1
        have H2 := Lib.hid C2
        clear C1 C2 b1 HV h1 h2
        cases b2 : dgC c <;> rw [b2] at H2 HV2
        · cases b3 : ((c.toNat : Int) == 91) <;> rw [b3] at HV2
          · have HW : Hid (plC c = ((c.toNat : Int) == 40)) := Lib.hid (by rw [HV2.out]; simp)
            clear HV2 b2
            cases b4 : ((c.toNat : Int) == 40) <;> rw [b4] at HW
            · go_enter Tryz.func120, Tryz.ntmps120
              go_wp2_with (first
                | (go_at_call 135; refine H1.out.mono ?_; rintro e w' ⟨rfl, rfl⟩)
                | (go_at_call 139; refine H2.out.mono ?_; rintro e w' ⟨rfl, rfl⟩)
                | fail)
              go_ret
              rw [HW.out]; exact ⟨rfl, rfl⟩
            · go_enter Tryz.func120, Tryz.ntmps120
              go_wp2_with (first
                | (go_at_call 135; refine H1.out.mono ?_; rintro e w' ⟨rfl, rfl⟩)
                | (go_at_call 139; refine H2.out.mono ?_; rintro e w' ⟨rfl, rfl⟩)
                | fail)
              go_ret
              rw [HW.out]; exact ⟨rfl, rfl⟩
          · have HW : Hid (plC c = true) := Lib.hid (by rw [HV2.out]; simp)
            clear HV2 b2
            go_enter Tryz.func120, Tryz.ntmps120
            go_wp2_with (first
              | (go_at_call 135; refine H1.out.mono ?_; rintro e w' ⟨rfl, rfl⟩)
              | (go_at_call 139; refine H2.out.mono ?_; rintro e w' ⟨rfl, rfl⟩)
              | fail)
            go_ret
            rw [HW.out]; exact ⟨rfl, rfl⟩
        · have HW : Hid (plC c = true) := Lib.hid (by rw [HV2.out]; simp)
          clear HV2 b2
          go_enter Tryz.func120, Tryz.ntmps120
          go_wp2_with (first
            | (go_at_call 135; refine H1.out.mono ?_; rintro e w' ⟨rfl, rfl⟩)
            | (go_at_call 139; refine H2.out.mono ?_; rintro e w' ⟨rfl, rfl⟩)
            | fail)
          go_ret
          rw [HW.out]; exact ⟨rfl, rfl⟩
    · have d1 : decide ((65 : Int) ≤ (c.toNat : Int)) = false := by simp; omega
      have HV2 : Hid (plC c = (dgC c || (((c.toNat : Int) == 91) || ((c.toNat : Int) == 40)))) := Lib.hid (by rw [HV.out, b1, decide_eq_false h1]; simp)
      have H1 := Lib.hid C1
      have H2 := Lib.hid C2
      clear C1 C2 b1 HV h1
      cases b2 : dgC c <;> rw [b2] at H2 HV2
      · cases b3 : ((c.toNat : Int) == 91) <;> rw [b3] at HV2
        · have HW : Hid (plC c = ((c.toNat : Int) == 40)) := Lib.hid (by rw [HV2.out]; simp)
          clear HV2 b2
          cases b4 : ((c.toNat : Int) == 40) <;> rw [b4] at HW
          · go_enter Tryz.func120, Tryz.ntmps120
            go_wp2_with (first
              | (go_at_call 135; refine H1.out.mono ?_; rintro e w' ⟨rfl, rfl⟩)
              | (go_at_call 139; refine H2.out.mono ?_; rintro e w' ⟨rfl, rfl⟩)
              | fail)
            go_ret
            rw [HW.out]; exact ⟨rfl, rfl⟩
          · go_enter Tryz.func120, Tryz.ntmps120
            go_wp2_with (first
              | (go_at_call 135; refine H1.out.mono ?_; rintro e w' ⟨rfl, rfl⟩)
              | (go_at_call 139; refine H2.out.mono ?_; rintro e w' ⟨rfl, rfl⟩)
              | fail)
            go_ret
            rw [HW.out]; exact ⟨rfl, rfl⟩
        · have HW : Hid (plC c = true) := Lib.hid (by rw [HV2.out]; simp)
          clear HV2 b2
          go_enter Tryz.func120, Tryz.ntmps120
          go_wp2_with (first
            | (go_at_call 135; refine H1.out.mono ?_; rintro e w' ⟨rfl, rfl⟩)
            | (go_at_call 139; refine H2.out.mono ?_; rintro e w' ⟨rfl, rfl⟩)
            | fail)
          go_ret
          rw [HW.out]; exact ⟨rfl, rfl⟩
      · have HW : Hid (plC c = true) := Lib.hid (by rw [HV2.out]; simp)
        clear HV2 b2
        go_enter Tryz.func120, Tryz.ntmps120
        go_wp2_with (first
          | (go_at_call 135; refine H1.out.mono ?_; rintro e w' ⟨rfl, rfl⟩)
          | (go_at_call 139; refine H2.out.mono ?_; rintro e w' ⟨rfl, rfl⟩)
          | fail)
        go_ret
        rw [HW.out]; exact ⟨rfl, rfl⟩
  · rw [b1] at C1
    have HW : Hid (plC c = true) := Lib.hid (by rw [HV.out, b1]; rfl)
    have H1 := Lib.hid C1
    clear C1 C2 b1 HV
    go_enter Tryz.func120, Tryz.ntmps120
    go_wp2_with (first
      | (go_at_call 135; refine H1.out.mono ?_; rintro e w' ⟨rfl, rfl⟩)
      | fail)
    go_ret
    rw [HW.out]; exact ⟨rfl, rfl⟩
/-- operator.rightLevel. -/
theorem rightLv_any (a b : ByteArray) (l : Int) (hl : 0 ≤ l ∧ l ≤ 3) (w : World) :
    Calls Tryz.prog 93 #[.agg #[.string a, .string b, .int .i64 l]] w fun e w' => e = .returned (.int .i64 (l - 1)) ∧ Below w.heap.size w w' := by
  have hb0 : ∀ o, Below w.heap.size w (w.alloc o) := fun o => (Below.refl _ _).alloc (Nat.le_refl _) _
  have HB := Lib.hid hb0
  clear hb0
  obtain ⟨h0, h1⟩ := hl
  go_enter Tryz.func93, Tryz.ntmps93
  go_wp2_with fail
  go_ret
  exact ⟨rfl, HB.out _⟩
theorem lmin_lfl (l : Int) (h : l ≤ 3) : op.lmin l = lfl l := by
  unfold op.lmin lfl
  split <;> split <;> omega
end Go.Proofs.YtmgfndgmebignaaGreatDoor.wr

/- What opWriter.named leaves. No condition. -/
namespace Go.Proofs.YtmgfndgmebignaaGreatDoor.wr
open Go.RowKit Go.Maps

theorem results_cells2s {P : Program} {fn : Func} {p q u : Tmp} {ty ty' : TypeId} (h : fn.results = #[.cell p ty, .cell q ty', .tmp u]) (tmps : Array Value) (w : World) (g g' : Nat) (t t' : TypeId) (cs cs' : Array Value) (d d' : TypeDesc)
    (hp : tmps.getD p undef = .pointer (some ⟨g, 0, none⟩)) (hq : tmps.getD q undef = .pointer (some ⟨g', 0, none⟩)) (hg : Blk w g t cs) (hg' : Blk w g' t' cs')
    (hu : P.underlying ty = some d) (hd : (match d with | .struct _ | .array _ _ => true | _ => false) = true) (hi : (P.info? ty).map (·.size) = some cs.size)
    (hu' : P.underlying ty' = some d') (hd' : (match d' with | .struct _ | .array _ _ => true | _ => false) = true) (hi' : (P.info? ty').map (·.size) = some cs'.size) :
    (results fn tmps).run P w = .ok (.tuple #[.agg cs, .agg cs', tmps.getD u undef]) w := by
  have hp' : tmps[p]?.getD undef = .pointer (some ⟨g, 0, none⟩) := by simpa using hp
  have hq' : tmps[q]?.getD undef = .pointer (some ⟨g', 0, none⟩) := by simpa using hq
  simp [results, h, hp', hq', asAddr, run_loadVar_row w g t ty cs (0, 0) d hg hu hd hi, run_loadVar_row w g' t' ty' cs' (0, 0) d' hg' hu' hd' hi']

/-- What opWriter.named leaves. -/
def NmR (w : World) (k : Int) (s : ByteArray) (A : Option Addr) (len cap : Nat) (e : Ending) (w' : World) : Prop :=
  Below w.heap.size w w' ∧ ((k = 3 ∧ 0 < op.level s.data.toList ∧ ∃ a, e = .returned (.tuple #[.agg #[.string s, .slice A len cap], .agg #[.string a, .string ⟨(spB s.data.toList).toArray⟩, .int .i64 (op.level s.data.toList)], .bool true])) ∨
    ((k = 3 → op.level s.data.toList = 0) ∧ ∃ x1 x2 x3 x4 y1 y2 y3, e = .returned (.tuple #[.agg #[.string x1, .slice x2 x3 x4], .agg #[.string y1, .string y2, .int .i64 y3], .bool false])))

/-- The two results' blocks are written. -/
def nmW (w2 : World) (g : Nat) (a b c d e : Value) : World := ((((w2.setCell ⟨g, 0, none⟩ a).setCell ⟨g, 1, none⟩ b).setCell ⟨g + 1, 0, none⟩ c).setCell ⟨g + 1, 1, none⟩ d).setCell ⟨g + 1, 2, none⟩ e
theorem nm_store {w w2 : World} {a b c d e : Value} {t t' : TypeId} (hb : Below w.heap.size w w2) (h1 : Blk w2 w.heap.size t #[a, b]) (h2 : Blk w2 (w.heap.size + 1) t' #[c, d, e]) (a' b' c' d' e' : Value) :
    Blk (nmW w2 w.heap.size a' b' c' d' e') w.heap.size t #[a', b'] ∧ Blk (nmW w2 w.heap.size a' b' c' d' e') (w.heap.size + 1) t' #[c', d', e'] ∧ Below w.heap.size w (nmW w2 w.heap.size a' b' c' d' e') := by
  unfold nmW
  exact ⟨((((h1.set_ 0 a').set_ 1 b').far (by simp) _).far (by simp) _).far (by simp) _, ((((h2.far (by simp) _).far (by simp) _).set_ 0 c').set_ 1 d').set_ 2 e', ((((hb.setCell (by simp) _).setCell (by simp) _).setCell (by simp) _).setCell (by simp) _).setCell (by simp) _⟩

end Go.Proofs.YtmgfndgmebignaaGreatDoor.wr

/- opWriter.named of a structure whose name is an operator. Condition: the map of operators in the writer's block. -/
namespace Go.Proofs.YtmgfndgmebignaaGreatDoor.wr
open Go.RowKit Go.Maps

set_option maxRecDepth 100000 in
set_option maxHeartbeats 4000000 in
/-- opWriter.named of a structure whose name is an operator. -/
theorem named_yes (s : ByteArray) (hs : s.size ≤ maxLen) (A : Option Addr) (len cap ob mb : Nat) (tv fv : Value) (w : World) (hq : Blk w mb 77 #[tv, fv, .map (some ob)]) (hm : op.OpM w ob) (hpos : 0 < op.level s.data.toList) :
    Calls Tryz.prog 89 #[.pointer (some ⟨mb, 0, none⟩), .iface 116 (.agg #[.string s, .slice A len cap])] w fun e w' => NmR w 3 s A len cap e w' := by
  have hml := hq.lt
  have c2 := hq.cell 2
  simp only [List.getElem?_toArray, List.getElem?_cons_zero, List.getElem?_cons_succ] at c2
  have hkey := op.key_ok s hs
  have HM := Lib.hid hm
  have HQ := Lib.hid hq
  have hal : (op.opD2 14).atKey (.string s.data.toList) op.opZ = .agg [.lit (.string s.data.toList), .lit (.string (spB s.data.toList)), .lit (.int .i64 (op.level s.data.toList))] ∧ has (op.opD2 14) (.string s.data.toList) = true := by
    rcases op.at2_all s.data.toList with ⟨_, h⟩ | ⟨h, _⟩
    · exact h
    · omega
  have HAL := Lib.hid hal
  have HPOS := Lib.hid hpos
  clear hm hq hal hs hpos
  go_enter Tryz.func89, Tryz.ntmps89
  go_wp2_with fail
  have hb3 : Below w.heap.size w (((w.alloc (.cells #[.string ⟨#[]⟩, .slice none 0 0] 116)).alloc (.cells #[.string ⟨#[]⟩, .string ⟨#[]⟩, .int .i64 0] 149)).alloc (.cells #[.string s, .slice A len cap] 116)) :=
    (((Below.refl _ _).alloc (Nat.le_refl _) _).alloc (by simp) _).alloc (by simp; omega) _
  have q1 : Blk (((w.alloc (.cells #[.string ⟨#[]⟩, .slice none 0 0] 116)).alloc (.cells #[.string ⟨#[]⟩, .string ⟨#[]⟩, .int .i64 0] 149)).alloc (.cells #[.string s, .slice A len cap] 116)) w.heap.size 116 #[.string ⟨#[]⟩, .slice none 0 0] :=
    ((Blk.new w _ _).alloc _).alloc _
  have q2 : Blk (((w.alloc (.cells #[.string ⟨#[]⟩, .slice none 0 0] 116)).alloc (.cells #[.string ⟨#[]⟩, .string ⟨#[]⟩, .int .i64 0] 149)).alloc (.cells #[.string s, .slice A len cap] 116)) (w.heap.size + 1) 149 #[.string ⟨#[]⟩, .string ⟨#[]⟩, .int .i64 0] := by
    have h := (Blk.new (w.alloc (.cells #[.string ⟨#[]⟩, .slice none 0 0] 116)) 149 #[.string ⟨#[]⟩, .string ⟨#[]⟩, .int .i64 0]).alloc (.cells #[.string s, .slice A len cap] 116)
    simpa using h
  have q3 : Blk (((w.alloc (.cells #[.string ⟨#[]⟩, .slice none 0 0] 116)).alloc (.cells #[.string ⟨#[]⟩, .string ⟨#[]⟩, .int .i64 0] 149)).alloc (.cells #[.string s, .slice A len cap] 116)) (w.heap.size + 1 + 1) 116 #[.string s, .slice A len cap] := by
    have h := Blk.new ((w.alloc (.cells #[.string ⟨#[]⟩, .slice none 0 0] 116)).alloc (.cells #[.string ⟨#[]⟩, .string ⟨#[]⟩, .int .i64 0] 149)) 116 #[.string s, .slice A len cap]
    simpa using h
  have hm3 : op.OpM (((w.alloc (.cells #[.string ⟨#[]⟩, .slice none 0 0] 116)).alloc (.cells #[.string ⟨#[]⟩, .string ⟨#[]⟩, .int .i64 0] 149)).alloc (.cells #[.string s, .slice A len cap] 116)) ob := ((HM.out.alloc _).alloc _).alloc _
  generalize (((w.alloc (.cells #[.string ⟨#[]⟩, .slice none 0 0] 116)).alloc (.cells #[.string ⟨#[]⟩, .string ⟨#[]⟩, .int .i64 0] 149)).alloc (.cells #[.string s, .slice A len cap] 116)) = W at *
  have m2 := (hb3.cell (p := ⟨mb, 2, none⟩) hml).trans c2
  have x0 := q3.cell 0
  have x1 := q3.cell 1
  simp only [List.getElem?_toArray, List.getElem?_cons_zero, List.getElem?_cons_succ] at x0 x1
  obtain ⟨v, ps, hlk, hv⟩ := World.ownsMap.look_ok (e := 149) hm3.drew op.law Tryz.underlying75 (op.zero_op _) (zd := op.opZ) (zp := []) rfl hkey
  obtain ⟨v2, ps2, hlk2, hv2⟩ := World.ownsMap.look_ok (e := 149) (hm3.alloc (.cells #[.string ⟨#[]⟩, .string ⟨#[]⟩, .int .i64 0] 149)).drew op.law Tryz.underlying75 (op.zero_op _) (zd := op.opZ) (zp := []) rfl hkey
  have hmW : mb < W.heap.size := Nat.lt_of_lt_of_le hml hb3.size
  have hq3l := q3.lt
  have HB3 := Lib.hid hb3
  have HQ1 := Lib.hid q1
  have HQ2 := Lib.hid q2
  have HQ3 := Lib.hid q3
  have n2 : ∀ o, (W.alloc o).cell? ⟨mb, 2, none⟩ = some (.map (some ob)) := fun o => (((Below.refl W.heap.size W).alloc (Nat.le_refl _) o).cell (p := ⟨mb, 2, none⟩) hmW).trans m2
  have z0 : ∀ o, (W.alloc o).cell? ⟨w.heap.size + 1 + 1, 0, none⟩ = some (.string s) := fun o => (((Below.refl W.heap.size W).alloc (Nat.le_refl _) o).cell (p := ⟨w.heap.size + 1 + 1, 0, none⟩) hq3l).trans x0
  have z1 : ∀ o, (W.alloc o).cell? ⟨w.heap.size + 1 + 1, 1, none⟩ = some (.slice A len cap) := fun o => (((Below.refl W.heap.size W).alloc (Nat.le_refl _) o).cell (p := ⟨w.heap.size + 1 + 1, 1, none⟩) hq3l).trans x1
  have HN2 := Lib.hid n2
  have HZ0 := Lib.hid z0
  have HZ1 := Lib.hid z1
  clear hb3 q1 q2 q3 hm3 hkey c2 n2 z0 z1
  obtain ⟨hat, hhas⟩ := HAL.out
  rw [hat] at hv hv2
  obtain rfl := op.opR2_inv hv
  obtain rfl := op.opR2_inv hv2
  rw [hhas] at hlk hlk2
  clear hv hv2 hat hhas HAL
  have HEQ : Hid ((Ending.returned (.tuple #[.agg #[.string s, .slice A len cap], .agg #[.string ⟨s.data.toList.toArray⟩, .string ⟨(spB s.data.toList).toArray⟩, .int .i64 (op.level s.data.toList)], .bool true])) = Ending.returned (.tuple #[.agg #[.string s, .slice A len cap], .agg #[.string ⟨s.data.toList.toArray⟩, .string ⟨(spB s.data.toList).toArray⟩, .int .i64 (op.level s.data.toList)], .bool true])) := Lib.hid rfl
  generalize hlv : op.level s.data.toList = lv at *
  generalize (⟨s.data.toList.toArray⟩ : ByteArray) = a at *
  generalize hb : (⟨(spB s.data.toList).toArray⟩ : ByteArray) = b at *
  have HLV := Lib.hid hlv
  have HBB := Lib.hid hb
  clear hlv hb HEQ
  go_region_held3 (fun w' => w'.cell? ⟨mb, 2, none⟩ = some (.map (some ob)) ∧ w'.cell? ⟨w.heap.size + 1 + 1, 0, none⟩ = some (.string s) ∧ w'.cell? ⟨w.heap.size + 1 + 1, 1, none⟩ = some (.slice A len cap))
    (first | exact ⟨m2, x0, x1⟩ | exact ⟨HN2.out _, HZ0.out _, HZ1.out _⟩) (fail)
  all_goals
    have q1 : Blk (W.alloc (.cells #[.string a, .string b, .int .i64 lv] 149)).drew w.heap.size 116 #[.string ⟨#[]⟩, .slice none 0 0] := HQ1.out.alloc _
    have q2 : Blk (W.alloc (.cells #[.string a, .string b, .int .i64 lv] 149)).drew (w.heap.size + 1) 149 #[.string ⟨#[]⟩, .string ⟨#[]⟩, .int .i64 0] := HQ2.out.alloc _
    have q3 : Blk (W.alloc (.cells #[.string a, .string b, .int .i64 lv] 149)).drew (w.heap.size + 1 + 1) 116 #[.string s, .slice A len cap] := HQ3.out.alloc _
    have q4 : Blk (W.alloc (.cells #[.string a, .string b, .int .i64 lv] 149)).drew W.heap.size 149 #[.string a, .string b, .int .i64 lv] := Blk.new W _ _
    have hb4 : Below w.heap.size w (W.alloc (.cells #[.string a, .string b, .int .i64 lv] 149)).drew := (HB3.out.alloc HB3.out.size _).drew
    generalize (W.alloc (.cells #[.string a, .string b, .int .i64 lv] 149)).drew = W4 at *
    have r0 := q1.cell 0
    have r1 := q1.cell 1
    have r2 := q2.cell 0
    have r3 := q2.cell 1
    have r4 := q2.cell 2
    have r5 := q3.cell 0
    have r6 := q3.cell 1
    have r7 := q4.cell 0
    have r8 := q4.cell 1
    have r9 := q4.cell 2
    have g0 := q1.frozen 0
    have g1 := q1.frozen 1
    have g2 := q2.frozen 0
    have g3 := q2.frozen 1
    have g4 := q2.frozen 2
    simp only [List.getElem?_toArray, List.getElem?_cons_zero, List.getElem?_cons_succ] at r0 r1 r2 r3 r4 r5 r6 r7 r8 r9
    have hs4 : W.heap.size < W4.heap.size := q4.lt
    have hw4 : w.heap.size + 1 < W4.heap.size := q2.lt
    have hw5 : w.heap.size + 1 < W.heap.size := by omega
    have hw6 : w.heap.size + 1 + 1 < W.heap.size := by omega
    obtain ⟨p1, p2, p3⟩ := nm_store hb4 q1 q2 (.string s) (.slice A len cap) (.string a) (.string b) (.int .i64 lv)
    have HP1 := Lib.hid p1
    have HP2 := Lib.hid p2
    have HP3 := Lib.hid p3
    clear q1 q2 q3 q4 hb4 p1 p2 p3 HQ1 HQ2 HQ3 HB3 m2 x0 x1
    go_wp2_with fail
    go_region
    all_goals
      go_wp2_with fail
      refine bodyPost_ret (v := .tuple #[.agg #[.string s, .slice A len cap], .agg #[.string a, .string b, .int .i64 lv], .bool true]) ?_ rfl ⟨?_, .inl ⟨rfl, by rw [HLV.out]; exact HPOS.out, a, by rw [HLV.out, HBB.out]⟩⟩
      · exact results_cells2s Tryz.results89 _ _ w.heap.size (w.heap.size + 1) _ _ _ _ _ _ rfl rfl HP1.out HP2.out Tryz.underlying116 rfl (by kernel_rfl) Tryz.underlying149 rfl (by kernel_rfl)
      · exact HP3.out.drew
end Go.Proofs.YtmgfndgmebignaaGreatDoor.wr

/- opWriter.named of a structure whose name is no operator. Condition: the map of operators in the writer's block. -/
namespace Go.Proofs.YtmgfndgmebignaaGreatDoor.wr
open Go.RowKit Go.Maps

set_option maxRecDepth 100000 in
set_option maxHeartbeats 4000000 in
/-- opWriter.named of a structure whose name is no operator. -/
theorem named_no (s : ByteArray) (hs : s.size ≤ maxLen) (A : Option Addr) (len cap ob mb : Nat) (tv fv : Value) (w : World) (hq : Blk w mb 77 #[tv, fv, .map (some ob)]) (hm : op.OpM w ob) (hz : op.level s.data.toList = 0) :
    Calls Tryz.prog 89 #[.pointer (some ⟨mb, 0, none⟩), .iface 116 (.agg #[.string s, .slice A len cap])] w fun e w' => NmR w 3 s A len cap e w' := by
  have hml := hq.lt
  have c2 := hq.cell 2
  simp only [List.getElem?_toArray, List.getElem?_cons_zero, List.getElem?_cons_succ] at c2
  have hkey := op.key_ok s hs
  have HM := Lib.hid hm
  have HQ := Lib.hid hq
  have hal : (op.opD2 14).atKey (.string s.data.toList) op.opZ = .agg [.lit (.string []), .lit (.string []), .lit (.int .i64 0)] ∧ has (op.opD2 14) (.string s.data.toList) = false := by
    rcases op.at2_all s.data.toList with ⟨h, _⟩ | ⟨_, h⟩
    · omega
    · exact h
  have HAL := Lib.hid hal
  have HZ := Lib.hid hz
  clear hm hq hal hs hz
  go_enter Tryz.func89, Tryz.ntmps89
  go_wp2_with fail
  have hb3 : Below w.heap.size w (((w.alloc (.cells #[.string ⟨#[]⟩, .slice none 0 0] 116)).alloc (.cells #[.string ⟨#[]⟩, .string ⟨#[]⟩, .int .i64 0] 149)).alloc (.cells #[.string s, .slice A len cap] 116)) :=
    (((Below.refl _ _).alloc (Nat.le_refl _) _).alloc (by simp) _).alloc (by simp; omega) _
  have q1 : Blk (((w.alloc (.cells #[.string ⟨#[]⟩, .slice none 0 0] 116)).alloc (.cells #[.string ⟨#[]⟩, .string ⟨#[]⟩, .int .i64 0] 149)).alloc (.cells #[.string s, .slice A len cap] 116)) w.heap.size 116 #[.string ⟨#[]⟩, .slice none 0 0] :=
    ((Blk.new w _ _).alloc _).alloc _
  have q2 : Blk (((w.alloc (.cells #[.string ⟨#[]⟩, .slice none 0 0] 116)).alloc (.cells #[.string ⟨#[]⟩, .string ⟨#[]⟩, .int .i64 0] 149)).alloc (.cells #[.string s, .slice A len cap] 116)) (w.heap.size + 1) 149 #[.string ⟨#[]⟩, .string ⟨#[]⟩, .int .i64 0] := by
    have h := (Blk.new (w.alloc (.cells #[.string ⟨#[]⟩, .slice none 0 0] 116)) 149 #[.string ⟨#[]⟩, .string ⟨#[]⟩, .int .i64 0]).alloc (.cells #[.string s, .slice A len cap] 116)
    simpa using h
  have q3 : Blk (((w.alloc (.cells #[.string ⟨#[]⟩, .slice none 0 0] 116)).alloc (.cells #[.string ⟨#[]⟩, .string ⟨#[]⟩, .int .i64 0] 149)).alloc (.cells #[.string s, .slice A len cap] 116)) (w.heap.size + 1 + 1) 116 #[.string s, .slice A len cap] := by
    have h := Blk.new ((w.alloc (.cells #[.string ⟨#[]⟩, .slice none 0 0] 116)).alloc (.cells #[.string ⟨#[]⟩, .string ⟨#[]⟩, .int .i64 0] 149)) 116 #[.string s, .slice A len cap]
    simpa using h
  have hm3 : op.OpM (((w.alloc (.cells #[.string ⟨#[]⟩, .slice none 0 0] 116)).alloc (.cells #[.string ⟨#[]⟩, .string ⟨#[]⟩, .int .i64 0] 149)).alloc (.cells #[.string s, .slice A len cap] 116)) ob := ((HM.out.alloc _).alloc _).alloc _
  generalize (((w.alloc (.cells #[.string ⟨#[]⟩, .slice none 0 0] 116)).alloc (.cells #[.string ⟨#[]⟩, .string ⟨#[]⟩, .int .i64 0] 149)).alloc (.cells #[.string s, .slice A len cap] 116)) = W at *
  have m2 := (hb3.cell (p := ⟨mb, 2, none⟩) hml).trans c2
  have x0 := q3.cell 0
  have x1 := q3.cell 1
  simp only [List.getElem?_toArray, List.getElem?_cons_zero, List.getElem?_cons_succ] at x0 x1
  obtain ⟨v, ps, hlk, hv⟩ := World.ownsMap.look_ok (e := 149) hm3.drew op.law Tryz.underlying75 (op.zero_op _) (zd := op.opZ) (zp := []) rfl hkey
  obtain ⟨v2, ps2, hlk2, hv2⟩ := World.ownsMap.look_ok (e := 149) (hm3.alloc (.cells #[.string ⟨#[]⟩, .string ⟨#[]⟩, .int .i64 0] 149)).drew op.law Tryz.underlying75 (op.zero_op _) (zd := op.opZ) (zp := []) rfl hkey
  have hmW : mb < W.heap.size := Nat.lt_of_lt_of_le hml hb3.size
  have hq3l := q3.lt
  have HB3 := Lib.hid hb3
  have HQ1 := Lib.hid q1
  have HQ2 := Lib.hid q2
  have HQ3 := Lib.hid q3
  have n2 : ∀ o, (W.alloc o).cell? ⟨mb, 2, none⟩ = some (.map (some ob)) := fun o => (((Below.refl W.heap.size W).alloc (Nat.le_refl _) o).cell (p := ⟨mb, 2, none⟩) hmW).trans m2
  have z0 : ∀ o, (W.alloc o).cell? ⟨w.heap.size + 1 + 1, 0, none⟩ = some (.string s) := fun o => (((Below.refl W.heap.size W).alloc (Nat.le_refl _) o).cell (p := ⟨w.heap.size + 1 + 1, 0, none⟩) hq3l).trans x0
  have z1 : ∀ o, (W.alloc o).cell? ⟨w.heap.size + 1 + 1, 1, none⟩ = some (.slice A len cap) := fun o => (((Below.refl W.heap.size W).alloc (Nat.le_refl _) o).cell (p := ⟨w.heap.size + 1 + 1, 1, none⟩) hq3l).trans x1
  have HN2 := Lib.hid n2
  have HZ0 := Lib.hid z0
  have HZ1 := Lib.hid z1
  clear hb3 q1 q2 q3 hm3 hkey c2 n2 z0 z1
  obtain ⟨hat, hhas⟩ := HAL.out
  rw [hat] at hv hv2
  obtain ⟨a, ha⟩ : ∃ a : ByteArray, a = ⟨([] : List UInt8).toArray⟩ := ⟨_, rfl⟩
  obtain ⟨b, hb⟩ : ∃ b : ByteArray, b = ⟨([] : List UInt8).toArray⟩ := ⟨_, rfl⟩
  obtain ⟨lv, hl⟩ : ∃ l : Int, l = 0 := ⟨_, rfl⟩
  have h1 : v = .agg #[.string a, .string b, .int .i64 lv] := by rw [ha, hb, hl]; exact op.opR2_inv hv
  have h2 : v2 = .agg #[.string a, .string b, .int .i64 lv] := by rw [ha, hb, hl]; exact op.opR2_inv hv2
  subst h1 h2
  rw [hhas] at hlk hlk2
  clear hv hv2 hat hhas HAL ha hb hl
  go_region_held3 (fun w' => w'.cell? ⟨mb, 2, none⟩ = some (.map (some ob)) ∧ w'.cell? ⟨w.heap.size + 1 + 1, 0, none⟩ = some (.string s) ∧ w'.cell? ⟨w.heap.size + 1 + 1, 1, none⟩ = some (.slice A len cap))
    (first | exact ⟨m2, x0, x1⟩ | exact ⟨HN2.out _, HZ0.out _, HZ1.out _⟩) (fail)
  all_goals
    have q1 : Blk (W.alloc (.cells #[.string a, .string b, .int .i64 lv] 149)).drew w.heap.size 116 #[.string ⟨#[]⟩, .slice none 0 0] := HQ1.out.alloc _
    have q2 : Blk (W.alloc (.cells #[.string a, .string b, .int .i64 lv] 149)).drew (w.heap.size + 1) 149 #[.string ⟨#[]⟩, .string ⟨#[]⟩, .int .i64 0] := HQ2.out.alloc _
    have q3 : Blk (W.alloc (.cells #[.string a, .string b, .int .i64 lv] 149)).drew (w.heap.size + 1 + 1) 116 #[.string s, .slice A len cap] := HQ3.out.alloc _
    have q4 : Blk (W.alloc (.cells #[.string a, .string b, .int .i64 lv] 149)).drew W.heap.size 149 #[.string a, .string b, .int .i64 lv] := Blk.new W _ _
    have hb4 : Below w.heap.size w (W.alloc (.cells #[.string a, .string b, .int .i64 lv] 149)).drew := (HB3.out.alloc HB3.out.size _).drew
    generalize (W.alloc (.cells #[.string a, .string b, .int .i64 lv] 149)).drew = W4 at *
    have r0 := q1.cell 0
    have r1 := q1.cell 1
    have r2 := q2.cell 0
    have r3 := q2.cell 1
    have r4 := q2.cell 2
    have r5 := q3.cell 0
    have r6 := q3.cell 1
    have r7 := q4.cell 0
    have r8 := q4.cell 1
    have r9 := q4.cell 2
    have g0 := q1.frozen 0
    have g1 := q1.frozen 1
    have g2 := q2.frozen 0
    have g3 := q2.frozen 1
    have g4 := q2.frozen 2
    simp only [List.getElem?_toArray, List.getElem?_cons_zero, List.getElem?_cons_succ] at r0 r1 r2 r3 r4 r5 r6 r7 r8 r9
    have hs4 : W.heap.size < W4.heap.size := q4.lt
    have hw4 : w.heap.size + 1 < W4.heap.size := q2.lt
    have hw5 : w.heap.size + 1 < W.heap.size := by omega
    have hw6 : w.heap.size + 1 + 1 < W.heap.size := by omega
    obtain ⟨p1, p2, p3⟩ := nm_store hb4 q1 q2 (.string s) (.slice A len cap) (.string a) (.string b) (.int .i64 lv)
    have HP1 := Lib.hid p1
    have HP2 := Lib.hid p2
    have HP3 := Lib.hid p3
    clear q1 q2 q3 q4 hb4 p1 p2 p3 HQ1 HQ2 HQ3 HB3 m2 x0 x1
    go_wp2_with fail
    go_region
    all_goals
      go_wp2_with fail
      refine bodyPost_ret (v := .tuple #[.agg #[.string s, .slice A len cap], .agg #[.string a, .string b, .int .i64 lv], .bool false]) ?_ rfl ⟨?_, .inr ⟨fun _ => HZ.out, _, _, _, _, _, _, _, rfl⟩⟩
      · exact results_cells2s Tryz.results89 _ _ w.heap.size (w.heap.size + 1) _ _ _ _ _ _ rfl rfl HP1.out HP2.out Tryz.underlying116 rfl (by kernel_rfl) Tryz.underlying149 rfl (by kernel_rfl)
      · exact HP3.out.drew
end Go.Proofs.YtmgfndgmebignaaGreatDoor.wr

/- opWriter.named of variables and numbers. No condition. -/
namespace Go.Proofs.YtmgfndgmebignaaGreatDoor.wr
open Go.RowKit Go.Maps

set_option maxRecDepth 100000 in
set_option maxHeartbeats 2000000 in
/-- opWriter.named of a variable. -/
theorem named_var (x : Int) (s : ByteArray) (A : Option Addr) (len cap mb : Nat) (w : World) :
    Calls Tryz.prog 89 #[.pointer (some ⟨mb, 0, none⟩), .iface 140 (.int .i64 x)] w fun e w' => NmR w 1 s A len cap e w' := by
  have hb3 : Below w.heap.size w (((w.alloc (.cells #[.string ⟨#[]⟩, .slice none 0 0] 116)).alloc (.cells #[.string ⟨#[]⟩, .string ⟨#[]⟩, .int .i64 0] 149)).alloc (.cells #[.string ⟨#[]⟩, .slice none 0 0] 116)) :=
    (((Below.refl _ _).alloc (Nat.le_refl _) _).alloc (by simp) _).alloc (by simp; omega) _
  have q1 : Blk (((w.alloc (.cells #[.string ⟨#[]⟩, .slice none 0 0] 116)).alloc (.cells #[.string ⟨#[]⟩, .string ⟨#[]⟩, .int .i64 0] 149)).alloc (.cells #[.string ⟨#[]⟩, .slice none 0 0] 116)) w.heap.size 116 #[.string ⟨#[]⟩, .slice none 0 0] :=
    ((Blk.new w _ _).alloc _).alloc _
  have q2 : Blk (((w.alloc (.cells #[.string ⟨#[]⟩, .slice none 0 0] 116)).alloc (.cells #[.string ⟨#[]⟩, .string ⟨#[]⟩, .int .i64 0] 149)).alloc (.cells #[.string ⟨#[]⟩, .slice none 0 0] 116)) (w.heap.size + 1) 149 #[.string ⟨#[]⟩, .string ⟨#[]⟩, .int .i64 0] := by
    have h := (Blk.new (w.alloc (.cells #[.string ⟨#[]⟩, .slice none 0 0] 116)) 149 #[.string ⟨#[]⟩, .string ⟨#[]⟩, .int .i64 0]).alloc (.cells #[.string ⟨#[]⟩, .slice none 0 0] 116)
    simpa using h
  have HB3 := Lib.hid hb3
  have HQ1 := Lib.hid q1
  have HQ2 := Lib.hid q2
  clear hb3 q1 q2
  go_enter Tryz.func89, Tryz.ntmps89
  go_wp2_with fail
  refine bodyPost_ret (v := .tuple #[.agg #[.string ⟨#[]⟩, .slice none 0 0], .agg #[.string ⟨#[]⟩, .string ⟨#[]⟩, .int .i64 0], .bool false]) ?_ rfl ⟨HB3.out, .inr ⟨fun h => absurd h (by decide), _, _, _, _, _, _, _, rfl⟩⟩
  exact results_cells2s Tryz.results89 _ _ w.heap.size (w.heap.size + 1) _ _ _ _ _ _ rfl rfl HQ1.out HQ2.out Tryz.underlying116 rfl (by kernel_rfl) Tryz.underlying149 rfl (by kernel_rfl)
set_option maxRecDepth 100000 in
set_option maxHeartbeats 2000000 in
/-- opWriter.named of a number. -/
theorem named_num (x : Int) (s : ByteArray) (A : Option Addr) (len cap mb : Nat) (w : World) :
    Calls Tryz.prog 89 #[.pointer (some ⟨mb, 0, none⟩), .iface 141 (.int .i64 x)] w fun e w' => NmR w 2 s A len cap e w' := by
  have hb3 : Below w.heap.size w (((w.alloc (.cells #[.string ⟨#[]⟩, .slice none 0 0] 116)).alloc (.cells #[.string ⟨#[]⟩, .string ⟨#[]⟩, .int .i64 0] 149)).alloc (.cells #[.string ⟨#[]⟩, .slice none 0 0] 116)) :=
    (((Below.refl _ _).alloc (Nat.le_refl _) _).alloc (by simp) _).alloc (by simp; omega) _
  have q1 : Blk (((w.alloc (.cells #[.string ⟨#[]⟩, .slice none 0 0] 116)).alloc (.cells #[.string ⟨#[]⟩, .string ⟨#[]⟩, .int .i64 0] 149)).alloc (.cells #[.string ⟨#[]⟩, .slice none 0 0] 116)) w.heap.size 116 #[.string ⟨#[]⟩, .slice none 0 0] :=
    ((Blk.new w _ _).alloc _).alloc _
  have q2 : Blk (((w.alloc (.cells #[.string ⟨#[]⟩, .slice none 0 0] 116)).alloc (.cells #[.string ⟨#[]⟩, .string ⟨#[]⟩, .int .i64 0] 149)).alloc (.cells #[.string ⟨#[]⟩, .slice none 0 0] 116)) (w.heap.size + 1) 149 #[.string ⟨#[]⟩, .string ⟨#[]⟩, .int .i64 0] := by
    have h := (Blk.new (w.alloc (.cells #[.string ⟨#[]⟩, .slice none 0 0] 116)) 149 #[.string ⟨#[]⟩, .string ⟨#[]⟩, .int .i64 0]).alloc (.cells #[.string ⟨#[]⟩, .slice none 0 0] 116)
    simpa using h
  have HB3 := Lib.hid hb3
  have HQ1 := Lib.hid q1
  have HQ2 := Lib.hid q2
  clear hb3 q1 q2
  go_enter Tryz.func89, Tryz.ntmps89
  go_wp2_with fail
  refine bodyPost_ret (v := .tuple #[.agg #[.string ⟨#[]⟩, .slice none 0 0], .agg #[.string ⟨#[]⟩, .string ⟨#[]⟩, .int .i64 0], .bool false]) ?_ rfl ⟨HB3.out, .inr ⟨fun h => absurd h (by decide), _, _, _, _, _, _, _, rfl⟩⟩
  exact results_cells2s Tryz.results89 _ _ w.heap.size (w.heap.size + 1) _ _ _ _ _ _ rfl rfl HQ1.out HQ2.out Tryz.underlying116 rfl (by kernel_rfl) Tryz.underlying149 rfl (by kernel_rfl)
end Go.Proofs.YtmgfndgmebignaaGreatDoor.wr

/- opWriter.named at every node; opWriter.operandLevel. Condition: the node lies in memory, the map of operators in the writer's block. -/
namespace Go.Proofs.YtmgfndgmebignaaGreatDoor.wr
open Go.RowKit Go.Maps

/-- opWriter.named of a node, in a world in which the writer stands. -/
theorem named_any (k n : Int) (s : ByteArray) (f : Fr) (v : Value) (lo hi ob mb : Nat) (tv fv : Value) (w : World) (hv : NdV w lo hi k n s f v) (hs : s.size ≤ maxLen) (hq : Blk w mb 77 #[tv, fv, .map (some ob)]) (hm : op.OpM w ob) :
    ∃ A cap, (k = 3 → NdS w lo hi f A cap ∧ v = .iface 116 (.agg #[.string s, .slice A f.len cap])) ∧ Calls Tryz.prog 89 #[.pointer (some ⟨mb, 0, none⟩), v] w fun e w' => NmR w k s A f.len cap e w' := by
  rcases hv with ⟨rfl, rfl⟩ | ⟨rfl, rfl⟩ | ⟨rfl, A, cap, rfl, hn⟩
  · exact ⟨none, 0, (fun h => absurd h (by decide)), named_var n s none f.len 0 mb w⟩
  · exact ⟨none, 0, (fun h => absurd h (by decide)), named_num n s none f.len 0 mb w⟩
  · refine ⟨A, cap, fun _ => ⟨hn, rfl⟩, ?_⟩
    rcases op.at2_all s.data.toList with ⟨h, _⟩ | ⟨h, _⟩
    · exact named_yes s hs A f.len cap ob mb tv fv w hq hm h
    · exact named_no s hs A f.len cap ob mb tv fv w hq hm h

set_option maxRecDepth 100000 in
set_option maxHeartbeats 2000000 in
/-- opWriter.operandLevel. -/
theorem oplev_any (k n : Int) (s : ByteArray) (f : Fr) (v : Value) (lo hi ob mb : Nat) (tv fv : Value) (w : World) (hv : NdV w lo hi k n s f v) (hs : s.size ≤ maxLen) (hfl : f.len ≤ maxLen) (hq : Blk w mb 77 #[tv, fv, .map (some ob)]) (hm : op.OpM w ob) :
    Calls Tryz.prog 119 #[.pointer (some ⟨mb, 0, none⟩), v] w fun e w' => e = .returned (.int .i64 (olv k s f.len)) ∧ Below w.heap.size w w' := by
  obtain ⟨A, cap, -, C1⟩ := named_any k n s f v lo hi ob mb tv fv w hv hs hq hm
  obtain ⟨T0, x0, rfl⟩ := hv.iface
  have HV : Hid (olv k s f.len = if infB k s f.len = true then op.level s.data.toList else if soleB k s f.len = true then 4 else 0) := Lib.hid rfl
  have HI : Hid (infB k s f.len = (k == 3 && (f.len == 2 && decide (0 < op.level s.data.toList)))) := Lib.hid rfl
  have HS : Hid (soleB k s f.len = (k == 3 && (f.len == 0 && decide (0 < op.level s.data.toList)))) := Lib.hid rfl
  have H1 := Lib.hid C1
  unfold maxLen at hfl
  clear C1 hv hs hq hm
  generalize f.len = len at *
  go_enter Tryz.func119, Tryz.ntmps119
  go_wp2_with fail
  refine H1.out.mono ?_
  rintro e w2 ⟨hb, hr⟩
  have HB := Lib.hid hb
  have HB2 : Hid (∀ o1 o2, Below w.heap.size w ((w2.alloc o1).alloc o2)) := Lib.hid fun o1 o2 => (HB.out.alloc HB.out.size _).alloc (by have := HB.out.size; simp; omega) _
  rcases hr with ⟨rfl, hpos, a, rfl⟩ | ⟨hz, x1, x2, x3, x4, y1, y2, y3, rfl⟩
  · have hd := decide_eq_true hpos
    rw [hd] at HI HS
    clear hd hpos hb
    generalize op.level s.data.toList = lv at *
    by_cases h2 : len = 2
    · subst h2
      have HW : Hid (olv 3 s 2 = lv) := Lib.hid (by rw [HV.out, HI.out]; rfl)
      clear HV HI HS
      go_wp2_with fail
      go_ret
      rw [HW.out]; exact ⟨rfl, HB2.out _ _⟩
    · have t2 : ((len : Int) == 2) = false := by rw [beq_eq_false_iff_ne]; omega
      have hi0 : infB 3 s len = false := by rw [HI.out]; simp [h2]
      by_cases h0 : len = 0
      · subst h0
        have HW : Hid (olv 3 s 0 = 4) := Lib.hid (by rw [HV.out, hi0, HS.out]; rfl)
        clear HV HI HS hi0 h2
        go_wp2_with fail
        go_ret
        rw [HW.out]; exact ⟨rfl, HB2.out _ _⟩
      · have t0 : ((len : Int) == 0) = false := by rw [beq_eq_false_iff_ne]; omega
        have hs0 : soleB 3 s len = false := by rw [HS.out]; simp [h0]
        have HW : Hid (olv 3 s len = 0) := Lib.hid (by rw [HV.out, hi0, hs0]; rfl)
        clear HV HI HS hi0 hs0 h2 h0
        go_wp2_with fail
        go_ret
        rw [HW.out]; exact ⟨rfl, HB2.out _ _⟩
  · have hk : (k == 3) = false ∨ decide (0 < op.level s.data.toList) = false := by
      by_cases h3 : k = 3
      · right; rw [hz h3]; rfl
      · left; rw [beq_eq_false_iff_ne]; exact h3
    have HW : Hid (olv k s len = 0) := Lib.hid (by
      rw [HV.out, HI.out, HS.out]
      rcases hk with h | h <;> rw [h] <;> simp)
    clear HV HI HS hk hz hb
    go_wp2_with fail
    go_ret
    rw [HW.out]; exact ⟨rfl, HB2.out _ _⟩
end Go.Proofs.YtmgfndgmebignaaGreatDoor.wr

/- The model's texts with operators: spec.l2Bracket, l2Left, l2Right, given spec.l2Text's contract. Condition: the term lies in memory and is well-formed. -/
namespace Go.Proofs.YtmgfndgmebignaaGreatDoor.wr
open Go.RowKit

/-- spec.l2Text's contract at a name and arguments. -/
def TxC (s : ByteArray) (f : Fr) : Prop := ∀ (k n : Int) (A : Option Addr) (cap lo hi : Nat) (d : Int) (w : World), KidsAt w lo hi f A cap → hi ≤ w.heap.size → shapeT k n s f d = true → nodes f ≤ 1048576 →
  Calls Tryz.prog 60 #[.agg #[.int .i64 k, .int .i64 n, .string s, .slice A f.len cap]] w fun e w' => e = .returned (.string ⟨(txT k n s f).toArray⟩) ∧ Below w.heap.size w w'
def braT (k n : Int) (s : ByteArray) (f : Fr) (l : Int) : List UInt8 := if infB k s f.len = true ∧ l < op.level s.data.toList then braB (txT k n s f) else txT k n s f
theorem bra_str (T : List UInt8) : (.string ((⟨#[40]⟩ ++ ⟨T.toArray⟩) ++ ⟨#[41]⟩) : Value) = .string ⟨(braB T).toArray⟩ := by
  rw [show (⟨#[40]⟩ : ByteArray) = ⟨[40].toArray⟩ from rfl, show (⟨#[41]⟩ : ByteArray) = ⟨[41].toArray⟩ from rfl, ByteArray.mk_append_mk, ByteArray.mk_append_mk]
  rfl
set_option maxRecDepth 100000 in
set_option maxHeartbeats 2000000 in
/-- spec.l2Bracket. -/
theorem bracket_of (s : ByteArray) (f : Fr) (h : TxC s f) (k n l : Int) (A : Option Addr) (cap lo hi : Nat) (d : Int) (w : World) (hk : KidsAt w lo hi f A cap) (hh : hi ≤ w.heap.size) (hs : shapeT k n s f d = true) (hnd : nodes f ≤ 1048576) :
    Calls Tryz.prog 108 #[.agg #[.int .i64 k, .int .i64 n, .string s, .slice A f.len cap], .int .i64 l] w fun e w' => e = .returned (.string ⟨(braT k n s f l).toArray⟩) ∧ Below w.heap.size w w' := by
  have hb0 : Below w.heap.size w (w.alloc (.cells #[.int .i64 k, .int .i64 n, .string s, .slice A f.len cap] 31)) := (Below.refl _ _).alloc (Nat.le_refl _) _
  have hq0 := Blk.new w 31 #[.int .i64 k, .int .i64 n, .string s, .slice A f.len cap]
  obtain ⟨x0, x1, x2, x3⟩ := cells4i hq0
  have C1 := fun w1 => infix_any k n s A f.len cap w1
  have C2 := fun w1 => op.l2_any s w1
  have C3 := fun w1 (hb : Below w.heap.size w w1) => h k n A cap lo hi d w1 (hk.below hb hh) (Nat.le_trans hh hb.size) hs hnd
  have hl := (txT_shape hs).1
  have hl2 : (txT k n s f).length ≤ 67108864 := by omega
  have HV : Hid (braT k n s f l = if infB k s f.len = true ∧ l < op.level s.data.toList then braB (txT k n s f) else txT k n s f) := Lib.hid rfl
  have HQ := Lib.hid hq0
  have HB0 := Lib.hid hb0
  have H1 := Lib.hid C1
  have H2 := Lib.hid C2
  have H3 := Lib.hid C3
  have HE := Lib.hid (bra_str (txT k n s f))
  have hsz : w.heap.size < (w.alloc (.cells #[.int .i64 k, .int .i64 n, .string s, .slice A f.len cap] 31)).heap.size := by simp
  clear h C1 C2 C3 hk hs hnd hb0 hq0 hh hl
  generalize txT k n s f = T at *
  generalize braT k n s f l = R at *
  generalize op.level s.data.toList = lv at *
  generalize f.len = len at *
  have back : ∀ w2, Below (w.alloc (.cells #[.int .i64 k, .int .i64 n, .string s, .slice A len cap] 31)).heap.size (w.alloc (.cells #[.int .i64 k, .int .i64 n, .string s, .slice A len cap] 31)) w2 → Below w.heap.size w w2 ∧ Blk w2 w.heap.size 31 #[.int .i64 k, .int .i64 n, .string s, .slice A len cap] := fun w2 hb => ⟨HB0.out.trans (hb.mono HB0.out.size), HQ.out.below hb HQ.out.lt⟩
  have HBK := Lib.hid back
  clear back hsz
  cases hi1 : infB k s len
  · rw [hi1] at H1 HV
    have HW : Hid (R = T) := Lib.hid (by rw [HV.out, if_neg (by simp)])
    clear hi1 HV
    go_enter Tryz.func108, Tryz.ntmps108
    go_wp2_with fail
    refine (H1.out _).mono ?_
    rintro e w2 ⟨rfl, hb⟩
    obtain ⟨hbw, hq⟩ := HBK.out w2 hb
    clear x0 x1 x2 x3 hb
    obtain ⟨x0, x1, x2, x3⟩ := cells4i hq
    have HB2 := Lib.hid hbw
    clear hq hbw
    go_wp2_with fail
    refine (H3.out w2 HB2.out).mono ?_
    rintro e w3 ⟨rfl, hb⟩
    have HB3 := Lib.hid (HB2.out.trans (hb.mono HB2.out.size))
    clear hb
    go_wp2_with fail
    go_ret
    rw [HW.out]; exact ⟨rfl, HB3.out⟩
  · rw [hi1] at H1 HV
    clear hi1
    by_cases hlt : l < lv
    · have HW : Hid (R = braB T) := Lib.hid (by rw [HV.out, if_pos ⟨rfl, hlt⟩])
      have d1 : decide (l < lv) = true := decide_eq_true hlt
      clear HV
      go_enter Tryz.func108, Tryz.ntmps108
      go_wp2_with fail
      refine (H1.out _).mono ?_
      rintro e w2 ⟨rfl, hb⟩
      obtain ⟨hbw, hq⟩ := HBK.out w2 hb
      clear x0 x1 x2 x3 hb
      obtain ⟨x0, x1, x2, x3⟩ := cells4i hq
      have HB2 := Lib.hid hbw
      clear hq hbw
      go_wp2_with (first | (go_at_call 69; refine (H2.out _).mono ?_; rintro e w' ⟨rfl, rfl⟩) | fail)
      refine (H3.out _ HB2.out).mono ?_
      rintro e w3 ⟨rfl, hb⟩
      have HB3 := Lib.hid (HB2.out.trans (hb.mono HB2.out.size))
      clear hb
      go_wp2_with fail
      go_ret
      rw [HW.out]; exact ⟨congrArg Ending.returned HE.out, HB3.out⟩
    · have HW : Hid (R = T) := Lib.hid (by rw [HV.out, if_neg (fun h => hlt h.2)])
      have d1 : decide (l < lv) = false := decide_eq_false hlt
      clear HV
      go_enter Tryz.func108, Tryz.ntmps108
      go_wp2_with fail
      refine (H1.out _).mono ?_
      rintro e w2 ⟨rfl, hb⟩
      obtain ⟨hbw, hq⟩ := HBK.out w2 hb
      clear x0 x1 x2 x3 hb
      obtain ⟨x0, x1, x2, x3⟩ := cells4i hq
      have HB2 := Lib.hid hbw
      clear hq hbw
      go_wp2_with (first | (go_at_call 69; refine (H2.out _).mono ?_; rintro e w' ⟨rfl, rfl⟩) | fail)
      refine (H3.out _ HB2.out).mono ?_
      rintro e w3 ⟨rfl, hb⟩
      have HB3 := Lib.hid (HB2.out.trans (hb.mono HB2.out.size))
      clear hb
      go_wp2_with fail
      go_ret
      rw [HW.out]; exact ⟨rfl, HB3.out⟩
theorem lefT_of (k n : Int) (s : ByteArray) (f : Fr) (l : Int) (hl : 0 ≤ l ∧ l ≤ 3) : lefT k n s f l = if soleB k s f.len = true then braB (txT k n s f) else braT k n s f l := by
  unfold lefT braT olv
  cases h1 : infB k s f.len
  · cases h2 : soleB k s f.len
    · rw [if_neg (by simp; omega)]; simp
    · rw [if_pos (by simp; omega)]; simp
  · have h2 : soleB k s f.len = false := by
      obtain ⟨_, _, _, _, _, _, _, _, _, _, rfl⟩ := inf_kids h1
      simp [soleB, Fr.len]
    rw [h2]
    simp
theorem plB_bra (T : List UInt8) : plB (braB T) = true := rfl
theorem rigT_of (k n : Int) (s : ByteArray) (f : Fr) (l : Int) (hl : 0 ≤ l ∧ l ≤ 3) : rigT k n s f l = if soleB k s f.len = true ∨ plB (braT k n s f l) = false then braB (braT k n s f l) else braT k n s f l := by
  unfold rigT braT olv
  cases h1 : infB k s f.len
  · cases h2 : soleB k s f.len
    · simp only [Bool.false_eq_true, false_and, if_false, false_or]
      have : ¬ l < 0 := by omega
      simp only [this, false_or]
    · simp; omega
  · have h2 : soleB k s f.len = false := by
      obtain ⟨_, _, _, _, _, _, _, _, _, _, rfl⟩ := inf_kids h1
      simp [soleB, Fr.len]
    rw [h2]
    by_cases h3 : l < op.level s.data.toList
    · simp [h3, plB_bra]
    · simp [h3]
theorem braT_len (k n : Int) (s : ByteArray) (f : Fr) (l : Int) : (braT k n s f l).length ≤ (txT k n s f).length + 2 ∧ (0 < (txT k n s f).length → 0 < (braT k n s f l).length) := by
  unfold braT braB
  split
  · simp only [List.length_cons, List.length_append, List.length_nil]; omega
  · omega
set_option maxRecDepth 100000 in
set_option maxHeartbeats 2000000 in
/-- spec.l2Left. -/
theorem left_of (s : ByteArray) (f : Fr) (h : TxC s f) (k n l : Int) (hlv : 0 ≤ l ∧ l ≤ 3) (A : Option Addr) (cap lo hi : Nat) (d : Int) (w : World) (hk : KidsAt w lo hi f A cap) (hh : hi ≤ w.heap.size) (hs : shapeT k n s f d = true) (hnd : nodes f ≤ 1048576) :
    Calls Tryz.prog 83 #[.agg #[.int .i64 k, .int .i64 n, .string s, .slice A f.len cap], .int .i64 l] w fun e w' => e = .returned (.string ⟨(lefT k n s f l).toArray⟩) ∧ Below w.heap.size w w' := by
  have hb0 : Below w.heap.size w (w.alloc (.cells #[.int .i64 k, .int .i64 n, .string s, .slice A f.len cap] 31)) := (Below.refl _ _).alloc (Nat.le_refl _) _
  have hq0 := Blk.new w 31 #[.int .i64 k, .int .i64 n, .string s, .slice A f.len cap]
  obtain ⟨x0, x1, x2, x3⟩ := cells4i hq0
  have C1 := fun w1 => sole_any k n s A f.len cap w1
  have C2 := fun w1 (hb : Below w.heap.size w w1) => bracket_of s f h k n l A cap lo hi d w1 (hk.below hb hh) (Nat.le_trans hh hb.size) hs hnd
  have C3 := fun w1 (hb : Below w.heap.size w w1) => h k n A cap lo hi d w1 (hk.below hb hh) (Nat.le_trans hh hb.size) hs hnd
  have hl := (txT_shape hs).1
  have hl2 : (txT k n s f).length ≤ 67108864 := by omega
  have HV := Lib.hid (lefT_of k n s f l hlv)
  have HQ := Lib.hid hq0
  have HB0 := Lib.hid hb0
  have H1 := Lib.hid C1
  have H2 := Lib.hid C2
  have H3 := Lib.hid C3
  have HE := Lib.hid (bra_str (txT k n s f))
  clear h C1 C2 C3 hk hs hnd hb0 hq0 hh hl hlv
  generalize txT k n s f = T at *
  generalize braT k n s f l = T2 at *
  generalize lefT k n s f l = R at *
  generalize f.len = len at *
  have back : ∀ w2, Below (w.alloc (.cells #[.int .i64 k, .int .i64 n, .string s, .slice A len cap] 31)).heap.size (w.alloc (.cells #[.int .i64 k, .int .i64 n, .string s, .slice A len cap] 31)) w2 → Below w.heap.size w w2 ∧ Blk w2 w.heap.size 31 #[.int .i64 k, .int .i64 n, .string s, .slice A len cap] := fun w2 hb => ⟨HB0.out.trans (hb.mono HB0.out.size), HQ.out.below hb HQ.out.lt⟩
  have HBK := Lib.hid back
  clear back
  cases hi1 : soleB k s len
  · rw [hi1] at H1 HV
    have HW : Hid (R = T2) := Lib.hid (by rw [HV.out, if_neg (by simp)])
    clear hi1 HV
    go_enter Tryz.func83, Tryz.ntmps83
    go_wp2_with fail
    refine (H1.out _).mono ?_
    rintro e w2 ⟨rfl, hb⟩
    obtain ⟨hbw, hq⟩ := HBK.out w2 hb
    clear x0 x1 x2 x3 hb
    obtain ⟨x0, x1, x2, x3⟩ := cells4i hq
    have HB2 := Lib.hid hbw
    clear hq hbw
    go_wp2_with fail
    refine (H2.out w2 HB2.out).mono ?_
    rintro e w3 ⟨rfl, hb⟩
    have HB3 := Lib.hid (HB2.out.trans (hb.mono HB2.out.size))
    clear hb
    go_wp2_with fail
    go_ret
    rw [HW.out]; exact ⟨rfl, HB3.out⟩
  · rw [hi1] at H1 HV
    have HW : Hid (R = braB T) := Lib.hid (by rw [HV.out, if_pos rfl])
    clear hi1 HV
    go_enter Tryz.func83, Tryz.ntmps83
    go_wp2_with fail
    refine (H1.out _).mono ?_
    rintro e w2 ⟨rfl, hb⟩
    obtain ⟨hbw, hq⟩ := HBK.out w2 hb
    clear x0 x1 x2 x3 hb
    obtain ⟨x0, x1, x2, x3⟩ := cells4i hq
    have HB2 := Lib.hid hbw
    clear hq hbw
    go_wp2_with fail
    refine (H3.out w2 HB2.out).mono ?_
    rintro e w3 ⟨rfl, hb⟩
    have HB3 := Lib.hid (HB2.out.trans (hb.mono HB2.out.size))
    clear hb
    go_wp2_with fail
    go_ret
    rw [HW.out]; exact ⟨congrArg Ending.returned HE.out, HB3.out⟩
set_option maxRecDepth 100000 in
set_option maxHeartbeats 2000000 in
/-- spec.l2Right. -/
theorem right_of (s : ByteArray) (f : Fr) (h : TxC s f) (k n l : Int) (hlv : 0 ≤ l ∧ l ≤ 3) (hpos : 0 < (txT k n s f).length) (A : Option Addr) (cap lo hi : Nat) (d : Int) (w : World) (hk : KidsAt w lo hi f A cap) (hh : hi ≤ w.heap.size) (hs : shapeT k n s f d = true) (hnd : nodes f ≤ 1048576) :
    Calls Tryz.prog 85 #[.agg #[.int .i64 k, .int .i64 n, .string s, .slice A f.len cap], .int .i64 l] w fun e w' => e = .returned (.string ⟨(rigT k n s f l).toArray⟩) ∧ Below w.heap.size w w' := by
  have hb0 : Below w.heap.size w (w.alloc (.cells #[.int .i64 k, .int .i64 n, .string s, .slice A f.len cap] 31)) := (Below.refl _ _).alloc (Nat.le_refl _) _
  have hq0 := Blk.new w 31 #[.int .i64 k, .int .i64 n, .string s, .slice A f.len cap]
  obtain ⟨x0, x1, x2, x3⟩ := cells4i hq0
  have C1 := fun w1 => sole_any k n s A f.len cap w1
  have C2 := fun w1 (hb : Below w.heap.size w w1) => bracket_of s f h k n l A cap lo hi d w1 (hk.below hb hh) (Nat.le_trans hh hb.size) hs hnd
  have hl := (txT_shape hs).1
  have hl2 : (braT k n s f l).length ≤ 67108864 := by have := (braT_len k n s f l).1; omega
  have hl3 := (braT_len k n s f l).2 hpos
  have C3 := fun w1 => plain_any ⟨(braT k n s f l).toArray⟩ w1 (by show (braT k n s f l).length ≤ _; unfold maxLen; omega) hl3
  have HV := Lib.hid (rigT_of k n s f l hlv)
  have HQ := Lib.hid hq0
  have HB0 := Lib.hid hb0
  have H1 := Lib.hid C1
  have H2 := Lib.hid C2
  have H3 := Lib.hid C3
  have HE := Lib.hid (bra_str (braT k n s f l))
  clear h C1 C2 C3 hk hs hnd hb0 hq0 hh hl hlv hpos
  generalize txT k n s f = T at *
  generalize braT k n s f l = T2 at *
  generalize rigT k n s f l = R at *
  generalize f.len = len at *
  have back : ∀ w2, Below (w.alloc (.cells #[.int .i64 k, .int .i64 n, .string s, .slice A len cap] 31)).heap.size (w.alloc (.cells #[.int .i64 k, .int .i64 n, .string s, .slice A len cap] 31)) w2 → Below w.heap.size w w2 ∧ Blk w2 w.heap.size 31 #[.int .i64 k, .int .i64 n, .string s, .slice A len cap] := fun w2 hb => ⟨HB0.out.trans (hb.mono HB0.out.size), HQ.out.below hb HQ.out.lt⟩
  have HBK := Lib.hid back
  clear back
  go_enter Tryz.func85, Tryz.ntmps85
  go_wp2_with fail
  refine (H2.out _ HB0.out).mono ?_
  rintro e w2 ⟨rfl, hb⟩
  obtain ⟨hbw, hq⟩ := HBK.out w2 hb
  clear x0 x1 x2 x3 hb
  obtain ⟨x0, x1, x2, x3⟩ := cells4i hq
  have HB2 := Lib.hid hbw
  have HQ2 := Lib.hid hq
  clear hq hbw
  cases hi1 : soleB k s len
  · rw [hi1] at H1 HV
    clear hi1
    cases hpl : plB T2
    · have e1 : plB (⟨T2.toArray⟩ : ByteArray).data.toList = false := by simpa using hpl
      rw [e1] at H3
      have HW : Hid (R = braB T2) := Lib.hid (by rw [HV.out, if_pos (.inr hpl)])
      clear hpl e1 HV
      go_wp2_with fail
      refine (H1.out w2).mono ?_
      rintro e w3 ⟨rfl, hb⟩
      have HB3 := Lib.hid (HB2.out.trans (hb.mono HB2.out.size))
      clear hb
      go_wp2_with (first | (go_at_call 109; refine (H3.out _).mono ?_; rintro e w' ⟨rfl, rfl⟩) | fail)
      go_ret
      rw [HW.out]; exact ⟨congrArg Ending.returned HE.out, HB3.out⟩
    · have e1 : plB (⟨T2.toArray⟩ : ByteArray).data.toList = true := by simpa using hpl
      rw [e1] at H3
      have HW : Hid (R = T2) := Lib.hid (by rw [HV.out, if_neg (by simp [hpl])])
      clear hpl e1 HV
      go_wp2_with fail
      refine (H1.out w2).mono ?_
      rintro e w3 ⟨rfl, hb⟩
      have HB3 := Lib.hid (HB2.out.trans (hb.mono HB2.out.size))
      clear hb
      go_wp2_with (first | (go_at_call 109; refine (H3.out _).mono ?_; rintro e w' ⟨rfl, rfl⟩) | fail)
      go_ret
      rw [HW.out]; exact ⟨rfl, HB3.out⟩
  · rw [hi1] at H1 HV
    have HW : Hid (R = braB T2) := Lib.hid (by rw [HV.out, if_pos (.inl rfl)])
    clear hi1 HV
    go_wp2_with fail
    refine (H1.out w2).mono ?_
    rintro e w3 ⟨rfl, hb⟩
    have HB3 := Lib.hid (HB2.out.trans (hb.mono HB2.out.size))
    clear hb
    go_wp2_with fail
    go_ret
    rw [HW.out]; exact ⟨congrArg Ending.returned HE.out, HB3.out⟩
end Go.Proofs.YtmgfndgmebignaaGreatDoor.wr

/- Rows of terms whose arguments lie in memory: what append of terms that were there makes. No condition. -/
namespace Go.Proofs.YtmgfndgmebignaaGreatDoor
open Go.RowKit

/-- The cells of a row of terms whose arguments lie in blocks from lo to hi. -/
def XD (w : World) (lo hi : Nat) : Fr → List Value → Prop
  | .nil, xs => xs = []
  | .cons k n s kids rest, xs => ∃ (A : Option Addr) (cap : Nat) (ys : List Value), xs = .int .i64 k :: .int .i64 n :: .string s :: .slice A kids.len cap :: ys ∧ Fits k n s ∧ KidsAt w lo hi kids A cap ∧ XD w lo hi rest ys
theorem XD.len {w : World} {lo hi : Nat} : ∀ (f : Fr) (xs : List Value), XD w lo hi f xs → xs.length = f.len * 4
  | .nil, xs, h => by obtain rfl : xs = [] := h; rfl
  | .cons k n s kids rest, xs, h => by
    obtain ⟨A, cap, ys, rfl, _, _, h⟩ := h
    have := XD.len rest ys h
    simp only [List.length_cons, Fr.len, this]; omega
theorem XD.snoc {w : World} {lo hi : Nat} {k n : Int} {s : ByteArray} {kids : Fr} {A : Option Addr} {cap : Nat} (hf : Fits k n s) (hk : KidsAt w lo hi kids A cap) :
    ∀ (f : Fr) (xs : List Value), XD w lo hi f xs → XD w lo hi (f.app (.cons k n s kids .nil)) (xs ++ [.int .i64 k, .int .i64 n, .string s, .slice A kids.len cap])
  | .nil, xs, h => by obtain rfl : xs = [] := h; exact ⟨A, cap, [], rfl, hf, hk, rfl⟩
  | .cons k' n' s' kids' rest, xs, h => by
    obtain ⟨A', cap', ys, rfl, hf', hk', h⟩ := h
    exact ⟨A', cap', _, rfl, hf', hk', XD.snoc hf hk rest ys h⟩
theorem XD.row {w w' : World} {lo hi lo2 hi2 g : Nat} (hkeep : ∀ p : Addr, lo ≤ p.block → p.block < hi → w'.cell? p = w.cell? p) (hlo : lo2 ≤ lo) (hhi : hi ≤ hi2) :
    ∀ (f : Fr) (xs : List Value) (o : Nat), XD w lo hi f xs → (∀ j u, xs[j]? = some u → w'.cell? ⟨g, o + j, none⟩ = some u) → RowAt w' lo2 hi2 f g o
  | .nil, _, _, _, _ => trivial
  | .cons k n s kids rest, xs, o, h, hc => by
    obtain ⟨A, cap, ys, rfl, hf, hk, h⟩ := h
    refine ⟨hf, ⟨A, cap, ⟨hc 0 _ rfl, hc 1 _ rfl, hc 2 _ rfl, hc 3 _ rfl⟩, hk.1, hk.2.1, ?_⟩, XD.row hkeep hlo hhi rest ys (o + 4) h fun j u hj => ?_⟩
    · exact ((hk.keep hkeep).more hlo hhi).2.2
    · have := hc (j + 4) u (by simpa using hj)
      rw [show o + (j + 4) = o + 4 + j by omega] at this
      exact this
theorem XD.kids {w wr : World} {lo hi base : Nat} {f : Fr} {xs : List Value} {v : Value} (h : XD w lo hi f xs) (ho : wr.ownsRow base 31 4 v f.len xs) (hkeep : ∀ p : Addr, lo ≤ p.block → p.block < hi → wr.cell? p = w.cell? p) (hlo : lo ≤ base) (hhi : hi ≤ wr.heap.size) :
    ∃ A cap, v = .slice A f.len cap ∧ KidsAt wr lo wr.heap.size f A cap := by
  have hl := ho.lt
  rcases ho.2 with ⟨rfl, h0⟩ | ⟨g, cap, cur, rfl, hbg, hg, hnc, hcm, hcs, htake⟩
  · exact ⟨none, 0, by rw [h0], by omega, Nat.zero_le _, fun hp => by omega⟩
  · refine ⟨some ⟨g, 0, none⟩, cap, rfl, hnc, hcm, fun _ => ⟨g, 0, rfl, by omega, (hl g rfl).2, XD.row hkeep (Nat.le_refl _) hhi f xs 0 h fun j u hj => ?_⟩⟩
    have h3 := World.ownsRow.cells ho (g := g) rfl j u hj
    have e : (⟨g, 0, none⟩ : Addr).add j = ⟨g, 0 + j, none⟩ := by unfold Addr.add; split <;> simp_all
    rwa [e] at h3
end Go.Proofs.YtmgfndgmebignaaGreatDoor

/- The model's texts with operators: spec.l2Args, l2List, l2Text, WriteTerm. Condition: the term lies in memory. -/
namespace Go.Proofs.YtmgfndgmebignaaGreatDoor.wr
open Go.RowKit

set_option maxRecDepth 100000 in
set_option maxHeartbeats 4000000 in
/-- spec.l2Args. -/
theorem args_of (F : Fr) (h : ∀ j k n s kids rest, F.drop j = .cons k n s kids rest → TxC s kids) (d : Int) (A : Option Addr) (cap lo hi : Nat) (w : World) (hk : KidsAt w lo hi F A cap) (hh : hi ≤ w.heap.size) (hs : shapeF F d = true) (hnd : nodes F ≤ 1048576) (hl : (remB 0 F).length ≤ 67108864) :
    Calls Tryz.prog 86 #[.slice A F.len cap] w fun e w' => e = .returned (.string ⟨(remB 0 F).toArray⟩) ∧ Below w.heap.size w w' := by
  have hlen : F.len ≤ 1048576 := by have := len_le_nodes F; omega
  have H := Lib.hid h
  have HK := Lib.hid hk
  have HHI := Lib.hid hh
  have HSH := Lib.hid hs
  have HND := Lib.hid hnd
  clear h hk hh hs hnd
  generalize hn : F.len = len at *
  have HN := Lib.hid hn
  clear hn
  go_enter Tryz.func86, Tryz.ntmps86
  go_wp2_with fail
  go_loopw [3, 4] (fun ov i wr => ∃ (j : Nat) (L : List UInt8), j ≤ len ∧ i = .int .i64 j ∧ ov = .string ⟨L.toArray⟩ ∧ L ++ remB j (F.drop j) = remB 0 F ∧ Below w.heap.size w wr) (fun _ i _ => len - (intOf i).toNat)
  case atStart => exact ⟨0, [], Nat.zero_le _, rfl, rfl, rfl, Below.refl _ _⟩
  case round =>
    obtain ⟨j, L, hj, rfl, rfl, hL, hb⟩ := hrel
    have HLE := Lib.hid hL
    have HB := Lib.hid hb
    have hLl : L.length + (remB j (F.drop j)).length ≤ 67108864 := by have := congrArg List.length hL; simp only [List.length_append] at this; omega
    clear hL
    by_cases hlt : j < len
    · obtain ⟨kk, nn, ss, kids, hd⟩ := Fr.drop_cons j F (by rw [HN.out]; exact hlt)
      obtain ⟨b, o, rfl, hlb, hbb, hrow⟩ := HK.out.2.2 (by rw [HN.out]; omega)
      obtain ⟨hfit, A', cp, c0, c1, c2, c3, hkid⟩ := hrow.elem hd
      have hlo : (⟨b, o, none⟩ : Addr).block < w.heap.size := Nat.lt_of_lt_of_le hbb HHI.out
      have k0 := (hb.cell (p := ⟨b, o + j * 4, none⟩) hlo).trans c0
      have k1 := (hb.cell (p := ⟨b, o + j * 4 + 1, none⟩) hlo).trans c1
      have k2 := (hb.cell (p := ⟨b, o + j * 4 + 2, none⟩) hlo).trans c2
      have k3 := (hb.cell (p := ⟨b, o + j * 4 + 3, none⟩) hlo).trans c3
      have C3 := H.out j _ _ _ _ _ hd kk nn A' cp lo hi _ wr (hkid.below hb HHI.out) (Nat.le_trans HHI.out hb.size) (shape_drop F j _ hd HSH.out) (Nat.le_trans (nodes_drop_elem j F hd) HND.out)
      have hL2 := HLE.out
      have H3 := Lib.hid C3
      by_cases hj0 : j = 0
      · subst hj0
        rw [hd, remB_zero] at hL2 hLl
        have HL2 := Lib.hid hL2
        clear C3 c0 c1 c2 c3 hkid hrow hfit hd hlo hL2 hb
        generalize txT kk nn ss kids = T at *
        have hTl : L.length + T.length ≤ 67108864 := by simp only [List.length_append] at hLl; omega
        have HSTR : Hid ((.string (⟨L.toArray⟩ ++ ⟨T.toArray⟩) : Value) = .string ⟨(L ++ T).toArray⟩) := Lib.hid (str_app L T)
        have HL3 : Hid ((L ++ T) ++ remB (0 + 1) (F.drop (0 + 1)) = remB 0 F) := Lib.hid (by rw [← HL2.out]; simp)
        simp only [Nat.zero_mul, Nat.add_zero] at k0 k1 k2 k3
        go_wp2_with fail
        refine H3.out.mono ?_
        rintro e w3 ⟨rfl, hb3⟩
        have HB3 := Lib.hid (HB.out.trans (hb3.mono HB.out.size))
        clear hb3
        go_wp2_with fail
        go_roundw
        case rel => exact ⟨0 + 1, L ++ T, by omega, by go_num, HSTR.out, HL3.out, HB3.out⟩
        case measure => simp [intOf]; omega
      · rw [hd, remB_step j hj0] at hL2 hLl
        have HL2 := Lib.hid hL2
        clear C3 c0 c1 c2 c3 hkid hrow hfit hd hlo hL2 hb
        generalize txT kk nn ss kids = T at *
        have hTl : L.length + 1 + T.length ≤ 67108864 := by simp only [List.length_append, List.length_cons] at hLl; omega
        have t0 : (0 : Int) < (j : Int) := by omega
        have HSTR : Hid ((.string ((⟨L.toArray⟩ ++ ⟨#[44]⟩) ++ ⟨T.toArray⟩) : Value) = .string ⟨(L ++ 44 :: T).toArray⟩) := Lib.hid (by
          rw [show (⟨#[44]⟩ : ByteArray) = ⟨[44].toArray⟩ from rfl, ByteArray.mk_append_mk, ByteArray.mk_append_mk]
          simp)
        have HL3 : Hid ((L ++ 44 :: T) ++ remB (j + 1) (F.drop (j + 1)) = remB 0 F) := Lib.hid (by rw [← HL2.out]; simp)
        clear hj0
        go_wp2_with fail
        refine H3.out.mono ?_
        rintro e w3 ⟨rfl, hb3⟩
        have HB3 := Lib.hid (HB.out.trans (hb3.mono HB.out.size))
        clear hb3
        go_wp2_with fail
        go_roundw
        case rel => exact ⟨j + 1, L ++ 44 :: T, by omega, by go_num, HSTR.out, HL3.out, HB3.out⟩
        case measure => simp [intOf]; omega
    · obtain rfl : j = len := by omega
      have hLL : L = remB 0 F := by
        have h1 := Fr.drop_len F
        rw [HN.out] at h1
        rw [← HLE.out, h1, remB_nil, List.append_nil]
      have HLL := Lib.hid hLL
      clear hb hLL hLl
      go_wp2_with fail
      go_ret
      rw [← HLL.out]
      exact ⟨rfl, HB.out⟩

/-- The loop's relation: the term that is looked at lies in block H; its elements before it lie in the row v. -/
def LiP (w : World) (lo hi H : Nat) (F T : Fr) (k n : Int) (s : ByteArray) (f : Fr) (A : Option Addr) (cap : Nat) (acc : Fr) (v : Value) (wr : World) : Prop :=
  Blk wr H 31 #[.int .i64 k, .int .i64 n, .string s, .slice A f.len cap] ∧ KidsAt w lo hi f A cap ∧ (∃ xs, wr.ownsRow (H + 1) 31 4 v acc.len xs ∧ XD w lo hi acc xs) ∧ acc.app (fronts k s f) = F ∧ tails k n s f = T ∧ Below w.heap.size w wr ∧ H + 1 ≤ wr.heap.size ∧ w.heap.size ≤ H
theorem LiP.below {w wr w1 : World} {lo hi H : Nat} {F T : Fr} {k n : Int} {s : ByteArray} {f : Fr} {A : Option Addr} {cap : Nat} {acc : Fr} {v : Value}
    (h : LiP w lo hi H F T k n s f A cap acc v wr) (hb : Below wr.heap.size wr w1) : LiP w lo hi H F T k n s f A cap acc v w1 := by
  obtain ⟨b0, hk, ⟨xs, ho, hx⟩, hF, hT, hbw, hs, hH⟩ := h
  exact ⟨b0.below hb (by omega), hk, ⟨xs, ho.kept (row := none) ⟨hb.os, hb.tape, hb.output, hb.size, fun k hk _ => hb.block k hk⟩ (by cases v.ownBlock <;> simp), hx⟩, hF, hT, hbw.trans (hb.mono hbw.size), Nat.le_trans hs hb.size, hH⟩
/-- One element more. -/
theorem LiP.step {w wr w4 : World} {lo hi H : Nat} {F T : Fr} {k n : Int} {s : ByteArray} {k1 n1 k2 n2 : Int} {s1 s2 : ByteArray} {kd1 kd2 : Fr} {A A1 A2 : Option Addr} {cap cap1 cap2 : Nat} {acc : Fr} {v : Value} {xs : List Value} {g cap4 : Nat} {o : Obj}
    (h : LiP w lo hi H F T k n s (.cons k1 n1 s1 kd1 (.cons k2 n2 s2 kd2 .nil)) A cap acc v wr) (hp : pairB k s 2 = true) (hx : XD w lo hi acc xs) (hvl : ∀ g, v.ownBlock = some g → H + 1 ≤ g ∧ g < wr.heap.size)
    (hf1 : Fits k1 n1 s1) (hk1 : KidsAt w lo hi kd1 A1 cap1) (hg : (wr.alloc o).grownBy w4 v.ownBlock)
    (ho : w4.ownsRow (H + 1) 31 4 (.slice (some ⟨g, 0, none⟩) (acc.len + 1) cap4) (acc.len + 1) (xs ++ [.int .i64 k1, .int .i64 n1, .string s1, .slice A1 kd1.len cap1])) (hk2 : KidsAt w lo hi kd2 A2 cap2) :
    LiP w lo hi H F T k2 n2 s2 kd2 A2 cap2 (acc.app (.cons k1 n1 s1 kd1 .nil)) (.slice (some ⟨g, 0, none⟩) (acc.len + 1) cap4) ((((w4.setCell ⟨H, 0, none⟩ (.int .i64 k2)).setCell ⟨H, 1, none⟩ (.int .i64 n2)).setCell ⟨H, 2, none⟩ (.string s2)).setCell ⟨H, 3, none⟩ (.slice A2 kd2.len cap2)) := by
  obtain ⟨b0, hk, _, hF, hT, hb, hs, hH⟩ := h
  have hb1 : Below wr.heap.size wr (wr.alloc o) := (Below.refl _ _).alloc (Nat.le_refl _) _
  have s1' := hb1.size
  have s4' := hg.size
  have far : w4.heap[H]? = wr.heap[H]? := by
    rw [hg.block H (by omega) fun e => by have := (hvl H e.symm).1; omega, hb1.block H (by omega)]
  have hbw : Below w.heap.size w w4 := by
    have h2 := hb.trans (hb1.mono hb.size)
    refine h2.grown hg h2.size fun g hg => ?_
    have := (hvl g hg).1; omega
  have hlen : (acc.app (.cons k1 n1 s1 kd1 .nil)).len = acc.len + 1 := by rw [Fr.len_app]; rfl
  have hF' : (acc.app (.cons k1 n1 s1 kd1 .nil)).app (fronts k2 s2 kd2) = F := by
    rw [← hF, fronts, if_pos hp, app_assoc]; rfl
  have hT' : tails k2 n2 s2 kd2 = T := by rw [← hT, tails, if_pos hp]
  have hset : ∀ (w5 : World) (i : Nat) (u : Value), w5.ownsRow (H + 1) 31 4 (.slice (some ⟨g, 0, none⟩) (acc.len + 1) cap4) (acc.len + 1) (xs ++ [.int .i64 k1, .int .i64 n1, .string s1, .slice A1 kd1.len cap1]) →
      (w5.setCell ⟨H, i, none⟩ u).ownsRow (H + 1) 31 4 (.slice (some ⟨g, 0, none⟩) (acc.len + 1) cap4) (acc.len + 1) (xs ++ [.int .i64 k1, .int .i64 n1, .string s1, .slice A1 kd1.len cap1]) := fun w5 i u h5 =>
    h5.kept (row := some H) ⟨rfl, rfl, rfl, by simp [World.setCell], fun k _ hk => heap_setCell_other _ _ _ _ fun e => hk (by rw [e])⟩ (.inr fun e => by
      have := (h5.lt H e).1; omega)
  refine ⟨((((b0.keep far).set_ 0 _).set_ 1 _).set_ 2 _).set_ 3 _, hk2, ⟨_, by rw [hlen]; exact hset _ 3 _ (hset _ 2 _ (hset _ 1 _ (hset _ 0 _ ho))), XD.snoc hf1 hk1 acc xs hx⟩, hF', hT', (((hbw.setCell hH _).setCell hH _).setCell hH _).setCell hH _, ?_, hH⟩
  simp only [World.setCell, Array.size_modify]
  omega
theorem LiP.done {w wr : World} {lo hi H : Nat} {F T : Fr} {k n : Int} {s : ByteArray} {f : Fr} {A : Option Addr} {cap : Nat} {acc : Fr} {v : Value}
    (h : LiP w lo hi H F T k n s f A cap acc v wr) (hp : pairB k s f.len = false) (hh : hi ≤ w.heap.size) (hlo : lo ≤ w.heap.size) : ∃ A2 cap2, v = .slice A2 F.len cap2 ∧ KidsAt wr lo wr.heap.size F A2 cap2 := by
  obtain ⟨b0, hk, ⟨xs, ho, hx⟩, hF, hT, hbw, hs, hH⟩ := h
  rw [(pair_no n hp).1, app_nil] at hF
  subst hF
  exact hx.kids ho (fun p _ hp => hbw.cell (by omega)) (by omega) (Nat.le_trans hh hbw.size)
end Go.Proofs.YtmgfndgmebignaaGreatDoor.wr

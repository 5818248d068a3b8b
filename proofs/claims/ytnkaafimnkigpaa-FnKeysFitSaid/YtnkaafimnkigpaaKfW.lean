/- KeysFit, the model's and the program's; the law FnExactKeysFit, walked. No condition but that the arguments are strings. -/
import Derived.Test.YtnkaafimnkigpaaProg
import Derived.Test.YtnkaafimnkigpaaFr
import Derived.WalkKit
import Derived.WalkSpells
import Derived.Outline
namespace Go.Proofs.Ytnkaafimnkigpaa
open Go.RowKit

/-- Two keys fit. -/
def kfL (a b : List UInt8) : Bool := a.isEmpty || b.isEmpty || (a == b)
theorem beq_nil (l : List UInt8) : (l == []) = l.isEmpty := by cases l <;> rfl
set_option maxRecDepth 100000 in
/-- spec.KeysFit. -/
theorem specKF_any (a b : ByteArray) (w : World) : Calls Try.prog 6 #[.string a, .string b] w fun e w' => e = .returned (.bool (kfL a.data.toList b.data.toList)) ∧ w' = w := by
  have la := ByteArray.toList_eq a
  have lb := ByteArray.toList_eq b
  have HE : Hid (kfL a.data.toList b.data.toList = (a.toList.isEmpty || b.toList.isEmpty || (a.toList == b.toList))) := Lib.hid (by rw [la, lb]; rfl)
  clear la lb
  cases h1 : a.toList.isEmpty
  · have u1 : (a.toList == []) = false := by rw [beq_nil]; exact h1
    cases h2 : b.toList.isEmpty
    · have u2 : (b.toList == []) = false := by rw [beq_nil]; exact h2
      cases h3 : (a.toList == b.toList)
      all_goals
        have HV := HE.out
        rw [h1, h2, h3] at HV
        have HV := Lib.hid HV
        clear HE
        go_enter Try.func6, Try.ntmps6
        go_wp2_with fail
        go_ret
        rw [HV.out]; exact ⟨rfl, rfl⟩
    · have u2 : (b.toList == []) = true := by rw [beq_nil]; exact h2
      have HV := HE.out
      rw [h1, h2] at HV
      have HV := Lib.hid HV
      clear HE
      go_enter Try.func6, Try.ntmps6
      go_wp2_with fail
      go_ret
      rw [HV.out]; exact ⟨rfl, rfl⟩
  · have u1 : (a.toList == []) = true := by rw [beq_nil]; exact h1
    have HV := HE.out
    rw [h1] at HV
    have HV := Lib.hid HV
    clear HE
    go_enter Try.func6, Try.ntmps6
    go_wp2_with fail
    go_ret
    rw [HV.out]; exact ⟨rfl, rfl⟩
set_option maxRecDepth 100000 in
/-- impl.KeysFit. -/
theorem implKF_any (a b : ByteArray) (w : World) : Calls Try.prog 5 #[.string a, .string b] w fun e w' => e = .returned (.bool (kfL a.data.toList b.data.toList)) ∧ w' = w := by
  have la := ByteArray.toList_eq a
  have lb := ByteArray.toList_eq b
  have HE : Hid (kfL a.data.toList b.data.toList = (a.toList.isEmpty || b.toList.isEmpty || (a.toList == b.toList))) := Lib.hid (by rw [la, lb]; rfl)
  clear la lb
  cases h1 : a.toList.isEmpty
  · have u1 : (a.toList == []) = false := by rw [beq_nil]; exact h1
    cases h2 : b.toList.isEmpty
    · have u2 : (b.toList == []) = false := by rw [beq_nil]; exact h2
      cases h3 : (a.toList == b.toList)
      all_goals
        have HV := HE.out
        rw [h1, h2, h3] at HV
        have HV := Lib.hid HV
        clear HE
        go_enter Try.func5, Try.ntmps5
        go_wp2_with fail
        go_ret
        rw [HV.out]; exact ⟨rfl, rfl⟩
    · have u2 : (b.toList == []) = true := by rw [beq_nil]; exact h2
      have HV := HE.out
      rw [h1, h2] at HV
      have HV := Lib.hid HV
      clear HE
      go_enter Try.func5, Try.ntmps5
      go_wp2_with fail
      go_ret
      rw [HV.out]; exact ⟨rfl, rfl⟩
  · have u1 : (a.toList == []) = true := by rw [beq_nil]; exact h1
    have HV := HE.out
    rw [h1] at HV
    have HV := Lib.hid HV
    clear HE
    go_enter Try.func5, Try.ntmps5
    go_wp2_with fail
    go_ret
    rw [HV.out]; exact ⟨rfl, rfl⟩
end Go.Proofs.Ytnkaafimnkigpaa

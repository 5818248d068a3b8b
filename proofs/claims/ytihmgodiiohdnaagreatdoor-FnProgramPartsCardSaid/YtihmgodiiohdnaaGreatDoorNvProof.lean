/- FnExactNameValid: for every string the law returns true: impl.NameValid answers as the model does. Condition: the table of signs reads as the program's own text lays it (tied by the card). -/
import Derived.Test.YtihmgodiiohdnaaGreatDoorNvWalks
import Derived.Test.YtihmgodiiohdnaaGreatDoorNvWalks
import Derived.ProofKit
import Derived.OpenShut
import Derived.ShutString
import Derived.Deep.DeepHandedRow
import Derived.Lib.LaidTab
namespace Go.Proofs.YtihmgodiiohdnaaGreatDoor.nv
open Go.ChangeShapes Go.WideShapes Go.ChangeAt Go.RowKit
open Go.ChangeMaps (open_string shut_string)

/-- impl.NameValid. -/
theorem impl_any (s : ByteArray) (w : World) (hs : s.size ≤ maxLen) (ht : Tab w) :
    Calls Tryz.prog 119 #[.string s] w fun e w' => e = .returned (.bool (nameB s.data.toList)) ∧ w = w' := by
  have C1 := len_any s w hs ht
  have hag := name_agree s.data.toList
  have hle := nameLen_le s.data.toList
  have hsz : s.data.toList.length = s.size := rfl
  rw [hsz] at hle hag
  unfold maxLen at hs
  clear hsz
  by_cases h0 : s.data.toList = []
  · have e1 : s.toList = [] := by rw [ByteArray.toList_eq]; exact h0
    have e2 : (!s.toList.isEmpty) = false := by rw [e1]; rfl
    have HV : Hid (nameB s.data.toList = false) := Lib.hid (by rw [← hag, h0]; rfl)
    clear C1 hag hle h0
    go_enter Tryz.func119, Tryz.ntmps119
    go_wp2_with fail
    go_ret
    rw [HV.out]; exact ⟨rfl, rfl⟩
  · have e2 : (!s.toList.isEmpty) = true := by
      rw [ByteArray.toList_eq]
      cases hl : s.data.toList with
      | nil => exact absurd hl h0
      | cons _ _ => rfl
    have HV : Hid (nameB s.data.toList = decide (nameLen s.data.toList = s.size)) := Lib.hid (by rw [← hag, decide_eq_true (show s.data.toList ≠ [] from h0)]; rfl)
    generalize nameLen s.data.toList = n at *
    have H1 := Lib.hid C1
    clear C1 hag h0
    by_cases hn : n = s.size
    · have HN : Hid (nameB s.data.toList = true) := Lib.hid (by rw [HV.out, decide_eq_true hn])
      have t1 : ((n : Int) == (s.size : Int)) = true := by rw [beq_iff_eq]; omega
      clear hn
      go_enter Tryz.func119, Tryz.ntmps119
      go_wp2_with (go_at_call 132; refine H1.out.mono ?_; rintro e w' ⟨rfl, rfl⟩)
      go_ret
      rw [HN.out]; exact ⟨rfl, rfl⟩
    · have HN : Hid (nameB s.data.toList = false) := Lib.hid (by rw [HV.out, decide_eq_false hn])
      have t1 : ((n : Int) == (s.size : Int)) = false := by rw [beq_eq_false_iff_ne]; omega
      go_enter Tryz.func119, Tryz.ntmps119
      go_wp2_with (go_at_call 132; refine H1.out.mono ?_; rintro e w' ⟨rfl, rfl⟩)
      go_ret
      rw [HN.out]; exact ⟨rfl, rfl⟩
end Go.Proofs.YtihmgodiiohdnaaGreatDoor.nv

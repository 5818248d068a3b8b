/- Bytes of a text at an offset: spec.l1Small, l1Digit, l1Sign. Condition: the text is no longer than a string can be. -/
import Derived.Test.YtihmgodiiohdnaaGreatDoorProg
import Derived.Test.YtihmgodiiohdnaaGreatDoorNvWalks
namespace Go.Proofs.YtihmgodiiohdnaaGreatDoor
open Go.RowKit

/-- The byte at an offset meets a test. -/
def atB (p : UInt8 → Bool) (l : List UInt8) (i : Nat) : Bool := match l[i]? with | some c => p c | none => false
def smC (c : UInt8) : Bool := decide (97 ≤ c.toNat) && decide (c.toNat ≤ 122)
def dgC (c : UInt8) : Bool := decide (48 ≤ c.toNat) && decide (c.toNat ≤ 57)
def sgC (x : Int) (c : UInt8) : Bool := (c.toNat : Int) == x
theorem atB_some {p : UInt8 → Bool} {l : List UInt8} {i : Nat} {c : UInt8} (h : l[i]? = some c) : atB p l i = p c := by unfold atB; rw [h]
theorem atB_none {p : UInt8 → Bool} {l : List UInt8} {i : Nat} (h : l.length ≤ i) : atB p l i = false := by unfold atB; rw [List.getElem?_eq_none h]

set_option maxHeartbeats 1000000 in
/-- spec.l1Small. -/
theorem small_any (s : ByteArray) (i : Nat) (w : World) (_hs : s.size ≤ maxLen) (_hi : i ≤ maxLen) :
    Calls Tryz.prog 105 #[.string s, .int .i64 i] w fun e w' => e = .returned (.bool (atB smC s.data.toList i)) ∧ w' = w := by
  unfold maxLen at _hs _hi
  by_cases hlt : i < s.size
  · have HV : Hid (atB smC s.data.toList i = (decide (97 ≤ s[i].toNat) && decide (s[i].toNat ≤ 122))) := Lib.hid (atB_some (Lib.data_getElem? s i hlt))
    by_cases h1 : 97 ≤ s[i].toNat
    · by_cases h2 : s[i].toNat ≤ 122
      · have HW : Hid (atB smC s.data.toList i = true) := Lib.hid (by rw [HV.out, decide_eq_true h1, decide_eq_true h2]; rfl)
        have b1 : (97 : Int) ≤ (s[i].toNat : Int) := by omega
        have b2 : decide ((s[i].toNat : Int) ≤ 122) = true := by simp; omega
        clear HV h1 h2
        go_enter Tryz.func105, Tryz.ntmps105
        go_wp2_with fail
        go_ret
        rw [HW.out]; exact ⟨rfl, rfl⟩
      · have HW : Hid (atB smC s.data.toList i = false) := Lib.hid (by rw [HV.out, decide_eq_true h1, decide_eq_false h2]; rfl)
        have b1 : (97 : Int) ≤ (s[i].toNat : Int) := by omega
        have b2 : decide ((s[i].toNat : Int) ≤ 122) = false := by simp; omega
        clear HV h1 h2
        go_enter Tryz.func105, Tryz.ntmps105
        go_wp2_with fail
        go_ret
        rw [HW.out]; exact ⟨rfl, rfl⟩
    · have HW : Hid (atB smC s.data.toList i = false) := Lib.hid (by rw [HV.out, decide_eq_false h1]; rfl)
      have b1 : ¬ (97 : Int) ≤ (s[i].toNat : Int) := by omega
      clear HV h1
      go_enter Tryz.func105, Tryz.ntmps105
      go_wp2_with fail
      go_ret
      rw [HW.out]; exact ⟨rfl, rfl⟩
  · have HW : Hid (atB smC s.data.toList i = false) := Lib.hid (atB_none (by show s.size ≤ i; omega))
    go_enter Tryz.func105, Tryz.ntmps105
    go_wp2_with fail
    go_ret
    rw [HW.out]; exact ⟨rfl, rfl⟩
set_option maxHeartbeats 1000000 in
/-- spec.l1Digit. -/
theorem digit_any (s : ByteArray) (i : Nat) (w : World) (_hs : s.size ≤ maxLen) (_hi : i ≤ maxLen) :
    Calls Tryz.prog 92 #[.string s, .int .i64 i] w fun e w' => e = .returned (.bool (atB dgC s.data.toList i)) ∧ w' = w := by
  unfold maxLen at _hs _hi
  by_cases hlt : i < s.size
  · have HV : Hid (atB dgC s.data.toList i = (decide (48 ≤ s[i].toNat) && decide (s[i].toNat ≤ 57))) := Lib.hid (atB_some (Lib.data_getElem? s i hlt))
    by_cases h1 : 48 ≤ s[i].toNat
    · by_cases h2 : s[i].toNat ≤ 57
      · have HW : Hid (atB dgC s.data.toList i = true) := Lib.hid (by rw [HV.out, decide_eq_true h1, decide_eq_true h2]; rfl)
        have b1 : (48 : Int) ≤ (s[i].toNat : Int) := by omega
        have b2 : decide ((s[i].toNat : Int) ≤ 57) = true := by simp; omega
        clear HV h1 h2
        go_enter Tryz.func92, Tryz.ntmps92
        go_wp2_with fail
        go_ret
        rw [HW.out]; exact ⟨rfl, rfl⟩
      · have HW : Hid (atB dgC s.data.toList i = false) := Lib.hid (by rw [HV.out, decide_eq_true h1, decide_eq_false h2]; rfl)
        have b1 : (48 : Int) ≤ (s[i].toNat : Int) := by omega
        have b2 : decide ((s[i].toNat : Int) ≤ 57) = false := by simp; omega
        clear HV h1 h2
        go_enter Tryz.func92, Tryz.ntmps92
        go_wp2_with fail
        go_ret
        rw [HW.out]; exact ⟨rfl, rfl⟩
    · have HW : Hid (atB dgC s.data.toList i = false) := Lib.hid (by rw [HV.out, decide_eq_false h1]; rfl)
      have b1 : ¬ (48 : Int) ≤ (s[i].toNat : Int) := by omega
      clear HV h1
      go_enter Tryz.func92, Tryz.ntmps92
      go_wp2_with fail
      go_ret
      rw [HW.out]; exact ⟨rfl, rfl⟩
  · have HW : Hid (atB dgC s.data.toList i = false) := Lib.hid (atB_none (by show s.size ≤ i; omega))
    go_enter Tryz.func92, Tryz.ntmps92
    go_wp2_with fail
    go_ret
    rw [HW.out]; exact ⟨rfl, rfl⟩
set_option maxHeartbeats 1000000 in
/-- spec.l1Sign. -/
theorem sign_any (s : ByteArray) (i : Nat) (x : Int) (w : World) (_hs : s.size ≤ maxLen) (_hi : i ≤ maxLen) :
    Calls Tryz.prog 63 #[.string s, .int .i64 i, .int .u8 x] w fun e w' => e = .returned (.bool (atB (sgC x) s.data.toList i)) ∧ w' = w := by
  unfold maxLen at _hs _hi
  by_cases hlt : i < s.size
  · have HV : Hid (atB (sgC x) s.data.toList i = ((s[i].toNat : Int) == x)) := Lib.hid (atB_some (Lib.data_getElem? s i hlt))
    cases h : ((s[i].toNat : Int) == x)
    · have HW : Hid (atB (sgC x) s.data.toList i = false) := Lib.hid (by rw [HV.out, h])
      clear HV
      go_enter Tryz.func63, Tryz.ntmps63
      go_wp2_with fail
      go_ret
      rw [HW.out]; exact ⟨rfl, rfl⟩
    · have HW : Hid (atB (sgC x) s.data.toList i = true) := Lib.hid (by rw [HV.out, h])
      clear HV
      go_enter Tryz.func63, Tryz.ntmps63
      go_wp2_with fail
      go_ret
      rw [HW.out]; exact ⟨rfl, rfl⟩
  · have HW : Hid (atB (sgC x) s.data.toList i = false) := Lib.hid (atB_none (by show s.size ≤ i; omega))
    go_enter Tryz.func63, Tryz.ntmps63
    go_wp2_with fail
    go_ret
    rw [HW.out]; exact ⟨rfl, rfl⟩
end Go.Proofs.YtihmgodiiohdnaaGreatDoor

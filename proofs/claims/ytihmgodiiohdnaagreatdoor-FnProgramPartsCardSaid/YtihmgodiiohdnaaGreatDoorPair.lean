/- spec.l1Pair, l1Nil, impl.isEmptyList: what a list's nodes are. Condition: the term lies in memory. -/
import Derived.Test.YtihmgodiiohdnaaGreatDoorProg
import Derived.Test.YtihmgodiiohdnaaGreatDoorMk
import Derived.Test.YtihmgodiiohdnaaGreatDoorAs
import Derived.WalkKit
import Derived.WalkSpells
import Derived.Outline
namespace Go.Proofs.YtihmgodiiohdnaaGreatDoor
open Go.RowKit

def dotB (s : ByteArray) : Bool := s.data.toList == [46]
def emptyB (s : ByteArray) : Bool := s.data.toList == [91, 93]
/-- A pair of a list. -/
def pairB (k : Int) (s : ByteArray) (len : Nat) : Bool := k == 3 && (dotB s && len == 2)
/-- The empty list. -/
def nilB (k : Int) (s : ByteArray) (len : Nat) : Bool := k == 3 && (emptyB s && len == 0)

set_option maxHeartbeats 1000000 in
theorem pair_any (k n : Int) (s : ByteArray) (A : Option Addr) (len cap : Nat) (w : World) :
    Calls Tryz.prog 106 #[.agg #[.int .i64 k, .int .i64 n, .string s, .slice A len cap]] w fun e w' => e = .returned (.bool (pairB k s len)) ∧ Below w.heap.size w w' := by
  have hb0 : Below w.heap.size w (w.alloc (.cells #[.int .i64 k, .int .i64 n, .string s, .slice A len cap] 30)) := (Below.refl _ _).alloc (Nat.le_refl _) _
  have HB := Lib.hid hb0
  clear hb0
  by_cases h1 : k = 3
  · subst h1
    cases h2 : dotB s
    · have HV : Hid (pairB 3 s len = false) := Lib.hid (by simp [pairB, h2])
      have t1 : (s.toList == [46]) = false := by rw [ByteArray.toList_eq]; exact h2
      clear h2
      go_enter Tryz.func106, Tryz.ntmps106
      go_wp2_with fail
      go_ret
      rw [HV.out]; exact ⟨rfl, HB.out⟩
    · have t1 : (s.toList == [46]) = true := by rw [ByteArray.toList_eq]; exact h2
      by_cases h3 : len = 2
      · subst h3
        have HV : Hid (pairB 3 s 2 = true) := Lib.hid (by simp [pairB, h2])
        clear h2
        go_enter Tryz.func106, Tryz.ntmps106
        go_wp2_with fail
        go_ret
        rw [HV.out]; exact ⟨rfl, HB.out⟩
      · have HV : Hid (pairB 3 s len = false) := Lib.hid (by simp [pairB, h3])
        have t2 : ((len : Int) == 2) = false := by rw [beq_eq_false_iff_ne]; omega
        clear h2 h3
        go_enter Tryz.func106, Tryz.ntmps106
        go_wp2_with fail
        go_ret
        rw [HV.out]; exact ⟨rfl, HB.out⟩
  · have HV : Hid (pairB k s len = false) := Lib.hid (by simp [pairB, h1])
    have t1 : (k == 3) = false := by rw [beq_eq_false_iff_ne]; exact h1
    clear h1
    go_enter Tryz.func106, Tryz.ntmps106
    go_wp2_with fail
    go_ret
    rw [HV.out]; exact ⟨rfl, HB.out⟩
set_option maxHeartbeats 1000000 in
theorem nil_any (k n : Int) (s : ByteArray) (A : Option Addr) (len cap : Nat) (w : World) :
    Calls Tryz.prog 120 #[.agg #[.int .i64 k, .int .i64 n, .string s, .slice A len cap]] w fun e w' => e = .returned (.bool (nilB k s len)) ∧ Below w.heap.size w w' := by
  have hb0 : Below w.heap.size w (w.alloc (.cells #[.int .i64 k, .int .i64 n, .string s, .slice A len cap] 30)) := (Below.refl _ _).alloc (Nat.le_refl _) _
  have HB := Lib.hid hb0
  clear hb0
  by_cases h1 : k = 3
  · subst h1
    cases h2 : emptyB s
    · have HV : Hid (nilB 3 s len = false) := Lib.hid (by simp [nilB, h2])
      have t1 : (s.toList == [91, 93]) = false := by rw [ByteArray.toList_eq]; exact h2
      clear h2
      go_enter Tryz.func120, Tryz.ntmps120
      go_wp2_with fail
      go_ret
      rw [HV.out]; exact ⟨rfl, HB.out⟩
    · have t1 : (s.toList == [91, 93]) = true := by rw [ByteArray.toList_eq]; exact h2
      by_cases h3 : len = 0
      · subst h3
        have HV : Hid (nilB 3 s 0 = true) := Lib.hid (by simp [nilB, h2])
        clear h2
        go_enter Tryz.func120, Tryz.ntmps120
        go_wp2_with fail
        go_ret
        rw [HV.out]; exact ⟨rfl, HB.out⟩
      · have HV : Hid (nilB 3 s len = false) := Lib.hid (by simp [nilB, h3])
        have t2 : ((len : Int) == 0) = false := by rw [beq_eq_false_iff_ne]; omega
        clear h2 h3
        go_enter Tryz.func120, Tryz.ntmps120
        go_wp2_with fail
        go_ret
        rw [HV.out]; exact ⟨rfl, HB.out⟩
  · have HV : Hid (nilB k s len = false) := Lib.hid (by simp [nilB, h1])
    have t1 : (k == 3) = false := by rw [beq_eq_false_iff_ne]; exact h1
    clear h1
    go_enter Tryz.func120, Tryz.ntmps120
    go_wp2_with fail
    go_ret
    rw [HV.out]; exact ⟨rfl, HB.out⟩

set_option maxHeartbeats 1000000 in
/-- impl.isEmptyList. -/
theorem emptyList_any (k n : Int) (s : ByteArray) (f : Fr) (v : Value) (lo hi : Nat) (w : World) (hv : NdV w lo hi k n s f v) :
    Calls Tryz.prog 82 #[v] w fun e w' => e = .returned (.bool (nilB k s f.len)) ∧ Below w.heap.size w w' := by
  have hb0 : ∀ o, Below w.heap.size w (w.alloc o) := fun o => (Below.refl _ _).alloc (Nat.le_refl _) _
  have HB := Lib.hid hb0
  clear hb0
  rcases hv with ⟨rfl, rfl⟩ | ⟨rfl, rfl⟩ | ⟨rfl, A, cap, rfl, hk⟩
  · have HV : Hid (nilB 1 s f.len = false) := Lib.hid rfl
    generalize f.len = len at *
    go_enter Tryz.func82, Tryz.ntmps82
    go_wp2_with fail
    go_ret
    rw [HV.out]; exact ⟨rfl, HB.out _⟩
  · have HV : Hid (nilB 2 s f.len = false) := Lib.hid rfl
    generalize f.len = len at *
    go_enter Tryz.func82, Tryz.ntmps82
    go_wp2_with fail
    go_ret
    rw [HV.out]; exact ⟨rfl, HB.out _⟩
  · clear hk
    generalize f.len = len at *
    cases h2 : emptyB s
    · have HV : Hid (nilB 3 s len = false) := Lib.hid (by simp [nilB, h2])
      have t1 : (s.toList == [91, 93]) = false := by rw [ByteArray.toList_eq]; exact h2
      clear h2
      go_enter Tryz.func82, Tryz.ntmps82
      go_wp2_with fail
      go_ret
      rw [HV.out]; exact ⟨rfl, HB.out _⟩
    · have t1 : (s.toList == [91, 93]) = true := by rw [ByteArray.toList_eq]; exact h2
      by_cases h3 : len = 0
      · subst h3
        have HV : Hid (nilB 3 s 0 = true) := Lib.hid (by simp [nilB, h2])
        clear h2
        go_enter Tryz.func82, Tryz.ntmps82
        go_wp2_with fail
        go_ret
        rw [HV.out]; exact ⟨rfl, HB.out _⟩
      · have HV : Hid (nilB 3 s len = false) := Lib.hid (by simp [nilB, h3])
        have t2 : ((len : Int) == 0) = false := by rw [beq_eq_false_iff_ne]; omega
        clear h2 h3
        go_enter Tryz.func82, Tryz.ntmps82
        go_wp2_with fail
        go_ret
        rw [HV.out]; exact ⟨rfl, HB.out _⟩

/-! The elements of a list, and what stands behind the last pair. -/
def fronts : Int → ByteArray → Fr → Fr
  | k, s, .cons k1 n1 s1 kd1 (.cons k2 _ s2 kd2 .nil) => if pairB k s 2 = true then .cons k1 n1 s1 kd1 (fronts k2 s2 kd2) else .nil
  | _, _, _ => .nil
def tails : Int → Int → ByteArray → Fr → Fr
  | k, n, s, .cons k1 n1 s1 kd1 (.cons k2 n2 s2 kd2 .nil) => if pairB k s 2 = true then tails k2 n2 s2 kd2 else .cons k n s (.cons k1 n1 s1 kd1 (.cons k2 n2 s2 kd2 .nil)) .nil
  | k, n, s, f => .cons k n s f .nil
theorem two_of (f : Fr) (h : f.len = 2) : ∃ k1 n1 s1 kd1 k2 n2 s2 kd2, f = .cons k1 n1 s1 kd1 (.cons k2 n2 s2 kd2 .nil) := by
  cases f with
  | nil => simp [Fr.len] at h
  | cons k1 n1 s1 kd1 r =>
    cases r with
    | nil => simp [Fr.len] at h
    | cons k2 n2 s2 kd2 r =>
      cases r with
      | nil => exact ⟨_, _, _, _, _, _, _, _, rfl⟩
      | cons _ _ _ _ _ => simp [Fr.len] at h
theorem pairB_len {k : Int} {s : ByteArray} {len : Nat} (h : pairB k s len = true) : len = 2 ∧ k = 3 ∧ dotB s = true := by
  simp only [pairB, Bool.and_eq_true, beq_iff_eq] at h
  exact ⟨h.2.2, h.1, h.2.1⟩
theorem pair_yes {k : Int} (n : Int) {s : ByteArray} {f : Fr} (h : pairB k s f.len = true) : ∃ k1 n1 s1 kd1 k2 n2 s2 kd2, f = .cons k1 n1 s1 kd1 (.cons k2 n2 s2 kd2 .nil) ∧ fronts k s f = .cons k1 n1 s1 kd1 (fronts k2 s2 kd2) ∧ tails k n s f = tails k2 n2 s2 kd2 := by
  have hl := (pairB_len h).1
  obtain ⟨k1, n1, s1, kd1, k2, n2, s2, kd2, rfl⟩ := two_of f hl
  have h2 : pairB k s 2 = true := h
  exact ⟨k1, n1, s1, kd1, k2, n2, s2, kd2, rfl, by rw [fronts, if_pos h2], by rw [tails, if_pos h2]⟩
theorem pair_no {k : Int} (n : Int) {s : ByteArray} {f : Fr} (h : pairB k s f.len = false) : fronts k s f = .nil ∧ tails k n s f = .cons k n s f .nil := by
  by_cases hl : f.len = 2
  · obtain ⟨k1, n1, s1, kd1, k2, n2, s2, kd2, rfl⟩ := two_of f hl
    have h2 : ¬ pairB k s 2 = true := by rw [Bool.not_eq_true]; exact h
    exact ⟨by rw [fronts, if_neg h2], by rw [tails, if_neg h2]⟩
  · cases f with
    | nil => exact ⟨rfl, rfl⟩
    | cons k1 n1 s1 kd1 r =>
      cases r with
      | nil => exact ⟨rfl, rfl⟩
      | cons k2 n2 s2 kd2 r =>
        cases r with
        | nil => simp [Fr.len] at hl
        | cons _ _ _ _ _ => exact ⟨rfl, rfl⟩
/-- The term is a list. -/
def listB (k n : Int) (s : ByteArray) (f : Fr) : Bool := match tails k n s f with
  | .cons k' _ s' f' _ => nilB k' s' f'.len
  | .nil => false
theorem app_assoc (a b c : Fr) : (a.app b).app c = a.app (b.app c) := by
  induction a with
  | nil => rfl
  | cons _ _ _ _ _ _ ih => simp only [Fr.app, ih]
theorem app_nil (a : Fr) : a.app .nil = a := by
  induction a with
  | nil => rfl
  | cons _ _ _ _ _ _ ih => simp only [Fr.app, ih]
end Go.Proofs.YtihmgodiiohdnaaGreatDoor

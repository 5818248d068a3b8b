/- Goals: the plain mathematics, and the model's l4Cut, l4Plain, l4Goal, GoalValid. Condition: the term lies in memory. -/
import Derived.Test.YtlapdnllncoomaaDoorProg
import Derived.Test.YtlapdnllncoomaaDoorBi
import Derived.Test.YtlapdnllncoomaaDoorSpecV
import Derived.Test.YtlapdnllncoomaaDoorSpecC
import Derived.Test.YtlapdnllncoomaaDoorImplV
namespace Go.Proofs.YtlapdnllncoomaaDoor
open Go.RowKit

def cutB (s : ByteArray) (len : Nat) : Bool := (s.data.toList == [33]) && (len == 0)
def plainB (s : ByteArray) (len : Nat) : Bool := nv.wordB s.data.toList && (!biB s.data.toList len && (op.level s.data.toList == 0))
def cutK (k : Int) (s : ByteArray) (len : Nat) : Bool := (k == 3) && cutB s len
def plainK (k : Int) (s : ByteArray) (len : Nat) : Bool := (k == 3) && plainB s len
def goalK (k : Int) (s : ByteArray) (len : Nat) : Bool := cutK k s len || (plainK k s len || ((k == 3) && biB s.data.toList len))
/-- The term is a goal. -/
def goalV (k n : Int) (s : ByteArray) (f : Fr) : Bool := validT k n s f && goalK k s f.len

set_option maxRecDepth 100000 in
/-- spec.l4Cut. -/
theorem cut_any (k n : Int) (s : ByteArray) (A : Option Addr) (len cap : Nat) (w : World) :
    Calls Tryd.prog 88 #[.agg #[.int .i64 k, .int .i64 n, .string s, .slice A len cap]] w fun e w' => e = .returned (.bool (cutK k s len)) ∧ Below w.heap.size w w' := by
  have HB : Hid (Below w.heap.size w (w.alloc (.cells #[.int .i64 k, .int .i64 n, .string s, .slice A len cap] 29))) := Lib.hid ((Below.refl _ _).alloc (Nat.le_refl _) _)
  have hl := ByteArray.toList_eq s
  have HL := Lib.hid hl
  clear hl
  by_cases h3 : k = 3
  · subst h3
    by_cases hs : s.data.toList = [33]
    · have t1 : (s.toList == [33]) = true := by rw [HL.out, hs]; rfl
      by_cases h0 : len = 0
      · subst h0
        have HV : Hid (cutK 3 s 0 = true) := Lib.hid (by unfold cutK cutB; rw [hs]; rfl)
        clear hs
        go_enter Tryd.func88, Tryd.ntmps88
        go_wp2_with fail
        go_ret
        rw [HV.out]; exact ⟨rfl, HB.out⟩
      · have t2 : ((len : Int) == 0) = false := by rw [beq_eq_false_iff_ne]; omega
        have HV : Hid (cutK 3 s len = false) := Lib.hid (by unfold cutK cutB; rw [hs]; simpa using h0)
        clear hs h0
        go_enter Tryd.func88, Tryd.ntmps88
        go_wp2_with fail
        go_ret
        rw [HV.out]; exact ⟨rfl, HB.out⟩
    · have t1 : (s.toList == [33]) = false := by rw [HL.out, beq_eq_false_iff_ne]; exact hs
      have HV : Hid (cutK 3 s len = false) := Lib.hid (by unfold cutK cutB; rw [show (s.data.toList == [33]) = false by rw [beq_eq_false_iff_ne]; exact hs]; rfl)
      clear hs
      go_enter Tryd.func88, Tryd.ntmps88
      go_wp2_with fail
      go_ret
      rw [HV.out]; exact ⟨rfl, HB.out⟩
  · have t0 : (k == 3) = false := by rw [beq_eq_false_iff_ne]; exact h3
    have HV : Hid (cutK k s len = false) := Lib.hid (by unfold cutK; rw [t0]; rfl)
    clear h3
    go_enter Tryd.func88, Tryd.ntmps88
    go_wp2_with fail
    go_ret
    rw [HV.out]; exact ⟨rfl, HB.out⟩

set_option maxRecDepth 100000 in
/-- spec.l4Plain. -/
theorem plain_any (k n : Int) (s : ByteArray) (A : Option Addr) (len cap : Nat) (w : World) (hs : s.size ≤ maxLen) :
    Calls Tryd.prog 40 #[.agg #[.int .i64 k, .int .i64 n, .string s, .slice A len cap]] w fun e w' => e = .returned (.bool (plainK k s len)) ∧ Below w.heap.size w w' := by
  have HB : Hid (Below w.heap.size w (w.alloc (.cells #[.int .i64 k, .int .i64 n, .string s, .slice A len cap] 29))) := Lib.hid ((Below.refl _ _).alloc (Nat.le_refl _) _)
  by_cases h3 : k = 3
  · subst h3
    have C1 := fun w1 => nv.word_any s w1 hs
    have C2 := fun w1 => specBi_any s (len : Int) w1
    have C3 := fun w1 => op.l2_any s w1
    have HE : Hid (plainK 3 s len = (nv.wordB s.data.toList && (!biB s.data.toList len && (op.level s.data.toList == 0)))) := Lib.hid rfl
    generalize nv.wordB s.data.toList = v1 at *
    generalize biB s.data.toList (len : Int) = v2 at *
    generalize op.level s.data.toList = v3 at *
    have H1 := Lib.hid C1
    have H2 := Lib.hid C2
    have H3 := Lib.hid C3
    clear C1 C2 C3 hs
    cases v1
    · have HV : Hid (plainK 3 s len = false) := Lib.hid (by rw [HE.out]; rfl)
      go_enter Tryd.func40, Tryd.ntmps40
      go_wp2_with (go_at_call 61; refine (H1.out _).mono ?_; rintro e w' ⟨rfl, rfl⟩)
      go_ret
      rw [HV.out]; exact ⟨rfl, HB.out⟩
    · cases v2
      · by_cases h0 : v3 = 0
        · subst h0
          have HV : Hid (plainK 3 s len = true) := Lib.hid (by rw [HE.out]; rfl)
          go_enter Tryd.func40, Tryd.ntmps40
          go_wp2_with (first | (go_at_call 61; refine (H1.out _).mono ?_; rintro e w' ⟨rfl, rfl⟩) | (go_at_call 62; refine (H2.out _).mono ?_; rintro e w' ⟨rfl, rfl⟩) | (go_at_call 63; refine (H3.out _).mono ?_; rintro e w' ⟨rfl, rfl⟩))
          go_ret
          rw [HV.out]; exact ⟨rfl, HB.out⟩
        · have t0 : (v3 == 0) = false := by rw [beq_eq_false_iff_ne]; exact h0
          have HV : Hid (plainK 3 s len = false) := Lib.hid (by rw [HE.out, t0]; rfl)
          clear h0
          go_enter Tryd.func40, Tryd.ntmps40
          go_wp2_with (first | (go_at_call 61; refine (H1.out _).mono ?_; rintro e w' ⟨rfl, rfl⟩) | (go_at_call 62; refine (H2.out _).mono ?_; rintro e w' ⟨rfl, rfl⟩) | (go_at_call 63; refine (H3.out _).mono ?_; rintro e w' ⟨rfl, rfl⟩))
          go_ret
          rw [HV.out]; exact ⟨rfl, HB.out⟩
      · have HV : Hid (plainK 3 s len = false) := Lib.hid (by rw [HE.out]; rfl)
        go_enter Tryd.func40, Tryd.ntmps40
        go_wp2_with (first | (go_at_call 61; refine (H1.out _).mono ?_; rintro e w' ⟨rfl, rfl⟩) | (go_at_call 62; refine (H2.out _).mono ?_; rintro e w' ⟨rfl, rfl⟩))
        go_ret
        rw [HV.out]; exact ⟨rfl, HB.out⟩
  · have t0 : (k == 3) = false := by rw [beq_eq_false_iff_ne]; exact h3
    have HV : Hid (plainK k s len = false) := Lib.hid (by unfold plainK; rw [t0]; rfl)
    clear h3
    go_enter Tryd.func40, Tryd.ntmps40
    go_wp2_with fail
    go_ret
    rw [HV.out]; exact ⟨rfl, HB.out⟩

set_option maxRecDepth 100000 in
/-- spec.l4Goal. -/
theorem goal_any (k n : Int) (s : ByteArray) (A : Option Addr) (len cap : Nat) (w : World) (hs : s.size ≤ maxLen) :
    Calls Tryd.prog 79 #[.agg #[.int .i64 k, .int .i64 n, .string s, .slice A len cap]] w fun e w' => e = .returned (.bool (goalK k s len)) ∧ Below w.heap.size w w' := by
  have HB0 : Hid (Below w.heap.size w (w.alloc (.cells #[.int .i64 k, .int .i64 n, .string s, .slice A len cap] 29))) := Lib.hid ((Below.refl _ _).alloc (Nat.le_refl _) _)
  have C1 := fun w1 => cut_any k n s A len cap w1
  have C2 := fun w1 => plain_any k n s A len cap w1 hs
  have C3 := fun w1 => specBi_any s (len : Int) w1
  have HE : Hid (goalK k s len = (cutK k s len || (plainK k s len || ((k == 3) && biB s.data.toList len)))) := Lib.hid rfl
  generalize cutK k s len = v1 at *
  generalize plainK k s len = v2 at *
  generalize biB s.data.toList (len : Int) = v3 at *
  have H1 := Lib.hid C1
  have H2 := Lib.hid C2
  have H3 := Lib.hid C3
  clear C1 C2 C3 hs
  cases v1
  · go_enter Tryd.func79, Tryd.ntmps79
    go_wp2_with fail
    refine (H1.out _).mono ?_
    rintro e w2 ⟨rfl, hb⟩
    have hq := (Blk.new w 29 #[.int .i64 k, .int .i64 n, .string s, .slice A len cap]).below hb (by simp)
    obtain ⟨a0, a1, a2, a3⟩ := cells4 hq
    have HQ := Lib.hid hq
    have HB := Lib.hid (HB0.out.trans (hb.mono (by simp)))
    clear hb hq
    go_wp2_with fail
    refine (H2.out _).mono ?_
    rintro e w3 ⟨rfl, hb⟩
    have hq := HQ.out.below hb HQ.out.lt
    have HB3 := Lib.hid (HB.out.trans (hb.mono HB.out.size))
    clear hb a0 a1 a2 a3
    cases v2
    · obtain ⟨a0, a1, a2, a3⟩ := cells4 hq
      clear hq
      by_cases h3 : k = 3
      · subst h3
        have HV : Hid (goalK 3 s len = v3) := Lib.hid (by rw [HE.out]; rfl)
        go_wp2_with (go_at_call 62; refine (H3.out _).mono ?_; rintro e w' ⟨rfl, rfl⟩)
        go_ret
        rw [HV.out]; exact ⟨rfl, HB3.out⟩
      · have t0 : (k == 3) = false := by rw [beq_eq_false_iff_ne]; exact h3
        have HV : Hid (goalK k s len = false) := Lib.hid (by rw [HE.out, t0]; rfl)
        clear h3
        go_wp2_with fail
        go_ret
        rw [HV.out]; exact ⟨rfl, HB3.out⟩
    · have HV : Hid (goalK k s len = true) := Lib.hid (by rw [HE.out]; rfl)
      clear hq
      go_wp2_with fail
      go_ret
      rw [HV.out]; exact ⟨rfl, HB3.out⟩
  · have HV : Hid (goalK k s len = true) := Lib.hid (by rw [HE.out]; rfl)
    go_enter Tryd.func79, Tryd.ntmps79
    go_wp2_with fail
    refine (H1.out _).mono ?_
    rintro e w2 ⟨rfl, hb⟩
    have HB := Lib.hid (HB0.out.trans (hb.mono (by simp)))
    clear hb
    go_wp2_with fail
    go_ret
    rw [HV.out]; exact ⟨rfl, HB.out⟩

set_option maxRecDepth 100000 in
/-- spec.GoalValid. -/
theorem specGoal_any (k n : Int) (s : ByteArray) (f : Fr) (A : Option Addr) (cap lo hi : Nat) (w : World) (hk : KidsAt w lo hi f A cap) (hh : hi ≤ w.heap.size) (hf : Fits k n s) (hnd : nodes f ≤ 1048576) :
    Calls Tryd.prog 73 #[.agg #[.int .i64 k, .int .i64 n, .string s, .slice A f.len cap]] w fun e w' => e = .returned (.bool (goalV k n s f)) ∧ Below w.heap.size w w' := by
  have HB0 : Hid (Below w.heap.size w (w.alloc (.cells #[.int .i64 k, .int .i64 n, .string s, .slice A f.len cap] 29))) := Lib.hid ((Below.refl _ _).alloc (Nat.le_refl _) _)
  have C1 := fun w1 (hb : Below w.heap.size w w1) => specValid_any k n s f A cap lo hi w1 (hk.below hb hh) (Nat.le_trans hh hb.size) hf hnd
  have C2 := fun w1 => goal_any k n s A f.len cap w1 hf.2.2
  have HE : Hid (goalV k n s f = (validT k n s f && goalK k s f.len)) := Lib.hid rfl
  generalize validT k n s f = v1 at *
  generalize goalK k s f.len = v2 at *
  have H1 := Lib.hid C1
  have H2 := Lib.hid C2
  clear C1 C2 hk hf hnd
  cases v1
  · have HV : Hid (goalV k n s f = false) := Lib.hid (by rw [HE.out]; rfl)
    go_enter Tryd.func73, Tryd.ntmps73
    go_wp2_with fail
    refine (H1.out _ HB0.out).mono ?_
    rintro e w2 ⟨rfl, hb⟩
    have HB := Lib.hid (HB0.out.trans (hb.mono (by simp)))
    clear hb
    go_wp2_with fail
    go_ret
    rw [HV.out]; exact ⟨rfl, HB.out⟩
  · have HV : Hid (goalV k n s f = v2) := Lib.hid (by rw [HE.out]; rfl)
    go_enter Tryd.func73, Tryd.ntmps73
    go_wp2_with fail
    refine (H1.out _ HB0.out).mono ?_
    rintro e w2 ⟨rfl, hb⟩
    have hq := (Blk.new w 29 #[.int .i64 k, .int .i64 n, .string s, .slice A f.len cap]).below hb (by simp)
    obtain ⟨a0, a1, a2, a3⟩ := cells4 hq
    have HB := Lib.hid (HB0.out.trans (hb.mono (by simp)))
    clear hb hq
    go_wp2_with fail
    refine (H2.out _).mono ?_
    rintro e w3 ⟨rfl, hb⟩
    have HB3 := Lib.hid (HB.out.trans (hb.mono HB.out.size))
    clear hb
    go_wp2_with fail
    go_ret
    rw [HV.out]; exact ⟨rfl, HB3.out⟩
end Go.Proofs.YtlapdnllncoomaaDoor

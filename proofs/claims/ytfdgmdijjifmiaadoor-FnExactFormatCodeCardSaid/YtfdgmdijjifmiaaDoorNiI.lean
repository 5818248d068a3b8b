/- impl.notation.allows, notationOf. Condition: both tables lie in their variables. -/
import Derived.Test.YtfdgmdijjifmiaaDoorProg
import Derived.Test.YtfdgmdijjifmiaaDoorNiT
import Derived.Test.YtfdgmdijjifmiaaDoorInZ
import Derived.Test.YtfdgmdijjifmiaaDoorNvProof
import Derived.Test.YtfdgmdijjifmiaaDoorEq
import Derived.Deep.RegionHeld3
namespace Go.Proofs.YtfdgmdijjifmiaaDoor.ins
open Go.RowKit

set_option maxRecDepth 100000 in
set_option maxHeartbeats 2000000 in
/-- notation.allows. -/
theorem allows_any (k : Nat) (x : Ins) (hx : x.ok) (w : World) (ht : nv.Tab w) :
    Calls Tryd.prog 61 #[.agg #[.int .i64 ((k : Int) + 1), .string ⟨(wd k).toArray⟩, .int .i64 (nu k), .bool (nm k)], .agg #[.int .i64 x.op, .int .i64 x.a, .int .i64 x.b, .string x.s]] w fun e w' => e = .returned (.bool (allB k x)) ∧ Below w.heap.size w w' := by
  obtain ⟨op, a, b, s⟩ := x
  have hs := hx.2.2.2
  unfold maxLen at hs
  simp only at hs ⊢
  have hb0 := two_alloc w (.cells #[.int .i64 ((k : Int) + 1), .string ⟨(wd k).toArray⟩, .int .i64 (nu k), .bool (nm k)] 69) (.cells #[.int .i64 op, .int .i64 a, .int .i64 b, .string s] 26)
  have HB0 := Lib.hid hb0
  have HA : Hid (∀ v, (if a < -999 ∨ a > 999 ∨ b < 0 ∨ b > 999 then false
    else if (nu k < 1 ∧ a ≠ 0) ∨ (nu k < 2 ∧ b ≠ 0) then false
    else if nm k = true then nv.nameB s.data.toList else s.data.toList == []) = v → allB k ⟨op, a, b, s⟩ = v) := Lib.hid fun v h => by unfold allB; exact h
  have C1 := fun w1 (hb : Below w.heap.size w w1) => nv.impl_any s w1 hx.2.2.2 (nv_below ht hb)
  have H1 := Lib.hid C1
  clear hx C1 ht hb0
  have hbox : ∀ o o', (w.alloc o).alloc o' = (w.alloc o).alloc o' := fun _ _ => rfl
  clear hbox
  generalize wd k = wk at *
  generalize nu k = u at *
  generalize nm k = z at *
  generalize allB k ⟨op, a, b, s⟩ = r at *
  by_cases a1 : a < -999
  · have HV : Hid (r = false) := Lib.hid (HA.out _ (if_pos (.inl a1)))
    go_enter Tryd.func61, Tryd.ntmps61
    go_wp2_with fail
    go_ret
    rw [HV.out]; exact ⟨rfl, HB0.out⟩
  by_cases a2 : a > 999
  · have HV : Hid (r = false) := Lib.hid (HA.out _ (if_pos (.inr (.inl a2))))
    go_enter Tryd.func61, Tryd.ntmps61
    go_wp2_with fail
    go_ret
    rw [HV.out]; exact ⟨rfl, HB0.out⟩
  by_cases b1 : b < 0
  · have HV : Hid (r = false) := Lib.hid (HA.out _ (if_pos (.inr (.inr (.inl b1)))))
    go_enter Tryd.func61, Tryd.ntmps61
    go_wp2_with fail
    go_ret
    rw [HV.out]; exact ⟨rfl, HB0.out⟩
  by_cases b2 : b > 999
  · have HV : Hid (r = false) := Lib.hid (HA.out _ (if_pos (.inr (.inr (.inr b2)))))
    go_enter Tryd.func61, Tryd.ntmps61
    go_wp2_with fail
    go_ret
    rw [HV.out]; exact ⟨rfl, HB0.out⟩
  have hn : ¬ (a < -999 ∨ a > 999 ∨ b < 0 ∨ b > 999) := by omega
  by_cases h0 : (u < 1 ∧ a ≠ 0) ∨ (u < 2 ∧ b ≠ 0)
  · have HV : Hid (r = false) := Lib.hid (HA.out _ (by rw [if_neg hn, if_pos h0]))
    clear hn
    by_cases u1 : u < 1
    · by_cases ha : a = 0
      · subst ha
        have hb : b ≠ 0 := by rcases h0 with h | h; exact absurd rfl h.2; exact h.2
        have tb : (b != 0) = true := by simpa using hb
        have u2 : u < 2 := by omega
        clear h0 hb
        go_enter Tryd.func61, Tryd.ntmps61
        go_wp2_with fail
        go_ret
        rw [HV.out]; exact ⟨rfl, HB0.out⟩
      · have ta : (a != 0) = true := by simpa using ha
        clear h0 ha
        go_enter Tryd.func61, Tryd.ntmps61
        go_wp2_with fail
        go_ret
        rw [HV.out]; exact ⟨rfl, HB0.out⟩
    · obtain ⟨u2, hb⟩ : u < 2 ∧ b ≠ 0 := by rcases h0 with h | h; exact absurd h.1 u1; exact h
      have tb : (b != 0) = true := by simpa using hb
      clear h0 hb
      go_enter Tryd.func61, Tryd.ntmps61
      go_wp2_with fail
      go_ret
      rw [HV.out]; exact ⟨rfl, HB0.out⟩
  · have HW : Hid (∀ v, (if z = true then nv.nameB s.data.toList else s.data.toList == []) = v → r = v) := Lib.hid fun v h => HA.out v (by rw [if_neg hn, if_neg h0]; exact h)
    have hcase : (u < 1 ∧ a = 0 ∧ b = 0) ∨ (¬ u < 1 ∧ u < 2 ∧ b = 0) ∨ (¬ u < 1 ∧ ¬ u < 2) := by omega
    clear hn h0 HA
    cases z with
    | true =>
      have HV : Hid (r = nv.nameB s.data.toList) := Lib.hid (HW.out _ (if_pos rfl))
      clear HW
      rcases hcase with ⟨u1, rfl, rfl⟩ | ⟨u1, u2, rfl⟩ | ⟨u1, u2⟩
      all_goals
        go_enter Tryd.func61, Tryd.ntmps61
        go_wp2_with fail
        refine (H1.out _ HB0.out).mono ?_
        rintro e w2 ⟨rfl, rfl⟩
        go_wp2_with fail
        go_ret
        rw [HV.out]; exact ⟨rfl, HB0.out⟩
    | false =>
      by_cases hs0 : s.data.toList = []
      · have HV : Hid (r = true) := Lib.hid (HW.out _ (by rw [if_neg (by decide), hs0]; rfl))
        have e2 : s.toList.isEmpty = true := by rw [ByteArray.toList_eq, hs0]; rfl
        clear HW hs0
        rcases hcase with ⟨u1, rfl, rfl⟩ | ⟨u1, u2, rfl⟩ | ⟨u1, u2⟩
        all_goals
          go_enter Tryd.func61, Tryd.ntmps61
          go_wp2_with fail
          go_ret
          rw [HV.out]; exact ⟨rfl, HB0.out⟩
      · have HV : Hid (r = false) := Lib.hid (HW.out _ (by rw [if_neg (by decide)]; simpa using hs0))
        have e2 : s.toList.isEmpty = false := by
          rw [ByteArray.toList_eq]
          cases hl : s.data.toList with
          | nil => exact absurd hl hs0
          | cons _ _ => rfl
        clear HW hs0
        rcases hcase with ⟨u1, rfl, rfl⟩ | ⟨u1, u2, rfl⟩ | ⟨u1, u2⟩
        all_goals
          go_enter Tryd.func61, Tryd.ntmps61
          go_wp2_with fail
          go_ret
          rw [HV.out]; exact ⟨rfl, HB0.out⟩
end Go.Proofs.YtfdgmdijjifmiaaDoor.ins

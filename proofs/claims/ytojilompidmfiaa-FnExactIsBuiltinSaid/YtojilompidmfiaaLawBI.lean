/- The law FnExactIsBuiltin, walked. No condition. -/
import Derived.Test.YtojilompidmfiaaProg
import Derived.Test.YtojilompidmfiaaBi
namespace Go.Proofs.Ytojilompidmfiaa
open Go.RowKit

/-- The law. -/
theorem lawBI_any (s : ByteArray) (a : Int) (w : World) (hs : s.size ≤ maxLen) :
    Calls Try.prog 3 #[.string s, .int .i64 a] w fun e w' => e = .returned (.bool true) ∧ Below w.heap.size w w' := by
  have C1 := fun w1 => specBi_any s a w1
  have C2 := fun w1 => implBi_any s a w1
  have H1 := Lib.hid C1
  have H2 := Lib.hid C2
  have HB := Lib.hid (Below.refl w.heap.size w)
  generalize biB s.data.toList a = v at *
  have tv : (v != v) = false := by cases v <;> rfl
  unfold maxLen at hs
  clear C1 C2
  by_cases hsz : s.size ≤ 1048576
  · go_enter Try.func3, Try.ntmps3
    go_wp2_with (first
      | (go_at_call 6; refine (H1.out _).mono ?_; rintro e w' ⟨rfl, rfl⟩)
      | (go_at_call 7; refine (H2.out _).mono ?_; rintro e w' ⟨rfl, rfl⟩))
    go_ret
    exact ⟨rfl, HB.out⟩
  · go_enter Try.func3, Try.ntmps3
    go_wp2_with fail
    go_ret
    exact ⟨rfl, HB.out⟩
end Go.Proofs.Ytojilompidmfiaa

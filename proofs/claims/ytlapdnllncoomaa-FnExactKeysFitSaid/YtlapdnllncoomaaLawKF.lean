/- The law FnExactKeysFit, walked. No condition but that the arguments are strings. -/
import Derived.Test.YtlapdnllncoomaaProg
import Derived.Test.YtlapdnllncoomaaKfW
namespace Go.Proofs.Ytlapdnllncoomaa
open Go.RowKit

set_option maxRecDepth 100000 in
/-- The law. -/
theorem lawKF_any (a b : ByteArray) (w : World) (ha : a.size ≤ maxLen) (hb : b.size ≤ maxLen) :
    Calls Try.prog 3 #[.string a, .string b] w fun e w' => e = .returned (.bool true) ∧ Below w.heap.size w w' := by
  have C1 := fun w1 => specKF_any a b w1
  have C2 := fun w1 => implKF_any a b w1
  have H1 := Lib.hid C1
  have H2 := Lib.hid C2
  have HB := Lib.hid (Below.refl w.heap.size w)
  generalize kfL a.data.toList b.data.toList = v at *
  have tv : (v != v) = false := by cases v <;> rfl
  unfold maxLen at ha hb
  clear C1 C2
  by_cases h1 : a.size ≤ 1048576
  · by_cases h2 : b.size ≤ 1048576
    · go_enter Try.func3, Try.ntmps3
      go_wp2_with (first
        | (go_at_call 4; refine (H1.out _).mono ?_; rintro e w' ⟨rfl, rfl⟩)
        | (go_at_call 5; refine (H2.out _).mono ?_; rintro e w' ⟨rfl, rfl⟩))
      go_ret
      exact ⟨rfl, HB.out⟩
    · go_enter Try.func3, Try.ntmps3
      go_wp2_with fail
      go_ret
      exact ⟨rfl, HB.out⟩
  · go_enter Try.func3, Try.ntmps3
    go_wp2_with fail
    go_ret
    exact ⟨rfl, HB.out⟩
end Go.Proofs.Ytlapdnllncoomaa

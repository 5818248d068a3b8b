/- The law FnExactNameValid, walked. Condition: the table of signs in its variable. -/
import Derived.Test.YtppnmodemhoebaaDoorNvProof
namespace Go.Proofs.YtppnmodemhoebaaDoor.nv
open Go.RowKit

/-- The law. -/
theorem law_any (s : ByteArray) (w : World) (hs : s.size ≤ maxLen) (ht : Tab w) :
    Calls Tryd.prog 3 #[.string s] w fun e w' => e = .returned (.bool true) ∧ Below w.heap.size w w' := by
  have C1 := Lib.hid (spec_any s w hs)
  have hs' := Lib.hid hs
  have HT := Lib.hid ht
  clear ht
  unfold maxLen at hs
  by_cases h : 1048576 < s.size
  · go_enter Tryd.func3, Tryd.ntmps3
    go_wp2_with fail
    go_ret
    exact ⟨rfl, Below.refl _ _⟩
  · go_enter Tryd.func3, Tryd.ntmps3
    go_wp2_with fail
    refine C1.out.mono ?_
    rintro e w1 ⟨rfl, hb⟩
    generalize hv : nameB s.data.toList = v
    have C2 := impl_any s w1 hs'.out (HT.out.below hb)
    rw [hv] at C2
    have H2 := Lib.hid C2
    have HB := Lib.hid hb
    clear hv C2 hb C1
    go_wp2_with fail
    refine H2.out.mono ?_
    rintro e w' ⟨rfl, rfl⟩
    cases v
    all_goals
      go_wp2_with fail
      go_ret
      exact ⟨rfl, HB.out⟩
end Go.Proofs.YtppnmodemhoebaaDoor.nv

/- impl.sameNode. Condition: the nodes lie in memory and are well-formed. -/
import Derived.Test.YtplledmhbbmgiaaDoorProg
import Derived.Test.YtplledmhbbmgiaaDoorCmpJ
import Derived.Test.YtplledmhbbmgiaaDoorCmpZ
import Derived.Test.YtplledmhbbmgiaaDoorBoth
namespace Go.Proofs.YtplledmhbbmgiaaDoor
open Go.RowKit

set_option maxRecDepth 100000 in
/-- impl.sameNode. -/
theorem sameNode_any (k n : Int) (s : ByteArray) (f : Fr) (k' n' : Int) (s' : ByteArray) (g : Fr) (d : Int) (v v' : Value) (lo hi lo' hi' : Nat) (w : World) (h : shapeT k n s f d = true) (h' : shapeT k' n' s' g d = true) (hv : NdV w lo hi k n s f v) (hv' : NdV w lo' hi' k' n' s' g v') (hh : hi ≤ w.heap.size) (hh' : hi' ≤ w.heap.size) :
    Calls Tryd.prog 47 #[v, v'] w fun e w' => e = .returned (.bool (eqT k n s f k' n' s' g)) ∧ Below w.heap.size w w' := by
  have C1 := cmV_any s f s' g k n k' n' d v v' lo hi lo' hi' w h h' hv hv' hh hh'
  have hz := cmpT_zero h h'
  obtain ⟨T, x, rfl⟩ := hv.iface
  obtain ⟨T', x', rfl⟩ := hv'.iface
  generalize cmpT k n s f k' n' s' g = c at *
  generalize eqT k n s f k' n' s' g = b at *
  have H1 := Lib.hid C1
  have HZ := Lib.hid hz
  clear C1 hz hv hv' h h' hh hh'
  go_enter Tryd.func47, Tryd.ntmps47
  go_wp2_with fail
  refine H1.out.mono ?_
  rintro e w2 ⟨rfl, hb⟩
  have HB := Lib.hid hb
  clear hb
  go_wp2_with fail
  go_ret
  first
    | (rw [HZ.out]; exact ⟨rfl, HB.out⟩)
    | (refine ⟨?_, HB.out⟩; rw [← HZ.out])

end Go.Proofs.YtplledmhbbmgiaaDoor

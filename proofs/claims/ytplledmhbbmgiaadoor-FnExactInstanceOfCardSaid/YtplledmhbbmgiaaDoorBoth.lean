/- impl.nodesOfBoth. Condition: the terms lie in memory, the table of signs in its variable. -/
import Derived.Test.YtplledmhbbmgiaaDoorProg
import Derived.Test.YtplledmhbbmgiaaDoorImplV
import Derived.Test.YtplledmhbbmgiaaDoorCmpS
namespace Go.Proofs.YtplledmhbbmgiaaDoor
open Go.RowKit

def BothRes (w : World) (k n : Int) (s : ByteArray) (f : Fr) (k' n' : Int) (s' : ByteArray) (g : Fr) (e : Ending) (w' : World) : Prop :=
  Below w.heap.size w w' ∧ (((validT k n s f = true ∧ validT k' n' s' g = true) ∧ ∃ v v', e = .returned (.tuple #[v, v', .bool true]) ∧ NdV w' 0 w'.heap.size k n s f v ∧ NdV w' 0 w'.heap.size k' n' s' g v') ∨
    (¬ (validT k n s f = true ∧ validT k' n' s' g = true) ∧ e = .returned (.tuple #[.nilIface, .nilIface, .bool false])))

set_option maxRecDepth 100000 in
set_option maxHeartbeats 2000000 in
/-- impl.nodesOfBoth. -/
theorem both_any (k n : Int) (s : ByteArray) (f : Fr) (k' n' : Int) (s' : ByteArray) (g : Fr) (A B : Option Addr) (cap cap' lo hi lo' hi' : Nat) (w : World)
    (hk : KidsAt w lo hi f A cap) (hk' : KidsAt w lo' hi' g B cap') (hh : hi ≤ w.heap.size) (hh' : hi' ≤ w.heap.size) (hf : Fits k n s) (hf' : Fits k' n' s') (hnd : nodes f ≤ 1048576) (hnd' : nodes g ≤ 1048576) (ht : nv.Tab w) :
    Calls Tryd.prog 46 #[.agg #[.int .i64 k, .int .i64 n, .string s, .slice A f.len cap], .agg #[.int .i64 k', .int .i64 n', .string s', .slice B g.len cap']] w fun e w' => BothRes w k n s f k' n' s' g e w' := by
  have hlt := tab_lt ht
  have C1 := fun w1 (hb : Below w.heap.size w w1) => nodeOf_any k n s f A cap lo hi w1 (hk.below hb hh) (Nat.le_trans hh hb.size) hf hnd (tab_below ht hb hlt)
  have C2 := fun w1 (hb : Below w.heap.size w w1) => nodeOf_any k' n' s' g B cap' lo' hi' w1 (hk'.below hb hh') (Nat.le_trans hh' hb.size) hf' hnd' (tab_below ht hb hlt)
  have HT := Lib.hid (two_alloc w (.cells #[.int .i64 k, .int .i64 n, .string s, .slice A f.len cap] 29) (.cells #[.int .i64 k', .int .i64 n', .string s', .slice B g.len cap'] 29))
  have H1 := Lib.hid C1
  have H2 := Lib.hid C2
  clear C1 C2 hk hk' hh hh' hf hf' hnd hnd' ht
  go_enter Tryd.func46, Tryd.ntmps46
  go_wp2_with fail
  refine (H1.out _ HT.out).mono ?_
  rintro e w2 ⟨hb, hr⟩
  have hbw : Below w.heap.size w w2 := HT.out.trans (hb.mono HT.out.size)
  rcases hr with ⟨hok, v, rfl, hv⟩ | ⟨hok, rfl⟩
  · obtain ⟨_, _, _, _, b0, b1, b2, b3⟩ := box8 (hb.mono (by simp))
    have HB := Lib.hid hbw
    have HOK := Lib.hid hok
    have HV := Lib.hid hv
    obtain ⟨T1, x1, rfl⟩ := hv.iface
    clear hb hbw hok hv
    go_wp2_with fail
    refine (H2.out _ HB.out).mono ?_
    rintro e w3 ⟨hb, hr⟩
    have hbw : Below w.heap.size w w3 := HB.out.trans (hb.mono HB.out.size)
    rcases hr with ⟨hok', v', rfl, hv'⟩ | ⟨hok', rfl⟩
    · obtain ⟨T2, x2, rfl⟩ := hv'.iface
      have R : Hid (BothRes w k n s f k' n' s' g (.returned (.tuple #[.iface T1 x1, .iface T2 x2, .bool true])) w3) := Lib.hid ⟨hbw, .inl ⟨⟨HOK.out, hok'⟩, _, _, rfl, HV.out.keep (fun p _ hp => hb.cell hp) (Nat.zero_le _) hb.size, hv'.keep (fun _ _ _ => rfl) (Nat.zero_le _) (Nat.le_refl _)⟩⟩
      clear hb hbw hok' hv' b0 b1 b2 b3
      go_wp2_with fail
      go_ret3
      exact R.out
    · have R : Hid (BothRes w k n s f k' n' s' g (.returned (.tuple #[.nilIface, .nilIface, .bool false])) w3) := Lib.hid ⟨hbw, .inr ⟨(by rintro ⟨_, h⟩; rw [hok'] at h; cases h), rfl⟩⟩
      clear hb hbw hok' b0 b1 b2 b3
      go_wp2_with fail
      go_ret3
      exact R.out
  · have R : Hid (BothRes w k n s f k' n' s' g (.returned (.tuple #[.nilIface, .nilIface, .bool false])) w2) := Lib.hid ⟨hbw, .inr ⟨(by rintro ⟨h, _⟩; rw [hok] at h; cases h), rfl⟩⟩
    clear hb hbw hok
    go_wp2_with fail
    go_ret3
    exact R.out
end Go.Proofs.YtplledmhbbmgiaaDoor

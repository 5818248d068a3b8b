/- impl.nodeOf, impl.TermValid. Condition: the term lies in memory, the table of signs in its variable. -/
import Derived.Test.YtihmgodiiohdnaaGreatDoorProg
import Derived.Test.YtihmgodiiohdnaaGreatDoorMake
import Derived.Test.YtihmgodiiohdnaaGreatDoorEq
namespace Go.Proofs.YtihmgodiiohdnaaGreatDoor
open Go.RowKit

theorem cells4 {w : World} {g : Nat} {t : TypeId} {a b c d : Value} (h : Blk w g t #[a, b, c, d]) :
    w.cell? ⟨g, 0, none⟩ = some a ∧ w.cell? ⟨g, 1, none⟩ = some b ∧ w.cell? ⟨g, 2, none⟩ = some c ∧ w.cell? ⟨g, 3, none⟩ = some d := ⟨h.cell 0, h.cell 1, h.cell 2, h.cell 3⟩
def NodeRes (w : World) (k n : Int) (s : ByteArray) (kids : Fr) (e : Ending) (w' : World) : Prop :=
  Below w.heap.size w w' ∧ ((validT k n s kids = true ∧ ∃ v, e = .returned (.tuple #[v, .bool true]) ∧ NdV w' w.heap.size w'.heap.size k n s kids v) ∨ (validT k n s kids = false ∧ e = .returned (.tuple #[.nilIface, .bool false])))

theorem tab_below {w w1 : World} {B : Nat} (h : nv.Tab w) (hb : Below B w w1) (hB : 2 < B) : nv.Tab w1 := by
  obtain ⟨t, fr, hf⟩ := h
  exact ⟨t, fr, (hb.block _ hB).trans hf⟩
theorem tab_lt {w : World} (h : nv.Tab w) : 2 < w.heap.size := by
  obtain ⟨t, fr, hf⟩ := h
  exact (Array.getElem?_eq_some_iff.1 hf).1

set_option maxRecDepth 100000 in
set_option maxHeartbeats 1000000 in
/-- impl.nodeOf. -/
theorem nodeOf_any (k n : Int) (s : ByteArray) (f : Fr) (A : Option Addr) (cap lo hi : Nat) (w : World) (hk : KidsAt w lo hi f A cap) (hh : hi ≤ w.heap.size) (hf : Fits k n s) (hnd : nodes f ≤ 1048576) (ht : nv.Tab w) :
    Calls Tryz.prog 75 #[.agg #[.int .i64 k, .int .i64 n, .string s, .slice A f.len cap]] w fun e w' => NodeRes w k n s f e w' := by
  have hlt := tab_lt ht
  have C1 := fun w1 (hb : Below w.heap.size w w1) (hm : Blk w1 (w.heap.size + 1) 152 #[.int .i64 120]) =>
    mkT_any s f k n 1 120 A cap lo hi (w.heap.size + 1) w1 (hk.below hb hh) (Nat.le_trans hh hb.size) hf hnd (by omega) (tab_below ht hb hlt) hm (by omega) (by omega) (by omega) (by omega)
  rw [okT_valid] at C1
  have H1 := Lib.hid C1
  clear C1 hk hf hnd ht
  go_enter Tryz.func75, Tryz.ntmps75
  go_wp2_with fail
  refine (H1.out _ ?below ?blk).mono ?_
  case below => exact two_alloc w _ _
  case blk =>
    have h := Blk.new (w.alloc (.cells #[.int .i64 k, .int .i64 n, .string s, .slice A f.len cap] 30)) 152 #[.int .i64 120]
    simpa using h
  rintro e w2 ⟨hg, hr⟩
  have hb := below_grownBy (two_alloc w _ _) (by omega) hg
  have hsz := (two_alloc w (.cells #[.int .i64 k, .int .i64 n, .string s, .slice A f.len cap] 30) (.cells #[.int .i64 120] 152)).size
  rcases hr with ⟨hok, v, rfl, hv, _⟩ | ⟨hok, rfl, _⟩
  · have R : Hid (NodeRes w k n s f (.returned (.tuple #[v, .bool true])) w2) := Lib.hid ⟨hb, .inl ⟨hok, v, rfl, hv.keep (fun _ _ _ => rfl) hsz (Nat.le_refl _)⟩⟩
    clear hg hb hsz hok hv
    go_wp2_with fail
    go_ret2
    exact R.out
  · have R : Hid (NodeRes w k n s f (.returned (.tuple #[.nilIface, .bool false])) w2) := Lib.hid ⟨hb, .inr ⟨hok, rfl⟩⟩
    clear hg hb hsz hok
    go_wp2_with fail
    go_ret2
    exact R.out

end Go.Proofs.YtihmgodiiohdnaaGreatDoor

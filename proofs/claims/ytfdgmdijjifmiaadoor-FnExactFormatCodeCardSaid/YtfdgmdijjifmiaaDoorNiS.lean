/- spec.l8Names, l8Shape, l8Instr. No condition (the name is no longer than a string can be). -/
import Derived.Test.YtfdgmdijjifmiaaDoorProg
import Derived.Test.YtfdgmdijjifmiaaDoorNiF
import Derived.Test.YtfdgmdijjifmiaaDoorDec
import Derived.Deep.RegionHeld3
namespace Go.Proofs.YtfdgmdijjifmiaaDoor.ins
open Go.RowKit

/-- The shape of row k: which fields it writes. -/
def shpK (k : Nat) : ByteArray := if nm k = true then (if nu k = 2 then ⟨#[97, 98, 110]⟩ else ⟨#[97, 110]⟩) else if nu k = 2 then ⟨#[97, 98]⟩ else if nu k = 1 then ⟨#[97]⟩ else ⟨#[]⟩
def namesV : Array Value := #[.string ⟨#[]⟩, .string ⟨(wd 0).toArray⟩, .string ⟨(wd 1).toArray⟩, .string ⟨(wd 2).toArray⟩, .string ⟨(wd 3).toArray⟩, .string ⟨(wd 4).toArray⟩, .string ⟨(wd 5).toArray⟩, .string ⟨(wd 6).toArray⟩, .string ⟨(wd 7).toArray⟩, .string ⟨(wd 8).toArray⟩, .string ⟨(wd 9).toArray⟩, .string ⟨(wd 10).toArray⟩, .string ⟨(wd 11).toArray⟩, .string ⟨(wd 12).toArray⟩, .string ⟨(wd 13).toArray⟩]
theorem namesV_at (k : Nat) (h : k < 14) : namesV[k + 1]? = some (.string ⟨(wd k).toArray⟩) := by
  have all : ∀ j : Fin 14, namesV[j.val + 1]? = some (.string ⟨(wd j.val).toArray⟩) := fun j => by
    match j with
    | ⟨0, _⟩ => rfl
    | ⟨1, _⟩ => rfl
    | ⟨2, _⟩ => rfl
    | ⟨3, _⟩ => rfl
    | ⟨4, _⟩ => rfl
    | ⟨5, _⟩ => rfl
    | ⟨6, _⟩ => rfl
    | ⟨7, _⟩ => rfl
    | ⟨8, _⟩ => rfl
    | ⟨9, _⟩ => rfl
    | ⟨10, _⟩ => rfl
    | ⟨11, _⟩ => rfl
    | ⟨12, _⟩ => rfl
    | ⟨13, _⟩ => rfl
  exact all ⟨k, h⟩
set_option maxRecDepth 100000 in
set_option maxHeartbeats 1000000 in
/-- spec.l8Names. -/
theorem names_any (w : World) : Calls Tryd.prog 35 #[] w fun e w' => e = .returned (.slice (some ⟨w.heap.size, 0, none⟩) 15 15) ∧ w' = w.alloc (.cells namesV 9) := by
  go_enter Tryd.func35, Tryd.ntmps35
  go_wp2_with fail
  go_ret
  exact ⟨rfl, rfl⟩
set_option maxRecDepth 100000 in
set_option maxHeartbeats 4000000 in
/-- spec.l8Shape of an operation. -/
theorem shape_any (k : Nat) (hk : k < 14) (w : World) : Calls Tryd.prog 36 #[.int .i64 ((k : Int) + 1)] w fun e w' => e = .returned (.string (shpK k)) ∧ w' = w := by
  have hh : k = 0 ∨ k = 1 ∨ k = 2 ∨ k = 3 ∨ k = 4 ∨ k = 5 ∨ k = 6 ∨ k = 7 ∨ k = 8 ∨ k = 9 ∨ k = 10 ∨ k = 11 ∨ k = 12 ∨ k = 13 := by omega
  clear hk
  rcases hh with rfl | rfl | rfl | rfl | rfl | rfl | rfl | rfl | rfl | rfl | rfl | rfl | rfl | rfl
  all_goals
    go_enter Tryd.func36, Tryd.ntmps36
    go_wp2_with fail
    go_ret
    exact ⟨rfl, rfl⟩
set_option maxRecDepth 100000 in
/-- spec.l8Shape of no operation. -/
theorem shape_no (op : Int) (h : ¬ isOp op) (w : World) : Calls Tryd.prog 36 #[.int .i64 op] w fun e w' => e = .returned (.string ⟨#[63]⟩) ∧ w' = w := by
  have t : ∀ j : Int, 1 ≤ j → j ≤ 14 → (op == j) = false := fun j h1 h2 => by
    rw [beq_eq_false_iff_ne]
    intro e
    exact h ⟨by omega, by omega⟩
  have t1 := t 1 (by decide) (by decide)
  have t2 := t 2 (by decide) (by decide)
  have t3 := t 3 (by decide) (by decide)
  have t4 := t 4 (by decide) (by decide)
  have t5 := t 5 (by decide) (by decide)
  have t6 := t 6 (by decide) (by decide)
  have t7 := t 7 (by decide) (by decide)
  have t8 := t 8 (by decide) (by decide)
  have t9 := t 9 (by decide) (by decide)
  have t10 := t 10 (by decide) (by decide)
  have t11 := t 11 (by decide) (by decide)
  have t12 := t 12 (by decide) (by decide)
  have t13 := t 13 (by decide) (by decide)
  have t14 := t 14 (by decide) (by decide)
  clear t h
  go_enter Tryd.func36, Tryd.ntmps36
  go_wp2_with fail
  go_ret
  exact ⟨rfl, rfl⟩
end Go.Proofs.YtfdgmdijjifmiaaDoor.ins

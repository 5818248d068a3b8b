/- The table of operators; spec.l2Level. Condition: none (the table lies in its variable: OpTab). -/
import Derived.Test.YtihmgodiiohdnaaGreatDoorProg
import Derived.Test.YtihmgodiiohdnaaGreatDoorOwn
import Derived.WalkKit
import Derived.WalkSpells
import Derived.Outline
import Derived.Laws.Rows
import Derived.Below
import Derived.Lib.Hide
import Derived.Maps.Own
import Derived.Maps.OwnOps
import Derived.Maps.OwnSet
import Derived.StringKeys
import Derived.Deep.RegionHeld3
import Derived.Deep.QuietTactic
import Derived.BigQuiet
namespace Go.Proofs.YtihmgodiiohdnaaGreatDoor.op
open Go.RowKit Go.WideMaps Go.Maps

/-- The operators: name, text, level. -/
def tab : List (List UInt8 × List UInt8 × Int) := [([61], [61], 3), ([92, 61], [92, 61], 3), ([61, 61], [61, 61], 3), ([60], [60], 3), ([62], [62], 3), ([61, 60], [61, 60], 3), ([62, 61], [62, 61], 3), ([61, 58, 61], [61, 58, 61], 3), ([105, 115], [32, 105, 115, 32], 3), ([43], [43], 2), ([45], [45], 2), ([42], [42], 1), ([47, 47], [47, 47], 1), ([109, 111, 100], [32, 109, 111, 100, 32], 1)]
def nm (k : Nat) : ByteArray := ⟨(tab.getD k ([], [], 0)).1.toArray⟩
def tx (k : Nat) : ByteArray := ⟨(tab.getD k ([], [], 0)).2.1.toArray⟩
def lv (k : Nat) : Int := (tab.getD k ([], [], 0)).2.2
/-- The table as the variable's cells. -/
def opV : Array Value := (tab.flatMap fun r => [.string ⟨r.1.toArray⟩, .string ⟨r.2.1.toArray⟩, .int .i64 r.2.2]).toArray
/-- The table of operators lies in its variable. -/
def OpTab (w : World) : Prop := ∃ t fr, w.heap[0]? = some (.cells opV t fr)
theorem OpTab.below {w w' : World} (h : OpTab w) (hb : Below w.heap.size w w') : OpTab w' := by
  obtain ⟨t, fr, hf⟩ := h
  refine ⟨t, fr, ?_⟩
  have hlt : 0 < w.heap.size := by
    rcases Nat.lt_or_ge 0 w.heap.size with h | h
    · exact h
    · rw [Array.getElem?_eq_none h] at hf; cases hf
  exact (hb.block _ hlt).trans hf

/-- The level of a name. -/
def level (l : List UInt8) : Int := ((tab.find? fun r => r.1 == l).map (·.2.2)).getD 0
theorem level_at : ∀ r ∈ tab, level r.1 = r.2.2 := by decide
theorem level_no (l : List UInt8) (h : ∀ r ∈ tab, r.1 ≠ l) : level l = 0 := by
  unfold level
  rw [List.find?_eq_none.2 (fun r hr => by simpa using h r hr)]
  rfl
theorem level_range (l : List UInt8) : 0 ≤ level l ∧ level l ≤ 3 := by
  by_cases h : ∃ r ∈ tab, r.1 = l
  · obtain ⟨r, hr, rfl⟩ := h
    rw [level_at r hr]
    revert r
    decide
  · rw [level_no l fun r hr e => h ⟨r, hr, e⟩]; omega

theorem index_op (k : Nat) (h : k < 14) (w : World) :
    (Instr.index 113 (.agg opV) (.int .i64 k)).run Tryz.prog w = .ok (.agg #[.string (nm k), .string (tx k), .int .i64 (lv k)]) w := by
  have all : ∀ j : Fin 14, ∀ w, (Instr.index 113 (.agg opV) (.int .i64 (j.val : Nat))).run Tryz.prog w = .ok (.agg #[.string (nm j.val), .string (tx j.val), .int .i64 (lv j.val)]) w := by
    intro j w
    match j with
    | ⟨0, _⟩ => (change _ = _; kernel_rfl)
    | ⟨1, _⟩ => (change _ = _; kernel_rfl)
    | ⟨2, _⟩ => (change _ = _; kernel_rfl)
    | ⟨3, _⟩ => (change _ = _; kernel_rfl)
    | ⟨4, _⟩ => (change _ = _; kernel_rfl)
    | ⟨5, _⟩ => (change _ = _; kernel_rfl)
    | ⟨6, _⟩ => (change _ = _; kernel_rfl)
    | ⟨7, _⟩ => (change _ = _; kernel_rfl)
    | ⟨8, _⟩ => (change _ = _; kernel_rfl)
    | ⟨9, _⟩ => (change _ = _; kernel_rfl)
    | ⟨10, _⟩ => (change _ = _; kernel_rfl)
    | ⟨11, _⟩ => (change _ = _; kernel_rfl)
    | ⟨12, _⟩ => (change _ = _; kernel_rfl)
    | ⟨13, _⟩ => (change _ = _; kernel_rfl)
  exact all ⟨k, h⟩ w

theorem str_of {s : ByteArray} {l : List UInt8} (h : s.data.toList = l) : s = ⟨l.toArray⟩ := by
  cases s with
  | mk d => simp only at h; subst h; simp

set_option maxHeartbeats 4000000 in
/-- spec.l2Level. -/
theorem l2_any (s : ByteArray) (w : World) :
    Calls Tryz.prog 51 #[.string s] w fun e w' => e = .returned (.int .i64 (level s.data.toList)) ∧ w' = w := by
  by_cases h : ∃ r ∈ tab, r.1 = s.data.toList
  · obtain ⟨r, hr, he⟩ := h
    have hs := str_of he.symm
    subst hs
    clear he
    simp only [tab, List.mem_cons, List.not_mem_nil, or_false] at hr
    rcases hr with rfl | rfl | rfl | rfl | rfl | rfl | rfl | rfl | rfl | rfl | rfl | rfl | rfl | rfl
    · have HV : Hid (level [61] = 3) := Lib.hid (by decide)
      go_enter Tryz.func51, Tryz.ntmps51
      go_wp2_with fail
      go_ret
      exact ⟨congrArg (fun z => Ending.returned (.int .i64 z)) HV.out.symm, rfl⟩
    · have HV : Hid (level [92, 61] = 3) := Lib.hid (by decide)
      go_enter Tryz.func51, Tryz.ntmps51
      go_wp2_with fail
      go_ret
      exact ⟨congrArg (fun z => Ending.returned (.int .i64 z)) HV.out.symm, rfl⟩
    · have HV : Hid (level [61, 61] = 3) := Lib.hid (by decide)
      go_enter Tryz.func51, Tryz.ntmps51
      go_wp2_with fail
      go_ret
      exact ⟨congrArg (fun z => Ending.returned (.int .i64 z)) HV.out.symm, rfl⟩
    · have HV : Hid (level [60] = 3) := Lib.hid (by decide)
      go_enter Tryz.func51, Tryz.ntmps51
      go_wp2_with fail
      go_ret
      exact ⟨congrArg (fun z => Ending.returned (.int .i64 z)) HV.out.symm, rfl⟩
    · have HV : Hid (level [62] = 3) := Lib.hid (by decide)
      go_enter Tryz.func51, Tryz.ntmps51
      go_wp2_with fail
      go_ret
      exact ⟨congrArg (fun z => Ending.returned (.int .i64 z)) HV.out.symm, rfl⟩
    · have HV : Hid (level [61, 60] = 3) := Lib.hid (by decide)
      go_enter Tryz.func51, Tryz.ntmps51
      go_wp2_with fail
      go_ret
      exact ⟨congrArg (fun z => Ending.returned (.int .i64 z)) HV.out.symm, rfl⟩
    · have HV : Hid (level [62, 61] = 3) := Lib.hid (by decide)
      go_enter Tryz.func51, Tryz.ntmps51
      go_wp2_with fail
      go_ret
      exact ⟨congrArg (fun z => Ending.returned (.int .i64 z)) HV.out.symm, rfl⟩
    · have HV : Hid (level [61, 58, 61] = 3) := Lib.hid (by decide)
      go_enter Tryz.func51, Tryz.ntmps51
      go_wp2_with fail
      go_ret
      exact ⟨congrArg (fun z => Ending.returned (.int .i64 z)) HV.out.symm, rfl⟩
    · have HV : Hid (level [105, 115] = 3) := Lib.hid (by decide)
      go_enter Tryz.func51, Tryz.ntmps51
      go_wp2_with fail
      go_ret
      exact ⟨congrArg (fun z => Ending.returned (.int .i64 z)) HV.out.symm, rfl⟩
    · have HV : Hid (level [43] = 2) := Lib.hid (by decide)
      go_enter Tryz.func51, Tryz.ntmps51
      go_wp2_with fail
      go_ret
      exact ⟨congrArg (fun z => Ending.returned (.int .i64 z)) HV.out.symm, rfl⟩
    · have HV : Hid (level [45] = 2) := Lib.hid (by decide)
      go_enter Tryz.func51, Tryz.ntmps51
      go_wp2_with fail
      go_ret
      exact ⟨congrArg (fun z => Ending.returned (.int .i64 z)) HV.out.symm, rfl⟩
    · have HV : Hid (level [42] = 1) := Lib.hid (by decide)
      go_enter Tryz.func51, Tryz.ntmps51
      go_wp2_with fail
      go_ret
      exact ⟨congrArg (fun z => Ending.returned (.int .i64 z)) HV.out.symm, rfl⟩
    · have HV : Hid (level [47, 47] = 1) := Lib.hid (by decide)
      go_enter Tryz.func51, Tryz.ntmps51
      go_wp2_with fail
      go_ret
      exact ⟨congrArg (fun z => Ending.returned (.int .i64 z)) HV.out.symm, rfl⟩
    · have HV : Hid (level [109, 111, 100] = 1) := Lib.hid (by decide)
      go_enter Tryz.func51, Tryz.ntmps51
      go_wp2_with fail
      go_ret
      exact ⟨congrArg (fun z => Ending.returned (.int .i64 z)) HV.out.symm, rfl⟩
  · have hn : ∀ r ∈ tab, r.1 ≠ s.data.toList := fun r hr e => h ⟨r, hr, e⟩
    have HV : Hid (level s.data.toList = 0) := Lib.hid (level_no _ hn)
    have hf : ∀ r ∈ tab, (s.toList == r.1) = false := fun r hr => by
      rw [ByteArray.toList_eq, beq_eq_false_iff_ne]
      exact fun e => hn r hr e.symm
    simp only [tab, List.mem_cons, List.not_mem_nil, or_false, forall_eq_or_imp, forall_eq] at hf
    obtain ⟨t1, t2, t3, t4, t5, t6, t7, t8, t9, t10, t11, t12, t13, t14⟩ := hf
    clear hn h
    go_enter Tryz.func51, Tryz.ntmps51
    go_wp2_with fail
    go_ret
    rw [HV.out]
    exact ⟨rfl, rfl⟩

end Go.Proofs.YtihmgodiiohdnaaGreatDoor.op

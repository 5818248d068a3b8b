/- errors.Is over the two errors of a decoding, by contracts; what the program's variables of errors hold. Condition: none but that they lie in memory. -/
import Derived.Test.YtdpmjpjbcpdgnaaDoorProg
import Derived.Test.YtdpmjpjbcpdgnaaDoorFzW
import Derived.WalkKit
import Derived.LaidEql
import Derived.Stop.Asserts
import Derived.RowKitTokens
import Derived.Deep.QuietTactic
import Derived.BigQuiet
namespace Go.Proofs.YtdpmjpjbcpdgnaaDoor
open Go.RowKit Go.Extern.Stop Go.Stop Go.Extern

/-- What the two variables hold: pointers to different blocks that are not frozen. -/
structure Er (w : World) (eB eP : Addr) : Prop where
  vB : w.cell? ⟨0, 0, none⟩ = some (.iface 116 (.pointer (some eB)))
  vP : w.cell? ⟨1, 0, none⟩ = some (.iface 116 (.pointer (some eP)))
  ne : eB ≠ eP
  hB : ∃ c t, w.heap[eB.block]? = some (.cells c t (0, 0))
  hP : ∃ c t, w.heap[eP.block]? = some (.cells c t (0, 0))
theorem lt_of_some {w : World} {b : Nat} {o : Obj} (h : w.heap[b]? = some o) : b < w.heap.size := (Array.getElem?_eq_some_iff.1 h).1
theorem Er.lt {w : World} {eB eP : Addr} (h : Er w eB eP) : 0 < w.heap.size ∧ 1 < w.heap.size ∧ eB.block < w.heap.size ∧ eP.block < w.heap.size := by
  obtain ⟨_, _, h1⟩ := h.hB
  obtain ⟨_, _, h2⟩ := h.hP
  exact ⟨World.block_lt_of_cell? w _ h.vB, World.block_lt_of_cell? w _ h.vP, lt_of_some h1, lt_of_some h2⟩
theorem Er.keep {w w' : World} {eB eP : Addr} (h : Er w eB eP) (B : Nat) (hg : 0 < B ∧ 1 < B ∧ eB.block < B ∧ eP.block < B) (hb : Below B w w') : Er w' eB eP := by
  obtain ⟨c1, t1, h1⟩ := h.hB
  obtain ⟨c2, t2, h2⟩ := h.hP
  exact ⟨(hb.cell (p := ⟨_, 0, none⟩) hg.1).trans h.vB, (hb.cell (p := ⟨_, 0, none⟩) hg.2.1).trans h.vP, h.ne, ⟨c1, t1, (hb.block _ hg.2.2.1).trans h1⟩, ⟨c2, t2, (hb.block _ hg.2.2.2).trans h2⟩⟩
theorem Er.below {w w' : World} {eB eP : Addr} (h : Er w eB eP) (hb : Below w.heap.size w w') : Er w' eB eP := h.keep _ h.lt hb
theorem Er.wrote {w w' : World} {eB eP : Addr} {L : List Nat} (h : Er w eB eP) (B : Nat) (hg : 0 < B ∧ 1 < B ∧ eB.block < B ∧ eP.block < B) (hw : Wrote L w w') (hB : B ≤ w.heap.size) (hL : ∀ x ∈ L, B ≤ x) : Er w' eB eP := h.keep B hg (hw.below hB hL)

def esV (a : Addr) : Value := .iface 116 (.pointer (some a))

theorem isTypeOf (v : Value) (w : World) : (Extern.ReflectliteType.typeOf #[.iface 116 v]).run Tryd.prog w = .ok (.iface 107 (.agg #[.pointer (some ⟨2, 116, none⟩)])) w := by kernel_rfl
def cmpF : TypeId → Sem Value := fun t => do Extern.Rtype.noPackHeld "Comparable" t; pure (.bool (← typeInfo t).comparable)
theorem isComparable (w : World) : ((Extern.ReflectliteType.method cmpF) #[.agg #[.pointer (some ⟨2, 116, none⟩)]]).run Tryd.prog w = .ok (.bool true) w := by kernel_rfl
@[go_sem] theorem isMethodComparable (d : Nat) (v : Value) (w : World) : (Go.method (d + 3) 107 v "Comparable").run Tryd.prog w = .ok (98, v) w := by kernel_rfl
theorem isComp : (Tryd.prog.info? 116).map (·.comparable) = some true := by kernel_rfl
theorem isSize : (Tryd.prog.info? 145).map (·.size) = some 1 := by kernel_rfl
theorem noIsE (v : Value) (xT : TypeId) (w : World) : (Instr.typeAssert (.iface 116 v) xT 109 true).run Tryd.prog w = .ok (.tuple #[.nilIface, .bool false]) w := run_typeAssert_lacksB Tryd.underlying109 (by kernel_rfl) (by kernel_rfl) v xT w
theorem noUnwrapE (v : Value) (xT : TypeId) (w : World) : (Instr.typeAssert (.iface 116 v) xT 112 true).run Tryd.prog w = .ok (.tuple #[.nilIface, .bool false]) w := run_typeAssert_lacksB Tryd.underlying112 (by kernel_rfl) (by kernel_rfl) v xT w
theorem noUnwrapsE (v : Value) (xT : TypeId) (w : World) : (Instr.typeAssert (.iface 116 v) xT 113 true).run Tryd.prog w = .ok (.tuple #[.nilIface, .bool false]) w := run_typeAssert_lacksB Tryd.underlying113 (by kernel_rfl) (by kernel_rfl) v xT w

/-- errors.Is(x, x). -/
theorem is_same (a : Addr) (w : World) :
    Calls Tryd.prog 70 #[.iface 116 (.pointer (some a)), .iface 116 (.pointer (some a))] w fun e w' => e = .returned (.bool true) ∧ w' = w := by
  obtain ⟨i, hi, hcmp⟩ := Option.map_eq_some_iff.1 isComp
  obtain ⟨j, hj, hjs⟩ := Option.map_eq_some_iff.1 isSize
  have h8 := @run_callFunc_extern Tryd.prog 74 _ Extern.ReflectliteType.typeOf Tryd.func74 (by kernel_rfl) (by kernel_rfl) (by kernel_rfl) (by kernel_rfl)
  have h32 := @run_callFunc_extern Tryd.prog 98 _ (Extern.ReflectliteType.method cmpF) Tryd.func98 (by kernel_rfl) (by kernel_rfl) (by kernel_rfl) (by kernel_rfl)
  have tT := isTypeOf
  have cT := isComparable
  have heq := run_eql_iface_ptr_same (P := Tryd.prog) w a Tryd.underlying69 Tryd.underlying116 hi hcmp hj
  go_enter Tryd.func70, Tryd.ntmps70
  go_wp2
  refine wp_loop_rounds 1 ?_
  rw [rounds_succ]
  go_wp2
  go_ret
  exact ⟨rfl, rfl⟩

/-- errors.Is(nil, x). -/
theorem is_nil (b : Addr) (w : World) :
    Calls Tryd.prog 70 #[.nilIface, .iface 116 (.pointer (some b))] w fun e w' => e = .returned (.bool false) ∧ w' = w := by
  have hn := run_eql_iface_nil_left (P := Tryd.prog) w 116 (.pointer (some b)) Tryd.underlying69
  go_enter Tryd.func70, Tryd.ntmps70
  go_wp2
  go_ret
  exact ⟨rfl, rfl⟩

/-- errors.Is(x, y), two different pointers. -/
theorem is_other (a b : Addr) (ca cb : Array Value) (ta tb : TypeId) (w : World) (hne : a ≠ b) (ha : w.heap[a.block]? = some (.cells ca ta (0, 0))) (hb : w.heap[b.block]? = some (.cells cb tb (0, 0))) :
    Calls Tryd.prog 70 #[.iface 116 (.pointer (some a)), .iface 116 (.pointer (some b))] w fun e w' => e = .returned (.bool false) ∧ w' = w := by
  obtain ⟨i, hi, hcmp⟩ := Option.map_eq_some_iff.1 isComp
  obtain ⟨j, hj, hjs⟩ := Option.map_eq_some_iff.1 isSize
  have h8 := @run_callFunc_extern Tryd.prog 74 _ Extern.ReflectliteType.typeOf Tryd.func74 (by kernel_rfl) (by kernel_rfl) (by kernel_rfl) (by kernel_rfl)
  have h32 := @run_callFunc_extern Tryd.prog 98 _ (Extern.ReflectliteType.method cmpF) Tryd.func98 (by kernel_rfl) (by kernel_rfl) (by kernel_rfl) (by kernel_rfl)
  have tT := isTypeOf
  have cT := isComparable
  have nE := noIsE
  have uE := noUnwrapE
  have vE := noUnwrapsE
  have heq := run_eql_iface_ptr_other (P := Tryd.prog) w Tryd.underlying69 Tryd.underlying116 hi hcmp hj (by rw [hjs]; decide) hne ha hb
  go_enter Tryd.func70, Tryd.ntmps70
  go_wp2
  refine wp_loop_rounds 1 ?_
  rw [rounds_succ]
  go_wp2
  go_ret
  exact ⟨rfl, rfl⟩
end Go.Proofs.YtdpmjpjbcpdgnaaDoor

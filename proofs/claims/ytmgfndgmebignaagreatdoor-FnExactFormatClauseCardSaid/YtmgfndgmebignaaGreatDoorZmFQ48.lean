/- IsBuiltin: the model's and the program's; impl.isOperator. Condition: the table of operators lies in its variable. -/
import Derived.Test.YtmgfndgmebignaaGreatDoorProg
import Derived.Test.YtmgfndgmebignaaGreatDoorOpA
import Derived.Test.YtmgfndgmebignaaGreatDoorNvWalks
import Derived.Test.YtmgfndgmebignaaGreatDoorSpecV
import Derived.Test.YtmgfndgmebignaaGreatDoorSpecC
import Derived.Test.YtmgfndgmebignaaGreatDoorImplV
import Derived.Test.YtmgfndgmebignaaGreatDoorTb
import Derived.Test.YtmgfndgmebignaaGreatDoorAs
import Derived.Test.YtmgfndgmebignaaGreatDoorCl
import Derived.Test.YtmgfndgmebignaaGreatDoorSz
import Derived.OwnWalk
import Derived.Test.YtmgfndgmebignaaGreatDoorAll
namespace Go.Proofs.YtmgfndgmebignaaGreatDoor
open Go.RowKit

/-- The goals that are built in: name, number of arguments. -/
def biTab : List (List UInt8 × Int) := [([61], 2), ([92, 61], 2), ([61, 61], 2), ([60], 2), ([62], 2), ([61, 60], 2), ([62, 61], 2), ([61, 58, 61], 2), ([105, 115], 2), ([116, 114, 117, 101], 0), ([102, 97, 105, 108], 0), ([118, 97, 114], 1), ([110, 111, 110, 118, 97, 114], 1), ([97, 116, 111, 109], 1), ([105, 110, 116], 1), ([97, 114, 103], 3)]
def biB (l : List UInt8) (a : Int) : Bool := match biTab.find? (fun r => r.1 == l) with
  | some r => a == r.2
  | none => false
theorem biB_at (r : List UInt8 × Int) (hr : r ∈ biTab) (a : Int) : biB r.1 a = (a == r.2) := by
  simp only [biTab, List.mem_cons, List.not_mem_nil, or_false] at hr
  rcases hr with rfl | rfl | rfl | rfl | rfl | rfl | rfl | rfl | rfl | rfl | rfl | rfl | rfl | rfl | rfl | rfl <;> rfl
theorem biB_no (l : List UInt8) (h : ∀ r ∈ biTab, r.1 ≠ l) (a : Int) : biB l a = false := by
  unfold biB
  rw [List.find?_eq_none.2 (fun r hr => by simpa using h r hr)]

set_option maxRecDepth 100000 in
set_option maxHeartbeats 1000000 in
/-- spec.IsBuiltin. -/
theorem specBi_any (s : ByteArray) (a : Int) (w : World) :
    Calls Tryz.prog 79 #[.string s, .int .i64 a] w fun e w' => e = .returned (.bool (biB s.data.toList a)) ∧ w = w' := by
  have hl := ByteArray.toList_eq s
  by_cases h : ∃ r ∈ biTab, r.1 = s.data.toList
  · obtain ⟨r, hr, hs⟩ := h
    have HV : Hid (biB s.data.toList a = (a == r.2)) := Lib.hid (by rw [← hs]; exact biB_at r hr a)
    rw [← hs] at hl
    clear hs
    simp only [biTab, List.mem_cons, List.not_mem_nil, or_false] at hr
    rcases hr with rfl | rfl | rfl | rfl | rfl | rfl | rfl | rfl | rfl | rfl | rfl | rfl | rfl | rfl | rfl | rfl
    all_goals
      have HL := Lib.hid hl
      clear hl
      have t0 : (s.toList == [61]) = _ := congrArg (fun l => l == ([61] : List UInt8)) HL.out
      have t1 : (s.toList == [92, 61]) = _ := congrArg (fun l => l == ([92, 61] : List UInt8)) HL.out
      have t2 : (s.toList == [61, 61]) = _ := congrArg (fun l => l == ([61, 61] : List UInt8)) HL.out
      have t3 : (s.toList == [60]) = _ := congrArg (fun l => l == ([60] : List UInt8)) HL.out
      have t4 : (s.toList == [62]) = _ := congrArg (fun l => l == ([62] : List UInt8)) HL.out
      have t5 : (s.toList == [61, 60]) = _ := congrArg (fun l => l == ([61, 60] : List UInt8)) HL.out
      have t6 : (s.toList == [62, 61]) = _ := congrArg (fun l => l == ([62, 61] : List UInt8)) HL.out
      have t7 : (s.toList == [61, 58, 61]) = _ := congrArg (fun l => l == ([61, 58, 61] : List UInt8)) HL.out
      have t8 : (s.toList == [105, 115]) = _ := congrArg (fun l => l == ([105, 115] : List UInt8)) HL.out
      have t9 : (s.toList == [116, 114, 117, 101]) = _ := congrArg (fun l => l == ([116, 114, 117, 101] : List UInt8)) HL.out
      have t10 : (s.toList == [102, 97, 105, 108]) = _ := congrArg (fun l => l == ([102, 97, 105, 108] : List UInt8)) HL.out
      have t11 : (s.toList == [118, 97, 114]) = _ := congrArg (fun l => l == ([118, 97, 114] : List UInt8)) HL.out
      have t12 : (s.toList == [110, 111, 110, 118, 97, 114]) = _ := congrArg (fun l => l == ([110, 111, 110, 118, 97, 114] : List UInt8)) HL.out
      have t13 : (s.toList == [97, 116, 111, 109]) = _ := congrArg (fun l => l == ([97, 116, 111, 109] : List UInt8)) HL.out
      have t14 : (s.toList == [105, 110, 116]) = _ := congrArg (fun l => l == ([105, 110, 116] : List UInt8)) HL.out
      have t15 : (s.toList == [97, 114, 103]) = _ := congrArg (fun l => l == ([97, 114, 103] : List UInt8)) HL.out
      go_enter Tryz.func79, Tryz.ntmps79
      go_wp2_with fail
      go_ret
      rw [HV.out]; exact ⟨rfl, rfl⟩
  · have HV : Hid (biB s.data.toList a = false) := Lib.hid (biB_no _ (fun r hr e => h ⟨r, hr, e⟩) a)
    have t0 : (s.toList == [61]) = false := by rw [hl, beq_eq_false_iff_ne]; exact fun e => h ⟨([61], 2), by simp [biTab], e.symm⟩
    have t1 : (s.toList == [92, 61]) = false := by rw [hl, beq_eq_false_iff_ne]; exact fun e => h ⟨([92, 61], 2), by simp [biTab], e.symm⟩
    have t2 : (s.toList == [61, 61]) = false := by rw [hl, beq_eq_false_iff_ne]; exact fun e => h ⟨([61, 61], 2), by simp [biTab], e.symm⟩
    have t3 : (s.toList == [60]) = false := by rw [hl, beq_eq_false_iff_ne]; exact fun e => h ⟨([60], 2), by simp [biTab], e.symm⟩
    have t4 : (s.toList == [62]) = false := by rw [hl, beq_eq_false_iff_ne]; exact fun e => h ⟨([62], 2), by simp [biTab], e.symm⟩
    have t5 : (s.toList == [61, 60]) = false := by rw [hl, beq_eq_false_iff_ne]; exact fun e => h ⟨([61, 60], 2), by simp [biTab], e.symm⟩
    have t6 : (s.toList == [62, 61]) = false := by rw [hl, beq_eq_false_iff_ne]; exact fun e => h ⟨([62, 61], 2), by simp [biTab], e.symm⟩
    have t7 : (s.toList == [61, 58, 61]) = false := by rw [hl, beq_eq_false_iff_ne]; exact fun e => h ⟨([61, 58, 61], 2), by simp [biTab], e.symm⟩
    have t8 : (s.toList == [105, 115]) = false := by rw [hl, beq_eq_false_iff_ne]; exact fun e => h ⟨([105, 115], 2), by simp [biTab], e.symm⟩
    have t9 : (s.toList == [116, 114, 117, 101]) = false := by rw [hl, beq_eq_false_iff_ne]; exact fun e => h ⟨([116, 114, 117, 101], 0), by simp [biTab], e.symm⟩
    have t10 : (s.toList == [102, 97, 105, 108]) = false := by rw [hl, beq_eq_false_iff_ne]; exact fun e => h ⟨([102, 97, 105, 108], 0), by simp [biTab], e.symm⟩
    have t11 : (s.toList == [118, 97, 114]) = false := by rw [hl, beq_eq_false_iff_ne]; exact fun e => h ⟨([118, 97, 114], 1), by simp [biTab], e.symm⟩
    have t12 : (s.toList == [110, 111, 110, 118, 97, 114]) = false := by rw [hl, beq_eq_false_iff_ne]; exact fun e => h ⟨([110, 111, 110, 118, 97, 114], 1), by simp [biTab], e.symm⟩
    have t13 : (s.toList == [97, 116, 111, 109]) = false := by rw [hl, beq_eq_false_iff_ne]; exact fun e => h ⟨([97, 116, 111, 109], 1), by simp [biTab], e.symm⟩
    have t14 : (s.toList == [105, 110, 116]) = false := by rw [hl, beq_eq_false_iff_ne]; exact fun e => h ⟨([105, 110, 116], 1), by simp [biTab], e.symm⟩
    have t15 : (s.toList == [97, 114, 103]) = false := by rw [hl, beq_eq_false_iff_ne]; exact fun e => h ⟨([97, 114, 103], 3), by simp [biTab], e.symm⟩
    clear hl h
    go_enter Tryz.func79, Tryz.ntmps79
    go_wp2_with fail
    go_ret
    rw [HV.out]; exact ⟨rfl, rfl⟩

set_option maxRecDepth 100000 in
set_option maxHeartbeats 1000000 in
/-- impl.IsBuiltin. -/
theorem implBi_any (s : ByteArray) (a : Int) (w : World) :
    Calls Tryz.prog 134 #[.string s, .int .i64 a] w fun e w' => e = .returned (.bool (biB s.data.toList a)) ∧ w = w' := by
  have hl := ByteArray.toList_eq s
  by_cases h : ∃ r ∈ biTab, r.1 = s.data.toList
  · obtain ⟨r, hr, hs⟩ := h
    have HV : Hid (biB s.data.toList a = (a == r.2)) := Lib.hid (by rw [← hs]; exact biB_at r hr a)
    rw [← hs] at hl
    clear hs
    simp only [biTab, List.mem_cons, List.not_mem_nil, or_false] at hr
    rcases hr with rfl | rfl | rfl | rfl | rfl | rfl | rfl | rfl | rfl | rfl | rfl | rfl | rfl | rfl | rfl | rfl
    all_goals
      have HL := Lib.hid hl
      clear hl
      have t0 : (s.toList == [61]) = _ := congrArg (fun l => l == ([61] : List UInt8)) HL.out
      have t1 : (s.toList == [92, 61]) = _ := congrArg (fun l => l == ([92, 61] : List UInt8)) HL.out
      have t2 : (s.toList == [61, 61]) = _ := congrArg (fun l => l == ([61, 61] : List UInt8)) HL.out
      have t3 : (s.toList == [60]) = _ := congrArg (fun l => l == ([60] : List UInt8)) HL.out
      have t4 : (s.toList == [62]) = _ := congrArg (fun l => l == ([62] : List UInt8)) HL.out
      have t5 : (s.toList == [61, 60]) = _ := congrArg (fun l => l == ([61, 60] : List UInt8)) HL.out
      have t6 : (s.toList == [62, 61]) = _ := congrArg (fun l => l == ([62, 61] : List UInt8)) HL.out
      have t7 : (s.toList == [61, 58, 61]) = _ := congrArg (fun l => l == ([61, 58, 61] : List UInt8)) HL.out
      have t8 : (s.toList == [105, 115]) = _ := congrArg (fun l => l == ([105, 115] : List UInt8)) HL.out
      have t9 : (s.toList == [116, 114, 117, 101]) = _ := congrArg (fun l => l == ([116, 114, 117, 101] : List UInt8)) HL.out
      have t10 : (s.toList == [102, 97, 105, 108]) = _ := congrArg (fun l => l == ([102, 97, 105, 108] : List UInt8)) HL.out
      have t11 : (s.toList == [118, 97, 114]) = _ := congrArg (fun l => l == ([118, 97, 114] : List UInt8)) HL.out
      have t12 : (s.toList == [110, 111, 110, 118, 97, 114]) = _ := congrArg (fun l => l == ([110, 111, 110, 118, 97, 114] : List UInt8)) HL.out
      have t13 : (s.toList == [97, 116, 111, 109]) = _ := congrArg (fun l => l == ([97, 116, 111, 109] : List UInt8)) HL.out
      have t14 : (s.toList == [105, 110, 116]) = _ := congrArg (fun l => l == ([105, 110, 116] : List UInt8)) HL.out
      have t15 : (s.toList == [97, 114, 103]) = _ := congrArg (fun l => l == ([97, 114, 103] : List UInt8)) HL.out
      go_enter Tryz.func134, Tryz.ntmps134
      go_wp2_with fail
      go_ret
      rw [HV.out]; exact ⟨rfl, rfl⟩
  · have HV : Hid (biB s.data.toList a = false) := Lib.hid (biB_no _ (fun r hr e => h ⟨r, hr, e⟩) a)
    have t0 : (s.toList == [61]) = false := by rw [hl, beq_eq_false_iff_ne]; exact fun e => h ⟨([61], 2), by simp [biTab], e.symm⟩
    have t1 : (s.toList == [92, 61]) = false := by rw [hl, beq_eq_false_iff_ne]; exact fun e => h ⟨([92, 61], 2), by simp [biTab], e.symm⟩
    have t2 : (s.toList == [61, 61]) = false := by rw [hl, beq_eq_false_iff_ne]; exact fun e => h ⟨([61, 61], 2), by simp [biTab], e.symm⟩
    have t3 : (s.toList == [60]) = false := by rw [hl, beq_eq_false_iff_ne]; exact fun e => h ⟨([60], 2), by simp [biTab], e.symm⟩
    have t4 : (s.toList == [62]) = false := by rw [hl, beq_eq_false_iff_ne]; exact fun e => h ⟨([62], 2), by simp [biTab], e.symm⟩
    have t5 : (s.toList == [61, 60]) = false := by rw [hl, beq_eq_false_iff_ne]; exact fun e => h ⟨([61, 60], 2), by simp [biTab], e.symm⟩
    have t6 : (s.toList == [62, 61]) = false := by rw [hl, beq_eq_false_iff_ne]; exact fun e => h ⟨([62, 61], 2), by simp [biTab], e.symm⟩
    have t7 : (s.toList == [61, 58, 61]) = false := by rw [hl, beq_eq_false_iff_ne]; exact fun e => h ⟨([61, 58, 61], 2), by simp [biTab], e.symm⟩
    have t8 : (s.toList == [105, 115]) = false := by rw [hl, beq_eq_false_iff_ne]; exact fun e => h ⟨([105, 115], 2), by simp [biTab], e.symm⟩
    have t9 : (s.toList == [116, 114, 117, 101]) = false := by rw [hl, beq_eq_false_iff_ne]; exact fun e => h ⟨([116, 114, 117, 101], 0), by simp [biTab], e.symm⟩
    have t10 : (s.toList == [102, 97, 105, 108]) = false := by rw [hl, beq_eq_false_iff_ne]; exact fun e => h ⟨([102, 97, 105, 108], 0), by simp [biTab], e.symm⟩
    have t11 : (s.toList == [118, 97, 114]) = false := by rw [hl, beq_eq_false_iff_ne]; exact fun e => h ⟨([118, 97, 114], 1), by simp [biTab], e.symm⟩
    have t12 : (s.toList == [110, 111, 110, 118, 97, 114]) = false := by rw [hl, beq_eq_false_iff_ne]; exact fun e => h ⟨([110, 111, 110, 118, 97, 114], 1), by simp [biTab], e.symm⟩
    have t13 : (s.toList == [97, 116, 111, 109]) = false := by rw [hl, beq_eq_false_iff_ne]; exact fun e => h ⟨([97, 116, 111, 109], 1), by simp [biTab], e.symm⟩
    have t14 : (s.toList == [105, 110, 116]) = false := by rw [hl, beq_eq_false_iff_ne]; exact fun e => h ⟨([105, 110, 116], 1), by simp [biTab], e.symm⟩
    have t15 : (s.toList == [97, 114, 103]) = false := by rw [hl, beq_eq_false_iff_ne]; exact fun e => h ⟨([97, 114, 103], 3), by simp [biTab], e.symm⟩
    clear hl h
    go_enter Tryz.func134, Tryz.ntmps134
    go_wp2_with fail
    go_ret
    rw [HV.out]; exact ⟨rfl, rfl⟩

/-- An operator's name. -/
def opB (l : List UInt8) : Bool := op.tab.any fun r => r.1 == l
theorem opB_level (l : List UInt8) : opB l = !(op.level l == 0) := by
  unfold opB
  by_cases h : ∃ r ∈ op.tab, r.1 = l
  · obtain ⟨r, hr, rfl⟩ := h
    have h1 : op.level r.1 ≠ 0 := by
      rw [op.level_at r hr]
      have all : ∀ r ∈ op.tab, r.2.2 ≠ 0 := by decide
      exact all r hr
    rw [List.any_eq_true.2 ⟨r, hr, by simp⟩]
    simp [h1]
  · have hn : ∀ r ∈ op.tab, r.1 ≠ l := fun r hr e => h ⟨r, hr, e⟩
    rw [op.level_no l hn]
    rw [show (op.tab.any fun r => r.1 == l) = false by rw [← Bool.not_eq_true, List.any_eq_true]; rintro ⟨r, hr, e⟩; exact hn r hr (by simpa using e)]
    rfl
theorem opB_no (l : List UInt8) (h : ∀ j, j < 14 → (op.nm j).data.toList ≠ l) : opB l = false := by
  unfold opB
  rw [← Bool.not_eq_true, List.any_eq_true]
  rintro ⟨r, hr, e⟩
  obtain ⟨j, hj, rfl⟩ := List.mem_iff_getElem.1 hr
  refine h j hj ?_
  have e' : op.tab[j].1 = l := by simpa using e
  rw [← e']
  simp [op.nm, List.getD, hj]
theorem opB_yes (l : List UInt8) (j : Nat) (hj : j < 14) (h : (op.nm j).data.toList = l) : opB l = true := by
  unfold opB
  have hj' : j < op.tab.length := hj
  refine List.any_eq_true.2 ⟨op.tab[j], List.getElem_mem _, ?_⟩
  rw [← h]
  simp [op.nm, List.getD, hj']

set_option maxRecDepth 100000 in
/-- impl.isOperator. -/
theorem isOp_any (s : ByteArray) (w : World) (ht : op.OpTab w) :
    Calls Tryz.prog 136 #[.string s] w fun e w' => e = .returned (.bool (opB s.data.toList)) ∧ Below w.heap.size w w' := by
  obtain ⟨tt, fr, htab⟩ := ht
  have HT := Lib.hid htab
  have hl := ByteArray.toList_eq s
  have HL := Lib.hid hl
  clear htab hl
  go_enter Tryz.func136, Tryz.ntmps136
  go_wp2_with (refine wpList_load_row rfl 150 _ rfl 1 rfl tt _ fr _ HT.out Tryz.underlying150 rfl (by kernel_rfl) ?_)
  go_loopw [6] (fun i wr => ∃ k : Nat, k ≤ 14 ∧ i = .int .i64 k ∧ (∀ j, j < k → (op.nm j).data.toList ≠ s.data.toList) ∧ Below w.heap.size w wr) (fun i _ => 14 - (intOf i).toNat)
  case atStart => exact ⟨0, Nat.zero_le _, rfl, fun j h => absurd h (Nat.not_lt_zero j), Below.refl _ _⟩
  case round =>
    obtain ⟨k, hk, rfl, hno, hbw⟩ := hrel
    have HN := Lib.hid hno
    have HB := Lib.hid hbw
    clear hno hbw
    by_cases h14 : k < 14
    · have hx := fun w => op.index_op k h14 w
      have hy := opB_yes s.data.toList k h14
      have HY := Lib.hid hy
      have hnx : (op.nm k).data.toList ≠ s.data.toList → ∀ j, j < k + 1 → (op.nm j).data.toList ≠ s.data.toList := fun h j hj => by
        rcases Nat.lt_succ_iff_lt_or_eq.1 hj with h1 | h1
        · exact HN.out j h1
        · subst h1; exact h
      have HNX := Lib.hid hnx
      have hla := ByteArray.toList_eq (op.nm k)
      have HLA := Lib.hid hla
      have him : (k : Int) < 14 := by omega
      clear hy hnx hla
      generalize op.nm k = a at *
      generalize op.tx k = b at *
      generalize op.lv k = l at *
      by_cases heq : a.data.toList = s.data.toList
      · have t1 : (a.toList == s.toList) = true := by rw [HLA.out, HL.out, heq, beq_self_eq_true]
        have HV : Hid (opB s.data.toList = true) := Lib.hid (HY.out heq)
        clear heq
        go_wp2_with fail
        go_ret
        rw [HV.out]
        exact ⟨rfl, by first | exact HB.out | exact HB.out.alloc HB.out.size _⟩
      · have t1 : (a.toList == s.toList) = false := by rw [HLA.out, HL.out, beq_eq_false_iff_ne]; exact heq
        have HNX2 := Lib.hid (HNX.out heq)
        clear heq
        go_wp2_with fail
        go_roundw
        case rel => exact ⟨k + 1, by omega, by go_num, HNX2.out, by first | exact HB.out | exact HB.out.alloc HB.out.size _⟩
        case measure => simp [intOf]; omega
    · obtain rfl : k = 14 := by omega
      have HV : Hid (opB s.data.toList = false) := Lib.hid (opB_no _ HN.out)
      go_wp2_with fail
      go_ret
      rw [HV.out]
      exact ⟨rfl, HB.out⟩
end Go.Proofs.YtmgfndgmebignaaGreatDoor

/- Goals: the plain mathematics, and the model's l4Cut, l4Plain, l4Goal, GoalValid. Condition: the term lies in memory. -/
namespace Go.Proofs.YtmgfndgmebignaaGreatDoor
open Go.RowKit

def cutB (s : ByteArray) (len : Nat) : Bool := (s.data.toList == [33]) && (len == 0)
def plainB (s : ByteArray) (len : Nat) : Bool := nv.wordB s.data.toList && (!biB s.data.toList len && (op.level s.data.toList == 0))
def cutK (k : Int) (s : ByteArray) (len : Nat) : Bool := (k == 3) && cutB s len
def plainK (k : Int) (s : ByteArray) (len : Nat) : Bool := (k == 3) && plainB s len
def goalK (k : Int) (s : ByteArray) (len : Nat) : Bool := cutK k s len || (plainK k s len || ((k == 3) && biB s.data.toList len))
/-- The term is a goal. -/
def goalV (k n : Int) (s : ByteArray) (f : Fr) : Bool := validT k n s f && goalK k s f.len

set_option maxRecDepth 100000 in
/-- spec.l4Cut. -/
theorem cut_any (k n : Int) (s : ByteArray) (A : Option Addr) (len cap : Nat) (w : World) :
    Calls Tryz.prog 105 #[.agg #[.int .i64 k, .int .i64 n, .string s, .slice A len cap]] w fun e w' => e = .returned (.bool (cutK k s len)) ∧ Below w.heap.size w w' := by
  have HB : Hid (Below w.heap.size w (w.alloc (.cells #[.int .i64 k, .int .i64 n, .string s, .slice A len cap] 31))) := Lib.hid ((Below.refl _ _).alloc (Nat.le_refl _) _)
  have hl := ByteArray.toList_eq s
  have HL := Lib.hid hl
  clear hl
  by_cases h3 : k = 3
  · subst h3
    by_cases hs : s.data.toList = [33]
    · have t1 : (s.toList == [33]) = true := by rw [HL.out, hs]; rfl
      by_cases h0 : len = 0
      · subst h0
        have HV : Hid (cutK 3 s 0 = true) := Lib.hid (by unfold cutK cutB; rw [hs]; rfl)
        clear hs
        go_enter Tryz.func105, Tryz.ntmps105
        go_wp2_with fail
        go_ret
        rw [HV.out]; exact ⟨rfl, HB.out⟩
      · have t2 : ((len : Int) == 0) = false := by rw [beq_eq_false_iff_ne]; omega
        have HV : Hid (cutK 3 s len = false) := Lib.hid (by unfold cutK cutB; rw [hs]; simpa using h0)
        clear hs h0
        go_enter Tryz.func105, Tryz.ntmps105
        go_wp2_with fail
        go_ret
        rw [HV.out]; exact ⟨rfl, HB.out⟩
    · have t1 : (s.toList == [33]) = false := by rw [HL.out, beq_eq_false_iff_ne]; exact hs
      have HV : Hid (cutK 3 s len = false) := Lib.hid (by unfold cutK cutB; rw [show (s.data.toList == [33]) = false by rw [beq_eq_false_iff_ne]; exact hs]; rfl)
      clear hs
      go_enter Tryz.func105, Tryz.ntmps105
      go_wp2_with fail
      go_ret
      rw [HV.out]; exact ⟨rfl, HB.out⟩
  · have t0 : (k == 3) = false := by rw [beq_eq_false_iff_ne]; exact h3
    have HV : Hid (cutK k s len = false) := Lib.hid (by unfold cutK; rw [t0]; rfl)
    clear h3
    go_enter Tryz.func105, Tryz.ntmps105
    go_wp2_with fail
    go_ret
    rw [HV.out]; exact ⟨rfl, HB.out⟩

set_option maxRecDepth 100000 in
/-- spec.l4Plain. -/
theorem plain_any (k n : Int) (s : ByteArray) (A : Option Addr) (len cap : Nat) (w : World) (hs : s.size ≤ maxLen) :
    Calls Tryz.prog 59 #[.agg #[.int .i64 k, .int .i64 n, .string s, .slice A len cap]] w fun e w' => e = .returned (.bool (plainK k s len)) ∧ Below w.heap.size w w' := by
  have HB : Hid (Below w.heap.size w (w.alloc (.cells #[.int .i64 k, .int .i64 n, .string s, .slice A len cap] 31))) := Lib.hid ((Below.refl _ _).alloc (Nat.le_refl _) _)
  by_cases h3 : k = 3
  · subst h3
    have C1 := fun w1 => nv.word_any s w1 hs
    have C2 := fun w1 => specBi_any s (len : Int) w1
    have C3 := fun w1 => op.l2_any s w1
    have HE : Hid (plainK 3 s len = (nv.wordB s.data.toList && (!biB s.data.toList len && (op.level s.data.toList == 0)))) := Lib.hid rfl
    generalize nv.wordB s.data.toList = v1 at *
    generalize biB s.data.toList (len : Int) = v2 at *
    generalize op.level s.data.toList = v3 at *
    have H1 := Lib.hid C1
    have H2 := Lib.hid C2
    have H3 := Lib.hid C3
    clear C1 C2 C3 hs
    cases v1
    · have HV : Hid (plainK 3 s len = false) := Lib.hid (by rw [HE.out]; rfl)
      go_enter Tryz.func59, Tryz.ntmps59
      go_wp2_with (go_at_call 78; refine (H1.out _).mono ?_; rintro e w' ⟨rfl, rfl⟩)
      go_ret
      rw [HV.out]; exact ⟨rfl, HB.out⟩
    · cases v2
      · by_cases h0 : v3 = 0
        · subst h0
          have HV : Hid (plainK 3 s len = true) := Lib.hid (by rw [HE.out]; rfl)
          go_enter Tryz.func59, Tryz.ntmps59
          go_wp2_with (first | (go_at_call 78; refine (H1.out _).mono ?_; rintro e w' ⟨rfl, rfl⟩) | (go_at_call 79; refine (H2.out _).mono ?_; rintro e w' ⟨rfl, rfl⟩) | (go_at_call 69; refine (H3.out _).mono ?_; rintro e w' ⟨rfl, rfl⟩))
          go_ret
          rw [HV.out]; exact ⟨rfl, HB.out⟩
        · have t0 : (v3 == 0) = false := by rw [beq_eq_false_iff_ne]; exact h0
          have HV : Hid (plainK 3 s len = false) := Lib.hid (by rw [HE.out, t0]; rfl)
          clear h0
          go_enter Tryz.func59, Tryz.ntmps59
          go_wp2_with (first | (go_at_call 78; refine (H1.out _).mono ?_; rintro e w' ⟨rfl, rfl⟩) | (go_at_call 79; refine (H2.out _).mono ?_; rintro e w' ⟨rfl, rfl⟩) | (go_at_call 69; refine (H3.out _).mono ?_; rintro e w' ⟨rfl, rfl⟩))
          go_ret
          rw [HV.out]; exact ⟨rfl, HB.out⟩
      · have HV : Hid (plainK 3 s len = false) := Lib.hid (by rw [HE.out]; rfl)
        go_enter Tryz.func59, Tryz.ntmps59
        go_wp2_with (first | (go_at_call 78; refine (H1.out _).mono ?_; rintro e w' ⟨rfl, rfl⟩) | (go_at_call 79; refine (H2.out _).mono ?_; rintro e w' ⟨rfl, rfl⟩))
        go_ret
        rw [HV.out]; exact ⟨rfl, HB.out⟩
  · have t0 : (k == 3) = false := by rw [beq_eq_false_iff_ne]; exact h3
    have HV : Hid (plainK k s len = false) := Lib.hid (by unfold plainK; rw [t0]; rfl)
    clear h3
    go_enter Tryz.func59, Tryz.ntmps59
    go_wp2_with fail
    go_ret
    rw [HV.out]; exact ⟨rfl, HB.out⟩

set_option maxRecDepth 100000 in
/-- spec.l4Goal. -/
theorem goal_any (k n : Int) (s : ByteArray) (A : Option Addr) (len cap : Nat) (w : World) (hs : s.size ≤ maxLen) :
    Calls Tryz.prog 77 #[.agg #[.int .i64 k, .int .i64 n, .string s, .slice A len cap]] w fun e w' => e = .returned (.bool (goalK k s len)) ∧ Below w.heap.size w w' := by
  have HB0 : Hid (Below w.heap.size w (w.alloc (.cells #[.int .i64 k, .int .i64 n, .string s, .slice A len cap] 31))) := Lib.hid ((Below.refl _ _).alloc (Nat.le_refl _) _)
  have C1 := fun w1 => cut_any k n s A len cap w1
  have C2 := fun w1 => plain_any k n s A len cap w1 hs
  have C3 := fun w1 => specBi_any s (len : Int) w1
  have HE : Hid (goalK k s len = (cutK k s len || (plainK k s len || ((k == 3) && biB s.data.toList len)))) := Lib.hid rfl
  generalize cutK k s len = v1 at *
  generalize plainK k s len = v2 at *
  generalize biB s.data.toList (len : Int) = v3 at *
  have H1 := Lib.hid C1
  have H2 := Lib.hid C2
  have H3 := Lib.hid C3
  clear C1 C2 C3 hs
  cases v1
  · go_enter Tryz.func77, Tryz.ntmps77
    go_wp2_with fail
    refine (H1.out _).mono ?_
    rintro e w2 ⟨rfl, hb⟩
    have hq := (Blk.new w 31 #[.int .i64 k, .int .i64 n, .string s, .slice A len cap]).below hb (by simp)
    obtain ⟨a0, a1, a2, a3⟩ := cells4 hq
    have HQ := Lib.hid hq
    have HB := Lib.hid (HB0.out.trans (hb.mono (by simp)))
    clear hb hq
    go_wp2_with fail
    refine (H2.out _).mono ?_
    rintro e w3 ⟨rfl, hb⟩
    have hq := HQ.out.below hb HQ.out.lt
    have HB3 := Lib.hid (HB.out.trans (hb.mono HB.out.size))
    clear hb a0 a1 a2 a3
    cases v2
    · obtain ⟨a0, a1, a2, a3⟩ := cells4 hq
      clear hq
      by_cases h3 : k = 3
      · subst h3
        have HV : Hid (goalK 3 s len = v3) := Lib.hid (by rw [HE.out]; rfl)
        go_wp2_with (go_at_call 79; refine (H3.out _).mono ?_; rintro e w' ⟨rfl, rfl⟩)
        go_ret
        rw [HV.out]; exact ⟨rfl, HB3.out⟩
      · have t0 : (k == 3) = false := by rw [beq_eq_false_iff_ne]; exact h3
        have HV : Hid (goalK k s len = false) := Lib.hid (by rw [HE.out, t0]; rfl)
        clear h3
        go_wp2_with fail
        go_ret
        rw [HV.out]; exact ⟨rfl, HB3.out⟩
    · have HV : Hid (goalK k s len = true) := Lib.hid (by rw [HE.out]; rfl)
      clear hq
      go_wp2_with fail
      go_ret
      rw [HV.out]; exact ⟨rfl, HB3.out⟩
  · have HV : Hid (goalK k s len = true) := Lib.hid (by rw [HE.out]; rfl)
    go_enter Tryz.func77, Tryz.ntmps77
    go_wp2_with fail
    refine (H1.out _).mono ?_
    rintro e w2 ⟨rfl, hb⟩
    have HB := Lib.hid (HB0.out.trans (hb.mono (by simp)))
    clear hb
    go_wp2_with fail
    go_ret
    rw [HV.out]; exact ⟨rfl, HB.out⟩

set_option maxRecDepth 100000 in
/-- spec.GoalValid. -/
theorem specGoal_any (k n : Int) (s : ByteArray) (f : Fr) (A : Option Addr) (cap lo hi : Nat) (w : World) (hk : KidsAt w lo hi f A cap) (hh : hi ≤ w.heap.size) (hf : Fits k n s) (hnd : nodes f ≤ 1048576) :
    Calls Tryz.prog 58 #[.agg #[.int .i64 k, .int .i64 n, .string s, .slice A f.len cap]] w fun e w' => e = .returned (.bool (goalV k n s f)) ∧ Below w.heap.size w w' := by
  have HB0 : Hid (Below w.heap.size w (w.alloc (.cells #[.int .i64 k, .int .i64 n, .string s, .slice A f.len cap] 31))) := Lib.hid ((Below.refl _ _).alloc (Nat.le_refl _) _)
  have C1 := fun w1 (hb : Below w.heap.size w w1) => specValid_any k n s f A cap lo hi w1 (hk.below hb hh) (Nat.le_trans hh hb.size) hf hnd
  have C2 := fun w1 => goal_any k n s A f.len cap w1 hf.2.2
  have HE : Hid (goalV k n s f = (validT k n s f && goalK k s f.len)) := Lib.hid rfl
  generalize validT k n s f = v1 at *
  generalize goalK k s f.len = v2 at *
  have H1 := Lib.hid C1
  have H2 := Lib.hid C2
  clear C1 C2 hk hf hnd
  cases v1
  · have HV : Hid (goalV k n s f = false) := Lib.hid (by rw [HE.out]; rfl)
    go_enter Tryz.func58, Tryz.ntmps58
    go_wp2_with fail
    refine (H1.out _ HB0.out).mono ?_
    rintro e w2 ⟨rfl, hb⟩
    have HB := Lib.hid (HB0.out.trans (hb.mono (by simp)))
    clear hb
    go_wp2_with fail
    go_ret
    rw [HV.out]; exact ⟨rfl, HB.out⟩
  · have HV : Hid (goalV k n s f = v2) := Lib.hid (by rw [HE.out]; rfl)
    go_enter Tryz.func58, Tryz.ntmps58
    go_wp2_with fail
    refine (H1.out _ HB0.out).mono ?_
    rintro e w2 ⟨rfl, hb⟩
    have hq := (Blk.new w 31 #[.int .i64 k, .int .i64 n, .string s, .slice A f.len cap]).below hb (by simp)
    obtain ⟨a0, a1, a2, a3⟩ := cells4 hq
    have HB := Lib.hid (HB0.out.trans (hb.mono (by simp)))
    clear hb hq
    go_wp2_with fail
    refine (H2.out _).mono ?_
    rintro e w3 ⟨rfl, hb⟩
    have HB3 := Lib.hid (HB.out.trans (hb.mono HB.out.size))
    clear hb
    go_wp2_with fail
    go_ret
    rw [HV.out]; exact ⟨rfl, HB3.out⟩
end Go.Proofs.YtmgfndgmebignaaGreatDoor

/- Goals: impl.goalFrom, goalOf, plainGoalOf, GoalValid. Condition: the term lies in memory, both tables in their variables. -/
namespace Go.Proofs.YtmgfndgmebignaaGreatDoor
open Go.RowKit

/-- The name begins with a letter. -/
def headB (l : List UInt8) : Bool := match l with
  | [] => false
  | c :: _ => nv.lowB c
theorem head_agree (l : List UInt8) (h : nv.nameB l = true) : (headB l && !opB l) = (nv.wordB l && (op.level l == 0)) := by
  have ho : (!opB l) = (op.level l == 0) := by rw [opB_level, Bool.not_not]
  rw [ho]
  have hh : headB l = nv.wordB l := by
    unfold nv.nameB at h
    cases hw : nv.wordB l
    · rw [hw, Bool.false_or] at h
      have hm : l ∈ nv.signs := by simpa using h
      have all : ∀ x ∈ nv.signs, headB x = false := by decide
      exact all l hm
    · unfold nv.wordB at hw
      cases l with
      | nil => simp at hw
      | cons c cs =>
        simp only [List.all_cons, Bool.and_eq_true] at hw
        exact hw.1.1.1
  rw [hh]
/-- Which goal: 0 none, 1 the cut, 2 built in, 3 plain. -/
def gk (s : ByteArray) (len : Nat) : Nat := if cutB s len = true then 1 else if biB s.data.toList len = true then 2 else if plainB s len = true then 3 else 0
theorem cut_plain (s : ByteArray) (len : Nat) (h : cutB s len = true) : plainB s len = false := by
  unfold cutB at h
  rw [Bool.and_eq_true, beq_iff_eq] at h
  unfold plainB
  rw [h.1]
  rfl
theorem gk_goal (s : ByteArray) (len : Nat) : goalK 3 s len = !(gk s len == 0) := by
  unfold goalK gk cutK plainK
  cases h1 : cutB s len
  · cases h2 : biB s.data.toList len
    · cases h3 : plainB s len <;> rfl
    · simp
  · rfl
theorem gk_plain (s : ByteArray) (len : Nat) : plainK 3 s len = (gk s len == 3) := by
  unfold gk plainK
  cases h1 : cutB s len
  · cases h2 : biB s.data.toList len
    · cases h3 : plainB s len <;> rfl
    · have h3 : plainB s len = false := by unfold plainB; rw [h2]; simp
      rw [h3]
      rfl
  · rw [cut_plain s len h1]
    rfl
/-- A goal in memory. -/
def GIs (t : Nat) (s : ByteArray) (A : Option Addr) (len cap : Nat) (v : Value) : Prop :=
  (t = 1 ∧ v = .iface 187 (.agg #[])) ∨ (t = 2 ∧ v = .iface 188 (.agg #[.string s, .slice A len cap])) ∨ (t = 3 ∧ v = .iface 62 (.agg #[.string s, .slice A len cap]))
def GRes (w : World) (s : ByteArray) (A : Option Addr) (len cap : Nat) (e : Ending) (w' : World) : Prop :=
  Below w.heap.size w w' ∧ ((gk s len = 0 ∧ e = .returned (.tuple #[.nilIface, .bool false])) ∨ (gk s len ≠ 0 ∧ ∃ v, e = .returned (.tuple #[v, .bool true]) ∧ GIs (gk s len) s A len cap v))
theorem name_of_valid {n : Int} {s : ByteArray} {f : Fr} (h : validT 3 n s f = true) : nv.nameB s.data.toList = true := by
  unfold validT shapeT ownB at h
  simp only [Bool.and_eq_true] at h
  have h1 := h.1.2.1
  simp at h1
  exact h1.1.2
theorem name_pos {l : List UInt8} (h : nv.nameB l = true) : ∃ c cs, l = c :: cs := by
  cases l with
  | nil => exact absurd h (by decide)
  | cons c cs => exact ⟨c, cs, rfl⟩
set_option maxRecDepth 100000 in
set_option maxHeartbeats 1000000 in
/-- impl.goalFrom at a structure. -/
theorem from3_any (s : ByteArray) (A : Option Addr) (len cap : Nat) (w : World) (hn : nv.nameB s.data.toList = true) (hlen : len ≤ maxLen) (ht : op.OpTab w) :
    Calls Tryz.prog 114 #[.iface 116 (.agg #[.string s, .slice A len cap])] w fun e w' => GRes w s A len cap e w' := by
  have hl := ByteArray.toList_eq s
  have HL := Lib.hid hl
  have hag := head_agree _ hn
  have hpos : 0 < s.size := by
    obtain ⟨c, cs, hc⟩ := name_pos hn
    have h1 : s.data.toList.length = s.size := rfl
    rw [hc] at h1
    simp at h1
    omega
  have hhd : headB s.data.toList = nv.lowB s[0] := by
    have h1 : s.data.toList[0]? = some s[0] := Lib.data_getElem? s 0 hpos
    obtain ⟨c, cs, hc⟩ := name_pos hn
    rw [hc] at h1 ⊢
    simp at h1
    rw [← h1]; rfl
  have hb0 : Below w.heap.size w (w.alloc (.cells #[.string s, .slice A len cap] 116)) := (Below.refl _ _).alloc (Nat.le_refl _) _
  have C1 := fun w1 => implBi_any s (len : Int) w1
  have C2 := fun w1 => nv.letter_any s[0] w1
  have C3 := isOp_any s (w.alloc (.cells #[.string s, .slice A len cap] 116)) (ht.below hb0)
  rw [hhd] at hag
  have HE : Hid (plainB s len = (nv.wordB s.data.toList && (!biB s.data.toList len && (op.level s.data.toList == 0)))) := Lib.hid rfl
  have HG : Hid (gk s len = if cutB s len = true then 1 else if biB s.data.toList len = true then 2 else if plainB s len = true then 3 else 0) := Lib.hid rfl
  have HCU : Hid (cutB s len = ((s.data.toList == [33]) && (len == 0))) := Lib.hid rfl
  have HB0 := Lib.hid hb0
  have HAG := Lib.hid hag
  generalize biB s.data.toList (len : Int) = v1 at *
  generalize nv.lowB s[0] = v2 at *
  generalize opB s.data.toList = v3 at *
  have H1 := Lib.hid C1
  have H2 := Lib.hid C2
  have H3 := Lib.hid C3
  clear hl hag hb0 C1 C2 C3 hhd hn ht
  unfold maxLen at hlen
  by_cases hcut : s.data.toList = [33] ∧ len = 0
  · obtain ⟨h33, rfl⟩ := hcut
    have t1 : (s.toList == [33]) = true := by rw [HL.out, h33]; rfl
    have HV : Hid (gk s 0 = 1) := Lib.hid (by rw [HG.out, HCU.out, h33]; rfl)
    clear h33
    go_enter Tryz.func114, Tryz.ntmps114
    go_wp2_with fail
    go_ret2
    exact ⟨HB0.out, .inr ⟨by rw [HV.out]; decide, _, rfl, .inl ⟨HV.out, rfl⟩⟩⟩
  · have HC : Hid (cutB s len = false) := Lib.hid (by
      rw [HCU.out, ← Bool.not_eq_true, Bool.and_eq_true, beq_iff_eq, beq_iff_eq]; exact hcut)
    have hway : (s.toList == [33]) = false ∨ ((s.toList == [33]) = true ∧ ((len : Int) == 0) = false) := by
      by_cases h33 : s.data.toList = [33]
      · exact .inr ⟨by rw [HL.out, h33]; rfl, by rw [beq_eq_false_iff_ne]; intro h; exact hcut ⟨h33, by omega⟩⟩
      · exact .inl (by rw [HL.out, beq_eq_false_iff_ne]; exact h33)
    clear hcut
    cases v1
    · have HP : Hid (plainB s len = (v2 && !v3)) := Lib.hid (by rw [HE.out, HAG.out]; rfl)
      cases v2
      · have HV : Hid (gk s len = 0) := Lib.hid (by rw [HG.out, HC.out, HP.out]; rfl)
        rcases hway with t1 | ⟨t1, t2⟩
        all_goals
          go_enter Tryz.func114, Tryz.ntmps114
          go_wp2_with (first | (go_at_call 134; refine (H1.out _).mono ?_; rintro e w' ⟨rfl, rfl⟩) | (go_at_call 135; refine (H2.out _).mono ?_; rintro e w' ⟨rfl, rfl⟩))
          go_ret2
          exact ⟨HB0.out, .inl ⟨HV.out, rfl⟩⟩
      · cases v3
        · have HV : Hid (gk s len = 3) := Lib.hid (by rw [HG.out, HC.out, HP.out]; rfl)
          rcases hway with t1 | ⟨t1, t2⟩
          all_goals
            go_enter Tryz.func114, Tryz.ntmps114
            go_wp2_with (first | (go_at_call 134; refine (H1.out _).mono ?_; rintro e w' ⟨rfl, rfl⟩) | (go_at_call 135; refine (H2.out _).mono ?_; rintro e w' ⟨rfl, rfl⟩) | (go_at_call 136; refine H3.out.mono ?_; rintro e w2 ⟨rfl, hb⟩; have hq := (Blk.new w 116 #[.string s, .slice A len cap]).below hb (by simp); have a0 := hq.cell 0; have a1 := hq.cell 1; simp only [List.getElem?_toArray, List.getElem?_cons_zero, List.getElem?_cons_succ] at a0 a1; have HB2 := Lib.hid (HB0.out.trans (hb.mono (by simp))); clear hb hq))
            go_ret2
            exact ⟨HB2.out, .inr ⟨by rw [HV.out]; decide, _, rfl, .inr (.inr ⟨HV.out, rfl⟩)⟩⟩
        · have HV : Hid (gk s len = 0) := Lib.hid (by rw [HG.out, HC.out, HP.out]; rfl)
          rcases hway with t1 | ⟨t1, t2⟩
          all_goals
            go_enter Tryz.func114, Tryz.ntmps114
            go_wp2_with (first | (go_at_call 134; refine (H1.out _).mono ?_; rintro e w' ⟨rfl, rfl⟩) | (go_at_call 135; refine (H2.out _).mono ?_; rintro e w' ⟨rfl, rfl⟩) | (go_at_call 136; refine H3.out.mono ?_; rintro e w2 ⟨rfl, hb⟩; have HB2 := Lib.hid (HB0.out.trans (hb.mono (by simp))); clear hb))
            go_ret2
            exact ⟨HB2.out, .inl ⟨HV.out, rfl⟩⟩
    · have HV : Hid (gk s len = 2) := Lib.hid (by rw [HG.out, HC.out]; rfl)
      rcases hway with t1 | ⟨t1, t2⟩
      all_goals
        go_enter Tryz.func114, Tryz.ntmps114
        go_wp2_with (go_at_call 134; refine (H1.out _).mono ?_; rintro e w' ⟨rfl, rfl⟩)
        go_ret2
        exact ⟨HB0.out, .inr ⟨by rw [HV.out]; decide, _, rfl, .inr (.inl ⟨HV.out, rfl⟩)⟩⟩

set_option maxRecDepth 100000 in
/-- impl.goalFrom at a variable or a number. -/
theorem from12_any (v : Value) (n : Int) (hv : v = .iface 140 (.int .i64 n) ∨ v = .iface 141 (.int .i64 n)) (w : World) :
    Calls Tryz.prog 114 #[v] w fun e w' => e = .returned (.tuple #[.nilIface, .bool false]) ∧ Below w.heap.size w w' := by
  have HB0 : ∀ o, Hid (Below w.heap.size w (w.alloc o)) := fun o => Lib.hid ((Below.refl _ _).alloc (Nat.le_refl _) _)
  rcases hv with rfl | rfl
  all_goals
    go_enter Tryz.func114, Tryz.ntmps114
    go_wp2_with fail
    go_ret2
    exact ⟨rfl, (HB0 _).out⟩

/-- What impl.goalOf leaves. -/
def GOf (w : World) (k n : Int) (s : ByteArray) (f : Fr) (e : Ending) (w' : World) : Prop :=
  Below w.heap.size w w' ∧ ((goalV k n s f = false ∧ e = .returned (.tuple #[.nilIface, .bool false])) ∨
    (goalV k n s f = true ∧ ∃ v A cap, e = .returned (.tuple #[v, .bool true]) ∧ GIs (gk s f.len) s A f.len cap v ∧ NdS w' w.heap.size w'.heap.size f A cap))
theorem goalV_three {k n : Int} {s : ByteArray} {f : Fr} (hv : validT k n s f = true) (h3 : k = 3) : goalV k n s f = !(gk s f.len == 0) := by
  subst h3
  unfold goalV
  rw [hv, gk_goal]
  rfl
theorem goalV_other {k n : Int} {s : ByteArray} {f : Fr} (h3 : k ≠ 3) : goalV k n s f = false := by
  have h : (k == 3) = false := by rw [beq_eq_false_iff_ne]; exact h3
  unfold goalV goalK cutK plainK
  rw [h]
  simp

set_option maxRecDepth 100000 in
set_option maxHeartbeats 1000000 in
/-- impl.goalOf. -/
theorem goalOf_any (k n : Int) (s : ByteArray) (f : Fr) (A : Option Addr) (cap lo hi : Nat) (w : World) (hk : KidsAt w lo hi f A cap) (hh : hi ≤ w.heap.size) (hf : Fits k n s) (hnd : nodes f ≤ 1048576) (ht : nv.Tab w) (ho : op.OpTab w) :
    Calls Tryz.prog 88 #[.agg #[.int .i64 k, .int .i64 n, .string s, .slice A f.len cap]] w fun e w' => GOf w k n s f e w' := by
  have hb0 : Below w.heap.size w (w.alloc (.cells #[.int .i64 k, .int .i64 n, .string s, .slice A f.len cap] 31)) := (Below.refl _ _).alloc (Nat.le_refl _) _
  have C1 := nodeOf_any k n s f A cap lo hi _ (hk.below hb0 hh) (Nat.le_trans hh hb0.size) hf hnd (ht.below hb0)
  have H1 := Lib.hid C1
  have HO := Lib.hid ho
  have HB0 := Lib.hid hb0
  clear C1 hk hf hnd ht ho hb0
  go_enter Tryz.func88, Tryz.ntmps88
  go_wp2_with fail
  refine H1.out.mono ?_
  rintro e w2 ⟨hb, hr⟩
  have hb2 := HB0.out.trans (hb.mono HB0.out.size)
  rcases hr with ⟨hok, v, rfl, hv⟩ | ⟨hok, rfl⟩
  · have HB2 := Lib.hid hb2
    have HOK := Lib.hid hok
    have hs0 := hb.size
    have hiface := hv.iface
    obtain ⟨T, x, rfl⟩ := hiface
    have hv' := hv.keep (fun _ _ _ => rfl) HB0.out.size (Nat.le_refl _)
    have HV := Lib.hid hv'
    clear hb hb2 hok hv hv' hs0
    go_wp2_with fail
    rcases HV.out with ⟨h1, hx⟩ | ⟨h1, hx⟩ | ⟨h1, A2, cap2, hx, hnds⟩
    · rw [hx]
      refine (from12_any _ n (.inl rfl) w2).mono ?_
      rintro e w3 ⟨rfl, hb⟩
      have R : Hid (GOf w k n s f (.returned (.tuple #[.nilIface, .bool false])) w3) := Lib.hid ⟨HB2.out.trans (hb.mono HB2.out.size), .inl ⟨goalV_other (by omega), rfl⟩⟩
      clear hb hx
      go_wp2_with fail
      go_ret2
      exact R.out
    · rw [hx]
      refine (from12_any _ n (.inr rfl) w2).mono ?_
      rintro e w3 ⟨rfl, hb⟩
      have R : Hid (GOf w k n s f (.returned (.tuple #[.nilIface, .bool false])) w3) := Lib.hid ⟨HB2.out.trans (hb.mono HB2.out.size), .inl ⟨goalV_other (by omega), rfl⟩⟩
      clear hb hx
      go_wp2_with fail
      go_ret2
      exact R.out
    · subst h1
      rw [hx]
      refine (from3_any s A2 f.len cap2 w2 (name_of_valid HOK.out) (Nat.le_trans hnds.1 hnds.2.1) (HO.out.below HB2.out)).mono ?_
      rintro e w3 ⟨hb, hr⟩
      have hg := goalV_three HOK.out rfl
      rcases hr with ⟨h0, rfl⟩ | ⟨h0, v, rfl, hgi⟩
      · have R : Hid (GOf w 3 n s f (.returned (.tuple #[.nilIface, .bool false])) w3) := Lib.hid ⟨HB2.out.trans (hb.mono HB2.out.size), .inl ⟨by rw [hg, h0]; rfl, rfl⟩⟩
        clear hb hx hg h0 hnds
        go_wp2_with fail
        go_ret2
        exact R.out
      · have R : Hid (GOf w 3 n s f (.returned (.tuple #[v, .bool true])) w3) := Lib.hid ⟨HB2.out.trans (hb.mono HB2.out.size), .inr ⟨by rw [hg]; simpa using h0, v, A2, cap2, rfl, hgi, hnds.keep (fun p _ hp => hb.cell hp) (Nat.le_refl _) hb.size⟩⟩
        clear hb hx hg h0 hnds hgi
        go_wp2_with fail
        go_ret2
        exact R.out
  · have R : Hid (GOf w k n s f (.returned (.tuple #[.nilIface, .bool false])) w2) := Lib.hid ⟨hb2, .inl ⟨by unfold goalV; rw [hok]; rfl, rfl⟩⟩
    clear hb hb2 hok
    go_wp2_with fail
    go_ret2
    exact R.out

@[go_sem] theorem as_c_p (v : Value) (w : World) : (Instr.typeAssert (.iface 187 v) 119 62 true).run Tryz.prog w = .ok (.tuple #[.agg #[.string ⟨#[]⟩, .slice none 0 0], .bool false]) w := by kernel_rfl
@[go_sem] theorem as_b_p (v : Value) (w : World) : (Instr.typeAssert (.iface 188 v) 119 62 true).run Tryz.prog w = .ok (.tuple #[.agg #[.string ⟨#[]⟩, .slice none 0 0], .bool false]) w := by kernel_rfl
@[go_sem] theorem as_p_p (v : Value) (w : World) : (Instr.typeAssert (.iface 62 v) 119 62 true).run Tryz.prog w = .ok (.tuple #[v, .bool true]) w := by kernel_rfl

/-- The term is a plain goal. -/
def plainV (k n : Int) (s : ByteArray) (f : Fr) : Bool := validT k n s f && plainK k s f.len
theorem plainV_goal {k n : Int} {s : ByteArray} {f : Fr} : plainV k n s f = (goalV k n s f && (gk s f.len == 3)) := by
  unfold plainV goalV
  by_cases h3 : k = 3
  · subst h3
    rw [gk_plain, gk_goal]
    cases validT 3 n s f
    · rfl
    · by_cases h : gk s f.len = 3
      · rw [h]; rfl
      · have h' : (gk s f.len == 3) = false := by rw [beq_eq_false_iff_ne]; exact h
        rw [h']; simp
  · have h : (k == 3) = false := by rw [beq_eq_false_iff_ne]; exact h3
    unfold goalK cutK plainK
    rw [h]
    simp
/-- What impl.plainGoalOf leaves. -/
def POf (w : World) (k n : Int) (s : ByteArray) (f : Fr) (e : Ending) (w' : World) : Prop :=
  Below w.heap.size w w' ∧ ((plainV k n s f = false ∧ ∃ s' A len cap, e = .returned (.tuple #[.agg #[.string s', .slice A len cap], .bool false])) ∨
    (plainV k n s f = true ∧ ∃ A cap, e = .returned (.tuple #[.agg #[.string s, .slice A f.len cap], .bool true]) ∧ NdS w' w.heap.size w'.heap.size f A cap))

set_option maxRecDepth 100000 in
set_option maxHeartbeats 1000000 in
/-- impl.plainGoalOf. -/
theorem plainOf_any (k n : Int) (s : ByteArray) (f : Fr) (A : Option Addr) (cap lo hi : Nat) (w : World) (hk : KidsAt w lo hi f A cap) (hh : hi ≤ w.heap.size) (hf : Fits k n s) (hnd : nodes f ≤ 1048576) (ht : nv.Tab w) (ho : op.OpTab w) :
    Calls Tryz.prog 61 #[.agg #[.int .i64 k, .int .i64 n, .string s, .slice A f.len cap]] w fun e w' => POf w k n s f e w' := by
  have hb0 : Below w.heap.size w ((w.alloc (.cells #[.int .i64 k, .int .i64 n, .string s, .slice A f.len cap] 31)).alloc (.cells #[.string ⟨#[]⟩, .slice none 0 0] 62)) := ((Below.refl _ _).alloc (Nat.le_refl _) _).alloc (by simp) _
  have C1 := goalOf_any k n s f A cap lo hi _ (hk.below hb0 hh) (Nat.le_trans hh hb0.size) hf hnd (ht.below hb0) (ho.below hb0)
  have hq0 : Blk ((w.alloc (.cells #[.int .i64 k, .int .i64 n, .string s, .slice A f.len cap] 31)).alloc (.cells #[.string ⟨#[]⟩, .slice none 0 0] 62)) (w.heap.size + 1) 62 #[.string ⟨#[]⟩, .slice none 0 0] := by
    have h := Blk.new (w.alloc (.cells #[.int .i64 k, .int .i64 n, .string s, .slice A f.len cap] 31)) 62 #[.string ⟨#[]⟩, .slice none 0 0]
    simpa using h
  have HPG : Hid (plainV k n s f = (goalV k n s f && (gk s f.len == 3))) := Lib.hid plainV_goal
  have H1 := Lib.hid C1
  have HB0 := Lib.hid hb0
  have HQ0 := Lib.hid hq0
  clear C1 hk hf hnd ht ho hb0 hq0
  go_enter Tryz.func61, Tryz.ntmps61
  go_wp2_with fail
  refine H1.out.mono ?_
  rintro e w2 ⟨hb, hr⟩
  have hq2 := HQ0.out.below hb HQ0.out.lt
  have a0 := hq2.cell 0
  have a1 := hq2.cell 1
  have f0 := hq2.frozen 0
  have f1 := hq2.frozen 1
  simp only [List.getElem?_toArray, List.getElem?_cons_zero, List.getElem?_cons_succ] at a0 a1
  have hb2 := HB0.out.trans (hb.mono HB0.out.size)
  have hw2 : w.heap.size + 1 < w2.heap.size := hq2.lt
  have HQ2 := Lib.hid hq2
  have HB2 := Lib.hid hb2
  have HSB := Lib.hid HB0.out.size
  clear hb2 hq2
  rcases hr with ⟨hok, rfl⟩ | ⟨hok, v, A2, cap2, rfl, hgi, hnds⟩
  · have HP : Hid (plainV k n s f = false) := Lib.hid (by rw [HPG.out, hok]; rfl)
    clear hb hok
    go_wp2_with fail
    refine bodyPost_ret (v := .tuple #[.agg #[.string ⟨#[]⟩, .slice none 0 0], .bool false]) ?_ rfl ⟨?_, .inl ⟨HP.out, _, _, _, _, rfl⟩⟩
    · exact results_cell_row2 Tryz.results61 _ _ (w.heap.size + 1) _ _ _ _ rfl ((HQ2.out.set_ 0 _).set_ 1 _) Tryz.underlying62 rfl (by kernel_rfl)
    · exact ((HB2.out.setCell (by simp) _).setCell (by simp) _)
  · have e9 : ((w.alloc (.cells #[.int .i64 k, .int .i64 n, .string s, .slice A f.len cap] 31)).alloc (.cells #[.string ⟨#[]⟩, .slice none 0 0] 62)).heap.size = w.heap.size + 1 + 1 := by simp
    rw [e9] at hnds
    have HNS := Lib.hid hnds
    clear hb hnds e9
    rcases hgi with ⟨hg, rfl⟩ | ⟨hg, rfl⟩ | ⟨hg, rfl⟩
    · have HP : Hid (plainV k n s f = false) := Lib.hid (by rw [HPG.out, hg]; simp)
      clear hok hg
      go_wp2_with fail
      refine bodyPost_ret (v := .tuple #[.agg #[.string ⟨#[]⟩, .slice none 0 0], .bool false]) ?_ rfl ⟨?_, .inl ⟨HP.out, _, _, _, _, rfl⟩⟩
      · exact results_cell_row2 Tryz.results61 _ _ (w.heap.size + 1) _ _ _ _ rfl (((HQ2.out.set_ 0 _).set_ 1 _).alloc _) Tryz.underlying62 rfl (by kernel_rfl)
      · exact (((HB2.out.setCell (by simp) _).setCell (by simp) _).alloc (by simpa [World.setCell] using HB2.out.size) _)
    · have HP : Hid (plainV k n s f = false) := Lib.hid (by rw [HPG.out, hg]; simp)
      clear hok hg
      go_wp2_with fail
      refine bodyPost_ret (v := .tuple #[.agg #[.string ⟨#[]⟩, .slice none 0 0], .bool false]) ?_ rfl ⟨?_, .inl ⟨HP.out, _, _, _, _, rfl⟩⟩
      · exact results_cell_row2 Tryz.results61 _ _ (w.heap.size + 1) _ _ _ _ rfl (((HQ2.out.set_ 0 _).set_ 1 _).alloc _) Tryz.underlying62 rfl (by kernel_rfl)
      · exact (((HB2.out.setCell (by simp) _).setCell (by simp) _).alloc (by simpa [World.setCell] using HB2.out.size) _)
    · have HP : Hid (plainV k n s f = true) := Lib.hid (by rw [HPG.out, hok, hg]; rfl)
      clear hok hg
      have hfin : ∀ a b : Value, POf w k n s f (.returned (.tuple #[.agg #[.string s, .slice A2 f.len cap2], .bool true])) (((w2.setCell ⟨w.heap.size + 1, 0, none⟩ a).setCell ⟨w.heap.size + 1, 1, none⟩ b).alloc (.cells #[.string s, .slice A2 f.len cap2] 62)) := fun a b =>
        ⟨((HB2.out.setCell (by simp) _).setCell (by simp) _).alloc (by simpa [World.setCell] using HB2.out.size) _, .inr ⟨HP.out, A2, cap2, rfl, HNS.out.keep (fun p hl hp => by
          have hs : ((w2.setCell ⟨w.heap.size + 1, 0, none⟩ a).setCell ⟨w.heap.size + 1, 1, none⟩ b).heap.size = w2.heap.size := by simp [World.setCell]
          have e1 := World.cell?_of_block (a := p) (Below.heap_alloc ((w2.setCell ⟨w.heap.size + 1, 0, none⟩ a).setCell ⟨w.heap.size + 1, 1, none⟩ b) (.cells #[.string s, .slice A2 f.len cap2] 62) p.block (by rw [hs]; exact hp))
          have e2 := World.cell?_of_block (a := p) (heap_setCell_other (w2.setCell ⟨w.heap.size + 1, 0, none⟩ a) ⟨w.heap.size + 1, 1, none⟩ p.block b (by show p.block ≠ w.heap.size + 1; omega))
          have e3 := World.cell?_of_block (a := p) (heap_setCell_other w2 ⟨w.heap.size + 1, 0, none⟩ p.block a (by show p.block ≠ w.heap.size + 1; omega))
          exact e1.trans (e2.trans e3)) (by omega) (by simp [World.setCell])⟩⟩
      have HF := Lib.hid hfin
      clear hfin
      generalize f.len = fl at *
      go_wp2_with fail
      refine bodyPost_ret (v := .tuple #[.agg #[.string s, .slice A2 fl cap2], .bool true]) ?_ rfl (HF.out _ _)
      exact results_cell_row2 Tryz.results61 _ _ (w.heap.size + 1) _ _ _ _ rfl (((HQ2.out.set_ 0 _).set_ 1 _).alloc _) Tryz.underlying62 rfl (by kernel_rfl)
end Go.Proofs.YtmgfndgmebignaaGreatDoor

/- laws.szClause, szClauseS, toClause, toClauseS. Condition: the clauses lie in memory; no more than the law's budget. -/
namespace Go.Proofs.YtmgfndgmebignaaGreatDoor
open Go.RowKit

def szC (c : Cl) (l : Int) : Int := if szT c.s c.kids l < 0 then -1 else szS c.body (szT c.s c.kids l)
def wtC (c : Cl) : Nat := c.s.size + c.kids.len + wt c.kids + c.body.len + wt c.body
theorem szC_range (c : Cl) (l : Int) (h : 0 ≤ l) : -1 ≤ szC c l ∧ szC c l ≤ l ∧ (0 ≤ szC c l → szC c l = l - wtC c) := by
  have h1 := szT_range c.s c.kids l h
  unfold szC
  split
  · exact ⟨by omega, by omega, fun h => absurd h (by omega)⟩
  · have h2 := szS_range c.body (szT c.s c.kids l) (by omega)
    refine ⟨h2.1, by omega, fun h0 => ?_⟩
    have a := h1.2.2 (by omega)
    have b := h2.2.2 h0
    unfold wtC
    omega
def szCF : List Cl → Int → Int
  | [], l => l
  | c :: cs, l => if szC c l < 0 then -1 else szCF cs (szC c l)
def szCS (cs : List Cl) (l : Int) : Int := if l - cs.length < 0 then -1 else szCF cs (l - cs.length)
def wtCs : List Cl → Nat
  | [] => 0
  | c :: cs => wtC c + wtCs cs
theorem szCF_range : ∀ (cs : List Cl) (l : Int), 0 ≤ l → -1 ≤ szCF cs l ∧ szCF cs l ≤ l ∧ (0 ≤ szCF cs l → szCF cs l = l - wtCs cs)
  | [], l, h => ⟨by unfold szCF; omega, Int.le_refl _, fun _ => by simp [szCF, wtCs]⟩
  | c :: cs, l, h => by
    have h1 := szC_range c l h
    unfold szCF
    split
    · exact ⟨by omega, by omega, fun h => absurd h (by omega)⟩
    · have h2 := szCF_range cs (szC c l) (by omega)
      refine ⟨h2.1, by omega, fun h0 => ?_⟩
      have a := h1.2.2 (by omega)
      have b := h2.2.2 h0
      simp only [wtCs]
      omega
theorem szCS_range (cs : List Cl) (l : Int) (h : 0 ≤ l) : -1 ≤ szCS cs l ∧ szCS cs l ≤ l ∧ (0 ≤ szCS cs l → szCS cs l = l - cs.length - wtCs cs) := by
  unfold szCS
  split
  · exact ⟨by omega, by omega, fun h => absurd h (by omega)⟩
  · have := szCF_range cs (l - cs.length) (by omega)
    omega
theorem wtC_le : ∀ (cs : List Cl) (i : Nat) {c : Cl} {rest : List Cl}, cs.drop i = c :: rest → wtC c ≤ wtCs cs
  | [], i, _, _, h => by simp at h
  | c' :: cs, 0, _, _, h => by
    injection h with e1 e2
    subst e1
    simp only [wtCs]; omega
  | c' :: cs, i + 1, _, _, h => by
    have := wtC_le cs i h
    simp only [wtCs]; omega
theorem drop_cl (cs : List Cl) (i : Nat) (h : i < cs.length) : ∃ c, cs.drop i = c :: cs.drop (i + 1) := ⟨cs[i], List.drop_eq_getElem_cons h⟩

theorem infoC : (Tryz.prog.info? 33).map (fun i => (i.zero, i.size, i.bytes)) = some (some (.agg #[.int .i64 0, .int .i64 0, .string ByteArray.empty, .slice none 0 0, .slice none 0 0]), 5, 80) := by kernel_rfl

set_option maxRecDepth 100000 in
set_option maxHeartbeats 1000000 in
/-- laws.szClause. -/
theorem szC_any (c : Cl) (A B : Option Addr) (cap capB lo hi : Nat) (left : Int) (w : World) (hk : KidsAt w lo hi c.kids A cap) (hkb : KidsAt w lo hi c.body B capB) (hh : hi ≤ w.heap.size) (hf : Fits c.k c.n c.s) (h0 : 0 ≤ left) (h1 : left ≤ 1048576) :
    Calls Tryz.prog 8 #[.agg #[.int .i64 c.k, .int .i64 c.n, .string c.s, .slice A c.kids.len cap, .slice B c.body.len capB], .int .i64 left] w fun e w' => e = .returned (.int .i64 (szC c left)) ∧ Below w.heap.size w w' := by
  obtain ⟨k, n, s, kids, body⟩ := c
  simp only at *
  have C1 := fun w1 (hb : Below w.heap.size w w1) => szT_any s kids k n A cap lo hi left w1 (hk.below hb hh) (Nat.le_trans hh hb.size) hf h0 h1
  have hr := szT_range s kids left h0
  have hb0 : Below w.heap.size w (w.alloc (.cells #[.int .i64 k, .int .i64 n, .string s, .slice A kids.len cap, .slice B body.len capB] 26)) := (Below.refl _ _).alloc (Nat.le_refl _) _
  have HV : Hid (szC ⟨k, n, s, kids, body⟩ left = if szT s kids left < 0 then -1 else szS body (szT s kids left)) := Lib.hid rfl
  generalize szT s kids left = r at *
  have r1 := hr.1
  have r2 := hr.2.1
  have C2 := fun w1 (hb : Below w.heap.size w w1) (h : 0 ≤ r) => szS_any body B capB lo hi r w1 (hkb.below hb hh) (Nat.le_trans hh hb.size) h (by omega)
  have H1 := Lib.hid C1
  have H2 := Lib.hid C2
  have HB0 := Lib.hid hb0
  clear C1 C2 hk hkb hf hr hb0
  by_cases hneg : r < 0
  · have HE : Hid (szC ⟨k, n, s, kids, body⟩ left = -1) := Lib.hid (by rw [HV.out, if_pos hneg])
    go_enter Tryz.func8, Tryz.ntmps8
    go_wp2_with fail
    refine (H1.out _ HB0.out).mono ?_
    rintro e w2 ⟨rfl, hb⟩
    have HB := Lib.hid (HB0.out.trans (hb.mono HB0.out.size))
    clear hb
    go_wp2_with fail
    go_ret
    rw [HE.out]
    exact ⟨rfl, HB.out⟩
  · have HE : Hid (szC ⟨k, n, s, kids, body⟩ left = szS body r) := Lib.hid (by rw [HV.out, if_neg hneg])
    have hr2 := szS_range body r (by omega)
    generalize szS body r = r' at *
    have q1 := hr2.1
    have q2 := hr2.2.1
    clear hr2
    go_enter Tryz.func8, Tryz.ntmps8
    go_wp2_with fail
    refine (H1.out _ HB0.out).mono ?_
    rintro e w2 ⟨rfl, hb⟩
    have hcell := boxed hb 4
    simp only [List.getElem?_toArray, List.getElem?_cons_zero, List.getElem?_cons_succ] at hcell
    have HB := Lib.hid (HB0.out.trans (hb.mono HB0.out.size))
    clear hb
    go_wp2_with fail
    refine (H2.out _ HB.out (by omega)).mono ?_
    rintro e w3 ⟨rfl, hb⟩
    have HB3 := Lib.hid (HB.out.trans (hb.mono HB.out.size))
    clear hb
    by_cases hneg2 : r' < 0
    · have hr1 : r' = -1 := by omega
      subst hr1
      go_wp2_with fail
      go_ret
      rw [HE.out]
      exact ⟨rfl, HB3.out⟩
    · go_wp2_with fail
      go_ret
      rw [HE.out]
      exact ⟨rfl, HB3.out⟩

set_option maxRecDepth 100000 in
set_option maxHeartbeats 2000000 in
/-- laws.szClauseS. -/
theorem szCS_any (cs : List Cl) (A : Option Addr) (cap lo hi : Nat) (left : Int) (w : World) (hk : ClS w lo hi cs A cap) (hh : hi ≤ w.heap.size) (h0 : 0 ≤ left) (h1 : left ≤ 1048576) :
    Calls Tryz.prog 13 #[.slice A cs.length cap, .int .i64 left] w fun e w' => e = .returned (.int .i64 (szCS cs left)) ∧ Below w.heap.size w w' := by
  have HK := Lib.hid hk
  have HHI := Lib.hid hh
  have hl := hk.1
  have hm := hk.2.1
  unfold maxLen at hm
  clear hk hh
  by_cases hneg : left - cs.length < 0
  · have HV : Hid (szCS cs left = -1) := Lib.hid (by unfold szCS; rw [if_pos hneg])
    generalize cs.length = len at *
    go_enter Tryz.func13, Tryz.ntmps13
    go_wp2_with fail
    go_ret
    rw [HV.out]
    exact ⟨rfl, Below.refl _ _⟩
  · have HV : Hid (szCS cs left = szCF cs (left - cs.length)) := Lib.hid (by unfold szCS; rw [if_neg hneg])
    generalize hn : cs.length = len at *
    have HN := Lib.hid hn
    clear hn
    go_enter Tryz.func13, Tryz.ntmps13
    go_wp2_with fail
    go_loopw [1, 5] (fun l i wr => ∃ (k : Nat) (z : Int), k ≤ len ∧ i = .int .i64 k ∧ l = .int .i64 z ∧ 0 ≤ z ∧ z ≤ 1048576 ∧ szCF (cs.drop k) z = szCF cs (left - len) ∧ Below w.heap.size w wr) (fun _ i _ => len - (intOf i).toNat)
    case atStart => exact ⟨0, _, Nat.zero_le _, rfl, rfl, by omega, by omega, rfl, Below.refl _ _⟩
    case round =>
      obtain ⟨k, z, hk, rfl, rfl, hz0, hz1, hsz, hb⟩ := hrel
      by_cases hlt : k < len
      · obtain ⟨c, hd⟩ := drop_cl cs k (by rw [HN.out]; exact hlt)
        obtain ⟨b, o, rfl, hlb, hbb, hrow⟩ := HK.out.2.2 (by rw [HN.out]; omega)
        obtain ⟨hfit, A', cap', B', capB', c0, c1, c2, c3, c4, hkid, hbd⟩ := ClAt.elem k cs b o hrow hd
        rw [hd] at hsz
        have hsz' : (if szC c z < 0 then -1 else szCF (cs.drop (k + 1)) (szC c z)) = szCF cs (left - len) := hsz
        have hlo : (⟨b, o, none⟩ : Addr).block < w.heap.size := Nat.lt_of_lt_of_le hbb HHI.out
        have k0 := (hb.cell (p := ⟨b, o + k * 5, none⟩) hlo).trans c0
        have k1 := (hb.cell (p := ⟨b, o + k * 5 + 1, none⟩) hlo).trans c1
        have k2 := (hb.cell (p := ⟨b, o + k * 5 + 2, none⟩) hlo).trans c2
        have k3 := (hb.cell (p := ⟨b, o + k * 5 + 3, none⟩) hlo).trans c3
        have k4 := (hb.cell (p := ⟨b, o + k * 5 + 4, none⟩) hlo).trans c4
        have C1 := szC_any c A' B' cap' capB' lo hi z wr (hkid.below hb HHI.out) (hbd.below hb HHI.out) (Nat.le_trans HHI.out hb.size) hfit hz0 hz1
        have hr := szC_range c z hz0
        generalize szC c z = r at *
        have H1 := Lib.hid C1
        have HB := Lib.hid hb
        have HS := Lib.hid hsz'
        have r1 := hr.1
        have r2 := hr.2.1
        clear C1 hb hsz hsz' hr c0 c1 c2 c3 c4 hkid hbd hrow hfit hd hlo
        obtain ⟨ck, cn, csx, ckids, cbody⟩ := c
        simp only at *
        generalize ckids.len = kl at *
        generalize cbody.len = bl at *
        by_cases hz : r < 0
        · have HE : Hid (szCF cs (left - len) = -1) := Lib.hid (by rw [← HS.out, if_pos hz])
          go_wp2_with fail
          refine H1.out.mono ?_
          rintro e w' ⟨rfl, hb2⟩
          have HB2 := Lib.hid hb2
          clear hb2
          go_wp2_with fail
          go_ret
          rw [HV.out, HE.out]
          exact ⟨rfl, HB.out.trans (HB2.out.mono HB.out.size)⟩
        · have HE : Hid (szCF (cs.drop (k + 1)) r = szCF cs (left - len)) := Lib.hid (by rw [← HS.out, if_neg hz])
          go_wp2_with fail
          refine H1.out.mono ?_
          rintro e w' ⟨rfl, hb2⟩
          have HB2 := Lib.hid hb2
          clear hb2
          go_wp2_with fail
          go_roundw
          case rel => exact ⟨k + 1, r, by omega, by go_num, rfl, by omega, by omega, HE.out, HB.out.trans (HB2.out.mono HB.out.size)⟩
          case measure => simp [intOf]; omega
      · obtain rfl : k = len := by omega
        have HE : Hid (szCF cs (left - k) = z) := Lib.hid (by
          rw [← hsz, List.drop_eq_nil_of_le (by rw [HN.out]; exact Nat.le_refl _)]; rfl)
        have HB := Lib.hid hb
        clear hb hsz
        go_wp2_with fail
        go_ret
        rw [HV.out, HE.out]
        exact ⟨rfl, HB.out⟩
end Go.Proofs.YtmgfndgmebignaaGreatDoor

/- Clauses and programs: what is valid, and the model's ClauseValid, ProgramValid. Condition: the clauses lie in memory. -/
namespace Go.Proofs.YtmgfndgmebignaaGreatDoor
open Go.RowKit

theorem nodes_wt_le (f : Fr) : nodes f ≤ f.len + wt f := by
  induction f with
  | nil => exact Nat.le_refl _
  | cons k n s kids rest h1 h2 => simp only [nodes, Fr.len, wt]; omega
def allG : Fr → Bool
  | .nil => true
  | .cons k n s kids rest => goalV k n s kids && allG rest
def goalsV (f : Fr) : Bool := decide (f.len ≤ 6) && allG f
def clauseV (c : Cl) : Bool := plainV c.k c.n c.s c.kids && goalsV c.body
def allC : List Cl → Bool
  | [] => true
  | c :: cs => clauseV c && allC cs
def progV (cs : List Cl) : Bool := decide (cs.length ≤ 20) && allC cs

theorem wtC_nodes (c : Cl) : nodes c.kids + nodes c.body ≤ wtC c := by
  have h1 := nodes_wt_le c.kids
  have h2 := nodes_wt_le c.body
  unfold wtC
  omega

set_option maxRecDepth 100000 in
set_option maxHeartbeats 2000000 in
/-- spec.ClauseValid. -/
theorem specCV_any (c : Cl) (A B : Option Addr) (cap capB lo hi : Nat) (w : World) (hk : KidsAt w lo hi c.kids A cap) (hkb : KidsAt w lo hi c.body B capB) (hh : hi ≤ w.heap.size) (hf : Fits c.k c.n c.s) (hnd : nodes c.kids ≤ 1048576) (hndb : nodes c.body ≤ 1048576) :
    Calls Tryz.prog 33 #[.agg #[.int .i64 c.k, .int .i64 c.n, .string c.s, .slice A c.kids.len cap, .slice B c.body.len capB]] w fun e w' => e = .returned (.bool (clauseV c)) ∧ Below w.heap.size w w' := by
  obtain ⟨k, n, s, kids, f⟩ := c
  simp only at *
  have hl : f.len ≤ 1048576 := by have := len_le_nodes f; omega
  have hb0 : Below w.heap.size w (w.alloc (.cells #[.int .i64 k, .int .i64 n, .string s, .slice A kids.len cap, .slice B f.len capB] 33)) := (Below.refl _ _).alloc (Nat.le_refl _) _
  have hq0 := Blk.new w 33 #[.int .i64 k, .int .i64 n, .string s, .slice A kids.len cap, .slice B f.len capB]
  have C1 := fun w1 (hb : Below w.heap.size w w1) => specValid_any k n s kids A cap lo hi w1 (hk.below hb hh) (Nat.le_trans hh hb.size) hf hnd
  have C2 := fun w1 => plain_any k n s A kids.len cap w1 hf.2.2
  have HE : Hid (clauseV ⟨k, n, s, kids, f⟩ = ((validT k n s kids && plainK k s kids.len) && (decide (f.len ≤ 6) && allG f))) := Lib.hid rfl
  generalize validT k n s kids = v1 at *
  generalize plainK k s kids.len = v2 at *
  have HKB := Lib.hid hkb
  have HHI := Lib.hid hh
  have HND := Lib.hid hndb
  have H1 := Lib.hid C1
  have H2 := Lib.hid C2
  have HB0 := Lib.hid hb0
  have HQ0 := Lib.hid hq0
  clear C1 C2 hk hkb hh hf hnd hndb hb0 hq0
  generalize kids.len = kl at *
  generalize hn : f.len = len at *
  have HN := Lib.hid hn
  clear hn
  go_enter Tryz.func33, Tryz.ntmps33
  go_wp2_with fail
  go_loopw [3] (fun i wr => ∃ (j : Nat), j ≤ len ∧ j ≤ 7 ∧ i = .int .i64 j ∧ allG (f.drop j) = allG f ∧ Below (w.alloc (.cells #[.int .i64 k, .int .i64 n, .string s, .slice A kl cap, .slice B len capB] 33)).heap.size (w.alloc (.cells #[.int .i64 k, .int .i64 n, .string s, .slice A kl cap, .slice B len capB] 33)) wr) (fun i _ => 8 - (intOf i).toNat)
  case atStart => exact ⟨0, Nat.zero_le _, by omega, rfl, rfl, Below.refl _ _⟩
  case round =>
    obtain ⟨j, hj, hj7, rfl, hall, hb⟩ := hrel
    have hq := HQ0.out.below hb HQ0.out.lt
    have a0 := hq.cell 0
    have a1 := hq.cell 1
    have a2 := hq.cell 2
    have a3 := hq.cell 3
    have a4 := hq.cell 4
    simp only [List.getElem?_toArray, List.getElem?_cons_zero, List.getElem?_cons_succ] at a0 a1 a2 a3 a4
    have hbw := HB0.out.trans (hb.mono HB0.out.size)
    have HB := Lib.hid hb
    have HBW := Lib.hid hbw
    have HA := Lib.hid hall
    have HQ := Lib.hid hq
    clear hb hall hq
    by_cases hlt : j < len
    · by_cases h6 : j ≤ 6
      · obtain ⟨kk, nn, s', kids', hd⟩ := Fr.drop_cons j f (by rw [HN.out]; exact hlt)
        obtain ⟨b, o, rfl, hlb, hbb, hrow⟩ := HKB.out.2.2 (by rw [HN.out]; omega)
        obtain ⟨hfit, A', cp, c0, c1, c2, c3, hkid⟩ := hrow.elem hd
        have hlo : (⟨b, o, none⟩ : Addr).block < w.heap.size := Nat.lt_of_lt_of_le hbb HHI.out
        have k0 := (hbw.cell (p := ⟨b, o + j * 4, none⟩) hlo).trans c0
        have k1 := (hbw.cell (p := ⟨b, o + j * 4 + 1, none⟩) hlo).trans c1
        have k2 := (hbw.cell (p := ⟨b, o + j * 4 + 2, none⟩) hlo).trans c2
        have k3 := (hbw.cell (p := ⟨b, o + j * 4 + 3, none⟩) hlo).trans c3
        have C3 := specGoal_any kk nn s' kids' A' cp lo hi wr (hkid.below hbw HHI.out) (Nat.le_trans HHI.out hbw.size) hfit (Nat.le_trans (nodes_drop_elem j f hd) HND.out)
        have hA2 := HA.out
        rw [hd] at hA2
        have hA3 : (goalV kk nn s' kids' && allG (f.drop (j + 1))) = allG f := hA2
        generalize goalV kk nn s' kids' = v at *
        have HA3 := Lib.hid hA3
        have H3 := Lib.hid C3
        clear C3 c0 c1 c2 c3 hkid hrow hfit hd hlo hA2 hA3 hbw
        cases v
        · have HV : Hid (clauseV ⟨k, n, s, kids, f⟩ = false) := Lib.hid (by rw [HE.out, ← HA3.out]; simp)
          go_wp2_with fail
          refine H3.out.mono ?_
          rintro e w3 ⟨rfl, hb3⟩
          have HB3 := Lib.hid (HBW.out.trans (hb3.mono HBW.out.size))
          clear hb3
          go_wp2_with fail
          go_ret
          rw [HV.out]; exact ⟨rfl, HB3.out⟩
        · have HA4 : Hid (allG (f.drop (j + 1)) = allG f) := Lib.hid (by rw [← HA3.out]; simp)
          go_wp2_with fail
          refine H3.out.mono ?_
          rintro e w3 ⟨rfl, hb3⟩
          have HB3 := Lib.hid (HB.out.trans (hb3.mono HB.out.size))
          clear hb3
          go_wp2_with fail
          go_roundw
          case rel => exact ⟨j + 1, by omega, by omega, by go_num, HA4.out, HB3.out⟩
          case measure => simp [intOf]; omega
      · have hlen6 : 6 < len := by omega
        have HV : Hid (clauseV ⟨k, n, s, kids, f⟩ = false) := Lib.hid (by rw [HE.out, decide_eq_false (by omega)]; simp)
        have d6 : decide ((len : Int) ≤ 6) = false := decide_eq_false (by omega)
        have e6 : decide ((j : Int) ≤ 6) = false := decide_eq_false (by omega)
        clear hbw
        go_wp2_with fail
        go_ret
        rw [HV.out]; exact ⟨rfl, HBW.out⟩
    · obtain rfl : j = len := by omega
      clear hbw
      by_cases h6 : j ≤ 6
      · have HAL : Hid (allG f = true) := Lib.hid (by
          have h1 := Fr.drop_len f
          rw [HN.out] at h1
          rw [← HA.out, h1]; rfl)
        have d6 : decide ((j : Int) ≤ 6) = true := decide_eq_true (by omega)
        cases v1
        · have HV : Hid (clauseV ⟨k, n, s, kids, f⟩ = false) := Lib.hid (by rw [HE.out]; rfl)
          go_wp2_with fail
          refine (H1.out _ HBW.out).mono ?_
          rintro e w3 ⟨rfl, hb3⟩
          have HB3 := Lib.hid (HBW.out.trans (hb3.mono HBW.out.size))
          clear hb3
          go_wp2_with fail
          go_ret
          rw [HV.out]; exact ⟨rfl, HB3.out⟩
        · have HV : Hid (clauseV ⟨k, n, s, kids, f⟩ = v2) := Lib.hid (by rw [HE.out, HAL.out, decide_eq_true h6]; simp)
          go_wp2_with fail
          refine (H1.out _ HBW.out).mono ?_
          rintro e w3 ⟨rfl, hb3⟩
          have hq3 := HQ.out.below hb3 HQ.out.lt
          have HB3 := Lib.hid (HBW.out.trans (hb3.mono HBW.out.size))
          clear hb3 a0 a1 a2 a3 a4
          have a0 := hq3.cell 0
          have a1 := hq3.cell 1
          have a2 := hq3.cell 2
          have a3 := hq3.cell 3
          simp only [List.getElem?_toArray, List.getElem?_cons_zero, List.getElem?_cons_succ] at a0 a1 a2 a3
          clear hq3
          go_wp2_with fail
          refine (H2.out _).mono ?_
          rintro e w4 ⟨rfl, hb4⟩
          have HB4 := Lib.hid (HB3.out.trans (hb4.mono HB3.out.size))
          clear hb4
          go_wp2_with fail
          go_ret
          rw [HV.out]; exact ⟨rfl, HB4.out⟩
      · have HV : Hid (clauseV ⟨k, n, s, kids, f⟩ = false) := Lib.hid (by rw [HE.out, decide_eq_false h6]; simp)
        have d6 : decide ((j : Int) ≤ 6) = false := decide_eq_false (by omega)
        go_wp2_with fail
        go_ret
        rw [HV.out]; exact ⟨rfl, HBW.out⟩

set_option maxRecDepth 100000 in
set_option maxHeartbeats 2000000 in
/-- spec.ProgramValid. -/
theorem specPV_any (cs : List Cl) (A : Option Addr) (cap lo hi : Nat) (w : World) (hk : ClS w lo hi cs A cap) (hh : hi ≤ w.heap.size) (hnd : cs.length + wtCs cs ≤ 1048576) :
    Calls Tryz.prog 41 #[.slice A cs.length cap] w fun e w' => e = .returned (.bool (progV cs)) ∧ Below w.heap.size w w' := by
  have hl : cs.length ≤ 1048576 := by omega
  have HE : Hid (progV cs = (decide (cs.length ≤ 20) && allC cs)) := Lib.hid rfl
  have HK := Lib.hid hk
  have HHI := Lib.hid hh
  have HND := Lib.hid hnd
  clear hk hh hnd
  generalize hn : cs.length = len at *
  have HN := Lib.hid hn
  clear hn
  go_enter Tryz.func41, Tryz.ntmps41
  go_wp2_with fail
  go_loopw [3] (fun i wr => ∃ (j : Nat), j ≤ len ∧ j ≤ 21 ∧ i = .int .i64 j ∧ allC (cs.drop j) = allC cs ∧ Below w.heap.size w wr) (fun i _ => 22 - (intOf i).toNat)
  case atStart => exact ⟨0, Nat.zero_le _, by omega, rfl, rfl, Below.refl _ _⟩
  case round =>
    obtain ⟨j, hj, hj7, rfl, hall, hbw⟩ := hrel
    have HBW := Lib.hid hbw
    have HA := Lib.hid hall
    clear hall
    by_cases hlt : j < len
    · by_cases h6 : j ≤ 20
      · obtain ⟨c, hd⟩ := drop_cl cs j (by rw [HN.out]; exact hlt)
        obtain ⟨b, o, rfl, hlb, hbb, hrow⟩ := HK.out.2.2 (by rw [HN.out]; omega)
        obtain ⟨hfit, A', cap', B', capB', c0, c1, c2, c3, c4, hkid, hbd⟩ := ClAt.elem j cs b o hrow hd
        have hlo : (⟨b, o, none⟩ : Addr).block < w.heap.size := Nat.lt_of_lt_of_le hbb HHI.out
        have k0 := (hbw.cell (p := ⟨b, o + j * 5, none⟩) hlo).trans c0
        have k1 := (hbw.cell (p := ⟨b, o + j * 5 + 1, none⟩) hlo).trans c1
        have k2 := (hbw.cell (p := ⟨b, o + j * 5 + 2, none⟩) hlo).trans c2
        have k3 := (hbw.cell (p := ⟨b, o + j * 5 + 3, none⟩) hlo).trans c3
        have k4 := (hbw.cell (p := ⟨b, o + j * 5 + 4, none⟩) hlo).trans c4
        have hwe := wtC_le cs j hd
        have hw1 := wtC_nodes c
        have C3 := specCV_any c A' B' cap' capB' lo hi wr (hkid.below hbw HHI.out) (hbd.below hbw HHI.out) (Nat.le_trans HHI.out hbw.size) hfit (by have := HND.out; omega) (by have := HND.out; omega)
        have hA2 := HA.out
        rw [hd] at hA2
        have hA3 : (clauseV c && allC (cs.drop (j + 1))) = allC cs := hA2
        generalize clauseV c = v at *
        have HA3 := Lib.hid hA3
        have H3 := Lib.hid C3
        clear C3 c0 c1 c2 c3 c4 hkid hbd hrow hfit hd hlo hA2 hA3 hbw hwe hw1
        obtain ⟨ck, cn, csx, ckids, cbody⟩ := c
        simp only at *
        cases v
        · have HV : Hid (progV cs = false) := Lib.hid (by rw [HE.out, ← HA3.out]; simp)
          go_wp2_with fail
          refine H3.out.mono ?_
          rintro e w3 ⟨rfl, hb3⟩
          have HB3 := Lib.hid (HBW.out.trans (hb3.mono HBW.out.size))
          clear hb3
          go_wp2_with fail
          go_ret
          rw [HV.out]; exact ⟨rfl, HB3.out⟩
        · have HA4 : Hid (allC (cs.drop (j + 1)) = allC cs) := Lib.hid (by rw [← HA3.out]; simp)
          go_wp2_with fail
          refine H3.out.mono ?_
          rintro e w3 ⟨rfl, hb3⟩
          have HB3 := Lib.hid (HBW.out.trans (hb3.mono HBW.out.size))
          clear hb3
          go_wp2_with fail
          go_roundw
          case rel => exact ⟨j + 1, by omega, by omega, by go_num, HA4.out, HB3.out⟩
          case measure => simp [intOf]; omega
      · have HV : Hid (progV cs = false) := Lib.hid (by rw [HE.out, decide_eq_false (by omega)]; simp)
        have d6 : decide ((len : Int) ≤ 20) = false := decide_eq_false (by omega)
        have e6 : decide ((j : Int) ≤ 20) = false := decide_eq_false (by omega)
        clear hbw
        go_wp2_with fail
        go_ret
        rw [HV.out]; exact ⟨rfl, HBW.out⟩
    · obtain rfl : j = len := by omega
      clear hbw
      have HAL : Hid (allC cs = true) := Lib.hid (by
        rw [← HA.out, List.drop_eq_nil_of_le (by rw [HN.out]; exact Nat.le_refl _)]; rfl)
      by_cases h6 : j ≤ 20
      · have HV : Hid (progV cs = true) := Lib.hid (by rw [HE.out, HAL.out, decide_eq_true h6]; rfl)
        have d6 : decide ((j : Int) ≤ 20) = true := decide_eq_true (by omega)
        go_wp2_with fail
        go_ret
        rw [HV.out]; exact ⟨rfl, HBW.out⟩
      · have HV : Hid (progV cs = false) := Lib.hid (by rw [HE.out, decide_eq_false h6]; rfl)
        have d6 : decide ((j : Int) ≤ 20) = false := decide_eq_false (by omega)
        go_wp2_with fail
        go_ret
        rw [HV.out]; exact ⟨rfl, HBW.out⟩
end Go.Proofs.YtmgfndgmebignaaGreatDoor

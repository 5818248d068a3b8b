/- IsBuiltin: the model's and the program's; impl.isOperator. Condition: the table of operators lies in its variable. -/
import Derived.Test.YtlapdnllncoomaaDoorProg
import Derived.Test.YtlapdnllncoomaaDoorOpA
import Derived.Test.YtlapdnllncoomaaDoorNvWalks
namespace Go.Proofs.YtlapdnllncoomaaDoor
open Go.RowKit

/-- The goals that are built in: name, number of arguments. -/
def biTab : List (List UInt8 × Int) := [([61], 2), ([92, 61], 2), ([61, 61], 2), ([60], 2), ([62], 2), ([61, 60], 2), ([62, 61], 2), ([61, 58, 61], 2), ([105, 115], 2), ([116, 114, 117, 101], 0), ([102, 97, 105, 108], 0), ([118, 97, 114], 1), ([110, 111, 110, 118, 97, 114], 1), ([97, 116, 111, 109], 1), ([105, 110, 116], 1), ([97, 114, 103], 3)]
def biB (l : List UInt8) (a : Int) : Bool := match biTab.find? (fun r => r.1 == l) with
  | some r => a == r.2
  | none => false
theorem biB_at (r : List UInt8 × Int) (hr : r ∈ biTab) (a : Int) : biB r.1 a = (a == r.2) := by
  simp only [biTab, List.mem_cons, List.not_mem_nil, or_false] at hr
  rcases hr with rfl | rfl | rfl | rfl | rfl | rfl | rfl | rfl | rfl | rfl | rfl | rfl | rfl | rfl | rfl | rfl <;> rfl
theorem biB_no (l : List UInt8) (h : ∀ r ∈ biTab, r.1 ≠ l) (a : Int) : biB l a = false := by
  unfold biB
  rw [List.find?_eq_none.2 (fun r hr => by simpa using h r hr)]

set_option maxRecDepth 100000 in
set_option maxHeartbeats 1000000 in
/-- spec.IsBuiltin. -/
theorem specBi_any (s : ByteArray) (a : Int) (w : World) :
    Calls Tryd.prog 62 #[.string s, .int .i64 a] w fun e w' => e = .returned (.bool (biB s.data.toList a)) ∧ w = w' := by
  have hl := ByteArray.toList_eq s
  by_cases h : ∃ r ∈ biTab, r.1 = s.data.toList
  · obtain ⟨r, hr, hs⟩ := h
    have HV : Hid (biB s.data.toList a = (a == r.2)) := Lib.hid (by rw [← hs]; exact biB_at r hr a)
    rw [← hs] at hl
    clear hs
    simp only [biTab, List.mem_cons, List.not_mem_nil, or_false] at hr
    rcases hr with rfl | rfl | rfl | rfl | rfl | rfl | rfl | rfl | rfl | rfl | rfl | rfl | rfl | rfl | rfl | rfl
    all_goals
      have HL := Lib.hid hl
      clear hl
      have t0 : (s.toList == [61]) = _ := congrArg (fun l => l == ([61] : List UInt8)) HL.out
      have t1 : (s.toList == [92, 61]) = _ := congrArg (fun l => l == ([92, 61] : List UInt8)) HL.out
      have t2 : (s.toList == [61, 61]) = _ := congrArg (fun l => l == ([61, 61] : List UInt8)) HL.out
      have t3 : (s.toList == [60]) = _ := congrArg (fun l => l == ([60] : List UInt8)) HL.out
      have t4 : (s.toList == [62]) = _ := congrArg (fun l => l == ([62] : List UInt8)) HL.out
      have t5 : (s.toList == [61, 60]) = _ := congrArg (fun l => l == ([61, 60] : List UInt8)) HL.out
      have t6 : (s.toList == [62, 61]) = _ := congrArg (fun l => l == ([62, 61] : List UInt8)) HL.out
      have t7 : (s.toList == [61, 58, 61]) = _ := congrArg (fun l => l == ([61, 58, 61] : List UInt8)) HL.out
      have t8 : (s.toList == [105, 115]) = _ := congrArg (fun l => l == ([105, 115] : List UInt8)) HL.out
      have t9 : (s.toList == [116, 114, 117, 101]) = _ := congrArg (fun l => l == ([116, 114, 117, 101] : List UInt8)) HL.out
      have t10 : (s.toList == [102, 97, 105, 108]) = _ := congrArg (fun l => l == ([102, 97, 105, 108] : List UInt8)) HL.out
      have t11 : (s.toList == [118, 97, 114]) = _ := congrArg (fun l => l == ([118, 97, 114] : List UInt8)) HL.out
      have t12 : (s.toList == [110, 111, 110, 118, 97, 114]) = _ := congrArg (fun l => l == ([110, 111, 110, 118, 97, 114] : List UInt8)) HL.out
      have t13 : (s.toList == [97, 116, 111, 109]) = _ := congrArg (fun l => l == ([97, 116, 111, 109] : List UInt8)) HL.out
      have t14 : (s.toList == [105, 110, 116]) = _ := congrArg (fun l => l == ([105, 110, 116] : List UInt8)) HL.out
      have t15 : (s.toList == [97, 114, 103]) = _ := congrArg (fun l => l == ([97, 114, 103] : List UInt8)) HL.out
      go_enter Tryd.func62, Tryd.ntmps62
      go_wp2_with fail
      go_ret
      rw [HV.out]; exact ⟨rfl, rfl⟩
  · have HV : Hid (biB s.data.toList a = false) := Lib.hid (biB_no _ (fun r hr e => h ⟨r, hr, e⟩) a)
    have t0 : (s.toList == [61]) = false := by rw [hl, beq_eq_false_iff_ne]; exact fun e => h ⟨([61], 2), by simp [biTab], e.symm⟩
    have t1 : (s.toList == [92, 61]) = false := by rw [hl, beq_eq_false_iff_ne]; exact fun e => h ⟨([92, 61], 2), by simp [biTab], e.symm⟩
    have t2 : (s.toList == [61, 61]) = false := by rw [hl, beq_eq_false_iff_ne]; exact fun e => h ⟨([61, 61], 2), by simp [biTab], e.symm⟩
    have t3 : (s.toList == [60]) = false := by rw [hl, beq_eq_false_iff_ne]; exact fun e => h ⟨([60], 2), by simp [biTab], e.symm⟩
    have t4 : (s.toList == [62]) = false := by rw [hl, beq_eq_false_iff_ne]; exact fun e => h ⟨([62], 2), by simp [biTab], e.symm⟩
    have t5 : (s.toList == [61, 60]) = false := by rw [hl, beq_eq_false_iff_ne]; exact fun e => h ⟨([61, 60], 2), by simp [biTab], e.symm⟩
    have t6 : (s.toList == [62, 61]) = false := by rw [hl, beq_eq_false_iff_ne]; exact fun e => h ⟨([62, 61], 2), by simp [biTab], e.symm⟩
    have t7 : (s.toList == [61, 58, 61]) = false := by rw [hl, beq_eq_false_iff_ne]; exact fun e => h ⟨([61, 58, 61], 2), by simp [biTab], e.symm⟩
    have t8 : (s.toList == [105, 115]) = false := by rw [hl, beq_eq_false_iff_ne]; exact fun e => h ⟨([105, 115], 2), by simp [biTab], e.symm⟩
    have t9 : (s.toList == [116, 114, 117, 101]) = false := by rw [hl, beq_eq_false_iff_ne]; exact fun e => h ⟨([116, 114, 117, 101], 0), by simp [biTab], e.symm⟩
    have t10 : (s.toList == [102, 97, 105, 108]) = false := by rw [hl, beq_eq_false_iff_ne]; exact fun e => h ⟨([102, 97, 105, 108], 0), by simp [biTab], e.symm⟩
    have t11 : (s.toList == [118, 97, 114]) = false := by rw [hl, beq_eq_false_iff_ne]; exact fun e => h ⟨([118, 97, 114], 1), by simp [biTab], e.symm⟩
    have t12 : (s.toList == [110, 111, 110, 118, 97, 114]) = false := by rw [hl, beq_eq_false_iff_ne]; exact fun e => h ⟨([110, 111, 110, 118, 97, 114], 1), by simp [biTab], e.symm⟩
    have t13 : (s.toList == [97, 116, 111, 109]) = false := by rw [hl, beq_eq_false_iff_ne]; exact fun e => h ⟨([97, 116, 111, 109], 1), by simp [biTab], e.symm⟩
    have t14 : (s.toList == [105, 110, 116]) = false := by rw [hl, beq_eq_false_iff_ne]; exact fun e => h ⟨([105, 110, 116], 1), by simp [biTab], e.symm⟩
    have t15 : (s.toList == [97, 114, 103]) = false := by rw [hl, beq_eq_false_iff_ne]; exact fun e => h ⟨([97, 114, 103], 3), by simp [biTab], e.symm⟩
    clear hl h
    go_enter Tryd.func62, Tryd.ntmps62
    go_wp2_with fail
    go_ret
    rw [HV.out]; exact ⟨rfl, rfl⟩

set_option maxRecDepth 100000 in
set_option maxHeartbeats 1000000 in
/-- impl.IsBuiltin. -/
theorem implBi_any (s : ByteArray) (a : Int) (w : World) :
    Calls Tryd.prog 89 #[.string s, .int .i64 a] w fun e w' => e = .returned (.bool (biB s.data.toList a)) ∧ w = w' := by
  have hl := ByteArray.toList_eq s
  by_cases h : ∃ r ∈ biTab, r.1 = s.data.toList
  · obtain ⟨r, hr, hs⟩ := h
    have HV : Hid (biB s.data.toList a = (a == r.2)) := Lib.hid (by rw [← hs]; exact biB_at r hr a)
    rw [← hs] at hl
    clear hs
    simp only [biTab, List.mem_cons, List.not_mem_nil, or_false] at hr
    rcases hr with rfl | rfl | rfl | rfl | rfl | rfl | rfl | rfl | rfl | rfl | rfl | rfl | rfl | rfl | rfl | rfl
    all_goals
      have HL := Lib.hid hl
      clear hl
      have t0 : (s.toList == [61]) = _ := congrArg (fun l => l == ([61] : List UInt8)) HL.out
      have t1 : (s.toList == [92, 61]) = _ := congrArg (fun l => l == ([92, 61] : List UInt8)) HL.out
      have t2 : (s.toList == [61, 61]) = _ := congrArg (fun l => l == ([61, 61] : List UInt8)) HL.out
      have t3 : (s.toList == [60]) = _ := congrArg (fun l => l == ([60] : List UInt8)) HL.out
      have t4 : (s.toList == [62]) = _ := congrArg (fun l => l == ([62] : List UInt8)) HL.out
      have t5 : (s.toList == [61, 60]) = _ := congrArg (fun l => l == ([61, 60] : List UInt8)) HL.out
      have t6 : (s.toList == [62, 61]) = _ := congrArg (fun l => l == ([62, 61] : List UInt8)) HL.out
      have t7 : (s.toList == [61, 58, 61]) = _ := congrArg (fun l => l == ([61, 58, 61] : List UInt8)) HL.out
      have t8 : (s.toList == [105, 115]) = _ := congrArg (fun l => l == ([105, 115] : List UInt8)) HL.out
      have t9 : (s.toList == [116, 114, 117, 101]) = _ := congrArg (fun l => l == ([116, 114, 117, 101] : List UInt8)) HL.out
      have t10 : (s.toList == [102, 97, 105, 108]) = _ := congrArg (fun l => l == ([102, 97, 105, 108] : List UInt8)) HL.out
      have t11 : (s.toList == [118, 97, 114]) = _ := congrArg (fun l => l == ([118, 97, 114] : List UInt8)) HL.out
      have t12 : (s.toList == [110, 111, 110, 118, 97, 114]) = _ := congrArg (fun l => l == ([110, 111, 110, 118, 97, 114] : List UInt8)) HL.out
      have t13 : (s.toList == [97, 116, 111, 109]) = _ := congrArg (fun l => l == ([97, 116, 111, 109] : List UInt8)) HL.out
      have t14 : (s.toList == [105, 110, 116]) = _ := congrArg (fun l => l == ([105, 110, 116] : List UInt8)) HL.out
      have t15 : (s.toList == [97, 114, 103]) = _ := congrArg (fun l => l == ([97, 114, 103] : List UInt8)) HL.out
      go_enter Tryd.func89, Tryd.ntmps89
      go_wp2_with fail
      go_ret
      rw [HV.out]; exact ⟨rfl, rfl⟩
  · have HV : Hid (biB s.data.toList a = false) := Lib.hid (biB_no _ (fun r hr e => h ⟨r, hr, e⟩) a)
    have t0 : (s.toList == [61]) = false := by rw [hl, beq_eq_false_iff_ne]; exact fun e => h ⟨([61], 2), by simp [biTab], e.symm⟩
    have t1 : (s.toList == [92, 61]) = false := by rw [hl, beq_eq_false_iff_ne]; exact fun e => h ⟨([92, 61], 2), by simp [biTab], e.symm⟩
    have t2 : (s.toList == [61, 61]) = false := by rw [hl, beq_eq_false_iff_ne]; exact fun e => h ⟨([61, 61], 2), by simp [biTab], e.symm⟩
    have t3 : (s.toList == [60]) = false := by rw [hl, beq_eq_false_iff_ne]; exact fun e => h ⟨([60], 2), by simp [biTab], e.symm⟩
    have t4 : (s.toList == [62]) = false := by rw [hl, beq_eq_false_iff_ne]; exact fun e => h ⟨([62], 2), by simp [biTab], e.symm⟩
    have t5 : (s.toList == [61, 60]) = false := by rw [hl, beq_eq_false_iff_ne]; exact fun e => h ⟨([61, 60], 2), by simp [biTab], e.symm⟩
    have t6 : (s.toList == [62, 61]) = false := by rw [hl, beq_eq_false_iff_ne]; exact fun e => h ⟨([62, 61], 2), by simp [biTab], e.symm⟩
    have t7 : (s.toList == [61, 58, 61]) = false := by rw [hl, beq_eq_false_iff_ne]; exact fun e => h ⟨([61, 58, 61], 2), by simp [biTab], e.symm⟩
    have t8 : (s.toList == [105, 115]) = false := by rw [hl, beq_eq_false_iff_ne]; exact fun e => h ⟨([105, 115], 2), by simp [biTab], e.symm⟩
    have t9 : (s.toList == [116, 114, 117, 101]) = false := by rw [hl, beq_eq_false_iff_ne]; exact fun e => h ⟨([116, 114, 117, 101], 0), by simp [biTab], e.symm⟩
    have t10 : (s.toList == [102, 97, 105, 108]) = false := by rw [hl, beq_eq_false_iff_ne]; exact fun e => h ⟨([102, 97, 105, 108], 0), by simp [biTab], e.symm⟩
    have t11 : (s.toList == [118, 97, 114]) = false := by rw [hl, beq_eq_false_iff_ne]; exact fun e => h ⟨([118, 97, 114], 1), by simp [biTab], e.symm⟩
    have t12 : (s.toList == [110, 111, 110, 118, 97, 114]) = false := by rw [hl, beq_eq_false_iff_ne]; exact fun e => h ⟨([110, 111, 110, 118, 97, 114], 1), by simp [biTab], e.symm⟩
    have t13 : (s.toList == [97, 116, 111, 109]) = false := by rw [hl, beq_eq_false_iff_ne]; exact fun e => h ⟨([97, 116, 111, 109], 1), by simp [biTab], e.symm⟩
    have t14 : (s.toList == [105, 110, 116]) = false := by rw [hl, beq_eq_false_iff_ne]; exact fun e => h ⟨([105, 110, 116], 1), by simp [biTab], e.symm⟩
    have t15 : (s.toList == [97, 114, 103]) = false := by rw [hl, beq_eq_false_iff_ne]; exact fun e => h ⟨([97, 114, 103], 3), by simp [biTab], e.symm⟩
    clear hl h
    go_enter Tryd.func89, Tryd.ntmps89
    go_wp2_with fail
    go_ret
    rw [HV.out]; exact ⟨rfl, rfl⟩

/-- An operator's name. -/
def opB (l : List UInt8) : Bool := op.tab.any fun r => r.1 == l
theorem opB_level (l : List UInt8) : opB l = !(op.level l == 0) := by
  unfold opB
  by_cases h : ∃ r ∈ op.tab, r.1 = l
  · obtain ⟨r, hr, rfl⟩ := h
    have h1 : op.level r.1 ≠ 0 := by
      rw [op.level_at r hr]
      have all : ∀ r ∈ op.tab, r.2.2 ≠ 0 := by decide
      exact all r hr
    rw [List.any_eq_true.2 ⟨r, hr, by simp⟩]
    simp [h1]
  · have hn : ∀ r ∈ op.tab, r.1 ≠ l := fun r hr e => h ⟨r, hr, e⟩
    rw [op.level_no l hn]
    rw [show (op.tab.any fun r => r.1 == l) = false by rw [← Bool.not_eq_true, List.any_eq_true]; rintro ⟨r, hr, e⟩; exact hn r hr (by simpa using e)]
    rfl
theorem opB_no (l : List UInt8) (h : ∀ j, j < 14 → (op.nm j).data.toList ≠ l) : opB l = false := by
  unfold opB
  rw [← Bool.not_eq_true, List.any_eq_true]
  rintro ⟨r, hr, e⟩
  obtain ⟨j, hj, rfl⟩ := List.mem_iff_getElem.1 hr
  refine h j hj ?_
  have e' : op.tab[j].1 = l := by simpa using e
  rw [← e']
  simp [op.nm, List.getD, hj]
theorem opB_yes (l : List UInt8) (j : Nat) (hj : j < 14) (h : (op.nm j).data.toList = l) : opB l = true := by
  unfold opB
  have hj' : j < op.tab.length := hj
  refine List.any_eq_true.2 ⟨op.tab[j], List.getElem_mem _, ?_⟩
  rw [← h]
  simp [op.nm, List.getD, hj']

set_option maxRecDepth 100000 in
/-- impl.isOperator. -/
theorem isOp_any (s : ByteArray) (w : World) (ht : op.OpTab w) :
    Calls Tryd.prog 91 #[.string s] w fun e w' => e = .returned (.bool (opB s.data.toList)) ∧ Below w.heap.size w w' := by
  obtain ⟨tt, fr, htab⟩ := ht
  have HT := Lib.hid htab
  have hl := ByteArray.toList_eq s
  have HL := Lib.hid hl
  clear htab hl
  go_enter Tryd.func91, Tryd.ntmps91
  go_wp2_with (refine wpList_load_row rfl 149 _ rfl 2 rfl tt _ fr _ HT.out Tryd.underlying149 rfl (by kernel_rfl) ?_)
  go_loopw [6] (fun i wr => ∃ k : Nat, k ≤ 14 ∧ i = .int .i64 k ∧ (∀ j, j < k → (op.nm j).data.toList ≠ s.data.toList) ∧ Below w.heap.size w wr) (fun i _ => 14 - (intOf i).toNat)
  case atStart => exact ⟨0, Nat.zero_le _, rfl, fun j h => absurd h (Nat.not_lt_zero j), Below.refl _ _⟩
  case round =>
    obtain ⟨k, hk, rfl, hno, hbw⟩ := hrel
    have HN := Lib.hid hno
    have HB := Lib.hid hbw
    clear hno hbw
    by_cases h14 : k < 14
    · have hx := fun w => op.index_op k h14 w
      have hy := opB_yes s.data.toList k h14
      have HY := Lib.hid hy
      have hnx : (op.nm k).data.toList ≠ s.data.toList → ∀ j, j < k + 1 → (op.nm j).data.toList ≠ s.data.toList := fun h j hj => by
        rcases Nat.lt_succ_iff_lt_or_eq.1 hj with h1 | h1
        · exact HN.out j h1
        · subst h1; exact h
      have HNX := Lib.hid hnx
      have hla := ByteArray.toList_eq (op.nm k)
      have HLA := Lib.hid hla
      have him : (k : Int) < 14 := by omega
      clear hy hnx hla
      generalize op.nm k = a at *
      generalize op.tx k = b at *
      generalize op.lv k = l at *
      by_cases heq : a.data.toList = s.data.toList
      · have t1 : (a.toList == s.toList) = true := by rw [HLA.out, HL.out, heq, beq_self_eq_true]
        have HV : Hid (opB s.data.toList = true) := Lib.hid (HY.out heq)
        clear heq
        go_wp2_with fail
        go_ret
        rw [HV.out]
        exact ⟨rfl, by first | exact HB.out | exact HB.out.alloc HB.out.size _⟩
      · have t1 : (a.toList == s.toList) = false := by rw [HLA.out, HL.out, beq_eq_false_iff_ne]; exact heq
        have HNX2 := Lib.hid (HNX.out heq)
        clear heq
        go_wp2_with fail
        go_roundw
        case rel => exact ⟨k + 1, by omega, by go_num, HNX2.out, by first | exact HB.out | exact HB.out.alloc HB.out.size _⟩
        case measure => simp [intOf]; omega
    · obtain rfl : k = 14 := by omega
      have HV : Hid (opB s.data.toList = false) := Lib.hid (opB_no _ HN.out)
      go_wp2_with fail
      go_ret
      rw [HV.out]
      exact ⟨rfl, HB.out⟩
end Go.Proofs.YtlapdnllncoomaaDoor

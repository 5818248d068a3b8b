/- spec.l3Apply. Condition: term and bindings lie in memory and are well-formed. -/
import Derived.Test.YtohkpgpcipjpkaaGreatDoorProg
import Derived.Test.YtohkpgpcipjpkaaGreatDoorApF
import Derived.Test.YtohkpgpcipjpkaaGreatDoorSpecC
import Derived.Test.YtohkpgpcipjpkaaGreatDoorTb
import Derived.Test.YtohkpgpcipjpkaaGreatDoorOpA
import Derived.Test.YtohkpgpcipjpkaaGreatDoorNvWalks
import Derived.Test.YtohkpgpcipjpkaaGreatDoorSpecV
import Derived.Test.YtohkpgpcipjpkaaGreatDoorImplV
import Derived.Test.YtohkpgpcipjpkaaGreatDoorAs
namespace Go.Proofs.YtohkpgpcipjpkaaGreatDoor
open Go.RowKit

theorem apT_var {ns : List Int} {g : Fr} {n : Int} {s : ByteArray} {f : Fr} : apT ns g 1 n s f = (fdB ns g n).getD ⟨1, n, ⟨#[]⟩, .nil⟩ := by
  unfold apT rpT apO
  rw [if_pos rfl]
theorem apT_other {ns : List Int} {g : Fr} {k n : Int} {s : ByteArray} {f : Fr} (h : k ≠ 1) : apT ns g k n s f = ⟨k, n, s, apF ns g f⟩ := by
  unfold apT rpT apF
  rw [if_neg h]
/-- The result's box is written, the copy lies behind it. -/
theorem made_rc {w w3 wk : World} {H : Nat} {f : Fr} {A : Option Addr} {cap : Nat} (h : RC w H w3) (hm : Made w3 f A cap wk) (x0 x1 x2 x3 : Value) : Made w f A cap ((((wk.setCell ⟨H, 0, none⟩ x0).setCell ⟨H, 1, none⟩ x1).setCell ⟨H, 2, none⟩ x2).setCell ⟨H, 3, none⟩ x3) := by
  have hl := h.1.lt
  have hb := made_below hm
  obtain ⟨L, h1, h2, h3, _⟩ := hm
  exact made_set4 ⟨L, h1, h2, h3⟩ (h.below hb).2.2 h.2.1 hl _ _ _ _

end Go.Proofs.YtohkpgpcipjpkaaGreatDoor

/- spec.ApplyBinds. Condition: term and bindings lie in memory. -/
namespace Go.Proofs.YtohkpgpcipjpkaaGreatDoor
open Go.RowKit

/-- What both ApplyBinds answer. -/
def apB (ns : List Int) (g : Fr) (k n : Int) (s : ByteArray) (f : Fr) : Bool := validT k n s f && (allB g && vtB (apT ns g k n s f))
def apR (ns : List Int) (g : Fr) (k n : Int) (s : ByteArray) (f : Fr) : Nd := if apB ns g k n s f = true then apT ns g k n s f else nd0
theorem apB_bad {ns : List Int} {g : Fr} {k n : Int} {s : ByteArray} {f : Fr} (h : validT k n s f = false ∨ allB g = false) : apB ns g k n s f = false ∧ apR ns g k n s f = nd0 := by
  have e : apB ns g k n s f = false := by
    unfold apB
    rcases h with h | h
    · rw [h]; rfl
    · rw [h]; simp
  exact ⟨e, by unfold apR; rw [e]; rfl⟩
theorem apB_good {ns : List Int} {g : Fr} {k n : Int} {s : ByteArray} {f : Fr} (h : validT k n s f = true) (ha : allB g = true) : apB ns g k n s f = vtB (apT ns g k n s f) ∧ apR ns g k n s f = vtF (apT ns g k n s f) := by
  have e : apB ns g k n s f = vtB (apT ns g k n s f) := by
    unfold apB
    rw [h, ha]; rfl
  exact ⟨e, by unfold apR vtF; rw [e]⟩
theorem allB_cons (k n : Int) (s : ByteArray) (kids rest : Fr) : allB (.cons k n s kids rest) = (validT k n s kids && allB rest) := rfl
theorem apF_nodes {ns : List Int} {g : Fr} (ha : allB g = true) (f : Fr) : ∀ d, shapeF f d = true → nodes (apF ns g f) ≤ 120 * nodes f := by
  induction f with
  | nil => intro d _; exact Nat.le_refl _
  | cons k n s kids rest ihk ihr =>
    intro d h
    rw [shapeF_cons, Bool.and_eq_true] at h
    have h2 := ihr d h.2
    rw [apF_cons]
    by_cases hk : k = 1
    · subst hk
      have h3 := (validT_fits (apO_good (ns := ns) ha h.1)).2.2
      have e : apT ns g 1 n s kids = apO ns g () n := by unfold apT rpT; rw [if_pos rfl]
      rw [e]
      simp only [nodes]
      omega
    · rw [apT_other hk]
      have h3 := ihk (d - 1) (shapeT_kids h.1)
      simp only [nodes]
      omega
theorem apT_nodes {ns : List Int} {g : Fr} (ha : allB g = true) {k n d : Int} {s : ByteArray} {f : Fr} (h : shapeT k n s f d = true) : nodes (apT ns g k n s f).f ≤ 120 * (1 + nodes f) := by
  by_cases hk : k = 1
  · subst hk
    have h3 := (validT_fits (apO_good (ns := ns) ha h)).2.2
    have e : apT ns g 1 n s f = apO ns g () n := by unfold apT rpT; rw [if_pos rfl]
    rw [e]
    omega
  · rw [apT_other hk]
    have h3 := apF_nodes (ns := ns) ha f (d - 1) (shapeT_kids h)
    show nodes (apF ns g f) ≤ _
    omega

/-- The boxes of the argument and of the result. -/
def ApQ (w : World) (k n : Int) (s : ByteArray) (len : Nat) (A : Option Addr) (cap : Nat) (wr : World) : Prop := RC w (w.heap.size + 1) wr ∧ Blk wr w.heap.size 44 #[.int .i64 k, .int .i64 n, .string s, .slice A len cap]
theorem ApQ.below {w wr w' : World} {k n : Int} {s : ByteArray} {len : Nat} {A : Option Addr} {cap : Nat} (h : ApQ w k n s len A cap wr) (hb : Below wr.heap.size wr w') : ApQ w k n s len A cap w' := ⟨h.1.below hb, h.2.below hb h.2.lt⟩

end Go.Proofs.YtohkpgpcipjpkaaGreatDoor

/- IsBuiltin: the model's and the program's; impl.isOperator. Condition: the table of operators lies in its variable. -/
namespace Go.Proofs.YtohkpgpcipjpkaaGreatDoor
open Go.RowKit

/-- The goals that are built in: name, number of arguments. -/
def biTab : List (List UInt8 × Int) := [([61], 2), ([92, 61], 2), ([61, 61], 2), ([60], 2), ([62], 2), ([61, 60], 2), ([62, 61], 2), ([61, 58, 61], 2), ([105, 115], 2), ([116, 114, 117, 101], 0), ([102, 97, 105, 108], 0), ([118, 97, 114], 1), ([110, 111, 110, 118, 97, 114], 1), ([97, 116, 111, 109], 1), ([105, 110, 116], 1), ([97, 114, 103], 3)]
def biB (l : List UInt8) (a : Int) : Bool := match biTab.find? (fun r => r.1 == l) with
  | some r => a == r.2
  | none => false
theorem biB_at (r : List UInt8 × Int) (hr : r ∈ biTab) (a : Int) : biB r.1 a = (a == r.2) := by
  simp only [biTab, List.mem_cons, List.not_mem_nil, or_false] at hr
  rcases hr with rfl | rfl | rfl | rfl | rfl | rfl | rfl | rfl | rfl | rfl | rfl | rfl | rfl | rfl | rfl | rfl <;> rfl
theorem biB_no (l : List UInt8) (h : ∀ r ∈ biTab, r.1 ≠ l) (a : Int) : biB l a = false := by
  unfold biB
  rw [List.find?_eq_none.2 (fun r hr => by simpa using h r hr)]

set_option maxRecDepth 100000 in
set_option maxHeartbeats 1000000 in
/-- spec.IsBuiltin. -/
theorem specBi_any (s : ByteArray) (a : Int) (w : World) :
    Calls Tryz.prog 63 #[.string s, .int .i64 a] w fun e w' => e = .returned (.bool (biB s.data.toList a)) ∧ w = w' := by
  have hl := ByteArray.toList_eq s
  by_cases h : ∃ r ∈ biTab, r.1 = s.data.toList
  · obtain ⟨r, hr, hs⟩ := h
    have HV : Hid (biB s.data.toList a = (a == r.2)) := Lib.hid (by rw [← hs]; exact biB_at r hr a)
    rw [← hs] at hl
    clear hs
    simp only [biTab, List.mem_cons, List.not_mem_nil, or_false] at hr
    rcases hr with rfl | rfl | rfl | rfl | rfl | rfl | rfl | rfl | rfl | rfl | rfl | rfl | rfl | rfl | rfl | rfl
    all_goals
      have HL := Lib.hid hl
      clear hl
      have t0 : (s.toList == [61]) = _ := congrArg (fun l => l == ([61] : List UInt8)) HL.out
      have t1 : (s.toList == [92, 61]) = _ := congrArg (fun l => l == ([92, 61] : List UInt8)) HL.out
      have t2 : (s.toList == [61, 61]) = _ := congrArg (fun l => l == ([61, 61] : List UInt8)) HL.out
      have t3 : (s.toList == [60]) = _ := congrArg (fun l => l == ([60] : List UInt8)) HL.out
      have t4 : (s.toList == [62]) = _ := congrArg (fun l => l == ([62] : List UInt8)) HL.out
      have t5 : (s.toList == [61, 60]) = _ := congrArg (fun l => l == ([61, 60] : List UInt8)) HL.out
      have t6 : (s.toList == [62, 61]) = _ := congrArg (fun l => l == ([62, 61] : List UInt8)) HL.out
      have t7 : (s.toList == [61, 58, 61]) = _ := congrArg (fun l => l == ([61, 58, 61] : List UInt8)) HL.out
      have t8 : (s.toList == [105, 115]) = _ := congrArg (fun l => l == ([105, 115] : List UInt8)) HL.out
      have t9 : (s.toList == [116, 114, 117, 101]) = _ := congrArg (fun l => l == ([116, 114, 117, 101] : List UInt8)) HL.out
      have t10 : (s.toList == [102, 97, 105, 108]) = _ := congrArg (fun l => l == ([102, 97, 105, 108] : List UInt8)) HL.out
      have t11 : (s.toList == [118, 97, 114]) = _ := congrArg (fun l => l == ([118, 97, 114] : List UInt8)) HL.out
      have t12 : (s.toList == [110, 111, 110, 118, 97, 114]) = _ := congrArg (fun l => l == ([110, 111, 110, 118, 97, 114] : List UInt8)) HL.out
      have t13 : (s.toList == [97, 116, 111, 109]) = _ := congrArg (fun l => l == ([97, 116, 111, 109] : List UInt8)) HL.out
      have t14 : (s.toList == [105, 110, 116]) = _ := congrArg (fun l => l == ([105, 110, 116] : List UInt8)) HL.out
      have t15 : (s.toList == [97, 114, 103]) = _ := congrArg (fun l => l == ([97, 114, 103] : List UInt8)) HL.out
      go_enter Tryz.func63, Tryz.ntmps63
      go_wp2_with fail
      go_ret
      rw [HV.out]; exact ⟨rfl, rfl⟩
  · have HV : Hid (biB s.data.toList a = false) := Lib.hid (biB_no _ (fun r hr e => h ⟨r, hr, e⟩) a)
    have t0 : (s.toList == [61]) = false := by rw [hl, beq_eq_false_iff_ne]; exact fun e => h ⟨([61], 2), by simp [biTab], e.symm⟩
    have t1 : (s.toList == [92, 61]) = false := by rw [hl, beq_eq_false_iff_ne]; exact fun e => h ⟨([92, 61], 2), by simp [biTab], e.symm⟩
    have t2 : (s.toList == [61, 61]) = false := by rw [hl, beq_eq_false_iff_ne]; exact fun e => h ⟨([61, 61], 2), by simp [biTab], e.symm⟩
    have t3 : (s.toList == [60]) = false := by rw [hl, beq_eq_false_iff_ne]; exact fun e => h ⟨([60], 2), by simp [biTab], e.symm⟩
    have t4 : (s.toList == [62]) = false := by rw [hl, beq_eq_false_iff_ne]; exact fun e => h ⟨([62], 2), by simp [biTab], e.symm⟩
    have t5 : (s.toList == [61, 60]) = false := by rw [hl, beq_eq_false_iff_ne]; exact fun e => h ⟨([61, 60], 2), by simp [biTab], e.symm⟩
    have t6 : (s.toList == [62, 61]) = false := by rw [hl, beq_eq_false_iff_ne]; exact fun e => h ⟨([62, 61], 2), by simp [biTab], e.symm⟩
    have t7 : (s.toList == [61, 58, 61]) = false := by rw [hl, beq_eq_false_iff_ne]; exact fun e => h ⟨([61, 58, 61], 2), by simp [biTab], e.symm⟩
    have t8 : (s.toList == [105, 115]) = false := by rw [hl, beq_eq_false_iff_ne]; exact fun e => h ⟨([105, 115], 2), by simp [biTab], e.symm⟩
    have t9 : (s.toList == [116, 114, 117, 101]) = false := by rw [hl, beq_eq_false_iff_ne]; exact fun e => h ⟨([116, 114, 117, 101], 0), by simp [biTab], e.symm⟩
    have t10 : (s.toList == [102, 97, 105, 108]) = false := by rw [hl, beq_eq_false_iff_ne]; exact fun e => h ⟨([102, 97, 105, 108], 0), by simp [biTab], e.symm⟩
    have t11 : (s.toList == [118, 97, 114]) = false := by rw [hl, beq_eq_false_iff_ne]; exact fun e => h ⟨([118, 97, 114], 1), by simp [biTab], e.symm⟩
    have t12 : (s.toList == [110, 111, 110, 118, 97, 114]) = false := by rw [hl, beq_eq_false_iff_ne]; exact fun e => h ⟨([110, 111, 110, 118, 97, 114], 1), by simp [biTab], e.symm⟩
    have t13 : (s.toList == [97, 116, 111, 109]) = false := by rw [hl, beq_eq_false_iff_ne]; exact fun e => h ⟨([97, 116, 111, 109], 1), by simp [biTab], e.symm⟩
    have t14 : (s.toList == [105, 110, 116]) = false := by rw [hl, beq_eq_false_iff_ne]; exact fun e => h ⟨([105, 110, 116], 1), by simp [biTab], e.symm⟩
    have t15 : (s.toList == [97, 114, 103]) = false := by rw [hl, beq_eq_false_iff_ne]; exact fun e => h ⟨([97, 114, 103], 3), by simp [biTab], e.symm⟩
    clear hl h
    go_enter Tryz.func63, Tryz.ntmps63
    go_wp2_with fail
    go_ret
    rw [HV.out]; exact ⟨rfl, rfl⟩

set_option maxRecDepth 100000 in
set_option maxHeartbeats 1000000 in
/-- impl.IsBuiltin. -/
theorem implBi_any (s : ByteArray) (a : Int) (w : World) :
    Calls Tryz.prog 84 #[.string s, .int .i64 a] w fun e w' => e = .returned (.bool (biB s.data.toList a)) ∧ w = w' := by
  have hl := ByteArray.toList_eq s
  by_cases h : ∃ r ∈ biTab, r.1 = s.data.toList
  · obtain ⟨r, hr, hs⟩ := h
    have HV : Hid (biB s.data.toList a = (a == r.2)) := Lib.hid (by rw [← hs]; exact biB_at r hr a)
    rw [← hs] at hl
    clear hs
    simp only [biTab, List.mem_cons, List.not_mem_nil, or_false] at hr
    rcases hr with rfl | rfl | rfl | rfl | rfl | rfl | rfl | rfl | rfl | rfl | rfl | rfl | rfl | rfl | rfl | rfl
    all_goals
      have HL := Lib.hid hl
      clear hl
      have t0 : (s.toList == [61]) = _ := congrArg (fun l => l == ([61] : List UInt8)) HL.out
      have t1 : (s.toList == [92, 61]) = _ := congrArg (fun l => l == ([92, 61] : List UInt8)) HL.out
      have t2 : (s.toList == [61, 61]) = _ := congrArg (fun l => l == ([61, 61] : List UInt8)) HL.out
      have t3 : (s.toList == [60]) = _ := congrArg (fun l => l == ([60] : List UInt8)) HL.out
      have t4 : (s.toList == [62]) = _ := congrArg (fun l => l == ([62] : List UInt8)) HL.out
      have t5 : (s.toList == [61, 60]) = _ := congrArg (fun l => l == ([61, 60] : List UInt8)) HL.out
      have t6 : (s.toList == [62, 61]) = _ := congrArg (fun l => l == ([62, 61] : List UInt8)) HL.out
      have t7 : (s.toList == [61, 58, 61]) = _ := congrArg (fun l => l == ([61, 58, 61] : List UInt8)) HL.out
      have t8 : (s.toList == [105, 115]) = _ := congrArg (fun l => l == ([105, 115] : List UInt8)) HL.out
      have t9 : (s.toList == [116, 114, 117, 101]) = _ := congrArg (fun l => l == ([116, 114, 117, 101] : List UInt8)) HL.out
      have t10 : (s.toList == [102, 97, 105, 108]) = _ := congrArg (fun l => l == ([102, 97, 105, 108] : List UInt8)) HL.out
      have t11 : (s.toList == [118, 97, 114]) = _ := congrArg (fun l => l == ([118, 97, 114] : List UInt8)) HL.out
      have t12 : (s.toList == [110, 111, 110, 118, 97, 114]) = _ := congrArg (fun l => l == ([110, 111, 110, 118, 97, 114] : List UInt8)) HL.out
      have t13 : (s.toList == [97, 116, 111, 109]) = _ := congrArg (fun l => l == ([97, 116, 111, 109] : List UInt8)) HL.out
      have t14 : (s.toList == [105, 110, 116]) = _ := congrArg (fun l => l == ([105, 110, 116] : List UInt8)) HL.out
      have t15 : (s.toList == [97, 114, 103]) = _ := congrArg (fun l => l == ([97, 114, 103] : List UInt8)) HL.out
      go_enter Tryz.func84, Tryz.ntmps84
      go_wp2_with fail
      go_ret
      rw [HV.out]; exact ⟨rfl, rfl⟩
  · have HV : Hid (biB s.data.toList a = false) := Lib.hid (biB_no _ (fun r hr e => h ⟨r, hr, e⟩) a)
    have t0 : (s.toList == [61]) = false := by rw [hl, beq_eq_false_iff_ne]; exact fun e => h ⟨([61], 2), by simp [biTab], e.symm⟩
    have t1 : (s.toList == [92, 61]) = false := by rw [hl, beq_eq_false_iff_ne]; exact fun e => h ⟨([92, 61], 2), by simp [biTab], e.symm⟩
    have t2 : (s.toList == [61, 61]) = false := by rw [hl, beq_eq_false_iff_ne]; exact fun e => h ⟨([61, 61], 2), by simp [biTab], e.symm⟩
    have t3 : (s.toList == [60]) = false := by rw [hl, beq_eq_false_iff_ne]; exact fun e => h ⟨([60], 2), by simp [biTab], e.symm⟩
    have t4 : (s.toList == [62]) = false := by rw [hl, beq_eq_false_iff_ne]; exact fun e => h ⟨([62], 2), by simp [biTab], e.symm⟩
    have t5 : (s.toList == [61, 60]) = false := by rw [hl, beq_eq_false_iff_ne]; exact fun e => h ⟨([61, 60], 2), by simp [biTab], e.symm⟩
    have t6 : (s.toList == [62, 61]) = false := by rw [hl, beq_eq_false_iff_ne]; exact fun e => h ⟨([62, 61], 2), by simp [biTab], e.symm⟩
    have t7 : (s.toList == [61, 58, 61]) = false := by rw [hl, beq_eq_false_iff_ne]; exact fun e => h ⟨([61, 58, 61], 2), by simp [biTab], e.symm⟩
    have t8 : (s.toList == [105, 115]) = false := by rw [hl, beq_eq_false_iff_ne]; exact fun e => h ⟨([105, 115], 2), by simp [biTab], e.symm⟩
    have t9 : (s.toList == [116, 114, 117, 101]) = false := by rw [hl, beq_eq_false_iff_ne]; exact fun e => h ⟨([116, 114, 117, 101], 0), by simp [biTab], e.symm⟩
    have t10 : (s.toList == [102, 97, 105, 108]) = false := by rw [hl, beq_eq_false_iff_ne]; exact fun e => h ⟨([102, 97, 105, 108], 0), by simp [biTab], e.symm⟩
    have t11 : (s.toList == [118, 97, 114]) = false := by rw [hl, beq_eq_false_iff_ne]; exact fun e => h ⟨([118, 97, 114], 1), by simp [biTab], e.symm⟩
    have t12 : (s.toList == [110, 111, 110, 118, 97, 114]) = false := by rw [hl, beq_eq_false_iff_ne]; exact fun e => h ⟨([110, 111, 110, 118, 97, 114], 1), by simp [biTab], e.symm⟩
    have t13 : (s.toList == [97, 116, 111, 109]) = false := by rw [hl, beq_eq_false_iff_ne]; exact fun e => h ⟨([97, 116, 111, 109], 1), by simp [biTab], e.symm⟩
    have t14 : (s.toList == [105, 110, 116]) = false := by rw [hl, beq_eq_false_iff_ne]; exact fun e => h ⟨([105, 110, 116], 1), by simp [biTab], e.symm⟩
    have t15 : (s.toList == [97, 114, 103]) = false := by rw [hl, beq_eq_false_iff_ne]; exact fun e => h ⟨([97, 114, 103], 3), by simp [biTab], e.symm⟩
    clear hl h
    go_enter Tryz.func84, Tryz.ntmps84
    go_wp2_with fail
    go_ret
    rw [HV.out]; exact ⟨rfl, rfl⟩

/-- An operator's name. -/
def opB (l : List UInt8) : Bool := op.tab.any fun r => r.1 == l
theorem opB_level (l : List UInt8) : opB l = !(op.level l == 0) := by
  unfold opB
  by_cases h : ∃ r ∈ op.tab, r.1 = l
  · obtain ⟨r, hr, rfl⟩ := h
    have h1 : op.level r.1 ≠ 0 := by
      rw [op.level_at r hr]
      have all : ∀ r ∈ op.tab, r.2.2 ≠ 0 := by decide
      exact all r hr
    rw [List.any_eq_true.2 ⟨r, hr, by simp⟩]
    simp [h1]
  · have hn : ∀ r ∈ op.tab, r.1 ≠ l := fun r hr e => h ⟨r, hr, e⟩
    rw [op.level_no l hn]
    rw [show (op.tab.any fun r => r.1 == l) = false by rw [← Bool.not_eq_true, List.any_eq_true]; rintro ⟨r, hr, e⟩; exact hn r hr (by simpa using e)]
    rfl
theorem opB_no (l : List UInt8) (h : ∀ j, j < 14 → (op.nm j).data.toList ≠ l) : opB l = false := by
  unfold opB
  rw [← Bool.not_eq_true, List.any_eq_true]
  rintro ⟨r, hr, e⟩
  obtain ⟨j, hj, rfl⟩ := List.mem_iff_getElem.1 hr
  refine h j hj ?_
  have e' : op.tab[j].1 = l := by simpa using e
  rw [← e']
  simp [op.nm, List.getD, hj]
theorem opB_yes (l : List UInt8) (j : Nat) (hj : j < 14) (h : (op.nm j).data.toList = l) : opB l = true := by
  unfold opB
  have hj' : j < op.tab.length := hj
  refine List.any_eq_true.2 ⟨op.tab[j], List.getElem_mem _, ?_⟩
  rw [← h]
  simp [op.nm, List.getD, hj']

set_option maxRecDepth 100000 in
/-- impl.isOperator. -/
theorem isOp_any (s : ByteArray) (w : World) (ht : op.OpTab w) :
    Calls Tryz.prog 85 #[.string s] w fun e w' => e = .returned (.bool (opB s.data.toList)) ∧ Below w.heap.size w w' := by
  obtain ⟨tt, fr, htab⟩ := ht
  have HT := Lib.hid htab
  have hl := ByteArray.toList_eq s
  have HL := Lib.hid hl
  clear htab hl
  go_enter Tryz.func85, Tryz.ntmps85
  go_wp2_with (refine wpList_load_row rfl 104 _ rfl 0 rfl tt _ fr _ HT.out Tryz.underlying104 rfl (by kernel_rfl) ?_)
  go_loopw [6] (fun i wr => ∃ k : Nat, k ≤ 14 ∧ i = .int .i64 k ∧ (∀ j, j < k → (op.nm j).data.toList ≠ s.data.toList) ∧ Below w.heap.size w wr) (fun i _ => 14 - (intOf i).toNat)
  case atStart => exact ⟨0, Nat.zero_le _, rfl, fun j h => absurd h (Nat.not_lt_zero j), Below.refl _ _⟩
  case round =>
    obtain ⟨k, hk, rfl, hno, hbw⟩ := hrel
    have HN := Lib.hid hno
    have HB := Lib.hid hbw
    clear hno hbw
    by_cases h14 : k < 14
    · have hx := fun w => op.index_op k h14 w
      have hy := opB_yes s.data.toList k h14
      have HY := Lib.hid hy
      have hnx : (op.nm k).data.toList ≠ s.data.toList → ∀ j, j < k + 1 → (op.nm j).data.toList ≠ s.data.toList := fun h j hj => by
        rcases Nat.lt_succ_iff_lt_or_eq.1 hj with h1 | h1
        · exact HN.out j h1
        · subst h1; exact h
      have HNX := Lib.hid hnx
      have hla := ByteArray.toList_eq (op.nm k)
      have HLA := Lib.hid hla
      have him : (k : Int) < 14 := by omega
      clear hy hnx hla
      generalize op.nm k = a at *
      generalize op.tx k = b at *
      generalize op.lv k = l at *
      by_cases heq : a.data.toList = s.data.toList
      · have t1 : (a.toList == s.toList) = true := by rw [HLA.out, HL.out, heq, beq_self_eq_true]
        have HV : Hid (opB s.data.toList = true) := Lib.hid (HY.out heq)
        clear heq
        go_wp2_with fail
        go_ret
        rw [HV.out]
        exact ⟨rfl, by first | exact HB.out | exact HB.out.alloc HB.out.size _⟩
      · have t1 : (a.toList == s.toList) = false := by rw [HLA.out, HL.out, beq_eq_false_iff_ne]; exact heq
        have HNX2 := Lib.hid (HNX.out heq)
        clear heq
        go_wp2_with fail
        go_roundw
        case rel => exact ⟨k + 1, by omega, by go_num, HNX2.out, by first | exact HB.out | exact HB.out.alloc HB.out.size _⟩
        case measure => simp [intOf]; omega
    · obtain rfl : k = 14 := by omega
      have HV : Hid (opB s.data.toList = false) := Lib.hid (opB_no _ HN.out)
      go_wp2_with fail
      go_ret
      rw [HV.out]
      exact ⟨rfl, HB.out⟩
end Go.Proofs.YtohkpgpcipjpkaaGreatDoor

/- Goals: the plain mathematics, and the model's l4Cut, l4Plain, l4Goal, GoalValid. Condition: the term lies in memory. -/
namespace Go.Proofs.YtohkpgpcipjpkaaGreatDoor
open Go.RowKit

def cutB (s : ByteArray) (len : Nat) : Bool := (s.data.toList == [33]) && (len == 0)
def plainB (s : ByteArray) (len : Nat) : Bool := nv.wordB s.data.toList && (!biB s.data.toList len && (op.level s.data.toList == 0))
def cutK (k : Int) (s : ByteArray) (len : Nat) : Bool := (k == 3) && cutB s len
def plainK (k : Int) (s : ByteArray) (len : Nat) : Bool := (k == 3) && plainB s len
def goalK (k : Int) (s : ByteArray) (len : Nat) : Bool := cutK k s len || (plainK k s len || ((k == 3) && biB s.data.toList len))
/-- The term is a goal. -/
def goalV (k n : Int) (s : ByteArray) (f : Fr) : Bool := validT k n s f && goalK k s f.len

set_option maxRecDepth 100000 in
/-- spec.l4Cut. -/
theorem cut_any (k n : Int) (s : ByteArray) (A : Option Addr) (len cap : Nat) (w : World) :
    Calls Tryz.prog 61 #[.agg #[.int .i64 k, .int .i64 n, .string s, .slice A len cap]] w fun e w' => e = .returned (.bool (cutK k s len)) ∧ Below w.heap.size w w' := by
  have HB : Hid (Below w.heap.size w (w.alloc (.cells #[.int .i64 k, .int .i64 n, .string s, .slice A len cap] 44))) := Lib.hid ((Below.refl _ _).alloc (Nat.le_refl _) _)
  have hl := ByteArray.toList_eq s
  have HL := Lib.hid hl
  clear hl
  by_cases h3 : k = 3
  · subst h3
    by_cases hs : s.data.toList = [33]
    · have t1 : (s.toList == [33]) = true := by rw [HL.out, hs]; rfl
      by_cases h0 : len = 0
      · subst h0
        have HV : Hid (cutK 3 s 0 = true) := Lib.hid (by unfold cutK cutB; rw [hs]; rfl)
        clear hs
        go_enter Tryz.func61, Tryz.ntmps61
        go_wp2_with fail
        go_ret
        rw [HV.out]; exact ⟨rfl, HB.out⟩
      · have t2 : ((len : Int) == 0) = false := by rw [beq_eq_false_iff_ne]; omega
        have HV : Hid (cutK 3 s len = false) := Lib.hid (by unfold cutK cutB; rw [hs]; simpa using h0)
        clear hs h0
        go_enter Tryz.func61, Tryz.ntmps61
        go_wp2_with fail
        go_ret
        rw [HV.out]; exact ⟨rfl, HB.out⟩
    · have t1 : (s.toList == [33]) = false := by rw [HL.out, beq_eq_false_iff_ne]; exact hs
      have HV : Hid (cutK 3 s len = false) := Lib.hid (by unfold cutK cutB; rw [show (s.data.toList == [33]) = false by rw [beq_eq_false_iff_ne]; exact hs]; rfl)
      clear hs
      go_enter Tryz.func61, Tryz.ntmps61
      go_wp2_with fail
      go_ret
      rw [HV.out]; exact ⟨rfl, HB.out⟩
  · have t0 : (k == 3) = false := by rw [beq_eq_false_iff_ne]; exact h3
    have HV : Hid (cutK k s len = false) := Lib.hid (by unfold cutK; rw [t0]; rfl)
    clear h3
    go_enter Tryz.func61, Tryz.ntmps61
    go_wp2_with fail
    go_ret
    rw [HV.out]; exact ⟨rfl, HB.out⟩

set_option maxRecDepth 100000 in
/-- spec.l4Plain. -/
theorem plain_any (k n : Int) (s : ByteArray) (A : Option Addr) (len cap : Nat) (w : World) (hs : s.size ≤ maxLen) :
    Calls Tryz.prog 62 #[.agg #[.int .i64 k, .int .i64 n, .string s, .slice A len cap]] w fun e w' => e = .returned (.bool (plainK k s len)) ∧ Below w.heap.size w w' := by
  have HB : Hid (Below w.heap.size w (w.alloc (.cells #[.int .i64 k, .int .i64 n, .string s, .slice A len cap] 44))) := Lib.hid ((Below.refl _ _).alloc (Nat.le_refl _) _)
  by_cases h3 : k = 3
  · subst h3
    have C1 := fun w1 => nv.word_any s w1 hs
    have C2 := fun w1 => specBi_any s (len : Int) w1
    have C3 := fun w1 => op.l2_any s w1
    have HE : Hid (plainK 3 s len = (nv.wordB s.data.toList && (!biB s.data.toList len && (op.level s.data.toList == 0)))) := Lib.hid rfl
    generalize nv.wordB s.data.toList = v1 at *
    generalize biB s.data.toList (len : Int) = v2 at *
    generalize op.level s.data.toList = v3 at *
    have H1 := Lib.hid C1
    have H2 := Lib.hid C2
    have H3 := Lib.hid C3
    clear C1 C2 C3 hs
    cases v1
    · have HV : Hid (plainK 3 s len = false) := Lib.hid (by rw [HE.out]; rfl)
      go_enter Tryz.func62, Tryz.ntmps62
      go_wp2_with (go_at_call 79; refine (H1.out _).mono ?_; rintro e w' ⟨rfl, rfl⟩)
      go_ret
      rw [HV.out]; exact ⟨rfl, HB.out⟩
    · cases v2
      · by_cases h0 : v3 = 0
        · subst h0
          have HV : Hid (plainK 3 s len = true) := Lib.hid (by rw [HE.out]; rfl)
          go_enter Tryz.func62, Tryz.ntmps62
          go_wp2_with (first | (go_at_call 79; refine (H1.out _).mono ?_; rintro e w' ⟨rfl, rfl⟩) | (go_at_call 63; refine (H2.out _).mono ?_; rintro e w' ⟨rfl, rfl⟩) | (go_at_call 46; refine (H3.out _).mono ?_; rintro e w' ⟨rfl, rfl⟩))
          go_ret
          rw [HV.out]; exact ⟨rfl, HB.out⟩
        · have t0 : (v3 == 0) = false := by rw [beq_eq_false_iff_ne]; exact h0
          have HV : Hid (plainK 3 s len = false) := Lib.hid (by rw [HE.out, t0]; rfl)
          clear h0
          go_enter Tryz.func62, Tryz.ntmps62
          go_wp2_with (first | (go_at_call 79; refine (H1.out _).mono ?_; rintro e w' ⟨rfl, rfl⟩) | (go_at_call 63; refine (H2.out _).mono ?_; rintro e w' ⟨rfl, rfl⟩) | (go_at_call 46; refine (H3.out _).mono ?_; rintro e w' ⟨rfl, rfl⟩))
          go_ret
          rw [HV.out]; exact ⟨rfl, HB.out⟩
      · have HV : Hid (plainK 3 s len = false) := Lib.hid (by rw [HE.out]; rfl)
        go_enter Tryz.func62, Tryz.ntmps62
        go_wp2_with (first | (go_at_call 79; refine (H1.out _).mono ?_; rintro e w' ⟨rfl, rfl⟩) | (go_at_call 63; refine (H2.out _).mono ?_; rintro e w' ⟨rfl, rfl⟩))
        go_ret
        rw [HV.out]; exact ⟨rfl, HB.out⟩
  · have t0 : (k == 3) = false := by rw [beq_eq_false_iff_ne]; exact h3
    have HV : Hid (plainK k s len = false) := Lib.hid (by unfold plainK; rw [t0]; rfl)
    clear h3
    go_enter Tryz.func62, Tryz.ntmps62
    go_wp2_with fail
    go_ret
    rw [HV.out]; exact ⟨rfl, HB.out⟩

set_option maxRecDepth 100000 in
/-- spec.l4Goal. -/
theorem goal_any (k n : Int) (s : ByteArray) (A : Option Addr) (len cap : Nat) (w : World) (hs : s.size ≤ maxLen) :
    Calls Tryz.prog 40 #[.agg #[.int .i64 k, .int .i64 n, .string s, .slice A len cap]] w fun e w' => e = .returned (.bool (goalK k s len)) ∧ Below w.heap.size w w' := by
  have HB0 : Hid (Below w.heap.size w (w.alloc (.cells #[.int .i64 k, .int .i64 n, .string s, .slice A len cap] 44))) := Lib.hid ((Below.refl _ _).alloc (Nat.le_refl _) _)
  have C1 := fun w1 => cut_any k n s A len cap w1
  have C2 := fun w1 => plain_any k n s A len cap w1 hs
  have C3 := fun w1 => specBi_any s (len : Int) w1
  have HE : Hid (goalK k s len = (cutK k s len || (plainK k s len || ((k == 3) && biB s.data.toList len)))) := Lib.hid rfl
  generalize cutK k s len = v1 at *
  generalize plainK k s len = v2 at *
  generalize biB s.data.toList (len : Int) = v3 at *
  have H1 := Lib.hid C1
  have H2 := Lib.hid C2
  have H3 := Lib.hid C3
  clear C1 C2 C3 hs
  cases v1
  · go_enter Tryz.func40, Tryz.ntmps40
    go_wp2_with fail
    refine (H1.out _).mono ?_
    rintro e w2 ⟨rfl, hb⟩
    have hq := (Blk.new w 44 #[.int .i64 k, .int .i64 n, .string s, .slice A len cap]).below hb (by simp)
    obtain ⟨a0, a1, a2, a3⟩ := cells4 hq
    have HQ := Lib.hid hq
    have HB := Lib.hid (HB0.out.trans (hb.mono (by simp)))
    clear hb hq
    go_wp2_with fail
    refine (H2.out _).mono ?_
    rintro e w3 ⟨rfl, hb⟩
    have hq := HQ.out.below hb HQ.out.lt
    have HB3 := Lib.hid (HB.out.trans (hb.mono HB.out.size))
    clear hb a0 a1 a2 a3
    cases v2
    · obtain ⟨a0, a1, a2, a3⟩ := cells4 hq
      clear hq
      by_cases h3 : k = 3
      · subst h3
        have HV : Hid (goalK 3 s len = v3) := Lib.hid (by rw [HE.out]; rfl)
        go_wp2_with (go_at_call 63; refine (H3.out _).mono ?_; rintro e w' ⟨rfl, rfl⟩)
        go_ret
        rw [HV.out]; exact ⟨rfl, HB3.out⟩
      · have t0 : (k == 3) = false := by rw [beq_eq_false_iff_ne]; exact h3
        have HV : Hid (goalK k s len = false) := Lib.hid (by rw [HE.out, t0]; rfl)
        clear h3
        go_wp2_with fail
        go_ret
        rw [HV.out]; exact ⟨rfl, HB3.out⟩
    · have HV : Hid (goalK k s len = true) := Lib.hid (by rw [HE.out]; rfl)
      clear hq
      go_wp2_with fail
      go_ret
      rw [HV.out]; exact ⟨rfl, HB3.out⟩
  · have HV : Hid (goalK k s len = true) := Lib.hid (by rw [HE.out]; rfl)
    go_enter Tryz.func40, Tryz.ntmps40
    go_wp2_with fail
    refine (H1.out _).mono ?_
    rintro e w2 ⟨rfl, hb⟩
    have HB := Lib.hid (HB0.out.trans (hb.mono (by simp)))
    clear hb
    go_wp2_with fail
    go_ret
    rw [HV.out]; exact ⟨rfl, HB.out⟩

set_option maxRecDepth 100000 in
/-- spec.GoalValid. -/
theorem specGoal_any (k n : Int) (s : ByteArray) (f : Fr) (A : Option Addr) (cap lo hi : Nat) (w : World) (hk : KidsAt w lo hi f A cap) (hh : hi ≤ w.heap.size) (hf : Fits k n s) (hnd : nodes f ≤ 1048576) :
    Calls Tryz.prog 24 #[.agg #[.int .i64 k, .int .i64 n, .string s, .slice A f.len cap]] w fun e w' => e = .returned (.bool (goalV k n s f)) ∧ Below w.heap.size w w' := by
  have HB0 : Hid (Below w.heap.size w (w.alloc (.cells #[.int .i64 k, .int .i64 n, .string s, .slice A f.len cap] 44))) := Lib.hid ((Below.refl _ _).alloc (Nat.le_refl _) _)
  have C1 := fun w1 (hb : Below w.heap.size w w1) => specValid_any k n s f A cap lo hi w1 (hk.below hb hh) (Nat.le_trans hh hb.size) hf hnd
  have C2 := fun w1 => goal_any k n s A f.len cap w1 hf.2.2
  have HE : Hid (goalV k n s f = (validT k n s f && goalK k s f.len)) := Lib.hid rfl
  generalize validT k n s f = v1 at *
  generalize goalK k s f.len = v2 at *
  have H1 := Lib.hid C1
  have H2 := Lib.hid C2
  clear C1 C2 hk hf hnd
  cases v1
  · have HV : Hid (goalV k n s f = false) := Lib.hid (by rw [HE.out]; rfl)
    go_enter Tryz.func24, Tryz.ntmps24
    go_wp2_with fail
    refine (H1.out _ HB0.out).mono ?_
    rintro e w2 ⟨rfl, hb⟩
    have HB := Lib.hid (HB0.out.trans (hb.mono (by simp)))
    clear hb
    go_wp2_with fail
    go_ret
    rw [HV.out]; exact ⟨rfl, HB.out⟩
  · have HV : Hid (goalV k n s f = v2) := Lib.hid (by rw [HE.out]; rfl)
    go_enter Tryz.func24, Tryz.ntmps24
    go_wp2_with fail
    refine (H1.out _ HB0.out).mono ?_
    rintro e w2 ⟨rfl, hb⟩
    have hq := (Blk.new w 44 #[.int .i64 k, .int .i64 n, .string s, .slice A f.len cap]).below hb (by simp)
    obtain ⟨a0, a1, a2, a3⟩ := cells4 hq
    have HB := Lib.hid (HB0.out.trans (hb.mono (by simp)))
    clear hb hq
    go_wp2_with fail
    refine (H2.out _).mono ?_
    rintro e w3 ⟨rfl, hb⟩
    have HB3 := Lib.hid (HB.out.trans (hb.mono HB.out.size))
    clear hb
    go_wp2_with fail
    go_ret
    rw [HV.out]; exact ⟨rfl, HB3.out⟩
end Go.Proofs.YtohkpgpcipjpkaaGreatDoor

/- Goals: impl.goalFrom, goalOf, plainGoalOf, GoalValid. Condition: the term lies in memory, both tables in their variables. -/
namespace Go.Proofs.YtohkpgpcipjpkaaGreatDoor
open Go.RowKit

/-- The name begins with a letter. -/
def headB (l : List UInt8) : Bool := match l with
  | [] => false
  | c :: _ => nv.lowB c
theorem head_agree (l : List UInt8) (h : nv.nameB l = true) : (headB l && !opB l) = (nv.wordB l && (op.level l == 0)) := by
  have ho : (!opB l) = (op.level l == 0) := by rw [opB_level, Bool.not_not]
  rw [ho]
  have hh : headB l = nv.wordB l := by
    unfold nv.nameB at h
    cases hw : nv.wordB l
    · rw [hw, Bool.false_or] at h
      have hm : l ∈ nv.signs := by simpa using h
      have all : ∀ x ∈ nv.signs, headB x = false := by decide
      exact all l hm
    · unfold nv.wordB at hw
      cases l with
      | nil => simp at hw
      | cons c cs =>
        simp only [List.all_cons, Bool.and_eq_true] at hw
        exact hw.1.1.1
  rw [hh]
/-- Which goal: 0 none, 1 the cut, 2 built in, 3 plain. -/
def gk (s : ByteArray) (len : Nat) : Nat := if cutB s len = true then 1 else if biB s.data.toList len = true then 2 else if plainB s len = true then 3 else 0
theorem cut_plain (s : ByteArray) (len : Nat) (h : cutB s len = true) : plainB s len = false := by
  unfold cutB at h
  rw [Bool.and_eq_true, beq_iff_eq] at h
  unfold plainB
  rw [h.1]
  rfl
theorem gk_goal (s : ByteArray) (len : Nat) : goalK 3 s len = !(gk s len == 0) := by
  unfold goalK gk cutK plainK
  cases h1 : cutB s len
  · cases h2 : biB s.data.toList len
    · cases h3 : plainB s len <;> rfl
    · simp
  · rfl
theorem gk_plain (s : ByteArray) (len : Nat) : plainK 3 s len = (gk s len == 3) := by
  unfold gk plainK
  cases h1 : cutB s len
  · cases h2 : biB s.data.toList len
    · cases h3 : plainB s len <;> rfl
    · have h3 : plainB s len = false := by unfold plainB; rw [h2]; simp
      rw [h3]
      rfl
  · rw [cut_plain s len h1]
    rfl
/-- A goal in memory. -/
def GIs (t : Nat) (s : ByteArray) (A : Option Addr) (len cap : Nat) (v : Value) : Prop :=
  (t = 1 ∧ v = .iface 127 (.agg #[])) ∨ (t = 2 ∧ v = .iface 128 (.agg #[.string s, .slice A len cap])) ∨ (t = 3 ∧ v = .iface 129 (.agg #[.string s, .slice A len cap]))
def GRes (w : World) (s : ByteArray) (A : Option Addr) (len cap : Nat) (e : Ending) (w' : World) : Prop :=
  Below w.heap.size w w' ∧ ((gk s len = 0 ∧ e = .returned (.tuple #[.nilIface, .bool false])) ∨ (gk s len ≠ 0 ∧ ∃ v, e = .returned (.tuple #[v, .bool true]) ∧ GIs (gk s len) s A len cap v))
theorem name_of_valid {n : Int} {s : ByteArray} {f : Fr} (h : validT 3 n s f = true) : nv.nameB s.data.toList = true := by
  unfold validT shapeT ownB at h
  simp only [Bool.and_eq_true] at h
  have h1 := h.1.2.1
  simp at h1
  exact h1.1.2
theorem name_pos {l : List UInt8} (h : nv.nameB l = true) : ∃ c cs, l = c :: cs := by
  cases l with
  | nil => exact absurd h (by decide)
  | cons c cs => exact ⟨c, cs, rfl⟩
set_option maxRecDepth 100000 in
set_option maxHeartbeats 1000000 in
/-- impl.goalFrom at a structure. -/
theorem from3_any (s : ByteArray) (A : Option Addr) (len cap : Nat) (w : World) (hn : nv.nameB s.data.toList = true) (hlen : len ≤ maxLen) (ht : op.OpTab w) :
    Calls Tryz.prog 71 #[.iface 78 (.agg #[.string s, .slice A len cap])] w fun e w' => GRes w s A len cap e w' := by
  have hl := ByteArray.toList_eq s
  have HL := Lib.hid hl
  have hag := head_agree _ hn
  have hpos : 0 < s.size := by
    obtain ⟨c, cs, hc⟩ := name_pos hn
    have h1 : s.data.toList.length = s.size := rfl
    rw [hc] at h1
    simp at h1
    omega
  have hhd : headB s.data.toList = nv.lowB s[0] := by
    have h1 : s.data.toList[0]? = some s[0] := Lib.data_getElem? s 0 hpos
    obtain ⟨c, cs, hc⟩ := name_pos hn
    rw [hc] at h1 ⊢
    simp at h1
    rw [← h1]; rfl
  have hb0 : Below w.heap.size w (w.alloc (.cells #[.string s, .slice A len cap] 78)) := (Below.refl _ _).alloc (Nat.le_refl _) _
  have C1 := fun w1 => implBi_any s (len : Int) w1
  have C2 := fun w1 => nv.letter_any s[0] w1
  have C3 := isOp_any s (w.alloc (.cells #[.string s, .slice A len cap] 78)) (ht.below hb0)
  rw [hhd] at hag
  have HE : Hid (plainB s len = (nv.wordB s.data.toList && (!biB s.data.toList len && (op.level s.data.toList == 0)))) := Lib.hid rfl
  have HG : Hid (gk s len = if cutB s len = true then 1 else if biB s.data.toList len = true then 2 else if plainB s len = true then 3 else 0) := Lib.hid rfl
  have HCU : Hid (cutB s len = ((s.data.toList == [33]) && (len == 0))) := Lib.hid rfl
  have HB0 := Lib.hid hb0
  have HAG := Lib.hid hag
  generalize biB s.data.toList (len : Int) = v1 at *
  generalize nv.lowB s[0] = v2 at *
  generalize opB s.data.toList = v3 at *
  have H1 := Lib.hid C1
  have H2 := Lib.hid C2
  have H3 := Lib.hid C3
  clear hl hag hb0 C1 C2 C3 hhd hn ht
  unfold maxLen at hlen
  by_cases hcut : s.data.toList = [33] ∧ len = 0
  · obtain ⟨h33, rfl⟩ := hcut
    have t1 : (s.toList == [33]) = true := by rw [HL.out, h33]; rfl
    have HV : Hid (gk s 0 = 1) := Lib.hid (by rw [HG.out, HCU.out, h33]; rfl)
    clear h33
    go_enter Tryz.func71, Tryz.ntmps71
    go_wp2_with fail
    go_ret2
    exact ⟨HB0.out, .inr ⟨by rw [HV.out]; decide, _, rfl, .inl ⟨HV.out, rfl⟩⟩⟩
  · have HC : Hid (cutB s len = false) := Lib.hid (by
      rw [HCU.out, ← Bool.not_eq_true, Bool.and_eq_true, beq_iff_eq, beq_iff_eq]; exact hcut)
    have hway : (s.toList == [33]) = false ∨ ((s.toList == [33]) = true ∧ ((len : Int) == 0) = false) := by
      by_cases h33 : s.data.toList = [33]
      · exact .inr ⟨by rw [HL.out, h33]; rfl, by rw [beq_eq_false_iff_ne]; intro h; exact hcut ⟨h33, by omega⟩⟩
      · exact .inl (by rw [HL.out, beq_eq_false_iff_ne]; exact h33)
    clear hcut
    cases v1
    · have HP : Hid (plainB s len = (v2 && !v3)) := Lib.hid (by rw [HE.out, HAG.out]; rfl)
      cases v2
      · have HV : Hid (gk s len = 0) := Lib.hid (by rw [HG.out, HC.out, HP.out]; rfl)
        rcases hway with t1 | ⟨t1, t2⟩
        all_goals
          go_enter Tryz.func71, Tryz.ntmps71
          go_wp2_with (first | (go_at_call 84; refine (H1.out _).mono ?_; rintro e w' ⟨rfl, rfl⟩) | (go_at_call 75; refine (H2.out _).mono ?_; rintro e w' ⟨rfl, rfl⟩))
          go_ret2
          exact ⟨HB0.out, .inl ⟨HV.out, rfl⟩⟩
      · cases v3
        · have HV : Hid (gk s len = 3) := Lib.hid (by rw [HG.out, HC.out, HP.out]; rfl)
          rcases hway with t1 | ⟨t1, t2⟩
          all_goals
            go_enter Tryz.func71, Tryz.ntmps71
            go_wp2_with (first | (go_at_call 84; refine (H1.out _).mono ?_; rintro e w' ⟨rfl, rfl⟩) | (go_at_call 75; refine (H2.out _).mono ?_; rintro e w' ⟨rfl, rfl⟩) | (go_at_call 85; refine H3.out.mono ?_; rintro e w2 ⟨rfl, hb⟩; have hq := (Blk.new w 78 #[.string s, .slice A len cap]).below hb (by simp); have a0 := hq.cell 0; have a1 := hq.cell 1; simp only [List.getElem?_toArray, List.getElem?_cons_zero, List.getElem?_cons_succ] at a0 a1; have HB2 := Lib.hid (HB0.out.trans (hb.mono (by simp))); clear hb hq))
            go_ret2
            exact ⟨HB2.out, .inr ⟨by rw [HV.out]; decide, _, rfl, .inr (.inr ⟨HV.out, rfl⟩)⟩⟩
        · have HV : Hid (gk s len = 0) := Lib.hid (by rw [HG.out, HC.out, HP.out]; rfl)
          rcases hway with t1 | ⟨t1, t2⟩
          all_goals
            go_enter Tryz.func71, Tryz.ntmps71
            go_wp2_with (first | (go_at_call 84; refine (H1.out _).mono ?_; rintro e w' ⟨rfl, rfl⟩) | (go_at_call 75; refine (H2.out _).mono ?_; rintro e w' ⟨rfl, rfl⟩) | (go_at_call 85; refine H3.out.mono ?_; rintro e w2 ⟨rfl, hb⟩; have HB2 := Lib.hid (HB0.out.trans (hb.mono (by simp))); clear hb))
            go_ret2
            exact ⟨HB2.out, .inl ⟨HV.out, rfl⟩⟩
    · have HV : Hid (gk s len = 2) := Lib.hid (by rw [HG.out, HC.out]; rfl)
      rcases hway with t1 | ⟨t1, t2⟩
      all_goals
        go_enter Tryz.func71, Tryz.ntmps71
        go_wp2_with (go_at_call 84; refine (H1.out _).mono ?_; rintro e w' ⟨rfl, rfl⟩)
        go_ret2
        exact ⟨HB0.out, .inr ⟨by rw [HV.out]; decide, _, rfl, .inr (.inl ⟨HV.out, rfl⟩)⟩⟩

set_option maxRecDepth 100000 in
/-- impl.goalFrom at a variable or a number. -/
theorem from12_any (v : Value) (n : Int) (hv : v = .iface 63 (.int .i64 n) ∨ v = .iface 108 (.int .i64 n)) (w : World) :
    Calls Tryz.prog 71 #[v] w fun e w' => e = .returned (.tuple #[.nilIface, .bool false]) ∧ Below w.heap.size w w' := by
  have HB0 : ∀ o, Hid (Below w.heap.size w (w.alloc o)) := fun o => Lib.hid ((Below.refl _ _).alloc (Nat.le_refl _) _)
  rcases hv with rfl | rfl
  all_goals
    go_enter Tryz.func71, Tryz.ntmps71
    go_wp2_with fail
    go_ret2
    exact ⟨rfl, (HB0 _).out⟩

/-- What impl.goalOf leaves. -/
def GOf (w : World) (k n : Int) (s : ByteArray) (f : Fr) (e : Ending) (w' : World) : Prop :=
  Below w.heap.size w w' ∧ ((goalV k n s f = false ∧ e = .returned (.tuple #[.nilIface, .bool false])) ∨
    (goalV k n s f = true ∧ ∃ v A cap, e = .returned (.tuple #[v, .bool true]) ∧ GIs (gk s f.len) s A f.len cap v ∧ NdS w' w.heap.size w'.heap.size f A cap))
theorem goalV_three {k n : Int} {s : ByteArray} {f : Fr} (hv : validT k n s f = true) (h3 : k = 3) : goalV k n s f = !(gk s f.len == 0) := by
  subst h3
  unfold goalV
  rw [hv, gk_goal]
  rfl
theorem goalV_other {k n : Int} {s : ByteArray} {f : Fr} (h3 : k ≠ 3) : goalV k n s f = false := by
  have h : (k == 3) = false := by rw [beq_eq_false_iff_ne]; exact h3
  unfold goalV goalK cutK plainK
  rw [h]
  simp

set_option maxRecDepth 100000 in
set_option maxHeartbeats 1000000 in
/-- impl.goalOf. -/
theorem goalOf_any (k n : Int) (s : ByteArray) (f : Fr) (A : Option Addr) (cap lo hi : Nat) (w : World) (hk : KidsAt w lo hi f A cap) (hh : hi ≤ w.heap.size) (hf : Fits k n s) (hnd : nodes f ≤ 1048576) (ht : nv.Tab w) (ho : op.OpTab w) :
    Calls Tryz.prog 52 #[.agg #[.int .i64 k, .int .i64 n, .string s, .slice A f.len cap]] w fun e w' => GOf w k n s f e w' := by
  have hb0 : Below w.heap.size w (w.alloc (.cells #[.int .i64 k, .int .i64 n, .string s, .slice A f.len cap] 44)) := (Below.refl _ _).alloc (Nat.le_refl _) _
  have C1 := nodeOf_any k n s f A cap lo hi _ (hk.below hb0 hh) (Nat.le_trans hh hb0.size) hf hnd (ht.below hb0)
  have H1 := Lib.hid C1
  have HO := Lib.hid ho
  have HB0 := Lib.hid hb0
  clear C1 hk hf hnd ht ho hb0
  go_enter Tryz.func52, Tryz.ntmps52
  go_wp2_with fail
  refine H1.out.mono ?_
  rintro e w2 ⟨hb, hr⟩
  have hb2 := HB0.out.trans (hb.mono HB0.out.size)
  rcases hr with ⟨hok, v, rfl, hv⟩ | ⟨hok, rfl⟩
  · have HB2 := Lib.hid hb2
    have HOK := Lib.hid hok
    have hs0 := hb.size
    have hiface := hv.iface
    obtain ⟨T, x, rfl⟩ := hiface
    have hv' := hv.keep (fun _ _ _ => rfl) HB0.out.size (Nat.le_refl _)
    have HV := Lib.hid hv'
    clear hb hb2 hok hv hv' hs0
    go_wp2_with fail
    rcases HV.out with ⟨h1, hx⟩ | ⟨h1, hx⟩ | ⟨h1, A2, cap2, hx, hnds⟩
    · rw [hx]
      refine (from12_any _ n (.inl rfl) w2).mono ?_
      rintro e w3 ⟨rfl, hb⟩
      have R : Hid (GOf w k n s f (.returned (.tuple #[.nilIface, .bool false])) w3) := Lib.hid ⟨HB2.out.trans (hb.mono HB2.out.size), .inl ⟨goalV_other (by omega), rfl⟩⟩
      clear hb hx
      go_wp2_with fail
      go_ret2
      exact R.out
    · rw [hx]
      refine (from12_any _ n (.inr rfl) w2).mono ?_
      rintro e w3 ⟨rfl, hb⟩
      have R : Hid (GOf w k n s f (.returned (.tuple #[.nilIface, .bool false])) w3) := Lib.hid ⟨HB2.out.trans (hb.mono HB2.out.size), .inl ⟨goalV_other (by omega), rfl⟩⟩
      clear hb hx
      go_wp2_with fail
      go_ret2
      exact R.out
    · subst h1
      rw [hx]
      refine (from3_any s A2 f.len cap2 w2 (name_of_valid HOK.out) (Nat.le_trans hnds.1 hnds.2.1) (HO.out.below HB2.out)).mono ?_
      rintro e w3 ⟨hb, hr⟩
      have hg := goalV_three HOK.out rfl
      rcases hr with ⟨h0, rfl⟩ | ⟨h0, v, rfl, hgi⟩
      · have R : Hid (GOf w 3 n s f (.returned (.tuple #[.nilIface, .bool false])) w3) := Lib.hid ⟨HB2.out.trans (hb.mono HB2.out.size), .inl ⟨by rw [hg, h0]; rfl, rfl⟩⟩
        clear hb hx hg h0 hnds
        go_wp2_with fail
        go_ret2
        exact R.out
      · have R : Hid (GOf w 3 n s f (.returned (.tuple #[v, .bool true])) w3) := Lib.hid ⟨HB2.out.trans (hb.mono HB2.out.size), .inr ⟨by rw [hg]; simpa using h0, v, A2, cap2, rfl, hgi, hnds.keep (fun p _ hp => hb.cell hp) (Nat.le_refl _) hb.size⟩⟩
        clear hb hx hg h0 hnds hgi
        go_wp2_with fail
        go_ret2
        exact R.out
  · have R : Hid (GOf w k n s f (.returned (.tuple #[.nilIface, .bool false])) w2) := Lib.hid ⟨hb2, .inl ⟨by unfold goalV; rw [hok]; rfl, rfl⟩⟩
    clear hb hb2 hok
    go_wp2_with fail
    go_ret2
    exact R.out

@[go_sem] theorem as_c_p (v : Value) (w : World) : (Instr.typeAssert (.iface 127 v) 75 129 true).run Tryz.prog w = .ok (.tuple #[.agg #[.string ⟨#[]⟩, .slice none 0 0], .bool false]) w := by kernel_rfl
@[go_sem] theorem as_b_p (v : Value) (w : World) : (Instr.typeAssert (.iface 128 v) 75 129 true).run Tryz.prog w = .ok (.tuple #[.agg #[.string ⟨#[]⟩, .slice none 0 0], .bool false]) w := by kernel_rfl
@[go_sem] theorem as_p_p (v : Value) (w : World) : (Instr.typeAssert (.iface 129 v) 75 129 true).run Tryz.prog w = .ok (.tuple #[v, .bool true]) w := by kernel_rfl

/-- The term is a plain goal. -/
def plainV (k n : Int) (s : ByteArray) (f : Fr) : Bool := validT k n s f && plainK k s f.len
theorem plainV_goal {k n : Int} {s : ByteArray} {f : Fr} : plainV k n s f = (goalV k n s f && (gk s f.len == 3)) := by
  unfold plainV goalV
  by_cases h3 : k = 3
  · subst h3
    rw [gk_plain, gk_goal]
    cases validT 3 n s f
    · rfl
    · by_cases h : gk s f.len = 3
      · rw [h]; rfl
      · have h' : (gk s f.len == 3) = false := by rw [beq_eq_false_iff_ne]; exact h
        rw [h']; simp
  · have h : (k == 3) = false := by rw [beq_eq_false_iff_ne]; exact h3
    unfold goalK cutK plainK
    rw [h]
    simp
/-- What impl.plainGoalOf leaves. -/
def POf (w : World) (k n : Int) (s : ByteArray) (f : Fr) (e : Ending) (w' : World) : Prop :=
  Below w.heap.size w w' ∧ ((plainV k n s f = false ∧ ∃ s' A len cap, e = .returned (.tuple #[.agg #[.string s', .slice A len cap], .bool false])) ∨
    (plainV k n s f = true ∧ ∃ A cap, e = .returned (.tuple #[.agg #[.string s, .slice A f.len cap], .bool true]) ∧ NdS w' w.heap.size w'.heap.size f A cap))

end Go.Proofs.YtohkpgpcipjpkaaGreatDoor

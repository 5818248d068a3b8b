/- OpLevel: spec.l2Level, spec.OpLevel; impl.operatorTable, operator.leftLevel, impl.OpLevel; the law FnExactOpLevel walked. Condition: the table of operators lies in its variable. -/
import Derived.Test.YtmgfndgmebignaaGreatDoorProg
import Derived.Test.YtmgfndgmebignaaGreatDoorOwn
import Derived.Test.YtmgfndgmebignaaGreatDoorOpA
import Derived.WalkKit
import Derived.WalkSpells
import Derived.Outline
import Derived.Laws.Rows
import Derived.Below
import Derived.Lib.Hide
import Derived.Maps.Own
import Derived.Maps.OwnOps
import Derived.Maps.OwnSet
import Derived.StringKeys
import Derived.Deep.RegionHeld3
import Derived.Deep.QuietTactic
import Derived.BigQuiet
namespace Go.Proofs.YtmgfndgmebignaaGreatDoor.op
open Go.RowKit Go.WideMaps Go.Maps

/-- An operator reads as its level. -/
def opR : Value → Option (DataW Unit × List MemPlace)
  | .agg ⟨[.string _, .string _, .int .i64 l]⟩ => some (.lit (.int .i64 l), [])
  | _ => none
theorem opR_inv {v : Value} {z : DataW Unit × List MemPlace} (h : opR v = some z) : ∃ a b l, v = .agg #[.string a, .string b, .int .i64 l] ∧ z = (.lit (.int .i64 l), []) := by
  unfold opR at h
  split at h
  · cases h; exact ⟨_, _, _, rfl, rfl⟩
  · cases h

def opD (k : Nat) : DataW Unit := (tab.take k).foldl (fun D r => D.put (.string r.1) (.lit (.int .i64 r.2.2))) (.map [])
theorem opD_succ (k : Nat) (h : k < 14) : opD (k + 1) = (opD k).put (.string (nm k).data.toList) (.lit (.int .i64 (lv k))) := by
  have hl : k < tab.length := h
  have e : tab.take (k + 1) = tab.take k ++ [tab.getD k ([], [], 0)] := by
    rw [List.take_add_one, List.getElem?_eq_getElem hl]
    simp [List.getD, List.getElem?_eq_getElem hl]
  unfold opD
  rw [e, List.foldl_append]
  rfl
theorem fold_no (l : List UInt8) (z : DataW Unit) : ∀ (rs : List (List UInt8 × List UInt8 × Int)) (D : DataW Unit), (∀ r ∈ rs, r.1 ≠ l) →
    (rs.foldl (fun D r => D.put (.string r.1) (.lit (.int .i64 r.2.2))) D).atKey (.string l) z = D.atKey (.string l) z ∧
    has (rs.foldl (fun D r => D.put (.string r.1) (.lit (.int .i64 r.2.2))) D) (.string l) = has D (.string l)
  | [], D, _ => ⟨rfl, rfl⟩
  | r :: rs, D, h => by
    have h1 : r.1 ≠ l := h r (by simp)
    have hne : (Lit.string l) ≠ Lit.string r.1 := fun e => h1 (by injection e with e; exact e.symm)
    obtain ⟨h2, h3⟩ := fold_no l z rs (D.put (.string r.1) (.lit (.int .i64 r.2.2))) fun x hx => h x (by simp [hx])
    exact ⟨h2.trans (atKey_put_other hne _ _), h3.trans (has_put_other hne _)⟩
theorem at_no (l : List UInt8) (h : ∀ r ∈ tab, r.1 ≠ l) : (opD 14).atKey (.string l) (.lit (.int .i64 0)) = .lit (.int .i64 0) ∧ has (opD 14) (.string l) = false := by
  have h1 := fold_no l (.lit (.int .i64 0)) tab (.map []) h
  exact ⟨h1.1.trans rfl, h1.2.trans rfl⟩
theorem at_yes : ∀ r ∈ tab, (opD 14).atKey (.string r.1) (.lit (.int .i64 0)) = .lit (.int .i64 r.2.2) ∧ has (opD 14) (.string r.1) = true := by
  intro r hr
  simp only [tab, List.mem_cons, List.not_mem_nil, or_false] at hr
  rcases hr with rfl | rfl | rfl | rfl | rfl | rfl | rfl | rfl | rfl | rfl | rfl | rfl | rfl | rfl <;> exact ⟨by kernel_rfl, by kernel_rfl⟩
/-- What the full table answers. -/
theorem at_all (l : List UInt8) : ∃ ok : Bool, (opD 14).atKey (.string l) (.lit (.int .i64 0)) = .lit (.int .i64 (level l)) ∧ has (opD 14) (.string l) = ok ∧ (ok = true → 1 ≤ level l) ∧ (ok = false → level l = 0) := by
  by_cases h : ∃ r ∈ tab, r.1 = l
  · obtain ⟨r, hr, rfl⟩ := h
    obtain ⟨h1, h2⟩ := at_yes r hr
    refine ⟨true, by rw [h1, level_at r hr], h2, fun _ => ?_, fun e => by cases e⟩
    rw [level_at r hr]
    have all : ∀ r ∈ tab, 1 ≤ r.2.2 := by decide
    exact all r hr
  · have hn : ∀ r ∈ tab, r.1 ≠ l := fun r hr e => h ⟨r, hr, e⟩
    obtain ⟨h1, h2⟩ := at_no l hn
    exact ⟨false, by rw [h1, level_no l hn], h2, (fun e => by cases e), fun _ => level_no l hn⟩

theorem make_hint (t k e : TypeId) (kd : IntKind) (n : Int) (ht : Tryz.prog.underlying t = some (.map k e)) (w : World) :
    (Instr.makeMap t (some (.int kd n))).run Tryz.prog w = .ok (.map (some w.heap.size)) (w.alloc (.map #[] 0)) := by
  simp [Instr.makeMap, run_underlying ht]; rfl

theorem law : Keyed Tryz.prog 9 := string_keyed Tryz.underlying9
theorem key_ok (s : ByteArray) (hs : s.size ≤ maxLen) : keyOf Tryz.prog 9 (.string s) = some (.string s.data.toList) := keyOf_string_mk Tryz.underlying9 hs
theorem zero_op (w : World) : (zeroValue 149).run Tryz.prog w = .ok (.agg #[.string ⟨#[]⟩, .string ⟨#[]⟩, .int .i64 0]) w := by kernel_rfl
theorem nm_size (k : Nat) : (nm k).size ≤ maxLen := by
  rcases Nat.lt_or_ge k 14 with h | h
  · have all : ∀ j : Fin 14, (nm j.val).size ≤ 3 := by decide
    have := all ⟨k, h⟩
    simp only at this
    unfold maxLen; omega
  · unfold nm
    rw [List.getD, List.getElem?_eq_none (by exact h)]
    exact Nat.zero_le _

set_option maxRecDepth 100000 in
/-- impl.operatorTable. -/
theorem table_any (w : World) (ht : OpTab w) :
    Calls Tryz.prog 63 #[] w fun e w' => e = .returned (.map (some w.heap.size)) ∧ w'.ownsMap Tryz.prog 9 opR w.heap.size 14 (opD 14) ∧ Below w.heap.size w w' := by
  have hm := make_hint 75 9 149
  have HM := fun kd n w => hm kd n Tryz.underlying75 w
  clear hm
  have hb0 : Below w.heap.size w (w.alloc (.map #[] 0)) := (Below.refl _ _).alloc (Nat.le_refl _) _
  have ht1 := ht.below hb0
  obtain ⟨tt, fr, htab⟩ := ht1
  have HT := Lib.hid htab
  have HB0 := Lib.hid hb0
  clear htab hb0 ht
  go_enter Tryz.func63, Tryz.ntmps63
  go_wp2_with (refine wpList_load_row rfl 150 _ rfl 1 rfl tt _ fr _ HT.out Tryz.underlying150 rfl (by kernel_rfl) ?_)
  go_loopw [6] (fun i wr => ∃ k : Nat, k ≤ 14 ∧ i = .int .i64 k ∧ wr.ownsMap Tryz.prog 9 opR w.heap.size k (opD k) ∧ Below w.heap.size w wr) (fun i _ => 14 - (intOf i).toNat)
  case atStart => exact ⟨0, Nat.zero_le _, rfl, World.ownsMap_made _ _ _ _, HB0.out⟩
  case round =>
    obtain ⟨k, hk, rfl, hown, hbw⟩ := hrel
    by_cases h14 : k < 14
    · have hx := fun w => index_op k h14 w
      have hkey := key_ok (nm k) (nm_size k)
      have hs := opD_succ k h14
      have HS := Lib.hid hs
      have HB := Lib.hid hbw
      have hown1 := hown.alloc (.cells #[.string (nm k), .string (tx k), .int .i64 (lv k)] 149)
      have HO := Lib.hid hown1
      have him : (k : Int) < 14 := by omega
      clear hs hbw hown hown1
      generalize nm k = a at *
      generalize tx k = b at *
      generalize lv k = l at *
      go_wp2_with (first
        | (at_mapUpdate; refine wpList_mapUpdate_own _ rfl _ _ _ 75 rfl 9 149 law Tryz.underlying75 opR w.heap.size k _ rfl HO.out (by unfold maxLen; omega) _ _ _ rfl rfl hkey (.lit (.int .i64 l)) [] rfl ?_; intro w1 hown2 hgrow1)
        | fail)
      have R1 := HS.out.symm ▸ hown2
      have R2 := (HB.out.alloc HB.out.size (.cells #[.string a, .string b, .int .i64 l] 149)).grown hgrow1 (by simpa using Nat.le_succ_of_le HB.out.size) (fun j hj => by cases hj; exact Nat.le_refl _)
      have H1 := Lib.hid R1
      have H2 := Lib.hid R2
      clear R1 R2 hown2 hgrow1 hkey hx
      go_wp2_with fail
      go_roundw
      case rel => exact ⟨k + 1, by omega, by go_num, H1.out, H2.out⟩
      case measure => simp [intOf]; omega
    · obtain rfl : k = 14 := by omega
      have HO := Lib.hid hown
      have HB := Lib.hid hbw
      clear hown hbw
      go_wp2_with fail
      go_ret
      exact ⟨rfl, HO.out, HB.out⟩

def lmin (l : Int) : Int := if l ≤ 2 then l else 2
/-- operator.leftLevel. -/
theorem left_any (a b : ByteArray) (l : Int) (w : World) :
    Calls Tryz.prog 92 #[.agg #[.string a, .string b, .int .i64 l]] w fun e w' => e = .returned (.int .i64 (lmin l)) ∧ Below w.heap.size w w' := by
  have hb0 : ∀ o, Below w.heap.size w (w.alloc o) := fun o => (Below.refl _ _).alloc (Nat.le_refl _) _
  have HB := Lib.hid hb0
  clear hb0
  by_cases h : l ≤ 2
  · have HV : Hid (lmin l = l) := Lib.hid (if_pos h)
    go_enter Tryz.func92, Tryz.ntmps92
    go_wp2_with fail
    go_ret
    rw [HV.out]
    exact ⟨rfl, HB.out _⟩
  · have HV : Hid (lmin l = 2) := Lib.hid (if_neg h)
    go_enter Tryz.func92, Tryz.ntmps92
    go_wp2_with fail
    go_ret
    rw [HV.out]
    exact ⟨rfl, HB.out _⟩

end Go.Proofs.YtmgfndgmebignaaGreatDoor.op

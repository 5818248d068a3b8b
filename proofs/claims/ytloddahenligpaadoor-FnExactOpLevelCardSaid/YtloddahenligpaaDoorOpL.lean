/- OpLevel: spec.l2Level, spec.OpLevel; impl.operatorTable, operator.leftLevel, impl.OpLevel; the law FnExactOpLevel walked. Condition: the table of operators lies in its variable. -/
import Derived.Test.YtloddahenligpaaDoorProg
import Derived.Test.YtloddahenligpaaDoorOwn
import Derived.WalkKit
import Derived.WalkSpells
import Derived.Outline
import Derived.Laws.Rows
import Derived.Below
import Derived.Lib.Hide
import Derived.Maps.Own
import Derived.Maps.OwnOps
import Derived.Maps.OwnSet
import Derived.StringKeys
import Derived.Deep.RegionHeld3
import Derived.Deep.QuietTactic
import Derived.BigQuiet
namespace Go.Proofs.YtloddahenligpaaDoor.op
open Go.RowKit Go.WideMaps Go.Maps

/-- The operators: name, text, level. -/
def tab : List (List UInt8 × List UInt8 × Int) := [([61], [61], 3), ([92, 61], [92, 61], 3), ([61, 61], [61, 61], 3), ([60], [60], 3), ([62], [62], 3), ([61, 60], [61, 60], 3), ([62, 61], [62, 61], 3), ([61, 58, 61], [61, 58, 61], 3), ([105, 115], [32, 105, 115, 32], 3), ([43], [43], 2), ([45], [45], 2), ([42], [42], 1), ([47, 47], [47, 47], 1), ([109, 111, 100], [32, 109, 111, 100, 32], 1)]
def nm (k : Nat) : ByteArray := ⟨(tab.getD k ([], [], 0)).1.toArray⟩
def tx (k : Nat) : ByteArray := ⟨(tab.getD k ([], [], 0)).2.1.toArray⟩
def lv (k : Nat) : Int := (tab.getD k ([], [], 0)).2.2
/-- The table as the variable's cells. -/
def opV : Array Value := (tab.flatMap fun r => [.string ⟨r.1.toArray⟩, .string ⟨r.2.1.toArray⟩, .int .i64 r.2.2]).toArray
/-- The table of operators lies in its variable. -/
def OpTab (w : World) : Prop := ∃ t fr, w.heap[0]? = some (.cells opV t fr)
theorem OpTab.below {w w' : World} (h : OpTab w) (hb : Below w.heap.size w w') : OpTab w' := by
  obtain ⟨t, fr, hf⟩ := h
  refine ⟨t, fr, ?_⟩
  have hlt : 0 < w.heap.size := by
    rcases Nat.lt_or_ge 0 w.heap.size with h | h
    · exact h
    · rw [Array.getElem?_eq_none h] at hf; cases hf
  exact (hb.block _ hlt).trans hf

/-- The level of a name. -/
def level (l : List UInt8) : Int := ((tab.find? fun r => r.1 == l).map (·.2.2)).getD 0
theorem level_at : ∀ r ∈ tab, level r.1 = r.2.2 := by decide
theorem level_no (l : List UInt8) (h : ∀ r ∈ tab, r.1 ≠ l) : level l = 0 := by
  unfold level
  rw [List.find?_eq_none.2 (fun r hr => by simpa using h r hr)]
  rfl
theorem level_range (l : List UInt8) : 0 ≤ level l ∧ level l ≤ 3 := by
  by_cases h : ∃ r ∈ tab, r.1 = l
  · obtain ⟨r, hr, rfl⟩ := h
    rw [level_at r hr]
    revert r
    decide
  · rw [level_no l fun r hr e => h ⟨r, hr, e⟩]; omega

/-- An operator reads as its level. -/
def opR : Value → Option (DataW Unit × List MemPlace)
  | .agg ⟨[.string _, .string _, .int .i64 l]⟩ => some (.lit (.int .i64 l), [])
  | _ => none
theorem opR_inv {v : Value} {z : DataW Unit × List MemPlace} (h : opR v = some z) : ∃ a b l, v = .agg #[.string a, .string b, .int .i64 l] ∧ z = (.lit (.int .i64 l), []) := by
  unfold opR at h
  split at h
  · cases h; exact ⟨_, _, _, rfl, rfl⟩
  · cases h

def opD (k : Nat) : DataW Unit := (tab.take k).foldl (fun D r => D.put (.string r.1) (.lit (.int .i64 r.2.2))) (.map [])
theorem opD_succ (k : Nat) (h : k < 14) : opD (k + 1) = (opD k).put (.string (nm k).data.toList) (.lit (.int .i64 (lv k))) := by
  have hl : k < tab.length := h
  have e : tab.take (k + 1) = tab.take k ++ [tab.getD k ([], [], 0)] := by
    rw [List.take_add_one, List.getElem?_eq_getElem hl]
    simp [List.getD, List.getElem?_eq_getElem hl]
  unfold opD
  rw [e, List.foldl_append]
  rfl
theorem fold_no (l : List UInt8) (z : DataW Unit) : ∀ (rs : List (List UInt8 × List UInt8 × Int)) (D : DataW Unit), (∀ r ∈ rs, r.1 ≠ l) →
    (rs.foldl (fun D r => D.put (.string r.1) (.lit (.int .i64 r.2.2))) D).atKey (.string l) z = D.atKey (.string l) z ∧
    has (rs.foldl (fun D r => D.put (.string r.1) (.lit (.int .i64 r.2.2))) D) (.string l) = has D (.string l)
  | [], D, _ => ⟨rfl, rfl⟩
  | r :: rs, D, h => by
    have h1 : r.1 ≠ l := h r (by simp)
    have hne : (Lit.string l) ≠ Lit.string r.1 := fun e => h1 (by injection e with e; exact e.symm)
    obtain ⟨h2, h3⟩ := fold_no l z rs (D.put (.string r.1) (.lit (.int .i64 r.2.2))) fun x hx => h x (by simp [hx])
    exact ⟨h2.trans (atKey_put_other hne _ _), h3.trans (has_put_other hne _)⟩
theorem at_no (l : List UInt8) (h : ∀ r ∈ tab, r.1 ≠ l) : (opD 14).atKey (.string l) (.lit (.int .i64 0)) = .lit (.int .i64 0) ∧ has (opD 14) (.string l) = false := by
  have h1 := fold_no l (.lit (.int .i64 0)) tab (.map []) h
  exact ⟨h1.1.trans rfl, h1.2.trans rfl⟩
theorem at_yes : ∀ r ∈ tab, (opD 14).atKey (.string r.1) (.lit (.int .i64 0)) = .lit (.int .i64 r.2.2) ∧ has (opD 14) (.string r.1) = true := by
  intro r hr
  simp only [tab, List.mem_cons, List.not_mem_nil, or_false] at hr
  rcases hr with rfl | rfl | rfl | rfl | rfl | rfl | rfl | rfl | rfl | rfl | rfl | rfl | rfl | rfl <;> exact ⟨by kernel_rfl, by kernel_rfl⟩
/-- What the full table answers. -/
theorem at_all (l : List UInt8) : ∃ ok : Bool, (opD 14).atKey (.string l) (.lit (.int .i64 0)) = .lit (.int .i64 (level l)) ∧ has (opD 14) (.string l) = ok ∧ (ok = true → 1 ≤ level l) ∧ (ok = false → level l = 0) := by
  by_cases h : ∃ r ∈ tab, r.1 = l
  · obtain ⟨r, hr, rfl⟩ := h
    obtain ⟨h1, h2⟩ := at_yes r hr
    refine ⟨true, by rw [h1, level_at r hr], h2, fun _ => ?_, fun e => by cases e⟩
    rw [level_at r hr]
    have all : ∀ r ∈ tab, 1 ≤ r.2.2 := by decide
    exact all r hr
  · have hn : ∀ r ∈ tab, r.1 ≠ l := fun r hr e => h ⟨r, hr, e⟩
    obtain ⟨h1, h2⟩ := at_no l hn
    exact ⟨false, by rw [h1, level_no l hn], h2, (fun e => by cases e), fun _ => level_no l hn⟩

theorem make_hint (t k e : TypeId) (kd : IntKind) (n : Int) (ht : Tryd.prog.underlying t = some (.map k e)) (w : World) :
    (Instr.makeMap t (some (.int kd n))).run Tryd.prog w = .ok (.map (some w.heap.size)) (w.alloc (.map #[] 0)) := by
  simp [Instr.makeMap, run_underlying ht]; rfl

theorem index_op (k : Nat) (h : k < 14) (w : World) :
    (Instr.index 123 (.agg opV) (.int .i64 k)).run Tryd.prog w = .ok (.agg #[.string (nm k), .string (tx k), .int .i64 (lv k)]) w := by
  have all : ∀ j : Fin 14, ∀ w, (Instr.index 123 (.agg opV) (.int .i64 (j.val : Nat))).run Tryd.prog w = .ok (.agg #[.string (nm j.val), .string (tx j.val), .int .i64 (lv j.val)]) w := by
    intro j w
    match j with
    | ⟨0, _⟩ => (change _ = _; kernel_rfl)
    | ⟨1, _⟩ => (change _ = _; kernel_rfl)
    | ⟨2, _⟩ => (change _ = _; kernel_rfl)
    | ⟨3, _⟩ => (change _ = _; kernel_rfl)
    | ⟨4, _⟩ => (change _ = _; kernel_rfl)
    | ⟨5, _⟩ => (change _ = _; kernel_rfl)
    | ⟨6, _⟩ => (change _ = _; kernel_rfl)
    | ⟨7, _⟩ => (change _ = _; kernel_rfl)
    | ⟨8, _⟩ => (change _ = _; kernel_rfl)
    | ⟨9, _⟩ => (change _ = _; kernel_rfl)
    | ⟨10, _⟩ => (change _ = _; kernel_rfl)
    | ⟨11, _⟩ => (change _ = _; kernel_rfl)
    | ⟨12, _⟩ => (change _ = _; kernel_rfl)
    | ⟨13, _⟩ => (change _ = _; kernel_rfl)
  exact all ⟨k, h⟩ w

theorem law : Keyed Tryd.prog 9 := string_keyed Tryd.underlying9
theorem key_ok (s : ByteArray) (hs : s.size ≤ maxLen) : keyOf Tryd.prog 9 (.string s) = some (.string s.data.toList) := keyOf_string_mk Tryd.underlying9 hs
theorem zero_op (w : World) : (zeroValue 87).run Tryd.prog w = .ok (.agg #[.string ⟨#[]⟩, .string ⟨#[]⟩, .int .i64 0]) w := by kernel_rfl
theorem nm_size (k : Nat) : (nm k).size ≤ maxLen := by
  rcases Nat.lt_or_ge k 14 with h | h
  · have all : ∀ j : Fin 14, (nm j.val).size ≤ 3 := by decide
    have := all ⟨k, h⟩
    simp only at this
    unfold maxLen; omega
  · unfold nm
    rw [List.getD, List.getElem?_eq_none (by exact h)]
    exact Nat.zero_le _

set_option maxRecDepth 100000 in
/-- impl.operatorTable. -/
theorem table_any (w : World) (ht : OpTab w) :
    Calls Tryd.prog 64 #[] w fun e w' => e = .returned (.map (some w.heap.size)) ∧ w'.ownsMap Tryd.prog 9 opR w.heap.size 14 (opD 14) ∧ Below w.heap.size w w' := by
  have hm := make_hint 89 9 87
  have HM := fun kd n w => hm kd n Tryd.underlying89 w
  clear hm
  have hb0 : Below w.heap.size w (w.alloc (.map #[] 0)) := (Below.refl _ _).alloc (Nat.le_refl _) _
  have ht1 := ht.below hb0
  obtain ⟨tt, fr, htab⟩ := ht1
  have HT := Lib.hid htab
  have HB0 := Lib.hid hb0
  clear htab hb0 ht
  go_enter Tryd.func64, Tryd.ntmps64
  go_wp2_with (refine wpList_load_row rfl 123 _ rfl 0 rfl tt _ fr _ HT.out Tryd.underlying123 rfl (by kernel_rfl) ?_)
  go_loopw [6] (fun i wr => ∃ k : Nat, k ≤ 14 ∧ i = .int .i64 k ∧ wr.ownsMap Tryd.prog 9 opR w.heap.size k (opD k) ∧ Below w.heap.size w wr) (fun i _ => 14 - (intOf i).toNat)
  case atStart => exact ⟨0, Nat.zero_le _, rfl, World.ownsMap_made _ _ _ _, HB0.out⟩
  case round =>
    obtain ⟨k, hk, rfl, hown, hbw⟩ := hrel
    by_cases h14 : k < 14
    · have hx := fun w => index_op k h14 w
      have hkey := key_ok (nm k) (nm_size k)
      have hs := opD_succ k h14
      have HS := Lib.hid hs
      have HB := Lib.hid hbw
      have hown1 := hown.alloc (.cells #[.string (nm k), .string (tx k), .int .i64 (lv k)] 87)
      have HO := Lib.hid hown1
      have him : (k : Int) < 14 := by omega
      clear hs hbw hown hown1
      generalize nm k = a at *
      generalize tx k = b at *
      generalize lv k = l at *
      go_wp2_with (first
        | (at_mapUpdate; refine wpList_mapUpdate_own _ rfl _ _ _ 89 rfl 9 87 law Tryd.underlying89 opR w.heap.size k _ rfl HO.out (by unfold maxLen; omega) _ _ _ rfl rfl hkey (.lit (.int .i64 l)) [] rfl ?_; intro w1 hown2 hgrow1)
        | fail)
      have R1 := HS.out.symm ▸ hown2
      have R2 := (HB.out.alloc HB.out.size (.cells #[.string a, .string b, .int .i64 l] 87)).grown hgrow1 (by simpa using Nat.le_succ_of_le HB.out.size) (fun j hj => by cases hj; exact Nat.le_refl _)
      have H1 := Lib.hid R1
      have H2 := Lib.hid R2
      clear R1 R2 hown2 hgrow1 hkey hx
      go_wp2_with fail
      go_roundw
      case rel => exact ⟨k + 1, by omega, by go_num, H1.out, H2.out⟩
      case measure => simp [intOf]; omega
    · obtain rfl : k = 14 := by omega
      have HO := Lib.hid hown
      have HB := Lib.hid hbw
      clear hown hbw
      go_wp2_with fail
      go_ret
      exact ⟨rfl, HO.out, HB.out⟩

def lmin (l : Int) : Int := if l ≤ 2 then l else 2
/-- operator.leftLevel. -/
theorem left_any (a b : ByteArray) (l : Int) (w : World) :
    Calls Tryd.prog 65 #[.agg #[.string a, .string b, .int .i64 l]] w fun e w' => e = .returned (.int .i64 (lmin l)) ∧ Below w.heap.size w w' := by
  have hb0 : ∀ o, Below w.heap.size w (w.alloc o) := fun o => (Below.refl _ _).alloc (Nat.le_refl _) _
  have HB := Lib.hid hb0
  clear hb0
  by_cases h : l ≤ 2
  · have HV : Hid (lmin l = l) := Lib.hid (if_pos h)
    go_enter Tryd.func65, Tryd.ntmps65
    go_wp2_with fail
    go_ret
    rw [HV.out]
    exact ⟨rfl, HB.out _⟩
  · have HV : Hid (lmin l = 2) := Lib.hid (if_neg h)
    go_enter Tryd.func65, Tryd.ntmps65
    go_wp2_with fail
    go_ret
    rw [HV.out]
    exact ⟨rfl, HB.out _⟩

/-- impl.OpLevel. -/
theorem impl_any (s : ByteArray) (w : World) (hs : s.size ≤ maxLen) (ht : OpTab w) :
    Calls Tryd.prog 35 #[.string s] w fun e w' => e = .returned (.tuple #[.int .i64 (level s.data.toList), .bool (decide (level s.data.toList = 1 ∨ level s.data.toList = 2))]) ∧ Below w.heap.size w w' := by
  obtain ⟨ok, hat, hhas, hy, hn⟩ := at_all s.data.toList
  have hkey := key_ok s hs
  have C1 := table_any w ht
  have H1 := Lib.hid C1
  have hr := level_range s.data.toList
  generalize s.data.toList = l at *
  generalize hl : level l = n at *
  clear hl ht C1
  have HAT := Lib.hid hat
  have HH := Lib.hid hhas
  clear hat hhas
  cases ok
  · have hz := hn rfl
    subst hz
    have HV : Hid (decide ((0 : Int) = 1 ∨ (0 : Int) = 2) = false) := Lib.hid rfl
    clear hy hn hr
    go_enter Tryd.func35, Tryd.ntmps35
    go_wp2_with fail
    refine H1.out.mono ?_
    rintro e w1 ⟨rfl, hown, hb1⟩
    have HO := Lib.hid hown
    have HB1 := Lib.hid hb1
    clear hown hb1
    go_wp2_with (at_lookup; refine wpList_lookup_own_ok _ rfl _ _ 89 rfl 9 87 law Tryd.underlying89 opR (zero_op _) (.lit (.int .i64 0)) [] rfl w.heap.size 14 _ rfl HO.out _ _ rfl hkey ?_; intro v ps hv; obtain ⟨a, b, l', rfl, he⟩ := opR_inv hv; rw [HAT.out] at he; cases he; rw [HH.out]; clear hv)
    have b0 := Blk.new w1 87 #[.string a, .string b, .int .i64 0]
    have hb2 := HB1.out.alloc HB1.out.size (.cells #[.string a, .string b, .int .i64 0] 87)
    generalize (w1.alloc (.cells #[.string a, .string b, .int .i64 0] 87)) = w2 at *
    have c0 := b0.cell 0
    have c1 := b0.cell 1
    have c2 := b0.cell 2
    simp only [List.getElem?_toArray, List.getElem?_cons_zero, List.getElem?_cons_succ] at c0 c1 c2
    have HB2 := Lib.hid hb2
    clear b0 hb2 hkey
    go_quiet (fail)
    go_wp2_with fail
    go_ret2
    rw [HV.out]
    exact ⟨rfl, HB2.out.trans ⟨rfl, rfl, rfl, Nat.le_refl _, fun _ _ => rfl⟩⟩
  · have hy1 := hy rfl
    have HV : Hid ((lmin n == n) = decide (n = 1 ∨ n = 2)) := Lib.hid (by
      unfold lmin
      rw [Bool.eq_iff_iff, beq_iff_eq, decide_eq_true_iff]
      split <;> omega)
    have C2 := left_any
    have H2 := Lib.hid C2
    clear hy hn hr hy1 C2
    go_enter Tryd.func35, Tryd.ntmps35
    go_wp2_with fail
    refine H1.out.mono ?_
    rintro e w1 ⟨rfl, hown, hb1⟩
    have HO := Lib.hid hown
    have HB1 := Lib.hid hb1
    clear hown hb1
    go_wp2_with (at_lookup; refine wpList_lookup_own_ok _ rfl _ _ 89 rfl 9 87 law Tryd.underlying89 opR (zero_op _) (.lit (.int .i64 0)) [] rfl w.heap.size 14 _ rfl HO.out _ _ rfl hkey ?_; intro v ps hv; obtain ⟨a, b, l', rfl, he⟩ := opR_inv hv; rw [HAT.out] at he; cases he; rw [HH.out]; clear hv)
    have b0 := Blk.new w1 87 #[.string a, .string b, .int .i64 n]
    have hb2 := HB1.out.alloc HB1.out.size (.cells #[.string a, .string b, .int .i64 n] 87)
    generalize (w1.alloc (.cells #[.string a, .string b, .int .i64 n] 87)) = w2 at *
    have c0 := b0.cell 0
    have c1 := b0.cell 1
    have c2 := b0.cell 2
    simp only [List.getElem?_toArray, List.getElem?_cons_zero, List.getElem?_cons_succ] at c0 c1 c2
    have hlt := b0.lt
    have HB0 := Lib.hid b0
    have HB2 := Lib.hid hb2
    clear b0 hb2 hkey
    go_region_held3 (fun w' => w'.cell? ⟨w1.heap.size, 0, none⟩ = some (.string a) ∧ w'.cell? ⟨w1.heap.size, 1, none⟩ = some (.string b) ∧ w'.cell? ⟨w1.heap.size, 2, none⟩ = some (.int .i64 n))
      (first | exact ⟨c0, c1, c2⟩ | exact ⟨y0, y1, y2⟩)
      (first
        | (go_at_call 65
           refine (H2.out _ _ _ _).mono ?_
           rintro e w3 ⟨rfl, hb3⟩
           have hd3 : Below w2.heap.size w2 w3 := (Below.refl w2.heap.size w2).drew.trans hb3
           have y0 := (hd3.cell (p := ⟨w1.heap.size, 0, none⟩) hlt).trans c0
           have y1 := (hd3.cell (p := ⟨w1.heap.size, 1, none⟩) hlt).trans c1
           have y2 := (hd3.cell (p := ⟨w1.heap.size, 2, none⟩) hlt).trans c2
           have HB3 := Lib.hid (HB2.out.trans (hd3.mono HB2.out.size))
           clear hb3 hd3))
    go_wp2_with fail
    go_ret2
    rw [← HV.out]
    exact ⟨rfl, HB3.out⟩

theorem str_of {s : ByteArray} {l : List UInt8} (h : s.data.toList = l) : s = ⟨l.toArray⟩ := by
  cases s with
  | mk d => simp only at h; subst h; simp

set_option maxHeartbeats 4000000 in
/-- spec.l2Level. -/
theorem l2_any (s : ByteArray) (w : World) :
    Calls Tryd.prog 63 #[.string s] w fun e w' => e = .returned (.int .i64 (level s.data.toList)) ∧ w' = w := by
  by_cases h : ∃ r ∈ tab, r.1 = s.data.toList
  · obtain ⟨r, hr, he⟩ := h
    have hs := str_of he.symm
    subst hs
    clear he
    simp only [tab, List.mem_cons, List.not_mem_nil, or_false] at hr
    rcases hr with rfl | rfl | rfl | rfl | rfl | rfl | rfl | rfl | rfl | rfl | rfl | rfl | rfl | rfl
    · have HV : Hid (level [61] = 3) := Lib.hid (by decide)
      go_enter Tryd.func63, Tryd.ntmps63
      go_wp2_with fail
      go_ret
      exact ⟨congrArg (fun z => Ending.returned (.int .i64 z)) HV.out.symm, rfl⟩
    · have HV : Hid (level [92, 61] = 3) := Lib.hid (by decide)
      go_enter Tryd.func63, Tryd.ntmps63
      go_wp2_with fail
      go_ret
      exact ⟨congrArg (fun z => Ending.returned (.int .i64 z)) HV.out.symm, rfl⟩
    · have HV : Hid (level [61, 61] = 3) := Lib.hid (by decide)
      go_enter Tryd.func63, Tryd.ntmps63
      go_wp2_with fail
      go_ret
      exact ⟨congrArg (fun z => Ending.returned (.int .i64 z)) HV.out.symm, rfl⟩
    · have HV : Hid (level [60] = 3) := Lib.hid (by decide)
      go_enter Tryd.func63, Tryd.ntmps63
      go_wp2_with fail
      go_ret
      exact ⟨congrArg (fun z => Ending.returned (.int .i64 z)) HV.out.symm, rfl⟩
    · have HV : Hid (level [62] = 3) := Lib.hid (by decide)
      go_enter Tryd.func63, Tryd.ntmps63
      go_wp2_with fail
      go_ret
      exact ⟨congrArg (fun z => Ending.returned (.int .i64 z)) HV.out.symm, rfl⟩
    · have HV : Hid (level [61, 60] = 3) := Lib.hid (by decide)
      go_enter Tryd.func63, Tryd.ntmps63
      go_wp2_with fail
      go_ret
      exact ⟨congrArg (fun z => Ending.returned (.int .i64 z)) HV.out.symm, rfl⟩
    · have HV : Hid (level [62, 61] = 3) := Lib.hid (by decide)
      go_enter Tryd.func63, Tryd.ntmps63
      go_wp2_with fail
      go_ret
      exact ⟨congrArg (fun z => Ending.returned (.int .i64 z)) HV.out.symm, rfl⟩
    · have HV : Hid (level [61, 58, 61] = 3) := Lib.hid (by decide)
      go_enter Tryd.func63, Tryd.ntmps63
      go_wp2_with fail
      go_ret
      exact ⟨congrArg (fun z => Ending.returned (.int .i64 z)) HV.out.symm, rfl⟩
    · have HV : Hid (level [105, 115] = 3) := Lib.hid (by decide)
      go_enter Tryd.func63, Tryd.ntmps63
      go_wp2_with fail
      go_ret
      exact ⟨congrArg (fun z => Ending.returned (.int .i64 z)) HV.out.symm, rfl⟩
    · have HV : Hid (level [43] = 2) := Lib.hid (by decide)
      go_enter Tryd.func63, Tryd.ntmps63
      go_wp2_with fail
      go_ret
      exact ⟨congrArg (fun z => Ending.returned (.int .i64 z)) HV.out.symm, rfl⟩
    · have HV : Hid (level [45] = 2) := Lib.hid (by decide)
      go_enter Tryd.func63, Tryd.ntmps63
      go_wp2_with fail
      go_ret
      exact ⟨congrArg (fun z => Ending.returned (.int .i64 z)) HV.out.symm, rfl⟩
    · have HV : Hid (level [42] = 1) := Lib.hid (by decide)
      go_enter Tryd.func63, Tryd.ntmps63
      go_wp2_with fail
      go_ret
      exact ⟨congrArg (fun z => Ending.returned (.int .i64 z)) HV.out.symm, rfl⟩
    · have HV : Hid (level [47, 47] = 1) := Lib.hid (by decide)
      go_enter Tryd.func63, Tryd.ntmps63
      go_wp2_with fail
      go_ret
      exact ⟨congrArg (fun z => Ending.returned (.int .i64 z)) HV.out.symm, rfl⟩
    · have HV : Hid (level [109, 111, 100] = 1) := Lib.hid (by decide)
      go_enter Tryd.func63, Tryd.ntmps63
      go_wp2_with fail
      go_ret
      exact ⟨congrArg (fun z => Ending.returned (.int .i64 z)) HV.out.symm, rfl⟩
  · have hn : ∀ r ∈ tab, r.1 ≠ s.data.toList := fun r hr e => h ⟨r, hr, e⟩
    have HV : Hid (level s.data.toList = 0) := Lib.hid (level_no _ hn)
    have hf : ∀ r ∈ tab, (s.toList == r.1) = false := fun r hr => by
      rw [ByteArray.toList_eq, beq_eq_false_iff_ne]
      exact fun e => hn r hr e.symm
    simp only [tab, List.mem_cons, List.not_mem_nil, or_false, forall_eq_or_imp, forall_eq] at hf
    obtain ⟨t1, t2, t3, t4, t5, t6, t7, t8, t9, t10, t11, t12, t13, t14⟩ := hf
    clear hn h
    go_enter Tryd.func63, Tryd.ntmps63
    go_wp2_with fail
    go_ret
    rw [HV.out]
    exact ⟨rfl, rfl⟩

/-- spec.OpLevel. -/
theorem spec_any (s : ByteArray) (w : World) :
    Calls Tryd.prog 34 #[.string s] w fun e w' => e = .returned (.tuple #[.int .i64 (level s.data.toList), .bool (decide (level s.data.toList = 1 ∨ level s.data.toList = 2))]) ∧ w' = w := by
  have C1 := l2_any s
  generalize level s.data.toList = n at *
  have H1 := Lib.hid C1
  clear C1
  by_cases h1 : n = 1
  · subst h1
    go_enter Tryd.func34, Tryd.ntmps34
    go_wp2_with (go_at_call 63; refine (H1.out _).mono ?_; rintro e w' ⟨rfl, rfl⟩)
    go_ret2
    exact ⟨rfl, rfl⟩
  · have t1 : (n == 1) = false := by rw [beq_eq_false_iff_ne]; exact h1
    have HV : Hid ((n == 2) = decide (n = 1 ∨ n = 2)) := Lib.hid (by
      rw [Bool.eq_iff_iff, beq_iff_eq, decide_eq_true_iff]
      omega)
    clear h1
    go_enter Tryd.func34, Tryd.ntmps34
    go_wp2_with (go_at_call 63; refine (H1.out _).mono ?_; rintro e w' ⟨rfl, rfl⟩)
    go_ret2
    rw [← HV.out]
    exact ⟨rfl, rfl⟩

/-- The law. -/
theorem law_any (s : ByteArray) (w : World) (hs : s.size ≤ maxLen) (ht : OpTab w) :
    Calls Tryd.prog 7 #[.string s] w fun e w' => e = .returned (.bool true) ∧ Below w.heap.size w w' := by
  have C1 := spec_any s
  have C2 := impl_any s w hs ht
  have H1 := Lib.hid C1
  have H2 := Lib.hid C2
  have HB := Lib.hid (Below.refl w.heap.size w)
  generalize level s.data.toList = n at *
  generalize decide (n = 1 ∨ n = 2) = ok at *
  have tv : (ok != ok) = false := by cases ok <;> rfl
  unfold maxLen at hs
  clear C1 C2 ht
  by_cases hsz : s.size ≤ 1048576
  · go_enter Tryd.func7, Tryd.ntmps7
    go_wp2_with (first
      | (go_at_call 34; refine (H1.out _).mono ?_; rintro e w' ⟨rfl, rfl⟩)
      | (go_at_call 35; refine H2.out.mono ?_; rintro e w2 ⟨rfl, hb2⟩))
    go_ret
    exact ⟨rfl, hb2⟩
  · go_enter Tryd.func7, Tryd.ntmps7
    go_wp2_with fail
    go_ret
    exact ⟨rfl, HB.out⟩
end Go.Proofs.YtloddahenligpaaDoor.op

/- CompareGoal: the model's and the program's. Condition: the term lies in memory, both tables in their variables. -/
import Derived.Test.YtgfdikmogdpchaaDoorProg
import Derived.Test.YtgfdikmogdpchaaDoorCg
namespace Go.Proofs.YtgfdikmogdpchaaDoor
open Go.RowKit Go.WideMaps Go.Maps

set_option maxRecDepth 100000 in
/-- spec.CompareGoal. -/
theorem specCg_any (k n : Int) (s : ByteArray) (f : Fr) (A : Option Addr) (cap lo hi : Nat) (w : World) (hk : KidsAt w lo hi f A cap) (hh : hi ≤ w.heap.size) (hf : Fits k n s) (hnd : nodes f ≤ 1048576) :
    Calls Tryd.prog 10 #[.agg #[.int .i64 k, .int .i64 n, .string s, .slice A f.len cap]] w fun e w' => e = .returned (.bool (cgB k n s f)) ∧ Below w.heap.size w w' := by
  have HB0 : Hid (Below w.heap.size w (w.alloc (.cells #[.int .i64 k, .int .i64 n, .string s, .slice A f.len cap] 30))) := Lib.hid ((Below.refl _ _).alloc (Nat.le_refl _) _)
  have C1 := fun w1 (hb : Below w.heap.size w w1) => specValid_any k n s f A cap lo hi w1 (hk.below hb hh) (Nat.le_trans hh hb.size) hf hnd
  have C2 := fun w1 => cmp_any s w1
  have HE : Hid (cgB k n s f = (validT k n s f && ((k == 3) && ((f.len == 2) && cmpB s.data.toList)))) := Lib.hid rfl
  have hen : (f.len == 2) = ((f.len : Int) == 2) := by rw [Bool.eq_iff_iff, beq_iff_eq, beq_iff_eq]; omega
  rw [hen] at HE
  generalize validT k n s f = v1 at *
  generalize cmpB s.data.toList = v2 at *
  have H1 := Lib.hid C1
  have H2 := Lib.hid C2
  clear C1 C2 hk hf hnd hen
  cases v1
  · have HV : Hid (cgB k n s f = false) := Lib.hid (by rw [HE.out]; rfl)
    go_enter Tryd.func10, Tryd.ntmps10
    go_wp2_with fail
    refine (H1.out _ HB0.out).mono ?_
    rintro e w2 ⟨rfl, hb⟩
    have HB := Lib.hid (HB0.out.trans (hb.mono (by simp)))
    clear hb
    go_wp2_with fail
    go_ret
    rw [HV.out]; exact ⟨rfl, HB.out⟩
  · cases t0 : (k == 3)
    · have HV : Hid (cgB k n s f = false) := Lib.hid (by rw [HE.out, t0]; rfl)
      go_enter Tryd.func10, Tryd.ntmps10
      go_wp2_with fail
      refine (H1.out _ HB0.out).mono ?_
      rintro e w2 ⟨rfl, hb⟩
      have hq := (Blk.new w 30 #[.int .i64 k, .int .i64 n, .string s, .slice A f.len cap]).below hb (by simp)
      obtain ⟨a0, a1, a2, a3⟩ := cells4 hq
      have HB := Lib.hid (HB0.out.trans (hb.mono (by simp)))
      clear hb hq
      go_wp2_with fail
      go_ret
      rw [HV.out]; exact ⟨rfl, HB.out⟩
    · cases t1 : ((f.len : Int) == 2)
      · have HV : Hid (cgB k n s f = false) := Lib.hid (by rw [HE.out, t0, t1]; rfl)
        go_enter Tryd.func10, Tryd.ntmps10
        go_wp2_with fail
        refine (H1.out _ HB0.out).mono ?_
        rintro e w2 ⟨rfl, hb⟩
        have hq := (Blk.new w 30 #[.int .i64 k, .int .i64 n, .string s, .slice A f.len cap]).below hb (by simp)
        obtain ⟨a0, a1, a2, a3⟩ := cells4 hq
        have HB := Lib.hid (HB0.out.trans (hb.mono (by simp)))
        clear hb hq
        go_wp2_with fail
        go_ret
        rw [HV.out]; exact ⟨rfl, HB.out⟩
      · have HV : Hid (cgB k n s f = v2) := Lib.hid (by rw [HE.out, t0, t1]; rfl)
        go_enter Tryd.func10, Tryd.ntmps10
        go_wp2_with fail
        refine (H1.out _ HB0.out).mono ?_
        rintro e w2 ⟨rfl, hb⟩
        have hq := (Blk.new w 30 #[.int .i64 k, .int .i64 n, .string s, .slice A f.len cap]).below hb (by simp)
        obtain ⟨a0, a1, a2, a3⟩ := cells4 hq
        have HB := Lib.hid (HB0.out.trans (hb.mono (by simp)))
        clear hb hq
        go_wp2_with (go_at_call 20; refine (H2.out _).mono ?_; rintro e w' ⟨rfl, rfl⟩)
        go_ret
        rw [HV.out]; exact ⟨rfl, HB.out⟩

@[go_sem] theorem as_c (v : Value) (w : World) : (Instr.typeAssert (.iface 55 v) 58 55 true).run Tryd.prog w = .ok (.tuple #[v, .bool true]) w := by kernel_rfl
theorem as_no (v : Value) (h : v = .nilIface ∨ (∃ x, v = .iface 79 x) ∨ ∃ x, v = .iface 81 x) (w : World) : (Instr.typeAssert v 58 55 true).run Tryd.prog w = .ok (.tuple #[.nilFunc, .bool false]) w := by
  rcases h with rfl | ⟨x, rfl⟩ | ⟨x, rfl⟩ <;> kernel_rfl

set_option maxRecDepth 100000 in
set_option maxHeartbeats 1000000 in
/-- impl.CompareGoal. -/
theorem implCg_any (k n : Int) (s : ByteArray) (f : Fr) (A : Option Addr) (cap lo hi : Nat) (w : World) (hk : KidsAt w lo hi f A cap) (hh : hi ≤ w.heap.size) (hf : Fits k n s) (hnd : nodes f ≤ 1048576) (ht : nv.Tab w) (ho : op.OpTab w) :
    Calls Tryd.prog 11 #[.agg #[.int .i64 k, .int .i64 n, .string s, .slice A f.len cap]] w fun e w' => e = .returned (.bool (cgB k n s f)) ∧ Below w.heap.size w w' := by
  have hb0 : Below w.heap.size w (w.alloc (.cells #[.int .i64 k, .int .i64 n, .string s, .slice A f.len cap] 30)) := (Below.refl _ _).alloc (Nat.le_refl _) _
  have C1 := builtinOf_any k n s f A cap lo hi _ (hk.below hb0 hh) (Nat.le_trans hh hb0.size) hf hnd (ht.below hb0) (ho.below hb0)
  have C2 := fun w1 => bt_any w1
  have hkey := str_key s hf.2.2
  have HCG : Hid (cgB k n s f = (biV k n s f && cmpB s.data.toList)) := Lib.hid (cg_of k n s f)
  have hbt := bt_cmp s.data.toList
  have H1 := Lib.hid C1
  have H2 := Lib.hid C2
  have HB0 := Lib.hid hb0
  have HK := Lib.hid hkey
  have HBT := Lib.hid hbt
  clear C1 C2 hk hf hnd ht ho hb0 hkey hbt
  go_enter Tryd.func11, Tryd.ntmps11
  go_wp2_with fail
  refine H1.out.mono ?_
  rintro e w2 ⟨hb, hr⟩
  have hb2 := HB0.out.trans (hb.mono HB0.out.size)
  rcases hr with ⟨hok, s', A', len', cap', rfl⟩ | ⟨hok, A2, cap2, rfl, _⟩
  · have HV : Hid (cgB k n s f = false) := Lib.hid (by rw [HCG.out, hok]; rfl)
    have HB2 := Lib.hid (hb2.alloc hb2.size (.cells #[.string s', .slice A' len' cap'] 51))
    clear hb hb2 hok
    go_wp2_with fail
    go_ret
    rw [HV.out]; exact ⟨rfl, HB2.out⟩
  · have HV : Hid (cgB k n s f = cmpB s.data.toList) := Lib.hid (by rw [HCG.out, hok]; rfl)
    have hb3 := hb2.alloc hb2.size (.cells #[.string s, .slice A2 f.len cap2] 51)
    have hq3 := Blk.new w2 51 #[.string s, .slice A2 f.len cap2]
    generalize hw3 : (w2.alloc (.cells #[.string s, .slice A2 f.len cap2] 51)) = w3 at *
    have HW3 := Lib.hid hw3
    have HB3 := Lib.hid hb3
    have HQ3 := Lib.hid hq3
    clear hb hb2 hok hb3 hq3 hw3
    go_wp2_with fail
    rw [HW3.out]
    have c0 := HQ3.out.cell 0
    simp only [List.getElem?_toArray, List.getElem?_cons_zero] at c0
    have hlt := HQ3.out.lt
    generalize cmpB s.data.toList = cv at *
    rcases HBT.out with ⟨rfl, x, hat⟩ | ⟨rfl, x, hat, hx⟩
    · have HAT := Lib.hid hat
      clear hat
      go_region_held3 (fun w' => w'.cell? ⟨w2.heap.size, 0, none⟩ = some (.string s))
        (first | exact c0 | exact y0)
        (first
          | (go_at_call 22
             refine (H2.out _).mono ?_
             rintro e w4 ⟨rfl, hown, hb4⟩
             have hd4 : Below w3.heap.size w3 w4 := (Below.refl w3.heap.size w3).drew.trans hb4
             have y0 := (hd4.cell (p := ⟨w2.heap.size, 0, none⟩) hlt).trans c0
             obtain ⟨v, ps, hrun0, hv⟩ := hown.lookup strKeyed Tryd.underlying59 (z := .nilIface) (by kernel_rfl) (zd := .held .nilIface) (zp := []) rfl HK.out
             have hrun : (Instr.lookup 59 (.map (some w3.heap.size)) (.string s) false).run Tryd.prog w4 = .ok (.iface 55 x) w4 := (btR_inv hv HAT.out) ▸ hrun0
             clear hrun0
             have HB4 := Lib.hid (HB3.out.trans (hd4.mono HB3.out.size))
             clear hb4 hd4 hown hv))
      go_wp2_with fail
      go_ret
      rw [HV.out]; exact ⟨rfl, HB4.out⟩
    · have HAT := Lib.hid hat
      have hno := as_no x hx
      clear hat hx
      go_region_held3 (fun w' => w'.cell? ⟨w2.heap.size, 0, none⟩ = some (.string s))
        (first | exact c0 | exact y0)
        (first
          | (go_at_call 22
             refine (H2.out _).mono ?_
             rintro e w4 ⟨rfl, hown, hb4⟩
             have hd4 : Below w3.heap.size w3 w4 := (Below.refl w3.heap.size w3).drew.trans hb4
             have y0 := (hd4.cell (p := ⟨w2.heap.size, 0, none⟩) hlt).trans c0
             obtain ⟨v, ps, hrun0, hv⟩ := hown.lookup strKeyed Tryd.underlying59 (z := .nilIface) (by kernel_rfl) (zd := .held .nilIface) (zp := []) rfl HK.out
             have hrun : (Instr.lookup 59 (.map (some w3.heap.size)) (.string s) false).run Tryd.prog w4 = .ok (x) w4 := (btR_inv hv HAT.out) ▸ hrun0
             clear hrun0
             have HB4 := Lib.hid (HB3.out.trans (hd4.mono HB3.out.size))
             clear hb4 hd4 hown hv))
      go_wp2_with fail
      go_ret
      rw [HV.out]; exact ⟨rfl, HB4.out⟩
end Go.Proofs.YtgfdikmogdpchaaDoor

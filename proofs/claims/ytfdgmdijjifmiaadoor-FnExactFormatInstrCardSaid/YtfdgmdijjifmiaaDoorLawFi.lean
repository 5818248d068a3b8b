/- The law FnExactFormatInstr, walked. Condition: the tables lie in their variables. -/
import Derived.Test.YtfdgmdijjifmiaaDoorProg
import Derived.Test.YtfdgmdijjifmiaaDoorNiQ
namespace Go.Proofs.YtfdgmdijjifmiaaDoor.ins
open Go.RowKit

set_option maxRecDepth 100000 in
set_option maxHeartbeats 1000000 in
/-- The law. -/
theorem lawFi_any (x : Ins) (W : World) (hx : x.ok) (ht : nv.Tab W) (hn : NotTab W) (hp : Lib.TabIs Tryd.prog W "internal/strconv.uint64pow10" .u64 Lib.pow10Tab) :
    Calls Tryd.prog 3 #[.agg #[.int .i64 x.op, .int .i64 x.a, .int .i64 x.b, .string x.s]] W fun e w' => e = .returned (.bool true) ∧ Below W.heap.size W w' := by
  have hb0 : Below W.heap.size W (W.alloc (.cells #[.int .i64 x.op, .int .i64 x.a, .int .i64 x.b, .string x.s] 23)) := (Below.refl _ _).alloc (Nat.le_refl _) _
  have q0 := Blk.new W 23 #[.int .i64 x.op, .int .i64 x.a, .int .i64 x.b, .string x.s]
  have C0 := fun w1 => szX_any x hx 1048576 w1 (by omega) (by omega)
  have hr := szX_range x.s 1048576 (by omega)
  have HB0 := Lib.hid hb0
  have HQ0 := Lib.hid q0
  have HX := Lib.hid hx
  have HT := Lib.hid (fun w1 (h : Below W.heap.size W w1) => nv_below ht h)
  have HN := Lib.hid (fun w1 (h : Below W.heap.size W w1) => hn.below h)
  have HP := Lib.hid (Lib.tabBelow_of_tabIs hp)
  have H0 := Lib.hid C0
  have CT := Lib.hid (fun w1 => toX_any x w1)
  have CS := Lib.hid (fun (hs : x.s.size ≤ 1048576) w1 => specFi_any x hx hs w1)
  have CI := Lib.hid (fun (hs : x.s.size ≤ 1048576) w1 h1 h2 h3 => implFi_any x hx hs w1 h1 h2 h3)
  clear C0 hx ht hn hp hb0
  generalize hz : szX x.s 1048576 = r at *
  have HZ := Lib.hid hz
  have HR := Lib.hid hr
  clear hz hr
  generalize (⟨(fmtB x).toArray⟩ : ByteArray) = v at *
  have t3 : (v.toList != v.toList) = false := by simp
  have t4 : (!(v.toList == v.toList)) = false := t3
  obtain ⟨op, a, b, s⟩ := x
  simp only at *
  have c0 := q0.cell 0
  have c1 := q0.cell 1
  have c2 := q0.cell 2
  have c3 := q0.cell 3
  simp only [List.getElem?_toArray, List.getElem?_cons_zero, List.getElem?_cons_succ] at c0 c1 c2 c3
  clear q0
  by_cases hneg : r < 0
  · obtain rfl : r = -1 := by have := HR.out; omega
    go_enter Tryd.func3, Tryd.ntmps3
    go_wp2_with fail
    refine (H0.out _).mono ?_
    rintro e w2 ⟨rfl, hb⟩
    have HB2 := Lib.hid (HB0.out.trans (hb.mono HB0.out.size))
    clear hb
    go_wp2_with fail
    go_ret
    exact ⟨rfl, HB2.out⟩
  · have hs : s.size ≤ 1048576 := by have := HR.out; omega
    have H1 := Lib.hid (CS.out hs)
    have H2 := Lib.hid (CI.out hs)
    clear CS CI HR HZ HX
    go_enter Tryd.func3, Tryd.ntmps3
    go_wp2_with fail
    refine (H0.out _).mono ?_
    rintro e w2 ⟨rfl, hb⟩
    have HB2 := Lib.hid (HB0.out.trans (hb.mono HB0.out.size))
    have HQ2 := Lib.hid (HQ0.out.below hb HQ0.out.lt)
    clear hb c0 c1 c2 c3
    have c0 := HQ2.out.cell 0
    have c1 := HQ2.out.cell 1
    have c2 := HQ2.out.cell 2
    have c3 := HQ2.out.cell 3
    simp only [List.getElem?_toArray, List.getElem?_cons_zero, List.getElem?_cons_succ] at c0 c1 c2 c3
    go_wp2_with fail
    refine (CT.out _).mono ?_
    rintro e w3 ⟨rfl, hb⟩
    have HB3 := Lib.hid (HB2.out.trans (hb.mono HB2.out.size))
    have HQ3 := Lib.hid (HQ2.out.below hb HQ2.out.lt)
    clear hb c0 c1 c2 c3
    go_wp2_with fail
    refine (H1.out _).mono ?_
    rintro e w4 ⟨rfl, hb⟩
    have HB4 := Lib.hid (HB3.out.trans (hb.mono HB3.out.size))
    have HQ4 := Lib.hid (HQ3.out.below hb HQ3.out.lt)
    clear hb
    have c0 := HQ4.out.cell 0
    have c1 := HQ4.out.cell 1
    have c2 := HQ4.out.cell 2
    have c3 := HQ4.out.cell 3
    simp only [List.getElem?_toArray, List.getElem?_cons_zero, List.getElem?_cons_succ] at c0 c1 c2 c3
    go_wp2_with fail
    refine (CT.out _).mono ?_
    rintro e w5 ⟨rfl, hb⟩
    have HB5 := Lib.hid (HB4.out.trans (hb.mono HB4.out.size))
    clear hb c0 c1 c2 c3
    go_wp2_with fail
    refine (H2.out _ (HT.out _ HB5.out) (HN.out _ HB5.out) (fun w1 h1 => HP.out w1 (HB5.out.trans (h1.mono HB5.out.size)))).mono ?_
    rintro e w6 ⟨rfl, hb⟩
    have HB6 := Lib.hid (HB5.out.trans (hb.mono HB5.out.size))
    clear hb
    go_wp2_with fail
    go_ret
    exact ⟨rfl, HB6.out⟩
end Go.Proofs.YtfdgmdijjifmiaaDoor.ins

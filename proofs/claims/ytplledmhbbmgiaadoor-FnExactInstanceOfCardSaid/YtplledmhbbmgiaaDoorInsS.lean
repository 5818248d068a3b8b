/- spec.InstanceOf. Condition: the terms lie in memory. -/
import Derived.Test.YtplledmhbbmgiaaDoorProg
import Derived.Test.YtplledmhbbmgiaaDoorMatS
import Derived.Test.YtplledmhbbmgiaaDoorSpecC
import Derived.Test.YtplledmhbbmgiaaDoorImplL
namespace Go.Proofs.YtplledmhbbmgiaaDoor
open Go.RowKit

/-- What both InstanceOf answer. -/
def inB (k n : Int) (s : ByteArray) (f : Fr) (k' n' : Int) (s' : ByteArray) (g : Fr) : Bool := validT k n s f && (validT k' n' s' g && (mtT [] k' n' s' g k n s f).isSome)
/-- Both boxes lie there. -/
def VB (w : World) (a b : Array Value) (wk : World) : Prop := Below w.heap.size w wk ∧ Blk wk w.heap.size 29 a ∧ Blk wk (w.heap.size + 1) 29 b
theorem VB.next {w wk wl : World} {a b : Array Value} (h : VB w a b wk) (hb : Below wk.heap.size wk wl) : VB w a b wl := ⟨h.1.trans (hb.mono h.1.size), h.2.1.below hb h.2.1.lt, h.2.2.below hb h.2.2.lt⟩
theorem VB.drew {w wk : World} {a b : Array Value} (h : VB w a b wk) : VB w a b wk.drew := h.next (Below.refl _ _).drew
theorem VB.cells {w wk : World} {x0 x1 x2 x3 y0 y1 y2 y3 : Value} (h : VB w #[x0, x1, x2, x3] #[y0, y1, y2, y3] wk) : wk.cell? ⟨w.heap.size, 0, none⟩ = some x0 ∧ wk.cell? ⟨w.heap.size, 1, none⟩ = some x1 ∧ wk.cell? ⟨w.heap.size, 2, none⟩ = some x2 ∧ wk.cell? ⟨w.heap.size, 3, none⟩ = some x3 ∧
    wk.cell? ⟨w.heap.size + 1, 0, none⟩ = some y0 ∧ wk.cell? ⟨w.heap.size + 1, 1, none⟩ = some y1 ∧ wk.cell? ⟨w.heap.size + 1, 2, none⟩ = some y2 ∧ wk.cell? ⟨w.heap.size + 1, 3, none⟩ = some y3 := by
  obtain ⟨a0, a1, a2, a3⟩ := cells4i h.2.1
  obtain ⟨b0, b1, b2, b3⟩ := cells4i h.2.2
  exact ⟨a0, a1, a2, a3, b0, b1, b2, b3⟩

/-- The empty table. -/
def kn0 : Array Value := madeCells #[.int .i64 0, .int .i64 0, .string ⟨#[]⟩, .slice none 0 0] 104
theorem run_kn0 (w : World) : (Instr.makeSlice 27 (.int .i64 26) (.int .i64 26)).run Tryd.prog w = .ok (.slice (some ⟨w.heap.size, 0, none⟩) 26 26) (w.alloc (.cells kn0 29)) := by
  obtain ⟨i0, hi0, hz0, hz1, hz2⟩ := info_parts infoT
  have hr := run_make (P := Tryd.prog) w 27 29 i0 _ Tryd.underlying27 hi0 hz0 .i64 .i64 26 26 (by omega) (by omega) (by rw [hz2]; omega) (by omega)
  rw [hz1] at hr
  exact hr
theorem kn0_lies {w1 : World} {g : Nat} (hq : Blk w1 g 29 kn0) (lo hi : Nat) : KnS w1 lo hi g [] := by
  refine ⟨kn0, hq, by simp [kn0, madeCells], fun i hi' => ⟨fun _ => ?_, fun m hm => by cases hm⟩⟩
  have e : (i * 4) % 4 = 0 := by omega
  have e2 : i * 4 < 104 := by omega
  simp [kn0, madeCells, e, e2]

theorem MsRes.one {w w' : World} {lo hi g : Nat} {r : Option St} {e : Ending} (h : MsRes w lo hi g r e w') : e = .returned (.bool r.isSome) ∧ Wrote [g] w w' := by
  refine ⟨?_, h.1⟩
  rcases h.2 with ⟨st', rfl, rfl, _⟩ | ⟨rfl, rfl⟩
  · rfl
  · rfl

set_option maxRecDepth 100000 in
set_option maxHeartbeats 4000000 in
/-- spec.InstanceOf. -/
theorem specIns_any (k n : Int) (s : ByteArray) (f : Fr) (k' n' : Int) (s' : ByteArray) (g : Fr) (A B : Option Addr) (cap cap' lo hi lo' hi' : Nat) (w : World)
    (hk : KidsAt w lo hi f A cap) (hk' : KidsAt w lo' hi' g B cap') (hh : hi ≤ w.heap.size) (hh' : hi' ≤ w.heap.size) (hf : Fits k n s) (hf' : Fits k' n' s') (hnd : nodes f ≤ 1048576) (hnd' : nodes g ≤ 1048576) :
    Calls Tryd.prog 23 #[.agg #[.int .i64 k, .int .i64 n, .string s, .slice A f.len cap], .agg #[.int .i64 k', .int .i64 n', .string s', .slice B g.len cap']] w fun e w' => e = .returned (.bool (inB k n s f k' n' s' g)) ∧ Below w.heap.size w w' := by
  have CA := fun w1 (hb : Below w.heap.size w w1) => specValid_any k n s f A cap lo hi w1 (hk.below hb hh) (Nat.le_trans hh hb.size) hf hnd
  have CB := fun w1 (hb : Below w.heap.size w w1) => specValid_any k' n' s' g B cap' lo' hi' w1 (hk'.below hb hh') (Nat.le_trans hh' hb.size) hf' hnd'
  have CM := fun w1 g0 (hb : Below w.heap.size w w1) (hg : w.heap.size ≤ g0) (hv : validT k n s f = true) (hv' : validT k' n' s' g = true) (hK : KnS w1 0 w.heap.size g0 []) =>
    ms_all _ s' g (Nat.le_refl _) [] s f k' n' k n B A cap' cap 0 w.heap.size g0 w1 ((hk'.below hb hh').more (Nat.zero_le _) hh') ((hk.below hb hh).more (Nat.zero_le _) hh) hb.size hg (validT_shape hv') (validT_shape hv) hK
  have HV : Hid (inB k n s f k' n' s' g = (validT k n s f && (validT k' n' s' g && (mtT [] k' n' s' g k n s f).isSome))) := Lib.hid rfl
  generalize inB k n s f k' n' s' g = r at *
  obtain ⟨hb0, b0, b1⟩ := two_boxes w #[.int .i64 k, .int .i64 n, .string s, .slice A f.len cap] #[.int .i64 k', .int .i64 n', .string s', .slice B g.len cap']
  have HQ := Lib.hid (show VB w #[.int .i64 k, .int .i64 n, .string s, .slice A f.len cap] #[.int .i64 k', .int .i64 n', .string s', .slice B g.len cap'] _ from ⟨hb0, b0, b1⟩)
  have HA := Lib.hid CA
  have HB := Lib.hid CB
  have HM := Lib.hid CM
  generalize validT k n s f = va at *
  generalize validT k' n' s' g = vb at *
  clear CA CB CM hk hk' hh hh' hf hf' hnd hnd' hb0 b0 b1
  obtain ⟨i0, hi0, hz0, hz1, hz2⟩ := info_parts infoT
  go_enter Tryd.func23, Tryd.ntmps23
  go_wp2_with fail
  generalize (w.alloc (.cells #[.int .i64 k, .int .i64 n, .string s, .slice A f.len cap] 29)).alloc (.cells #[.int .i64 k', .int .i64 n', .string s', .slice B g.len cap'] 29) = w1 at *
  refine (HA.out _ HQ.out.1).mono ?_
  rintro e w2 ⟨rfl, hb⟩
  have HQ2 := Lib.hid (HQ.out.next hb)
  obtain ⟨a0, a1, a2, a3, b0, b1, b2, b3⟩ := HQ2.out.cells
  clear hb
  cases va
  · go_wp2_with fail
    go_ret
    rw [HV.out]
    exact ⟨rfl, HQ2.out.1⟩
  · go_wp2_with fail
    refine (HB.out _ HQ2.out.1).mono ?_
    rintro e w3 ⟨rfl, hb⟩
    have HQ3 := Lib.hid (HQ2.out.next hb)
    obtain ⟨a0, a1, a2, a3, b0, b1, b2, b3⟩ := HQ3.out.cells
    clear hb
    cases vb
    · go_wp2_with fail
      go_ret
      rw [HV.out]
      exact ⟨rfl, HQ3.out.1⟩
    · have hmk := run_kn0
      have hsz3 : w.heap.size + 1 < w3.heap.size := HQ3.out.2.2.lt
      have hsz4 : w.heap.size < w3.heap.size := by omega
      go_wp2_with fail
      have hbk : Below w3.heap.size w3 (w3.alloc (.cells kn0 29)).drew := ((Below.refl _ _).alloc (Nat.le_refl _) _).drew
      have CM := (HM.out _ w3.heap.size (HQ3.out.1.trans (hbk.mono HQ3.out.1.size)) HQ3.out.1.size (by first | rfl | trivial) (by first | rfl | trivial) (kn0_lies (show Blk (w3.alloc (.cells kn0 29)).drew w3.heap.size 29 kn0 from Blk.new w3 _ _) 0 w.heap.size)).mono fun e w' h => MsRes.one h
      generalize (mtT [] k' n' s' g k n s f).isSome = t at *
      have HCM := Lib.hid CM
      have HBK := Lib.hid hbk
      clear CM hbk HM
      go_region_with (first
        | (go_at_call 50
           refine HCM.out.mono ?_
           rintro e w4 ⟨rfl, hw⟩
           have HB4 := Lib.hid (HQ3.out.1.trans ((HBK.out.trans (hw.below HBK.out.size fun x hx => by simp at hx; omega)).mono HQ3.out.1.size))
           clear hw))
      all_goals
        go_wp2_with fail
        go_ret
        rw [HV.out]
        exact ⟨rfl, HB4.out.trans ⟨rfl, rfl, rfl, Nat.le_refl _, fun _ _ => rfl⟩⟩
end Go.Proofs.YtplledmhbbmgiaaDoor

/- Answers in memory: laws.szAnswer, toAnswer, eqAnswer; an argument of type laws.Answer. Condition: the values lie in memory. -/
import Derived.Test.YtohkpgpcipjpkaaGreatDoorProg
import Derived.Test.YtohkpgpcipjpkaaGreatDoorTo
import Derived.Test.YtohkpgpcipjpkaaGreatDoorEq
import Derived.Test.YtohkpgpcipjpkaaGreatDoorSz
import Derived.Test.YtohkpgpcipjpkaaGreatDoorOpenS
namespace Go.Proofs.YtohkpgpcipjpkaaGreatDoor
open Go.ChangeShapes Go.WideShapes Go.ChangeAt Go.RowKit

set_option maxRecDepth 100000 in
/-- laws.szAnswer. -/
theorem szAn_any (f : Fr) (A : Option Addr) (cap lo hi : Nat) (left : Int) (w : World) (hk : KidsAt w lo hi f A cap) (hh : hi ≤ w.heap.size) (h0 : 0 ≤ left) (h1 : left ≤ 1048576) :
    Calls Tryz.prog 5 #[.agg #[.slice A f.len cap], .int .i64 left] w fun e w' => e = .returned (.int .i64 (szS f left)) ∧ Below w.heap.size w w' := by
  have hb0 : Below w.heap.size w (w.alloc (.cells #[.slice A f.len cap] 24)) := (Below.refl _ _).alloc (Nat.le_refl _) _
  have hq0 := Blk.new w 24 #[.slice A f.len cap]
  have C1 := szS_any f A cap lo hi left _ (hk.below hb0 hh) (Nat.le_trans hh hb0.size) h0 h1
  have hr := szS_range f left h0
  generalize szS f left = r at *
  have r1 := hr.1
  have r2 := hr.2.1
  have c0 := hq0.cell 0
  simp only [List.getElem?_toArray, List.getElem?_cons_zero] at c0
  have H1 := Lib.hid C1
  have HB0 := Lib.hid hb0
  clear C1 hk hb0 hq0 hr
  generalize f.len = len at *
  go_enter Tryz.func5, Tryz.ntmps5
  go_wp2_with fail
  refine H1.out.mono ?_
  rintro e w2 ⟨rfl, hb⟩
  have HB2 := Lib.hid (HB0.out.trans (hb.mono HB0.out.size))
  clear hb H1 HB0
  by_cases hneg : r < 0
  · obtain rfl : r = -1 := by omega
    go_wp2_with fail
    go_ret
    exact ⟨rfl, HB2.out⟩
  · go_wp2_with fail
    go_ret
    exact ⟨rfl, HB2.out⟩

set_option maxRecDepth 100000 in
set_option maxHeartbeats 1000000 in
/-- laws.toAnswer. -/
theorem toAn_any (f : Fr) (A : Option Addr) (cap lo hi : Nat) (w : World) (hk : KidsAt w lo hi f A cap) (hh : hi ≤ w.heap.size) (hwt : f.len + wt f ≤ 1048576) :
    Calls Tryz.prog 8 #[.agg #[.slice A f.len cap]] w fun e w' => ∃ A2 cap2, e = .returned (.agg #[.slice A2 f.len cap2]) ∧ Made w f A2 cap2 w' := by
  have hb0 : Below w.heap.size w (((w.alloc (.cells #[.slice A f.len cap] 24)).alloc (.cells #[.slice none 0 0] 31)).alloc (.cells #[.slice none 0 0] 31)) := (two_alloc w _ _).alloc (by simp; omega) _
  have hq0 := ((Blk.new w 24 #[.slice A f.len cap]).alloc (.cells #[.slice none 0 0] 31)).alloc (.cells #[.slice none 0 0] 31)
  have hq1 := (Blk.new (w.alloc (.cells #[.slice A f.len cap] 24)) 31 #[.slice none 0 0]).alloc (.cells #[.slice none 0 0] 31)
  rw [show (w.alloc (.cells #[.slice A f.len cap] 24)).heap.size = w.heap.size + 1 by simp] at hq1
  have hq2 := Blk.new ((w.alloc (.cells #[.slice A f.len cap] 24)).alloc (.cells #[.slice none 0 0] 31)) 31 #[.slice none 0 0]
  rw [show ((w.alloc (.cells #[.slice A f.len cap] 24)).alloc (.cells #[.slice none 0 0] 31)).heap.size = w.heap.size + 1 + 1 by simp] at hq2
  have C1 := toS_any f A cap lo hi _ (hk.below hb0 hh) (Nat.le_trans hh hb0.size) hwt
  have e0 : (((w.alloc (.cells #[.slice A f.len cap] 24)).alloc (.cells #[.slice none 0 0] 31)).alloc (.cells #[.slice none 0 0] 31)).heap.size = w.heap.size + 1 + 1 + 1 := by simp
  have c0 := hq0.cell 0
  simp only [List.getElem?_toArray, List.getElem?_cons_zero] at c0
  have H1 := Lib.hid C1
  have HB0 := Lib.hid hb0
  have HQ1 := Lib.hid hq1
  have HQ2 := Lib.hid hq2
  have HE0 := Lib.hid e0
  clear C1 hk hb0 hq0 hq1 hq2 hwt e0
  go_enter Tryz.func8, Tryz.ntmps8
  go_wp2_with fail
  refine H1.out.mono ?_
  rintro e w2 ⟨A2, cap2, rfl, hm⟩
  obtain ⟨L, ho, hn, hl, hb⟩ := hm
  have hq := HQ1.out.below hb HQ1.out.lt
  have hr := HQ2.out.below hb HQ2.out.lt
  have f0 := hq.frozen 0
  have g0 := hr.frozen 0
  have x0 := hq.cell 0
  have y0 := hr.cell 0
  simp only [List.getElem?_toArray, List.getElem?_cons_zero] at x0 y0
  have hfin : ∀ u v, Made w f A2 cap2 ((w2.setCell ⟨w.heap.size + 1 + 1, 0, none⟩ u).setCell ⟨w.heap.size + 1, 0, none⟩ v) := fun u v => by
    rw [HE0.out] at hl
    refine ⟨L, ho.keep fun x hx => ?_, hn, fun x hx => ⟨by have := (hl x hx).1; omega, by have := (hl x hx).2; simpa [World.setCell] using this⟩, ?_⟩
    · have := (hl x hx).1
      rw [heap_setCell_other _ _ _ _ (by show x ≠ w.heap.size + 1; omega), heap_setCell_other _ _ _ _ (by show x ≠ w.heap.size + 1 + 1; omega)]
    · exact ((HB0.out.trans (hb.mono HB0.out.size)).setCell (by simp; omega) _).setCell (by simp) _
  have HF := Lib.hid hfin
  have HQ := Lib.hid (fun u => (hq.keep (w' := w2.setCell ⟨w.heap.size + 1 + 1, 0, none⟩ u) (heap_setCell_other _ _ _ _ (by show w.heap.size + 1 ≠ w.heap.size + 1 + 1; omega))))
  clear hfin hb ho hn hl hq hr c0
  go_wp2_with fail
  refine bodyPost_ret (v := .agg #[.slice A2 f.len cap2]) ?_ rfl ⟨_, _, rfl, HF.out _ _⟩
  exact results_cell_row Tryz.results8 _ _ (w.heap.size + 1) _ _ _ _ rfl ((HQ.out _).set_ 0 _) Tryz.underlying31 rfl (by kernel_rfl)

set_option maxRecDepth 100000 in
/-- laws.eqAnswer. -/
theorem eqAn_any (f g : Fr) (A B : Option Addr) (cap capB lo hi lo' hi' : Nat) (w : World) (hk : KidsAt w lo hi f A cap) (hk2 : KidsAt w lo' hi' g B capB) (hh : hi ≤ w.heap.size) (hh' : hi' ≤ w.heap.size) :
    Calls Tryz.prog 11 #[.agg #[.slice A f.len cap], .agg #[.slice B g.len capB]] w fun e w' => e = .returned (.bool (eqF f g)) ∧ Below w.heap.size w w' := by
  have hb0 := two_alloc w (.cells #[.slice A f.len cap] 31) (.cells #[.slice B g.len capB] 31)
  have hq0 := (Blk.new w 31 #[.slice A f.len cap]).alloc (.cells #[.slice B g.len capB] 31)
  have hq1 := Blk.new (w.alloc (.cells #[.slice A f.len cap] 31)) 31 #[.slice B g.len capB]
  rw [show (w.alloc (.cells #[.slice A f.len cap] 31)).heap.size = w.heap.size + 1 by simp] at hq1
  have C1 := eqS_any f g A B cap capB lo hi lo' hi' _ (hk.below hb0 hh) (hk2.below hb0 hh') (Nat.le_trans hh hb0.size) (Nat.le_trans hh' hb0.size)
  have c0 := hq0.cell 0
  have c1 := hq1.cell 0
  simp only [List.getElem?_toArray, List.getElem?_cons_zero] at c0 c1
  have H1 := Lib.hid C1
  have HB0 := Lib.hid hb0
  clear C1 hk hk2 hb0 hq0 hq1
  generalize f.len = len at *
  generalize g.len = len2 at *
  generalize eqF f g = v at *
  cases v
  all_goals
    go_enter Tryz.func11, Tryz.ntmps11
    go_wp2_with fail
    refine H1.out.mono ?_
    rintro e w2 ⟨rfl, hb⟩
    have HB2 := Lib.hid (HB0.out.trans (hb.mono HB0.out.size))
    clear hb
    go_wp2_with fail
    go_ret
    exact ⟨rfl, HB2.out⟩

theorem cellsLAn : Tryz.prog.cellsOf 24 = 1 := by kernel_rfl
section
variable {H : Type} {enc : TypeId × Value → H} {w : World} {sp : Nat → Bool} {held : Bool}
set_option maxRecDepth 100000 in
/-- The cell of an answer. -/
theorem answer_of_trod (fuel : Nat) (cs : List Value) (x : DataW H × List MemPlace) (h : DataW.trod enc Tryz.prog w 0 sp held fuel 24 cs = some x) :
    ∃ (A : Option Addr) (f : Fr) (cap : Nat), cs = [.slice A f.len cap] ∧ KidsAt w 0 w.heap.size f A cap := by
  obtain ⟨xs, m, rfl, hx, hcl, hxl, hf⟩ := DataW.trod_struct Tryz.underlying24 h
  rw [cellsLAn] at hcl
  have f0 : DataW.trod enc Tryz.prog w 0 sp held m 22 ((cs.drop 0).take (Tryz.prog.cellsOf 22)) = xs[0]? := hf 0 _ rfl
  rw [cellsLS] at f0
  have hx2 : xs.length = 1 := by simpa using hxl
  match cs, hcl with
  | [c0], _ =>
  match xs, hx2 with
  | [y0], _ =>
  simp only [List.drop_zero, List.take_succ_cons, List.take_zero, List.getElem?_cons_zero] at f0
  obtain ⟨B, g, capB, e1, hkb⟩ := kids_of_trod m _ _ f0
  exact ⟨B, g, capB, e1, hkb⟩
end

set_option maxRecDepth 100000 in
/-- A parameter of type Answer. -/
theorem open_answer {H : Type} {enc : TypeId × Value → H} {w : World} {sp : Nat → Bool} {held : Bool} {r : Reach} {b0 : Nat} {v : Value} {d : DataW H} {ps : List MemPlace}
    (hval : Value.okWide Tryz.prog w r b0 24 v) (hd : DataW.Trod enc Tryz.prog w 0 sp held 24 v d ps) :
    ∃ (A : Option Addr) (f : Fr) (cap : Nat), v = .agg #[.slice A f.len cap] ∧ KidsAt w 0 w.heap.size f A cap := by
  obtain ⟨fuel, hf⟩ := hd
  obtain ⟨A, f, cap, hcs, hk⟩ := answer_of_trod fuel _ _ hf
  refine ⟨A, f, cap, ?_, hk⟩
  obtain ⟨cs, rfl, hsz⟩ := okWide_struct Tryz.underlying24 hval
  have h1 : cs.toList = [.slice A f.len cap] := hcs
  rw [← Array.toArray_toList (xs := cs), h1]
end Go.Proofs.YtohkpgpcipjpkaaGreatDoor

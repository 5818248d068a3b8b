/- laws.toDecoder, eqDecoder, markDecoder, heldDecoder. Condition: the arguments lie in memory. -/
import Derived.Test.YtdpmjpjbcpdgnaaDoorProg
import Derived.Test.YtdpmjpjbcpdgnaaDoorFzO
namespace Go.Proofs.YtdpmjpjbcpdgnaaDoor
open Go.RowKit

theorem setc2' {w : World} {g : Nat} {t : TypeId} {x0 x1 : Value} (h : Blk w g t #[x0, x1]) (a b : Value) : Blk ((w.setCell ⟨g, 0, none⟩ a).setCell ⟨g, 1, none⟩ b) g t #[a, b] := (h.set_ 0 a).set_ 1 b
set_option maxRecDepth 100000 in
set_option maxHeartbeats 1000000 in
/-- laws.toDecoder. -/
theorem toD_any (A : Option Addr) (cap : Nat) (l : List UInt8) (br : Bool) (w : World) (ha : AtU w w.heap.size A l) (hc : l.length ≤ cap) (hm : cap ≤ maxLen) (hz : l.length ≤ 1048576) :
    Calls Tryd.prog 40 #[.agg #[.slice A l.length cap, .bool br]] w fun e w' => (∃ A' cap', e = .returned (.agg #[.slice (some A') l.length cap', .bool br]) ∧ l.length ≤ cap' ∧ cap' ≤ maxLen ∧ OwnU w' w.heap.size (.slice (some A') l.length cap') l) ∧ Below w.heap.size w w' := by
  have hq0 := Blk.new w 48 #[.slice A l.length cap, .bool br]
  have hb1 := (Below.refl w.heap.size w).alloc (Nat.le_refl _) (.cells #[.slice A l.length cap, .bool br] 48)
  have hs1 : (w.alloc (.cells #[.slice A l.length cap, .bool br] 48)).heap.size = w.heap.size + 1 := by simp
  have hq0' := (hq0.alloc (.cells #[.slice none 0 0, .bool false] 38)).alloc (.cells #[.slice none 0 0, .bool false] 38)
  have hq1 := Blk.new (w.alloc (.cells #[.slice A l.length cap, .bool br] 48)) 38 #[.slice none 0 0, .bool false]
  rw [hs1] at hq1
  have hq1' := hq1.alloc (.cells #[.slice none 0 0, .bool false] 38)
  have hq2 := Blk.new ((w.alloc (.cells #[.slice A l.length cap, .bool br] 48)).alloc (.cells #[.slice none 0 0, .bool false] 38)) 38 #[.slice none 0 0, .bool false]
  have hs2 : ((w.alloc (.cells #[.slice A l.length cap, .bool br] 48)).alloc (.cells #[.slice none 0 0, .bool false] 38)).heap.size = w.heap.size + 2 := by simp
  rw [hs2] at hq2
  have hb3 := (hb1.alloc hb1.size (.cells #[.slice none 0 0, .bool false] 38)).alloc (Nat.le_trans hb1.size (by simp)) (.cells #[.slice none 0 0, .bool false] 38)
  have HQ0 := Lib.hid hq0'
  have HQ1 := Lib.hid hq1'
  have HQ2 := Lib.hid hq2
  have HB3 := Lib.hid hb3
  have HCT := Lib.hid (fun w1 (hb : Below w.heap.size w w1) => toU_any A cap l w1 ((ha.below hb (Nat.le_refl _)).more hb.size) hc hm hz)
  clear hq0 hb1 hs1 hq0' hq1 hq1' hq2 hs2 hb3 ha hc hm hz
  go_enter Tryd.func40, Tryd.ntmps40
  go_wp2_with fail
  refine (HCT.out _ HB3.out).mono ?_
  rintro e w2 ⟨⟨v, A', cap', rfl, rfl, hc1, hc2, how⟩, hb2⟩
  have hr0 := HQ0.out.below hb2 HQ0.out.lt
  have hr1 := HQ1.out.below hb2 HQ1.out.lt
  have hr2 := HQ2.out.below hb2 HQ2.out.lt
  have x1 : w2.cell? ⟨w.heap.size, 1, none⟩ = some (.bool br) := hr0.cell 1
  have y0 : w2.cell? ⟨w.heap.size + 1, 0, none⟩ = some (.slice none 0 0) := hr1.cell 0
  have y1 : w2.cell? ⟨w.heap.size + 1, 1, none⟩ = some (.bool false) := hr1.cell 1
  have yf0 := hr1.frozen 0
  have yf1 := hr1.frozen 1
  have z0 : w2.cell? ⟨w.heap.size + 1 + 1, 0, none⟩ = some (.slice none 0 0) := hr2.cell 0
  have z1 : w2.cell? ⟨w.heap.size + 1 + 1, 1, none⟩ = some (.bool false) := hr2.cell 1
  have zf0 : w2.frozen? ⟨w.heap.size + 1 + 1, 0, none⟩ = false := hr2.frozen 0
  have zf1 : w2.frozen? ⟨w.heap.size + 1 + 1, 1, none⟩ = false := hr2.frozen 1
  have HR1 := Lib.hid hr1
  have HOW := Lib.hid how
  have HB2 := Lib.hid (HB3.out.trans (hb2.mono HB3.out.size))
  have HC1 := Lib.hid hc1
  have HC2 := Lib.hid hc2
  have HS2 := Lib.hid (show w.heap.size + 1 + 1 < w2.heap.size from hr2.lt)
  have HS3 : Hid (w.heap.size + 1 + 1 + 1 ≤ ((w.alloc (.cells #[.slice A l.length cap, .bool br] 48)).alloc (.cells #[.slice none 0 0, .bool false] 38) |>.alloc (.cells #[.slice none 0 0, .bool false] 38)).heap.size) := Lib.hid (by simp)
  clear hr0 hr1 hr2 how hb2 hc1 hc2
  go_wp2_with fail
  refine bodyPost_ret (v := .agg #[.slice (some A') l.length cap', .bool br]) ?_ rfl ⟨⟨A', cap', rfl, HC1.out, HC2.out, ?_⟩, ?_⟩
  · have hf := ((HR1.out.far (p := ⟨w.heap.size + 1 + 1, 0, none⟩) (by simp) (.slice (some A') l.length cap')).far (p := ⟨w.heap.size + 1 + 1, 1, none⟩) (by simp) (.bool br))
    exact results_cell_row Tryd.results40 _ _ (w.heap.size + 1) _ _ _ _ rfl (setc2' hf _ _) Tryd.underlying38 rfl (by kernel_rfl)
  · refine own_keep (own_mono HOW.out HB3.out.size) (L := [w.heap.size + 1, w.heap.size + 1 + 1]) (((((Wrote.refl _ w2).set_ (p := ⟨w.heap.size + 1 + 1, 0, none⟩) (.inl (by simp)) _).set_ (p := ⟨w.heap.size + 1 + 1, 1, none⟩) (.inl (by simp)) _).set_ (p := ⟨w.heap.size + 1, 0, none⟩) (.inl (by simp)) _).set_ (p := ⟨w.heap.size + 1, 1, none⟩) (.inl (by simp)) _) fun x hx => ?_
    have h1 := (own_lt HOW.out x hx).1
    have h2 := HS3.out
    simp only [List.mem_cons, List.not_mem_nil, or_false]
    omega
  · exact (((HB2.out.setCell (by simp; omega) _).setCell (by simp; omega) _).setCell (by simp) _).setCell (by simp) _

theorem eqD_any (l : List UInt8) (br : Bool) (v1 v2 : Value) (b1 b2 : Nat) (w : World) (h1 : OwnU w b1 v1 l) (h2 : OwnU w b2 v2 l) :
    Calls Tryd.prog 41 #[.agg #[v1, .bool br], .agg #[v2, .bool br]] w fun e w' => e = .returned (.bool true) ∧ Below w.heap.size w w' := by
  obtain ⟨A1, c1, rfl, -, -, -⟩ := h1.read
  obtain ⟨A2, c2, rfl, -, -, -⟩ := h2.read
  have hb1 := ((Below.refl w.heap.size w).alloc (Nat.le_refl _) (.cells #[.slice A1 l.length c1, .bool br] 38)).alloc (by simp) (.cells #[.slice A2 l.length c2, .bool br] 38)
  have hq0 := (Blk.new w 38 #[.slice A1 l.length c1, .bool br]).alloc (.cells #[.slice A2 l.length c2, .bool br] 38)
  have hq1 := Blk.new (w.alloc (.cells #[.slice A1 l.length c1, .bool br] 38)) 38 #[.slice A2 l.length c2, .bool br]
  have hs : (w.alloc (.cells #[.slice A1 l.length c1, .bool br] 38)).heap.size = w.heap.size + 1 := by simp
  rw [hs] at hq1
  have CE := eqU_any l (.slice A1 l.length c1) (.slice A2 l.length c2) b1 b2 _ (own_below h1 hb1) (own_below h2 hb1)
  have HCE := Lib.hid CE
  have HB1 := Lib.hid hb1
  have HQ0 := Lib.hid hq0
  have HQ1 := Lib.hid hq1
  clear h1 h2 hb1 hq0 hq1 hs CE
  generalize l.length = n at *
  go_enter Tryd.func41, Tryd.ntmps41
  go_wp2_with fail
  refine HCE.out.mono ?_
  rintro e w2 ⟨rfl, hb2⟩
  have x1 : w2.cell? ⟨w.heap.size, 1, none⟩ = some (.bool br) := (HQ0.out.below hb2 HQ0.out.lt).cell 1
  have y1 : w2.cell? ⟨w.heap.size + 1, 1, none⟩ = some (.bool br) := (HQ1.out.below hb2 HQ1.out.lt).cell 1
  have HB2 := Lib.hid (HB1.out.trans (hb2.mono HB1.out.size))
  have t0 : (br != br) = false := by simp
  clear hb2
  go_wp2_with fail
  go_ret
  exact ⟨rfl, HB2.out⟩
theorem markD_any (l : List UInt8) (br : Bool) (v : Value) (base k0 : Nat) (w : World) (h : OwnU w base v l) (hk0 : k0 + l.length ≤ 1099511627776) :
    Calls Tryd.prog 42 #[.agg #[v, .bool br], .int .i64 (k0 : Int)] w fun e w' => e = .returned (.int .i64 ((k0 + l.length : Nat) : Int)) ∧ OwnU w' base v (mkU k0 l.length) ∧ Wrote (ownV v) w w' := by
  obtain ⟨A1, c1, rfl, -, -, -⟩ := h.read
  have hb1 := (Below.refl w.heap.size w).alloc (Nat.le_refl _) (.cells #[.slice A1 l.length c1, .bool br] 38)
  have CM := markU_any l (.slice A1 l.length c1) base k0 _ (own_below h hb1) hk0
  have HCM := Lib.hid CM
  have HB1 := Lib.hid hb1
  clear h hb1 CM hk0
  generalize ((k0 + l.length : Nat) : Int) = kr at *
  generalize l.length = n at *
  go_enter Tryd.func42, Tryd.ntmps42
  go_wp2_with fail
  refine HCM.out.mono ?_
  rintro e w2 ⟨rfl, how, hw⟩
  have HO := Lib.hid how
  have HW := Lib.hid ((Wrote.of_below HB1.out _).trans hw)
  clear how hw
  go_wp2_with fail
  go_ret
  exact ⟨rfl, HO.out, HW.out⟩
theorem heldD_any (k0 len : Nat) (br : Bool) (v : Value) (base : Nat) (w : World) (h : OwnU w base v (mkU k0 len)) (hk0 : k0 + len ≤ 1099511627776) :
    Calls Tryd.prog 43 #[.agg #[v, .bool br], .int .i64 (k0 : Int)] w fun e w' => e = .returned (.int .i64 ((k0 + len : Nat) : Int)) ∧ Below w.heap.size w w' := by
  obtain ⟨A1, c1, rfl, -, -, -⟩ := h.read
  rw [mkU_len] at *
  have hb1 := (Below.refl w.heap.size w).alloc (Nat.le_refl _) (.cells #[.slice A1 len c1, .bool br] 38)
  have CM := heldU_any k0 len (.slice A1 len c1) base _ (own_below h hb1) hk0
  have HCM := Lib.hid CM
  have HB1 := Lib.hid hb1
  have t0 : ¬ ((k0 + len : Nat) : Int) < 0 := by omega
  clear h hb1 CM hk0
  generalize ((k0 + len : Nat) : Int) = kr at *
  go_enter Tryd.func43, Tryd.ntmps43
  go_wp2_with fail
  refine HCM.out.mono ?_
  rintro e w2 ⟨rfl, hb⟩
  have HB2 := Lib.hid (HB1.out.trans (hb.mono HB1.out.size))
  clear hb
  go_wp2_with fail
  go_ret
  exact ⟨rfl, HB2.out⟩
end Go.Proofs.YtdpmjpjbcpdgnaaDoor

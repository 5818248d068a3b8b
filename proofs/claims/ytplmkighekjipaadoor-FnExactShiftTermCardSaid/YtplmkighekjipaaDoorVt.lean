/- impl.validTermOf. Condition: the nodes lie in memory; their names and numbers are right. -/
import Derived.Test.YtplmkighekjipaaDoorProg
import Derived.Test.YtplmkighekjipaaDoorFits
import Derived.Test.YtplmkighekjipaaDoorTb
namespace Go.Proofs.YtplmkighekjipaaDoor
open Go.RowKit

theorem wfT_shape {k n : Int} {s : ByteArray} {f : Fr} {d : Int} (h : shapeT k n s f d = true) : wfT k n s f.len = true := by
  have hk := shapeT_kind h
  by_cases h3 : k = 3
  · subst h3
    obtain ⟨rfl, hn, _⟩ := shapeT_struct h
    unfold wfT
    rw [hn]; simp
  · obtain ⟨rfl, rfl, hn⟩ := shapeT_leaf h h3
    unfold wfT
    rcases (show k = 1 ∨ k = 2 by omega) with rfl | rfl
    · rw [decide_eq_true (show (-9223372036854775808 : Int) ≤ n by omega), decide_eq_true (show n ≤ 9223372036854775807 by omega)]
      rfl
    · rw [decide_eq_true (show (-999 : Int) ≤ n by omega), decide_eq_true (show n ≤ 999 by omega)]
      rfl
theorem wfF_shape (f : Fr) : ∀ d, shapeF f d = true → wfF f = true := by
  induction f with
  | nil => intro d _; rfl
  | cons k n s kids rest ihk ihr =>
    intro d h
    rw [shapeF_cons, Bool.and_eq_true] at h
    rw [wfF_cons, wfT_shape h.1, ihk (d - 1) (shapeT_kids h.1), ihr d h.2]
    rfl

set_option maxRecDepth 100000 in
set_option maxHeartbeats 2000000 in
/-- impl.validTermOf. -/
theorem vt_any (m : Nd) (v : Value) (lo hi : Nat) (w : World) (hwf : wfT m.k m.n m.s m.f.len = true) (hwk : wfF m.f = true) (hv : NdV w lo hi m.k m.n m.s m.f v) (hh : hi ≤ w.heap.size) (hnd : nodes m.f ≤ 1048576) :
    Calls Tryd.prog 29 #[v] w fun e w' => TbRes w (vtF m) (vtB m) e w' := by
  obtain ⟨k, n, s, f⟩ := m
  have C1 := fun w1 mb (hb : Below w.heap.size w w1) (hq : Blk w1 mb 97 #[.int .i64 120]) (hm : w.heap.size ≤ mb) =>
    ftT_any s f k n 1 120 v lo hi mb w1 hwf hwk (hv.keep (fun p _ hp => hb.cell (by omega)) (Nat.le_refl _) (Nat.le_refl _)) (Nat.le_trans hh hb.size) (Nat.le_trans hh hm) hnd hq (by omega) (by omega) (by omega) (by omega)
  have C2 := fun w1 (hb : Below w.heap.size w w1) (hs : shapeT k n s f 30 = true) => tmT_any s f k n 30 v lo hi w1 hs (hv.keep (fun p _ hp => hb.cell (by omega)) (Nat.le_refl _) (Nat.le_refl _)) (Nat.le_trans hh hb.size) hnd
  rw [okT_valid] at C1
  have hb0 := two_alloc w (.cells #[.int .i64 0, .int .i64 0, .string ⟨#[]⟩, .slice none 0 0] 28) (.cells #[.int .i64 120] 97)
  have hz0 : Blk ((w.alloc (.cells #[.int .i64 0, .int .i64 0, .string ⟨#[]⟩, .slice none 0 0] 28)).alloc (.cells #[.int .i64 120] 97)) w.heap.size 28 #[.int .i64 0, .int .i64 0, .string ⟨#[]⟩, .slice none 0 0] := (Blk.new w _ _).alloc _
  have hq0 : Blk ((w.alloc (.cells #[.int .i64 0, .int .i64 0, .string ⟨#[]⟩, .slice none 0 0] 28)).alloc (.cells #[.int .i64 120] 97)) (w.heap.size + 1) 97 #[.int .i64 120] := by
    have h := Blk.new (w.alloc (.cells #[.int .i64 0, .int .i64 0, .string ⟨#[]⟩, .slice none 0 0] 28)) 97 #[.int .i64 120]
    simpa using h
  have C0 := C1 _ _ hb0 hq0 (by omega)
  obtain ⟨T, x, rfl⟩ := hv.iface
  have hsz : ((w.alloc (.cells #[.int .i64 0, .int .i64 0, .string ⟨#[]⟩, .slice none 0 0] 28)).alloc (.cells #[.int .i64 120] 97)).heap.size = w.heap.size + 1 + 1 := by simp
  have H1 := Lib.hid C0
  have H2 := Lib.hid C2
  have HB0 := Lib.hid hb0
  have HZ0 := Lib.hid hz0
  have HSZ := Lib.hid hsz
  clear C0 C1 C2 hwf hwk hv hnd hh hb0 hz0 hq0 hsz
  have HM : Hid (vtF ⟨k, n, s, f⟩ = (if validT k n s f = true then ⟨k, n, s, f⟩ else nd0) ∧ vtB ⟨k, n, s, f⟩ = validT k n s f) := Lib.hid ⟨rfl, rfl⟩
  have HSH : Hid (validT k n s f = true → shapeT k n s f 30 = true) := Lib.hid fun h => by unfold validT at h; rw [Bool.and_eq_true] at h; exact h.1
  generalize validT k n s f = ok at *
  go_enter Tryd.func29, Tryd.ntmps29
  go_wp2_with fail
  refine H1.out.mono ?_
  rintro e w3 ⟨rfl, hg, _⟩
  have hb3 := below_grownBy HB0.out (by omega) hg
  have hz3 := HZ0.out.grown hg (by omega)
  have hs3 : w.heap.size + 1 + 1 ≤ w3.heap.size := by have := HSZ.out; have := hg.size; omega
  clear hg
  cases ok
  · obtain ⟨d0, d1, d2, d3⟩ := cells4i hz3
    obtain ⟨f0, f1, f2, f3⟩ := frozen4 hz3
    have HB3 := Lib.hid hb3
    have HZ3 := Lib.hid hz3
    clear hb3 hz3 H1 H2 HSH
    go_wp2_with fail
    rw [HM.out.1, HM.out.2]
    refine bodyPost_ret (v := .tuple #[.agg #[.int .i64 0, .int .i64 0, .string ⟨#[]⟩, .slice none 0 0], .bool false]) ?_ rfl (tb_no (below4 HB3.out (Nat.le_refl _) _ _ _ _))
    exact results_cell_row2 Tryd.results29 _ _ w.heap.size _ _ _ _ rfl (set4 HZ3.out _ _ _ _) Tryd.underlying28 rfl (by kernel_rfl)
  · have HB3 := Lib.hid hb3
    have HZ3 := Lib.hid hz3
    clear hb3 hz3 H1
    go_wp2_with fail
    refine (H2.out _ HB3.out (HSH.out (by first | rfl | trivial))).mono ?_
    rintro e w4 ⟨A4, cap4, rfl, hm⟩
    have hd := made_below hm
    have hz4 := HZ3.out.below hd HZ3.out.lt
    obtain ⟨d0, d1, d2, d3⟩ := cells4i hz4
    obtain ⟨f0, f1, f2, f3⟩ := frozen4 hz4
    have HZ4 := Lib.hid hz4
    have HM4 : Hid (∃ L, OwnS w4 f A4 cap4 L ∧ L.Nodup ∧ (∀ x ∈ L, w3.heap.size ≤ x ∧ x < w4.heap.size)) := Lib.hid (by obtain ⟨L, h1, h2, h3, _⟩ := hm; exact ⟨L, h1, h2, h3⟩)
    have HB4 := Lib.hid (HB3.out.trans (hd.mono HB3.out.size))
    clear hm hd hz4 H2
    go_wp2_with fail
    rw [HM.out.1, HM.out.2]
    refine bodyPost_ret (v := .tuple #[.agg #[.int .i64 k, .int .i64 n, .string s, .slice A4 f.len cap4], .bool true]) ?_ rfl ⟨A4, cap4, rfl, made_set4 HM4.out HB4.out (Nat.le_refl _) (by omega) _ _ _ _⟩
    exact results_cell_row2 Tryd.results29 _ _ w.heap.size _ _ _ _ rfl (set4 HZ4.out _ _ _ _) Tryd.underlying28 rfl (by kernel_rfl)
end Go.Proofs.YtplmkighekjipaaDoor

/- impl.notationOf. Condition: both tables lie in their variables. -/
import Derived.Test.YtfdgmdijjifmiaaDoorProg
import Derived.Test.YtfdgmdijjifmiaaDoorNiI
import Derived.Deep.RegionLaw
namespace Go.Proofs.YtfdgmdijjifmiaaDoor.ins
open Go.RowKit

/-- Row k of the table as a value's parts. -/
def rowV (k : Nat) : Array Value := #[.int .i64 ((k : Int) + 1), .string ⟨(wd k).toArray⟩, .int .i64 (nu k), .bool (nm k)]
def NotRes (w : World) (x : Ins) (e : Ending) (w' : World) : Prop := Below w.heap.size w w' ∧
  ((∃ k : Nat, k < 14 ∧ x.op = (k + 1 : Nat) ∧ e = .returned (.tuple #[.agg (rowV k), .bool (allB k x)])) ∨ (¬ isOp x.op ∧ e = .returned (.tuple #[.agg #[.int .i64 0, .string ⟨#[]⟩, .int .i64 0, .bool false], .bool false])))

theorem res_cell2 {P : Program} {fn : Func} {p u : Tmp} {ty : TypeId} (h : fn.results = #[.cell p ty, .tmp u]) (tmps : Array Value) (w : World) (g : Nat) (t : TypeId) (cs : Array Value) (fr : Nat × Nat) (d : TypeDesc)
    (hp : tmps.getD p undef = .pointer (some ⟨g, 0, none⟩)) (hg : w.heap[g]? = some (.cells cs t fr))
    (hu : P.underlying ty = some d) (hd : (match d with | .struct _ | .array _ _ => true | _ => false) = true) (hi : (P.info? ty).map (·.size) = some cs.size) :
    (results fn tmps).run P w = .ok (.tuple #[.agg cs, tmps.getD u undef]) w := by
  have hp' : tmps[p]?.getD undef = .pointer (some ⟨g, 0, none⟩) := by simpa using hp
  simp [results, h, hp', asAddr, run_loadVar_row w g t ty cs fr d hg hu hd hi]
theorem put4 {w : World} {g : Nat} {t : TypeId} {x0 x1 x2 x3 : Value} (h : Blk w g t #[x0, x1, x2, x3]) (a b c d : Value) : Blk ((((w.setCell ⟨g, 0, none⟩ a).setCell ⟨g, 1, none⟩ b).setCell ⟨g, 2, none⟩ c).setCell ⟨g, 3, none⟩ d) g t #[a, b, c, d] := (((h.set_ 0 a).set_ 1 b).set_ 2 c).set_ 3 d
theorem bel4 {w w2 : World} {H : Nat} (hb : Below w.heap.size w w2) (hH : w.heap.size ≤ H) (a b c d : Value) : Below w.heap.size w ((((w2.setCell ⟨H, 0, none⟩ a).setCell ⟨H, 1, none⟩ b).setCell ⟨H, 2, none⟩ c).setCell ⟨H, 3, none⟩ d) := (((hb.setCell hH _).setCell hH _).setCell hH _).setCell hH _

set_option maxRecDepth 100000 in
set_option maxHeartbeats 2000000 in
/-- notationOf. -/
theorem notationOf_any (x : Ins) (hx : x.ok) (w : World) (ht : nv.Tab w) (hn : NotTab w) :
    Calls Tryd.prog 38 #[.agg #[.int .i64 x.op, .int .i64 x.a, .int .i64 x.b, .string x.s]] w fun e w' => NotRes w x e w' := by
  have hb0 := two_alloc w (.cells #[.int .i64 x.op, .int .i64 x.a, .int .i64 x.b, .string x.s] 26) (.cells #[.int .i64 0, .string ⟨#[]⟩, .int .i64 0, .bool false] 69)
  have q0 := (Blk.new w 26 #[.int .i64 x.op, .int .i64 x.a, .int .i64 x.b, .string x.s]).alloc (.cells #[.int .i64 0, .string ⟨#[]⟩, .int .i64 0, .bool false] 69)
  have q1 := Blk.new (w.alloc (.cells #[.int .i64 x.op, .int .i64 x.a, .int .i64 x.b, .string x.s] 26)) 69 #[.int .i64 0, .string ⟨#[]⟩, .int .i64 0, .bool false]
  rw [show (w.alloc (.cells #[.int .i64 x.op, .int .i64 x.a, .int .i64 x.b, .string x.s] 26)).heap.size = w.heap.size + 1 by simp] at q1
  obtain ⟨tt, fr, htab⟩ := hn.below hb0
  have C1 := fun k w1 (hb : Below w.heap.size w w1) => allows_any k x hx w1 (nv_below ht hb)
  have HT := Lib.hid htab
  have HB0 := Lib.hid hb0
  have HQ0 := Lib.hid q0
  have HQ1 := Lib.hid q1
  have H1 := Lib.hid C1
  have HR : Hid (∀ e w', Below w.heap.size w w' → ((∃ k : Nat, k < 14 ∧ x.op = (k + 1 : Nat) ∧ e = .returned (.tuple #[.agg (rowV k), .bool (allB k x)])) ∨ (¬ isOp x.op ∧ e = .returned (.tuple #[.agg #[.int .i64 0, .string ⟨#[]⟩, .int .i64 0, .bool false], .bool false]))) → NotRes w x e w') := Lib.hid fun _ _ h1 h2 => ⟨h1, h2⟩
  have HAL : Hid (∀ k, allB k x = allB k x) := Lib.hid fun _ => rfl
  clear htab hb0 q0 q1 ht hn C1 hx HAL
  obtain ⟨op, a, b, s⟩ := x
  simp only at HT HB0 HQ0 HQ1 H1 HR ⊢
  go_enter Tryd.func38, Tryd.ntmps38
  go_wp2_with (refine wpList_load_row rfl 77 _ rfl 0 rfl tt _ fr _ HT.out Tryd.underlying77 rfl (by kernel_rfl) ?_)
  generalize (w.alloc (.cells #[.int .i64 op, .int .i64 a, .int .i64 b, .string s] 26)).alloc (.cells #[.int .i64 0, .string ⟨#[]⟩, .int .i64 0, .bool false] 69) = w2 at *
  go_loopw [7] (fun i wr => ∃ (k : Nat), k ≤ 14 ∧ i = .int .i64 k ∧ (∀ j : Nat, j < k → op ≠ (j + 1 : Nat)) ∧ Below w2.heap.size w2 wr) (fun i _ => 14 - (intOf i).toNat)
  case atStart => exact ⟨0, Nat.zero_le _, rfl, fun j hj => by omega, Below.refl _ _⟩
  case round =>
    obtain ⟨k, hk, rfl, hne, hb⟩ := hrel
    have p0 := HQ0.out.below hb HQ0.out.lt
    have p1 := HQ1.out.below hb HQ1.out.lt
    have hbw := HB0.out.trans (hb.mono HB0.out.size)
    have hl0 := p0.lt
    have hl1 := p1.lt
    by_cases hlt : k < 14
    · have hx := fun w => index_not k hlt w
      have r0 := Blk.new wr 69 (rowV k)
      have p0' := p0.alloc (.cells (rowV k) 69)
      have p1' := p1.alloc (.cells (rowV k) 69)
      have hbn : Below wr.heap.size wr (wr.alloc (.cells (rowV k) 69)) := (Below.refl _ _).alloc (Nat.le_refl _) _
      have hbn2 := hbw.trans (hbn.mono hbw.size)
      have hbn3 := hb.trans (hbn.mono hb.size)
      have e0 : (wr.alloc (.cells (rowV k) 69)).heap.size = wr.heap.size + 1 := by simp
      have C2 := fun w1 (hb : Below w.heap.size w w1) => H1.out k w1 hb
      unfold rowV at r0 p0' p1' hbn hbn2 hbn3 e0
      have HROW : Hid (rowV k = #[.int .i64 ((k : Int) + 1), .string ⟨(wd k).toArray⟩, .int .i64 (nu k), .bool (nm k)]) := Lib.hid rfl
      have H2 := Lib.hid C2
      have HP0 := Lib.hid p0'
      have HP1 := Lib.hid p1'
      have HR0 := Lib.hid r0
      have HBN := Lib.hid hbn
      have HBN2 := Lib.hid hbn2
      have HBN3 := Lib.hid hbn3
      have HE0 := Lib.hid e0
      have HNE := Lib.hid hne
      have him : (k : Int) < 14 := by omega
      clear C2 p0' p1' r0 hbn hbn2 hbn3 e0 hne hb hbw
      generalize hwd : wd k = wk at *
      generalize hnu : nu k = u at *
      generalize hnm : nm k = z at *
      generalize hal : allB k ⟨op, a, b, s⟩ = v at *
      have HV := Lib.hid hal
      have x0 := p0.cell 0
      simp only [List.getElem?_toArray, List.getElem?_cons_zero] at x0
      clear hwd hnu hnm hal
      by_cases he : op = (k + 1 : Nat)
      · have te : (((k : Int) + 1) == op) = true := by rw [he]; simp
        have HRR : Hid (∀ w', Below w.heap.size w w' → NotRes w ⟨op, a, b, s⟩ (.returned (.tuple #[.agg #[.int .i64 ((k : Int) + 1), .string ⟨wk.toArray⟩, .int .i64 u, .bool z], .bool v])) w') := Lib.hid fun w' h => HR.out _ w' h (.inl ⟨k, hlt, he, by rw [HROW.out, HV.out]⟩)
        have hlr : w.heap.size + 1 < wr.heap.size := hl1
        have CC := fun w6 (h6 : Below (wr.alloc (.cells #[.int .i64 ((k : Int) + 1), .string ⟨wk.toArray⟩, .int .i64 u, .bool z] 69)).heap.size (wr.alloc (.cells #[.int .i64 ((k : Int) + 1), .string ⟨wk.toArray⟩, .int .i64 u, .bool z] 69)) w6) => And.intro (HP0.out.below h6 HP0.out.lt) (And.intro (HP1.out.below h6 HP1.out.lt) (And.intro (HR0.out.below h6 HR0.out.lt) (HBN2.out.trans (h6.mono HBN2.out.size))))
        clear he
        go_wp2_with fail
        generalize wr.alloc (.cells #[.int .i64 ((k : Int) + 1), .string ⟨wk.toArray⟩, .int .i64 u, .bool z] 69) = w5 at *
        have HCC := Lib.hid CC
        clear CC x0 hl0 hl1 p0 p1 hx
        obtain ⟨m0, m1, m2, m3⟩ := And.intro (HP0.out.cell 0) (And.intro (HP0.out.cell 1) (And.intro (HP0.out.cell 2) (HP0.out.cell 3)))
        obtain ⟨n0, n1, n2, n3⟩ := And.intro (HR0.out.cell 0) (And.intro (HR0.out.cell 1) (And.intro (HR0.out.cell 2) (HR0.out.cell 3)))
        simp only [List.getElem?_toArray, List.getElem?_cons_zero, List.getElem?_cons_succ] at m0 m1 m2 m3 n0 n1 n2 n3
        have HS : Hid (∀ x, Blk x w.heap.size 26 #[.int .i64 op, .int .i64 a, .int .i64 b, .string s] → Blk x wr.heap.size 69 #[.int .i64 ((k : Int) + 1), .string ⟨wk.toArray⟩, .int .i64 u, .bool z] →
            (x.cell? ⟨w.heap.size, 0, none⟩ = some (.int .i64 op) ∧ x.cell? ⟨w.heap.size, 1, none⟩ = some (.int .i64 a) ∧ x.cell? ⟨w.heap.size, 2, none⟩ = some (.int .i64 b) ∧ x.cell? ⟨w.heap.size, 3, none⟩ = some (.string s) ∧
            x.cell? ⟨wr.heap.size, 0, none⟩ = some (.int .i64 ((k : Int) + 1)) ∧ x.cell? ⟨wr.heap.size, 1, none⟩ = some (.string ⟨wk.toArray⟩) ∧ x.cell? ⟨wr.heap.size, 2, none⟩ = some (.int .i64 u) ∧ x.cell? ⟨wr.heap.size, 3, none⟩ = some (.bool z))) := Lib.hid fun x h1 h2 => ⟨h1.cell 0, h1.cell 1, h1.cell 2, h1.cell 3, h2.cell 0, h2.cell 1, h2.cell 2, h2.cell 3⟩
        have HFR : Hid (∀ x y0 y1 y2 y3, Blk x w.heap.size 26 #[.int .i64 op, .int .i64 a, .int .i64 b, .string s] → Blk x wr.heap.size 69 #[.int .i64 ((k : Int) + 1), .string ⟨wk.toArray⟩, .int .i64 u, .bool z] →
            Blk ((((x.setCell ⟨w.heap.size + 1, 0, none⟩ y0).setCell ⟨w.heap.size + 1, 1, none⟩ y1).setCell ⟨w.heap.size + 1, 2, none⟩ y2).setCell ⟨w.heap.size + 1, 3, none⟩ y3) w.heap.size 26 #[.int .i64 op, .int .i64 a, .int .i64 b, .string s] ∧ Blk ((((x.setCell ⟨w.heap.size + 1, 0, none⟩ y0).setCell ⟨w.heap.size + 1, 1, none⟩ y1).setCell ⟨w.heap.size + 1, 2, none⟩ y2).setCell ⟨w.heap.size + 1, 3, none⟩ y3) wr.heap.size 69 #[.int .i64 ((k : Int) + 1), .string ⟨wk.toArray⟩, .int .i64 u, .bool z]) :=
          Lib.hid fun x y0 y1 y2 y3 h1 h2 => ⟨(((h1.far (by simp) _).far (by simp) _).far (by simp) _).far (by simp) _, (((h2.far (by simp; omega) _).far (by simp; omega) _).far (by simp; omega) _).far (by simp; omega) _⟩
        go_region_held3 (fun x => x.cell? ⟨w.heap.size, 0, none⟩ = some (.int .i64 op) ∧ x.cell? ⟨w.heap.size, 1, none⟩ = some (.int .i64 a) ∧ x.cell? ⟨w.heap.size, 2, none⟩ = some (.int .i64 b) ∧ x.cell? ⟨w.heap.size, 3, none⟩ = some (.string s) ∧
            x.cell? ⟨wr.heap.size, 0, none⟩ = some (.int .i64 ((k : Int) + 1)) ∧ x.cell? ⟨wr.heap.size, 1, none⟩ = some (.string ⟨wk.toArray⟩) ∧ x.cell? ⟨wr.heap.size, 2, none⟩ = some (.int .i64 u) ∧ x.cell? ⟨wr.heap.size, 3, none⟩ = some (.bool z))
          (first | exact HS.out _ (HFR.out _ _ _ _ _ HX7.out.1 HX7.out.2.2.1).1 (HFR.out _ _ _ _ _ HX7.out.1 HX7.out.2.2.1).2 | exact HS.out _ HX7.out.1 HX7.out.2.2.1 | exact ⟨m0, m1, m2, m3, n0, n1, n2, n3⟩)
          ((go_at_call 61
            refine (H2.out _ HBN2.out.drew).mono ?_
            rintro e w7 ⟨rfl, hb6⟩
            have HX7 := Lib.hid (HCC.out w7 ((Below.refl _ _).drew.trans hb6))
            obtain ⟨y0, y1, y2, y3⟩ := And.intro (HX7.out.2.1.cell 0) (And.intro (HX7.out.2.1.cell 1) (And.intro (HX7.out.2.1.cell 2) (HX7.out.2.1.cell 3)))
            obtain ⟨z0, z1, z2, z3⟩ := And.intro (HX7.out.2.1.frozen 0) (And.intro (HX7.out.2.1.frozen 1) (And.intro (HX7.out.2.1.frozen 2) (HX7.out.2.1.frozen 3)))
            simp only [List.getElem?_toArray, List.getElem?_cons_zero, List.getElem?_cons_succ] at y0 y1 y2 y3
            clear hb6))
        go_wp2_with fail
        refine bodyPost_ret (v := .tuple #[.agg #[.int .i64 ((k : Int) + 1), .string ⟨wk.toArray⟩, .int .i64 u, .bool z], .bool v]) ?_ rfl (HRR.out _ (bel4 HX7.out.2.2.2 (Nat.le_succ _) _ _ _ _))
        exact res_cell2 Tryd.results38 _ _ (w.heap.size + 1) _ _ _ _ rfl (put4 HX7.out.2.1 _ _ _ _) Tryd.underlying69 rfl (by kernel_rfl)
      · have te : (((k : Int) + 1) == op) = false := by simp; omega
        go_wp2_with fail
        go_roundw
        case rel => exact ⟨k + 1, by omega, by go_num, fun j hj => by (have h1 := HNE.out j; by_cases e : j = k; subst e; exact he; exact h1 (by omega)), HBN3.out⟩
        case measure => simp [intOf]; omega
    · obtain rfl : k = 14 := by omega
      have hno : ¬ isOp op := fun h => by
        have h1 := hne (op - 1).toNat (by unfold isOp at h; omega)
        unfold isOp at h; omega
      have HF := Lib.hid (fun w' hb' => HR.out (.returned (.tuple #[.agg #[.int .i64 0, .string ⟨#[]⟩, .int .i64 0, .bool false], .bool false])) w' hb' (.inr ⟨hno, rfl⟩))
      have HP1 := Lib.hid p1
      have HBW := Lib.hid hbw
      obtain ⟨y0, y1, y2, y3⟩ := And.intro (p1.cell 0) (And.intro (p1.cell 1) (And.intro (p1.cell 2) (p1.cell 3)))
      obtain ⟨z0, z1, z2, z3⟩ := And.intro (p1.frozen 0) (And.intro (p1.frozen 1) (And.intro (p1.frozen 2) (p1.frozen 3)))
      simp only [List.getElem?_toArray, List.getElem?_cons_zero, List.getElem?_cons_succ] at y0 y1 y2 y3
      clear hno hne p0 p1 hb hbw
      go_wp2_with fail
      refine bodyPost_ret (v := .tuple #[.agg #[.int .i64 0, .string ⟨#[]⟩, .int .i64 0, .bool false], .bool false]) ?_ rfl (HF.out _ ?_)
      rotate_left
      · exact bel4 HBW.out (Nat.le_succ _) _ _ _ _
      exact res_cell2 Tryd.results38 _ _ (w.heap.size + 1) _ _ _ _ rfl (put4 HP1.out _ _ _ _) Tryd.underlying69 rfl (by kernel_rfl)
end Go.Proofs.YtfdgmdijjifmiaaDoor.ins

/- Queries: impl.questionOf, QueryValid, QueryVars. Condition: the terms lie in memory, both tables in their variables. -/
import Derived.Test.YtejflpmecpmhkaaDoorProg
import Derived.Test.YtejflpmecpmhkaaDoorQvS
import Derived.Test.YtejflpmecpmhkaaDoorFm
import Derived.Test.YtejflpmecpmhkaaDoorNumP
namespace Go.Proofs.YtejflpmecpmhkaaDoor
open Go.RowKit Go.Maps Go.ChangeShapes

/-- What impl.questionOf leaves. -/
def QOf (w : World) (f : Fr) (e : Ending) (w' : World) : Prop :=
  Below w.heap.size w w' ∧ ((goalsV f = false ∧ e = .returned (.tuple #[.agg #[.slice none 0 0, .slice none 0 0], .bool false])) ∨
    (goalsV f = true ∧ ∃ A cap vo hi, e = .returned (.tuple #[.agg #[.slice A f.len cap, vo], .bool true]) ∧ GlS w' w.heap.size hi f A cap ∧ w.heap.size ≤ hi ∧ OwnI w' hi vo (varsF [] f)))
theorem goalsV_all {f : Fr} (h : goalsV f = true) : allG f = true ∧ f.len ≤ 6 := by
  unfold goalsV at h
  simp only [Bool.and_eq_true, decide_eq_true_eq] at h
  exact ⟨h.2, h.1⟩
theorem results_cell_row22 {P : Program} {fn : Func} {p u : Tmp} {ty : TypeId} (h : fn.results = #[.cell p ty, .tmp u]) (tmps : Array Value) (w : World) (g : Nat) (t : TypeId) (cs : Array Value) (d : TypeDesc)
    (hp : tmps.getD p undef = .pointer (some ⟨g, 0, none⟩)) (hg : Blk w g t cs)
    (hu : P.underlying ty = some d) (hd : (match d with | .struct _ | .array _ _ => true | _ => false) = true) (hi : (P.info? ty).map (·.size) = some cs.size) :
    (results fn tmps).run P w = .ok (.tuple #[.agg cs, tmps.getD u undef]) w := results_cell_row2 h tmps w g t cs (0, 0) d hp hg hu hd hi
theorem set2 {w : World} {g : Nat} {t : TypeId} {x0 x1 : Value} (h : Blk w g t #[x0, x1]) (a b : Value) : Blk ((w.setCell ⟨g, 0, none⟩ a).setCell ⟨g, 1, none⟩ b) g t #[a, b] := (h.set_ 0 a).set_ 1 b
/-- The state of the loop: j goals are numbered. -/
def QSt (w2 : World) (f : Fr) (j : Nat) (wr : World) : Prop :=
  ∃ vo acc, Num wr (w2.heap.size + 2) (w2.heap.size + 1) w2.heap.size vo acc ∧ acc.length + nodes (f.drop j) ≤ nodes f ∧ varsF acc (f.drop j) = varsF [] f ∧ Below w2.heap.size w2 wr ∧ w2.heap.size + 2 ≤ wr.heap.size
theorem QSt.below {w2 wr wx : World} {f : Fr} {j : Nat} (h : QSt w2 f j wr) (hb : Below wr.heap.size wr wx) : QSt w2 f j wx := by
  obtain ⟨vo, acc, hN, h1, h2, h3, h4⟩ := h
  exact ⟨vo, acc, hN.below hb, h1, h2, h3.trans (hb.mono h3.size), Nat.le_trans h4 hb.size⟩
theorem QSt.step {w2 wr : World} {f : Fr} {j lo hi : Nat} {k n : Int} {s : ByteArray} {kids rest : Fr} {v : Value} (h : QSt w2 f j wr) (hd : f.drop j = .cons k n s kids rest) (hsh : shapeT k n s kids 30 = true) (hv : NdV wr lo hi k n s kids v) (hh : hi ≤ w2.heap.size) (hnd : nodes f ≤ 1048576) (hr : f.drop (j + 1) = rest) :
    ∃ vo acc, Num wr (w2.heap.size + 2) (w2.heap.size + 1) w2.heap.size vo acc ∧ Calls Tryd.prog 47 #[v, .func (.func 53) #[.pointer (some ⟨w2.heap.size + 1, 0, none⟩)] #[]] wr fun e w' => (∃ T x, e = .returned (.iface T x)) ∧ QSt w2 f (j + 1) w' := by
  obtain ⟨vo, acc, hN, h1, h2, h3, h4⟩ := h
  rw [hd] at h1 h2
  simp only [nodes] at h1
  have hlo := hN.2.2.1.lt
  refine ⟨vo, acc, hN, (nsT_any k n 30 s kids v lo hi _ _ _ vo acc wr hsh hv (by omega) hh hN h4 (by omega)).mono ?_⟩
  rintro e w' ⟨vo', v', rfl, hN', hw', hn', hnd'⟩
  obtain ⟨T, x, rfl⟩ := (hnd' _ (List.prefix_refl _)).iface
  refine ⟨⟨_, _, rfl⟩, ⟨vo', varsT acc k n kids, hN', ?_, ?_, h3.trans (hw'.below h3.size fun x hx => ?_), Nat.le_trans h4 hw'.size⟩⟩
  · rw [hr]
    have := varsT_len acc k n kids
    omega
  · rw [hr]; exact h2
  · simp only [List.mem_cons] at hx
    rcases hx with rfl | rfl | hx
    · omega
    · omega
    · have := (hlo x hx).1; omega

set_option maxRecDepth 100000 in
set_option maxHeartbeats 4000000 in
/-- impl.questionOf. -/
theorem questionOf_any (f : Fr) (A : Option Addr) (cap lo hi : Nat) (w : World) (hk : KidsAt w lo hi f A cap) (hh : hi ≤ w.heap.size) (hnd : nodes f ≤ 1048576) (ht : nv.Tab w) (ho : op.OpTab w) :
    Calls Tryd.prog 33 #[.slice A f.len cap] w fun e w' => QOf w f e w' := by
  have hl : f.len ≤ 1048576 := by have := len_le_nodes f; omega
  have hb0 : Below w.heap.size w (w.alloc (.cells #[.slice none 0 0, .slice none 0 0] 61)) := (Below.refl _ _).alloc (Nat.le_refl _) _
  have hq0 := Blk.new w 61 #[.slice none 0 0, .slice none 0 0]
  have C1 := goalsOf_any f A cap lo hi _ (hk.below hb0 hh) (Nat.le_trans hh hb0.size) hnd (ht.below hb0) (ho.below hb0)
  have hmf : ∀ (fn : Fn) (first cap : Array Value) (w : World), (Instr.makeFunc fn first cap).run Tryd.prog w = .ok (.func fn first cap) w := fun _ _ _ _ => rfl
  have e0 : (w.alloc (.cells #[.slice none 0 0, .slice none 0 0] 61)).heap.size = w.heap.size + 1 := by simp
  have HND := Lib.hid hnd
  have HB0 := Lib.hid hb0
  have HQ0 := Lib.hid hq0
  have H1 := Lib.hid C1
  clear C1 hk hnd ht ho hb0 hq0
  have HE0 := Lib.hid e0
  clear e0
  generalize hn : f.len = len at *
  have HN := Lib.hid hn
  clear hn
  go_enter Tryd.func33, Tryd.ntmps33
  go_wp2_with fail
  refine H1.out.mono ?_
  rintro e w2 ⟨hb, hr⟩
  have hq := HQ0.out.below hb HQ0.out.lt
  have x0 := hq.cell 0
  have x1 := hq.cell 1
  have f0 := hq.frozen 0
  have f1 := hq.frozen 1
  simp only [List.getElem?_toArray, List.getElem?_cons_zero, List.getElem?_cons_succ] at x0 x1
  have HB2 : Hid (Below w.heap.size w w2) := Lib.hid (HB0.out.trans (hb.mono HB0.out.size))
  have HQ := Lib.hid hq
  have hs2 : w.heap.size < w2.heap.size := hq.lt
  clear hb hq H1
  rcases hr with ⟨hok, rfl⟩ | ⟨hok, G, gcap, rfl, hgl⟩
  · have HV := Lib.hid hok
    clear hok
    go_wp2_with fail
    refine bodyPost_ret (v := .tuple #[.agg #[.slice none 0 0, .slice none 0 0], .bool false]) ?_ rfl ⟨?_, .inl ⟨HV.out, rfl⟩⟩
    · exact results_cell_row22 Tryd.results33 _ _ w.heap.size _ _ _ rfl (set2 HQ.out _ _) Tryd.underlying61 rfl (by kernel_rfl)
    · exact (HB2.out.setCell (Nat.le_refl _) _).setCell (Nat.le_refl _) _
  · have HV := Lib.hid hok
    have HALL := Lib.hid (goalsV_all hok).1
    have hl6 := (goalsV_all hok).2
    rw [HN.out] at hl6
    rw [HE0.out] at hgl
    have HGL := Lib.hid hgl
    clear hok hgl x0 x1 f0 f1
    rw [HN.out]
    go_wp2_with fail
    refine (newNum_any w2).mono ?_
    rintro e w4 ⟨rfl, hN, hb4, hs4⟩
    have hst : QSt w2 f 0 w4 := ⟨_, [], hN, by simp [Fr.drop], rfl, hb4, Nat.le_of_eq hs4.symm⟩
    have HST := Lib.hid hst
    clear hN hb4 hst
    go_wp2_with fail
    go_loopw [20] (fun i wr => ∃ (j : Nat), j ≤ len ∧ i = .int .i64 j ∧ QSt w2 f j wr) (fun i _ => len - (intOf i).toNat)
    case atStart => exact ⟨0, Nat.zero_le _, rfl, HST.out⟩
    case round =>
      obtain ⟨j, hj, rfl, hst⟩ := hrel
      by_cases hlt : j < len
      · obtain ⟨kk, nn, ss, kids, hd⟩ := Fr.drop_cons j f (by rw [HN.out]; exact hlt)
        obtain ⟨gb, rfl, hgb1, hgb2, hrow⟩ := HGL.out.2.2 (by rw [HN.out]; omega)
        obtain ⟨gv, A3, cp3, hcell, hgi, hnd⟩ := hrow.elem hd
        rw [Nat.zero_add] at hcell
        have hbw : Below w2.heap.size w2 wr := by obtain ⟨_, _, _, _, _, h, _⟩ := hst; exact h
        have k3 := (hbw.cell (p := ⟨gb, j, none⟩) hgb2).trans hcell
        have hgo := allG_elem f j hd HALL.out
        obtain ⟨rfl, hsh, hfm⟩ := GIs.node (w := w2) (lo := w.heap.size + 1) (hi := w2.heap.size) hgo hgi hnd
        have hnd3 : ∀ wx, Below wr.heap.size wr wx → NdS wx (w.heap.size + 1) w2.heap.size kids A3 cp3 := fun wx hb => hnd.keep (fun p _ hp => (hb.cell (Nat.lt_of_lt_of_le hp hbw.size)).trans (hbw.cell hp)) (Nat.le_refl _) (Nat.le_refl _)
        have HNX := Lib.hid hnd3
        have HSH := Lib.hid hsh
        have HD := Lib.hid hd
        have HSTR := Lib.hid hst
        have HGI := Lib.hid hgi
        clear hrow hcell hgi hnd hbw hgo hnd3 hsh hd hst
        rcases hfm with ⟨rfl, rfl, rfl⟩ | rfl | rfl
        · go_wp2_with fail
          refine (formC_any _).mono ?_
          rintro e w5 ⟨rfl, hb5⟩
          obtain ⟨vo, acc, _, C2⟩ := (HSTR.out.below hb5).step (lo := w.heap.size + 1) (hi := w2.heap.size) (n := nn) HD.out HSH.out (nd_cut w5 _ _ _) (Nat.le_refl _) HND.out rfl
          have H2 := Lib.hid C2
          clear hb5 C2 k3
          go_wp2_with fail
          refine H2.out.mono ?_
          rintro e w6 ⟨⟨T, x, rfl⟩, hst⟩
          have HS6 := Lib.hid hst
          clear hst
          go_wp2_with fail
          go_roundw
          case rel => exact ⟨j + 1, by omega, by go_num, HS6.out⟩
          case measure => simp [intOf]; omega
        · go_wp2_with fail
          refine (formB_any _ _ _ _ _).mono ?_
          rintro e w5 ⟨rfl, hb5⟩
          obtain ⟨vo, acc, _, C2⟩ := (HSTR.out.below hb5).step (lo := w.heap.size + 1) (hi := w2.heap.size) (n := nn) HD.out HSH.out (nd_form (HNX.out w5 hb5)) (Nat.le_refl _) HND.out rfl
          have H2 := Lib.hid C2
          clear hb5 C2 k3
          go_wp2_with fail
          refine H2.out.mono ?_
          rintro e w6 ⟨⟨T, x, rfl⟩, hst⟩
          have HS6 := Lib.hid hst
          clear hst
          go_wp2_with fail
          go_roundw
          case rel => exact ⟨j + 1, by omega, by go_num, HS6.out⟩
          case measure => simp [intOf]; omega
        · go_wp2_with fail
          refine (formP_any _ _ _ _ _).mono ?_
          rintro e w5 ⟨rfl, hb5⟩
          obtain ⟨vo, acc, _, C2⟩ := (HSTR.out.below hb5).step (lo := w.heap.size + 1) (hi := w2.heap.size) (n := nn) HD.out HSH.out (nd_form (HNX.out w5 hb5)) (Nat.le_refl _) HND.out rfl
          have H2 := Lib.hid C2
          clear hb5 C2 k3
          go_wp2_with fail
          refine H2.out.mono ?_
          rintro e w6 ⟨⟨T, x, rfl⟩, hst⟩
          have HS6 := Lib.hid hst
          clear hst
          go_wp2_with fail
          go_roundw
          case rel => exact ⟨j + 1, by omega, by go_num, HS6.out⟩
          case measure => simp [intOf]; omega
      · obtain rfl : j = len := by omega
        obtain ⟨vo, acc, hN, _, hva, hb, hs⟩ := hst
        have hacc : acc = varsF [] f := by
          have h1 := Fr.drop_len f
          rw [HN.out] at h1
          rw [← hva, h1]; rfl
        subst hacc
        have c1 := hN.1.cell 1
        simp only [List.getElem?_toArray, List.getElem?_cons_zero, List.getElem?_cons_succ] at c1
        have hq := HQ.out.below hb HQ.out.lt
        have x0 := hq.cell 0
        have x1 := hq.cell 1
        have f0 := hq.frozen 0
        have f1 := hq.frozen 1
        simp only [List.getElem?_toArray, List.getElem?_cons_zero, List.getElem?_cons_succ] at x0 x1
        have hfin : ∀ a b, QOf w f (.returned (.tuple #[.agg #[.slice G f.len gcap, vo], .bool true])) ((wr.setCell ⟨w.heap.size, 0, none⟩ a).setCell ⟨w.heap.size, 1, none⟩ b) := fun a b => by
          have far : ∀ p : Addr, w.heap.size + 1 ≤ p.block → ((wr.setCell ⟨w.heap.size, 0, none⟩ a).setCell ⟨w.heap.size, 1, none⟩ b).cell? p = wr.cell? p := fun p hp => by
            refine World.cell?_of_block ?_
            rw [heap_setCell_other _ _ _ _ (by show p.block ≠ w.heap.size; omega), heap_setCell_other _ _ _ _ (by show p.block ≠ w.heap.size; omega)]
          have hlo := hN.2.2.1.lt
          refine ⟨((HB2.out.trans (hb.mono HB2.out.size)).setCell (Nat.le_refl _) _).setCell (Nat.le_refl _) _, .inr ⟨HV.out, G, gcap, vo, w2.heap.size, rfl, ?_, HB2.out.size, ?_⟩⟩
          · exact HGL.out.keep (fun p hl hh => (far p hl).trans (hb.cell hh)) (by omega) (Nat.le_refl _)
          · refine (hN.2.2.1.mono (by omega)).keep (L := [w.heap.size]) (((Wrote.refl _ _).set_ (.inl (by simp)) _).set_ (.inl (by simp)) _) fun x hx e => ?_
            have := (hlo x hx).1
            simp at e; omega
        have HF := Lib.hid hfin
        have HQ2 := Lib.hid hq
        obtain ⟨A4, cap4, rfl, _⟩ := hN.2.2.1.read
        clear hN hva hb hq hfin
        rw [HN.out] at HF
        go_wp2_with fail
        refine bodyPost_ret (v := .tuple #[.agg #[.slice G j gcap, .slice A4 (varsF [] f).length cap4], .bool true]) ?_ rfl (HF.out _ _)
        exact results_cell_row22 Tryd.results33 _ _ w.heap.size _ _ _ rfl (set2 HQ2.out _ _) Tryd.underlying61 rfl (by kernel_rfl)
end Go.Proofs.YtejflpmecpmhkaaDoor

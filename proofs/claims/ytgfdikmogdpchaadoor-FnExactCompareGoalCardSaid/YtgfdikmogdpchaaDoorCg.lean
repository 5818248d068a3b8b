/- Goals that are built in: impl.builtinGoalOf, what the table answers, spec.l5Compares, impl.CompareGoal, spec.CompareGoal. Condition: the term lies in memory, both tables in their variables. -/
import Derived.Test.YtgfdikmogdpchaaDoorProg
import Derived.Test.YtgfdikmogdpchaaDoorGoI
import Derived.Test.YtgfdikmogdpchaaDoorBt
import Derived.Deep.RegionHeld3
import Derived.Deep.QuietTactic
import Derived.BigQuiet
namespace Go.Proofs.YtgfdikmogdpchaaDoor
open Go.RowKit Go.WideMaps Go.Maps

@[go_sem] theorem as_c_b (v : Value) (w : World) : (Instr.typeAssert (.iface 127 v) 75 51 true).run Tryd.prog w = .ok (.tuple #[.agg #[.string ⟨#[]⟩, .slice none 0 0], .bool false]) w := by kernel_rfl
@[go_sem] theorem as_p_b (v : Value) (w : World) : (Instr.typeAssert (.iface 130 v) 75 51 true).run Tryd.prog w = .ok (.tuple #[.agg #[.string ⟨#[]⟩, .slice none 0 0], .bool false]) w := by kernel_rfl
@[go_sem] theorem as_b_b (v : Value) (w : World) : (Instr.typeAssert (.iface 51 v) 75 51 true).run Tryd.prog w = .ok (.tuple #[v, .bool true]) w := by kernel_rfl
@[go_sem] theorem as_n_b (w : World) : (Instr.typeAssert .nilIface 75 51 true).run Tryd.prog w = .ok (.tuple #[.agg #[.string ⟨#[]⟩, .slice none 0 0], .bool false]) w := by kernel_rfl

/-- The term is a goal that is built in. -/
def biV (k n : Int) (s : ByteArray) (f : Fr) : Bool := goalV k n s f && (gk s f.len == 2)
/-- What impl.builtinGoalOf leaves. -/
def BOf (w : World) (k n : Int) (s : ByteArray) (f : Fr) (e : Ending) (w' : World) : Prop :=
  Below w.heap.size w w' ∧ ((biV k n s f = false ∧ ∃ s' A len cap, e = .returned (.tuple #[.agg #[.string s', .slice A len cap], .bool false])) ∨
    (biV k n s f = true ∧ ∃ A cap, e = .returned (.tuple #[.agg #[.string s, .slice A f.len cap], .bool true]) ∧ NdS w' w.heap.size w'.heap.size f A cap))

set_option maxRecDepth 100000 in
set_option maxHeartbeats 1000000 in
/-- impl.builtinGoalOf. -/
theorem builtinOf_any (k n : Int) (s : ByteArray) (f : Fr) (A : Option Addr) (cap lo hi : Nat) (w : World) (hk : KidsAt w lo hi f A cap) (hh : hi ≤ w.heap.size) (hf : Fits k n s) (hnd : nodes f ≤ 1048576) (ht : nv.Tab w) (ho : op.OpTab w) :
    Calls Tryd.prog 21 #[.agg #[.int .i64 k, .int .i64 n, .string s, .slice A f.len cap]] w fun e w' => BOf w k n s f e w' := by
  have hb0 : Below w.heap.size w ((w.alloc (.cells #[.int .i64 k, .int .i64 n, .string s, .slice A f.len cap] 30)).alloc (.cells #[.string ⟨#[]⟩, .slice none 0 0] 51)) := ((Below.refl _ _).alloc (Nat.le_refl _) _).alloc (by simp) _
  have C1 := goalOf_any k n s f A cap lo hi _ (hk.below hb0 hh) (Nat.le_trans hh hb0.size) hf hnd (ht.below hb0) (ho.below hb0)
  have hq0 : Blk ((w.alloc (.cells #[.int .i64 k, .int .i64 n, .string s, .slice A f.len cap] 30)).alloc (.cells #[.string ⟨#[]⟩, .slice none 0 0] 51)) (w.heap.size + 1) 51 #[.string ⟨#[]⟩, .slice none 0 0] := by
    have h := Blk.new (w.alloc (.cells #[.int .i64 k, .int .i64 n, .string s, .slice A f.len cap] 30)) 51 #[.string ⟨#[]⟩, .slice none 0 0]
    simpa using h
  have HPG : Hid (biV k n s f = (goalV k n s f && (gk s f.len == 2))) := Lib.hid rfl
  have H1 := Lib.hid C1
  have HB0 := Lib.hid hb0
  have HQ0 := Lib.hid hq0
  clear C1 hk hf hnd ht ho hb0 hq0
  go_enter Tryd.func21, Tryd.ntmps21
  go_wp2_with fail
  refine H1.out.mono ?_
  rintro e w2 ⟨hb, hr⟩
  have hq2 := HQ0.out.below hb HQ0.out.lt
  have a0 := hq2.cell 0
  have a1 := hq2.cell 1
  have f0 := hq2.frozen 0
  have f1 := hq2.frozen 1
  simp only [List.getElem?_toArray, List.getElem?_cons_zero, List.getElem?_cons_succ] at a0 a1
  have hb2 := HB0.out.trans (hb.mono HB0.out.size)
  have hw2 : w.heap.size + 1 < w2.heap.size := hq2.lt
  have HQ2 := Lib.hid hq2
  have HB2 := Lib.hid hb2
  have HSB := Lib.hid HB0.out.size
  clear hb2 hq2
  rcases hr with ⟨hok, rfl⟩ | ⟨hok, v, A2, cap2, rfl, hgi, hnds⟩
  · have HP : Hid (biV k n s f = false) := Lib.hid (by rw [HPG.out, hok]; rfl)
    clear hb hok
    go_wp2_with fail
    refine bodyPost_ret (v := .tuple #[.agg #[.string ⟨#[]⟩, .slice none 0 0], .bool false]) ?_ rfl ⟨?_, .inl ⟨HP.out, _, _, _, _, rfl⟩⟩
    · exact results_cell_row2 Tryd.results21 _ _ (w.heap.size + 1) _ _ _ _ rfl (((HQ2.out.set_ 0 _).set_ 1 _).alloc _) Tryd.underlying51 rfl (by kernel_rfl)
    · exact (((HB2.out.setCell (by simp) _).setCell (by simp) _).alloc (by simpa [World.setCell] using HB2.out.size) _)
  · have e9 : ((w.alloc (.cells #[.int .i64 k, .int .i64 n, .string s, .slice A f.len cap] 30)).alloc (.cells #[.string ⟨#[]⟩, .slice none 0 0] 51)).heap.size = w.heap.size + 1 + 1 := by simp
    rw [e9] at hnds
    have HNS := Lib.hid hnds
    clear hb hnds e9
    rcases hgi with ⟨hg, rfl⟩ | ⟨hg, rfl⟩ | ⟨hg, rfl⟩
    · have HP : Hid (biV k n s f = false) := Lib.hid (by rw [HPG.out, hg]; simp)
      clear hok hg
      go_wp2_with fail
      refine bodyPost_ret (v := .tuple #[.agg #[.string ⟨#[]⟩, .slice none 0 0], .bool false]) ?_ rfl ⟨?_, .inl ⟨HP.out, _, _, _, _, rfl⟩⟩
      · exact results_cell_row2 Tryd.results21 _ _ (w.heap.size + 1) _ _ _ _ rfl (((HQ2.out.set_ 0 _).set_ 1 _).alloc _) Tryd.underlying51 rfl (by kernel_rfl)
      · exact (((HB2.out.setCell (by simp) _).setCell (by simp) _).alloc (by simpa [World.setCell] using HB2.out.size) _)
    · have HP : Hid (biV k n s f = true) := Lib.hid (by rw [HPG.out, hok, hg]; rfl)
      clear hok hg
      have hfin : ∀ a b : Value, BOf w k n s f (.returned (.tuple #[.agg #[.string s, .slice A2 f.len cap2], .bool true])) (((w2.setCell ⟨w.heap.size + 1, 0, none⟩ a).setCell ⟨w.heap.size + 1, 1, none⟩ b).alloc (.cells #[.string s, .slice A2 f.len cap2] 51)) := fun a b =>
        ⟨((HB2.out.setCell (by simp) _).setCell (by simp) _).alloc (by simpa [World.setCell] using HB2.out.size) _, .inr ⟨HP.out, A2, cap2, rfl, HNS.out.keep (fun p hl hp => by
          have hs : ((w2.setCell ⟨w.heap.size + 1, 0, none⟩ a).setCell ⟨w.heap.size + 1, 1, none⟩ b).heap.size = w2.heap.size := by simp [World.setCell]
          have e1 := World.cell?_of_block (a := p) (Below.heap_alloc ((w2.setCell ⟨w.heap.size + 1, 0, none⟩ a).setCell ⟨w.heap.size + 1, 1, none⟩ b) (.cells #[.string s, .slice A2 f.len cap2] 51) p.block (by rw [hs]; exact hp))
          have e2 := World.cell?_of_block (a := p) (heap_setCell_other (w2.setCell ⟨w.heap.size + 1, 0, none⟩ a) ⟨w.heap.size + 1, 1, none⟩ p.block b (by show p.block ≠ w.heap.size + 1; omega))
          have e3 := World.cell?_of_block (a := p) (heap_setCell_other w2 ⟨w.heap.size + 1, 0, none⟩ p.block a (by show p.block ≠ w.heap.size + 1; omega))
          exact e1.trans (e2.trans e3)) (by omega) (by simp [World.setCell])⟩⟩
      have HF := Lib.hid hfin
      clear hfin
      generalize f.len = fl at *
      go_wp2_with fail
      refine bodyPost_ret (v := .tuple #[.agg #[.string s, .slice A2 fl cap2], .bool true]) ?_ rfl (HF.out _ _)
      exact results_cell_row2 Tryd.results21 _ _ (w.heap.size + 1) _ _ _ _ rfl (((HQ2.out.set_ 0 _).set_ 1 _).alloc _) Tryd.underlying51 rfl (by kernel_rfl)
    · have HP : Hid (biV k n s f = false) := Lib.hid (by rw [HPG.out, hg]; simp)
      clear hok hg
      go_wp2_with fail
      refine bodyPost_ret (v := .tuple #[.agg #[.string ⟨#[]⟩, .slice none 0 0], .bool false]) ?_ rfl ⟨?_, .inl ⟨HP.out, _, _, _, _, rfl⟩⟩
      · exact results_cell_row2 Tryd.results21 _ _ (w.heap.size + 1) _ _ _ _ rfl (((HQ2.out.set_ 0 _).set_ 1 _).alloc _) Tryd.underlying51 rfl (by kernel_rfl)
      · exact (((HB2.out.setCell (by simp) _).setCell (by simp) _).alloc (by simpa [World.setCell] using HB2.out.size) _)

/-- The name compares numbers. -/
def cmpB (l : List UInt8) : Bool := (l == [60]) || ((l == [62]) || ((l == [61, 60]) || ((l == [62, 61]) || (l == [61, 58, 61]))))
/-- The term compares numbers. -/
def cgB (k n : Int) (s : ByteArray) (f : Fr) : Bool := validT k n s f && ((k == 3) && ((f.len == 2) && cmpB s.data.toList))
theorem bt_at : ∀ r ∈ btTab, btD.atKey (.string r.1) (.held .nilIface) = .held r.2 := by
  intro r hr
  simp only [btTab, List.mem_cons, List.not_mem_nil, or_false] at hr
  rcases hr with rfl | rfl | rfl | rfl | rfl | rfl | rfl | rfl | rfl | rfl | rfl | rfl | rfl | rfl | rfl | rfl <;> kernel_rfl
theorem bt_fold (l : List UInt8) (z : DataW Value) : ∀ (rs : List (List UInt8 × Value)) (D : DataW Value), (∀ r ∈ rs, r.1 ≠ l) →
    (rs.foldl (fun D r => D.put (.string r.1) (.held r.2)) D).atKey (.string l) z = D.atKey (.string l) z
  | [], D, _ => rfl
  | r :: rs, D, h => by
    have h1 : r.1 ≠ l := h r (by simp)
    have hne : (Lit.string l) ≠ Lit.string r.1 := fun e => h1 (by injection e with e; exact e.symm)
    exact (bt_fold l z rs (D.put (.string r.1) (.held r.2)) fun x hx => h x (by simp [hx])).trans (atKey_put_other hne _ _)
theorem bt_no (l : List UInt8) (h : ∀ r ∈ btTab, r.1 ≠ l) : btD.atKey (.string l) (.held .nilIface) = .held .nilIface := (bt_fold l _ btTab (.map []) h).trans rfl
/-- What the table answers: a comparison or none. -/
theorem bt_cmp (l : List UInt8) : (cmpB l = true ∧ ∃ x, btD.atKey (.string l) (.held .nilIface) = .held (.iface 55 x)) ∨
    (cmpB l = false ∧ ∃ v, btD.atKey (.string l) (.held .nilIface) = .held v ∧ (v = .nilIface ∨ (∃ x, v = .iface 79 x) ∨ ∃ x, v = .iface 81 x)) := by
  by_cases h : ∃ r ∈ btTab, r.1 = l
  · obtain ⟨r, hr, rfl⟩ := h
    have h1 := bt_at r hr
    simp only [btTab, List.mem_cons, List.not_mem_nil, or_false] at hr
    rcases hr with rfl | rfl | rfl | rfl | rfl | rfl | rfl | rfl | rfl | rfl | rfl | rfl | rfl | rfl | rfl | rfl
    all_goals first
      | exact .inl ⟨by decide, _, h1⟩
      | exact .inr ⟨by decide, _, h1, .inr (.inl ⟨_, rfl⟩)⟩
      | exact .inr ⟨by decide, _, h1, .inr (.inr ⟨_, rfl⟩)⟩
  · have hn : ∀ r ∈ btTab, r.1 ≠ l := fun r hr e => h ⟨r, hr, e⟩
    refine .inr ⟨?_, _, bt_no l hn, .inl rfl⟩
    have n1 : l ≠ [60] := fun e => hn _ (show ([60], _) ∈ btTab by simp only [btTab, List.mem_cons]; exact .inr (.inr (.inr (.inr (.inr (.inr (.inl rfl))))))) e.symm
    have n2 : l ≠ [62] := fun e => hn _ (show ([62], _) ∈ btTab by simp only [btTab, List.mem_cons]; exact .inr (.inr (.inr (.inr (.inr (.inr (.inr (.inl rfl)))))))) e.symm
    have n3 : l ≠ [61, 60] := fun e => hn _ (show ([61, 60], _) ∈ btTab by simp only [btTab, List.mem_cons]; exact .inr (.inr (.inr (.inr (.inr (.inr (.inr (.inr (.inl rfl))))))))) e.symm
    have n4 : l ≠ [62, 61] := fun e => hn _ (show ([62, 61], _) ∈ btTab by simp only [btTab, List.mem_cons]; exact .inr (.inr (.inr (.inr (.inr (.inr (.inr (.inr (.inr (.inl rfl)))))))))) e.symm
    have n5 : l ≠ [61, 58, 61] := fun e => hn _ (show ([61, 58, 61], _) ∈ btTab by simp only [btTab, List.mem_cons]; exact .inr (.inr (.inr (.inr (.inr (.inr (.inr (.inr (.inr (.inr (.inl rfl))))))))))) e.symm
    unfold cmpB
    simp [n1, n2, n3, n4, n5]
theorem cmp_bi (l : List UInt8) (a : Int) (h : cmpB l = true) : biB l a = (a == 2) ∧ l ≠ [33] := by
  unfold cmpB at h
  simp only [Bool.or_eq_true, beq_iff_eq] at h
  rcases h with rfl | rfl | rfl | rfl | rfl <;> exact ⟨rfl, by decide⟩
theorem cg_of (k n : Int) (s : ByteArray) (f : Fr) : cgB k n s f = (biV k n s f && cmpB s.data.toList) := by
  cases hc : cmpB s.data.toList
  · unfold cgB; rw [hc]; simp
  · obtain ⟨h1, h2⟩ := cmp_bi _ (f.len : Int) hc
    unfold cgB biV
    rw [hc]
    cases hv : validT k n s f
    · have : goalV k n s f = false := by unfold goalV; rw [hv]; rfl
      rw [this]; rfl
    · by_cases h3 : k = 3
      · subst h3
        have hcut : cutB s f.len = false := by unfold cutB; rw [beq_eq_false_iff_ne.2 h2]; rfl
        have e : (f.len == 2) = ((f.len : Int) == 2) := by
          rw [Bool.eq_iff_iff, beq_iff_eq, beq_iff_eq]; omega
        rw [goalV_three hv rfl, e]
        unfold gk
        rw [hcut, h1]
        have hp : plainB s f.len = true → ((f.len : Int) == 2) = false := fun h => by
          unfold plainB at h
          rw [h1] at h
          simp only [Bool.and_eq_true, Bool.not_eq_true'] at h
          exact h.2.1
        cases hq : ((f.len : Int) == 2)
        · cases hp' : plainB s f.len <;> rfl
        · rfl
      · have hb : (k == 3) = false := by rw [beq_eq_false_iff_ne]; exact h3
        rw [goalV_other h3, hb]; rfl

set_option maxRecDepth 100000 in
/-- spec.l5Compares. -/
theorem cmp_any (s : ByteArray) (w : World) :
    Calls Tryd.prog 20 #[.string s] w fun e w' => e = .returned (.bool (cmpB s.data.toList)) ∧ w = w' := by
  have hl := ByteArray.toList_eq s
  have HV : Hid (cmpB s.data.toList = ((s.toList == [60]) || ((s.toList == [62]) || ((s.toList == [61, 60]) || ((s.toList == [62, 61]) || (s.toList == [61, 58, 61])))))) := Lib.hid (by rw [hl]; rfl)
  clear hl
  cases t0 : (s.toList == [60])
  · cases t1 : (s.toList == [62])
    · cases t2 : (s.toList == [61, 60])
      · cases t3 : (s.toList == [62, 61])
        · cases t4 : (s.toList == [61, 58, 61])
          · have HW : Hid (cmpB s.data.toList = false) := Lib.hid (by rw [HV.out, t0, t1, t2, t3, t4]; rfl)
            clear HV
            go_enter Tryd.func20, Tryd.ntmps20
            go_wp2_with fail
            go_ret
            rw [HW.out]; exact ⟨rfl, rfl⟩
          · have HW : Hid (cmpB s.data.toList = true) := Lib.hid (by rw [HV.out, t0, t1, t2, t3, t4]; rfl)
            clear HV
            go_enter Tryd.func20, Tryd.ntmps20
            go_wp2_with fail
            go_ret
            rw [HW.out]; exact ⟨rfl, rfl⟩
        · have HW : Hid (cmpB s.data.toList = true) := Lib.hid (by rw [HV.out, t0, t1, t2, t3]; rfl)
          clear HV
          go_enter Tryd.func20, Tryd.ntmps20
          go_wp2_with fail
          go_ret
          rw [HW.out]; exact ⟨rfl, rfl⟩
      · have HW : Hid (cmpB s.data.toList = true) := Lib.hid (by rw [HV.out, t0, t1, t2]; rfl)
        clear HV
        go_enter Tryd.func20, Tryd.ntmps20
        go_wp2_with fail
        go_ret
        rw [HW.out]; exact ⟨rfl, rfl⟩
    · have HW : Hid (cmpB s.data.toList = true) := Lib.hid (by rw [HV.out, t0, t1]; rfl)
      clear HV
      go_enter Tryd.func20, Tryd.ntmps20
      go_wp2_with fail
      go_ret
      rw [HW.out]; exact ⟨rfl, rfl⟩
  · have HW : Hid (cmpB s.data.toList = true) := Lib.hid (by rw [HV.out, t0]; rfl)
    clear HV
    go_enter Tryd.func20, Tryd.ntmps20
    go_wp2_with fail
    go_ret
    rw [HW.out]; exact ⟨rfl, rfl⟩
end Go.Proofs.YtgfdikmogdpchaaDoor

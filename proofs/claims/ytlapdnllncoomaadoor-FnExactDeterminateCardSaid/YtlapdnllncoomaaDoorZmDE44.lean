/- impl.programOf walked; impl.ProgramValid. Condition: the clauses lie in memory, both tables in their variables. -/
import Derived.Test.YtlapdnllncoomaaDoorProg
import Derived.Test.YtlapdnllncoomaaDoorZmDE43
namespace Go.Proofs.YtlapdnllncoomaaDoor
open Go.RowKit Go.WideMaps Go.Maps Go.ChangeShapes

/-- What impl.programOf leaves. -/
def POr (w : World) (cs : List Cl) (e : Ending) (w' : World) : Prop :=
  Below w.heap.size w w' ∧ ((progV cs = false ∧ e = .returned (.tuple #[.agg #[.slice none 0 0, .map none], .bool false])) ∨
    (progV cs = true ∧ ∃ R M, e = .returned (.tuple #[.agg #[.slice R cs.length cs.length, .map (some M)], .bool true]) ∧ w.heap.size ≤ M ∧ M < w'.heap.size ∧
      ∃ D : DataW Unit, w'.ownsGroups Tryd.prog 88 (M + 1) 3 .i64 M cs.length D ∧ (∀ l, HoldsD D l (idxF cs 0 l)) ∧ ∃ r, R = some ⟨r, 0, none⟩ ∧ w.heap.size ≤ r ∧ r < w'.heap.size ∧ Cts w' (fun g => w.heap.size ≤ g ∧ g < w'.heap.size) r cs 0))
theorem PgP.start {w w1 : World} {cs : List Cl} {base : Nat} {xs : List Value} (h1 : (w.alloc (.cells #[.slice none 0 0, .map none] 73)).grownBy w1 none)
    (hown : w1.ownsRow base 91 3 (.slice (some ⟨w.heap.size + 1, 0, none⟩) cs.length cs.length) cs.length xs) :
    PgP w cs w1.heap.size 0 ((w1.alloc (.map #[] 0)).alloc (.cells #[.slice (some ⟨w.heap.size + 1, 0, none⟩) cs.length cs.length, .map (some w1.heap.size)] 73)) := by
  have e0 : (w.alloc (.cells #[.slice none 0 0, .map none] 73)).heap.size = w.heap.size + 1 := by simp
  have e1 : (w1.alloc (.map #[] 0)).heap.size = w1.heap.size + 1 := by simp
  have hb0 : Below w.heap.size w w1 := ((Below.refl _ _).alloc (Nat.le_refl _) _).grown h1 (by rw [e0]; omega) (fun k hk => by cases hk)
  have hblk : ∃ cur, Blk w1 (w.heap.size + 1) 91 cur ∧ cur.size = cs.length * 3 := by
    rcases hown.2 with ⟨h', _⟩ | ⟨g', cap', cur, h', _, hb, _, _, hs, _⟩
    · simp at h'
    · simp only [Value.slice.injEq, Option.some.injEq, Addr.mk.injEq, and_true, true_and] at h'
      obtain ⟨h', h''⟩ := h'
      subst h'
      exact ⟨cur, hb, by rw [hs, ← h'']⟩
  obtain ⟨cur, hc, hcs⟩ := hblk
  have hq : Blk w1 w.heap.size 73 #[.slice none 0 0, .map none] := (Blk.new w _ _).keep (h1.block w.heap.size (by rw [e0]; omega) (by simp))
  have hlt := hc.lt
  have hb2 : Below w1.heap.size w1 ((w1.alloc (.map #[] 0)).alloc (.cells #[.slice (some ⟨w.heap.size + 1, 0, none⟩) cs.length cs.length, .map (some w1.heap.size)] 73)) := two_alloc _ _ _
  have hnew := Blk.new (w1.alloc (.map #[] 0)) 73 #[.slice (some ⟨w.heap.size + 1, 0, none⟩) cs.length cs.length, .map (some w1.heap.size)]
  rw [e1] at hnew
  refine ⟨hb0.trans (hb2.mono hb0.size), by omega, by simp, hq.below hb2 hq.lt, ⟨cur, hc.below hb2 hc.lt, hcs⟩, hnew, .map [], ?_, isMap_empty, fun l => .inl ⟨rfl, rfl⟩⟩
  exact groups_below (World.ownsGroups_made (H := Unit) w1 Tryd.prog 88 3 .i64) ((Below.refl _ _).alloc (Nat.le_refl _) _)

theorem PgX.start {w w1 : World} {cs : List Cl} {base : Nat} {xs : List Value} (h1 : (w.alloc (.cells #[.slice none 0 0, .map none] 73)).grownBy w1 none)
    (hown : w1.ownsRow base 91 3 (.slice (some ⟨w.heap.size + 1, 0, none⟩) cs.length cs.length) cs.length xs) :
    PgX w cs w1.heap.size 0 0 ((w1.alloc (.map #[] 0)).alloc (.cells #[.slice (some ⟨w.heap.size + 1, 0, none⟩) cs.length cs.length, .map (some w1.heap.size)] 73)) :=
  ⟨PgP.start h1 hown, fun _ => False, (World.Shuns_made w1 _).kept (World.grownBy_alloc _ _ none) (by simp) (by simp), fun _ h => h.elim, by rw [List.take_zero]; trivial⟩

/-- Blocks of other types stand through the append and the store. -/
theorem ix_keep {x w4 w5 : World} {M : Nat} {v : Value} {zs : List Int} (hoi : x.ownsInts (M + 1) 3 .i64 v zs) (hg4 : x.grownBy w4 v.ownBlock) (hg5 : w4.grownBy w5 (some M)) {g : Nat} {t : TypeId} {ys : Array Value} (hb : Blk x g t ys) (ht : t ≠ 3) (hgm : g ≠ M) :
    Blk w4 g t ys ∧ Blk w5 g t ys := by
  have h1 := hb.lt
  have h4 : Blk w4 g t ys := hb.keep (hg4.block g h1 fun e => by
    rcases hoi.1.2 with ⟨rfl, _⟩ | ⟨g', cap, cur, rfl, _, hh, _⟩
    · simp [Value.ownBlock] at e
    · simp [Value.ownBlock] at e
      subst e
      have h2 := hb.symm.trans hh
      simp at h2
      exact ht h2.2)
  exact ⟨h4, h4.keep (hg5.block g h4.lt (by simpa using hgm))⟩
/-- The cells that the region reads. -/
def IxS (M cb : Nat) (s : ByteArray) (A : Option Addr) (len cap : Nat) (x : World) : Prop :=
  x.cell? ⟨M + 1, 1, none⟩ = some (.map (some M)) ∧ x.cell? ⟨cb, 0, none⟩ = some (.string s) ∧ x.cell? ⟨cb, 1, none⟩ = some (.slice A len cap)

set_option maxRecDepth 100000 in
set_option maxHeartbeats 4000000 in
/-- impl.programOf. -/
theorem progOf_any (cs : List Cl) (A : Option Addr) (cap lo hi : Nat) (w : World) (hk : ClS w lo hi cs A cap) (hh : hi ≤ w.heap.size) (hnd : cs.length + wtCs cs ≤ 1048576) (ht : nv.Tab w) (ho : op.OpTab w) :
    Calls Tryd.prog 50 #[.slice A cs.length cap] w fun e w' => POr w cs e w' := by
  have hmm := @run_makeMap Tryd.prog
  have hl : cs.length ≤ 1048576 := by omega
  have HE : Hid (progV cs = (decide (cs.length ≤ 20) && allC cs)) := Lib.hid rfl
  have HK := Lib.hid hk
  have HHI := Lib.hid hh
  have HND := Lib.hid hnd
  have HT := Lib.hid ht
  have HO := Lib.hid ho
  have hst := fun w1 base xs h1 => PgX.start (w := w) (w1 := w1) (cs := cs) (base := base) (xs := xs) h1
  have HST := Lib.hid hst
  clear hk hh hnd ht ho hst
  generalize hn : cs.length = len at *
  have HN := Lib.hid hn
  clear hn
  have hb0 : Below w.heap.size w (w.alloc (.cells #[.slice none 0 0, .map none] 73)) := (Below.refl _ _).alloc (Nat.le_refl _) _
  have hq0 := Blk.new w 73 #[.slice none 0 0, .map none]
  have HB0 := Lib.hid hb0
  have HQ0 := Lib.hid hq0
  clear hb0 hq0
  by_cases h6 : len ≤ 20
  · have t6 : ¬ ((len : Int) > 20) := by omega
    obtain ⟨i0, hi0, hz0, hz1, hz2⟩ := info_parts infoCl
    go_enter Tryd.func50, Tryd.ntmps50
    go_wp2_with (at_make; go_must (refine wpList_make_full _ rfl _ _ 70 rfl (w.heap.size + 1) 91 i0 _ 3 Tryd.underlying70 hi0 hz0 hz1 .i64 .i64 _ _ len rfl rfl rfl rfl (by rw [hz2]; omega) (by unfold maxLen; omega) (by simp) ?_); intro w1 hown hgrow)
    rw [show (w.alloc (.cells #[.slice none 0 0, .map none] 73)).heap.size = w.heap.size + 1 by simp] at hown
    have hp0 := HST.out w1 _ _ hgrow hown
    have hM0 : w.heap.size + 1 < w1.heap.size := hp0.1.2.1
    have HP0 := Lib.hid hp0
    clear hp0 hown hgrow HST hi0 hz0 hz1 hz2 HB0 HQ0
    generalize w1.heap.size = M at *
    go_loopw [20] (fun i wr => ∃ (j : Nat), j ≤ len ∧ i = .int .i64 j ∧ allC (cs.drop j) = allC cs ∧ PgX w cs M j j wr) (fun i _ => len - (intOf i).toNat)
    case atStart => exact ⟨0, Nat.zero_le _, rfl, rfl, HP0.out⟩
    case round =>
      obtain ⟨j, hj, rfl, hv, hpart⟩ := hrel
      have HPT := Lib.hid hpart
      by_cases hlt : j < len
      · have hltf : j < cs.length := by rw [HN.out]; exact hlt
        obtain ⟨c, hd⟩ := drop_cl cs j hltf
        obtain ⟨b, o, rfl, hlb, hbb, hrow⟩ := HK.out.2.2 (by rw [HN.out]; omega)
        obtain ⟨hfit, A', cap', B', capB', c0, c1, c2, c3, c4, hkid, hbd⟩ := ClAt.elem j cs b o hrow hd
        rw [hd] at hv
        have hv2 : (clauseV c && allC (cs.drop (j + 1))) = allC cs := hv
        have hb := hpart.1.1
        have hlo : (⟨b, o, none⟩ : Addr).block < w.heap.size := Nat.lt_of_lt_of_le hbb HHI.out
        have k0 := (hb.cell (p := ⟨b, o + j * 5, none⟩) hlo).trans c0
        have k1 := (hb.cell (p := ⟨b, o + j * 5 + 1, none⟩) hlo).trans c1
        have k2 := (hb.cell (p := ⟨b, o + j * 5 + 2, none⟩) hlo).trans c2
        have k3 := (hb.cell (p := ⟨b, o + j * 5 + 3, none⟩) hlo).trans c3
        have k4 := (hb.cell (p := ⟨b, o + j * 5 + 4, none⟩) hlo).trans c4
        have hwe := wtC_le cs j hd
        have hwn := wtC_nodes c
        have hkl : c.kids.len ≤ maxLen := Nat.le_trans hkid.1 hkid.2.1
        have hb1 : Below wr.heap.size wr (wr.alloc (.cells #[.int .i64 c.k, .int .i64 c.n, .string c.s, .slice A' c.kids.len cap', .slice B' c.body.len capB'] 68)) := (Below.refl _ _).alloc (Nat.le_refl _) _
        have hbw1 := hb.trans (hb1.mono hb.size)
        have C1 := clauseOf_any c A' B' cap' capB' lo hi _ (hkid.below hbw1 HHI.out) (hbd.below hbw1 HHI.out) (Nat.le_trans HHI.out hbw1.size) hfit (by have := HND.out; omega) (by have := HND.out; omega) (HT.out.below hbw1) (HO.out.below hbw1)
        have nextOf := fun x (h : Below wr.heap.size wr x) => HPT.out.next h
        have hkey := pk_key c.s c.kids.len hfit.2.2 hkl
        have H1 := Lib.hid C1
        have HB := Lib.hid hb
        have HB1 := Lib.hid hb1
        have HEE := Lib.hid hv2
        have HNX := Lib.hid nextOf
        have HKY := Lib.hid hkey
        have HD := Lib.hid hd
        have HKL := Lib.hid hkl
        clear C1 hb hb1 hbw1 hv hv2 c0 c1 c2 c3 c4 hkid hbd hrow hfit hd hlo hpart hltf hwe hwn nextOf hkey hkl HK
        obtain ⟨ck, cn, csx, ckids, cbody⟩ := c
        simp only at *
        go_wp2_with fail
        refine H1.out.mono ?_
        rintro e w2 ⟨hb2, hr⟩
        have hb12 : Below wr.heap.size wr w2 := HB1.out.trans (hb2.mono HB1.out.size)
        have hp2 := HNX.out w2 hb12
        rcases hr with ⟨hok, rfl⟩ | ⟨hok, A2, cap2, G, gcap, rfl, hnk, hgk⟩
        · have HV : Hid (progV cs = false) := Lib.hid (by rw [HE.out, ← HEE.out, hok]; simp)
          have hq := hp2.1.2.2.2.1
          have r0 := hq.cell 0
          have r1 := hq.cell 1
          have f0 := hq.frozen 0
          have f1 := hq.frozen 1
          simp only [List.getElem?_toArray, List.getElem?_cons_zero, List.getElem?_cons_succ] at r0 r1
          have hlt2 : w.heap.size < w2.heap.size := hq.lt
          have HQ2 := Lib.hid hq
          have HBW := Lib.hid hp2.1.1
          clear hok hb2 hb12 hp2 hq k0 k1 k2 k3 k4
          go_wp2_with fail
          refine bodyPost_ret (v := .tuple #[.agg #[.slice none 0 0, .map none], .bool false]) ?_ rfl ⟨?_, .inl ⟨HV.out, rfl⟩⟩
          · exact results_cell_row3 Tryd.results50 _ _ w.heap.size _ _ _ rfl (((HQ2.out.set_ 0 _).set_ 1 _).alloc _) Tryd.underlying73 rfl (by kernel_rfl)
          · exact ((HBW.out.setCell (Nat.le_refl _) _).setCell (Nat.le_refl _) _).alloc (by simpa [World.setCell] using HBW.out.size) _
        · have HF : Hid (allC (cs.drop (j + 1)) = allC cs) := Lib.hid (by rw [← HEE.out, hok]; rfl)
          obtain ⟨⟨v0, d0⟩, g0⟩ := hp2.1.cell (by rw [HN.out]; exact hlt) 0 (by omega)
          obtain ⟨⟨v1, d1⟩, g1⟩ := hp2.1.cell (by rw [HN.out]; exact hlt) 1 (by omega)
          obtain ⟨⟨v2, d2⟩, g2⟩ := hp2.1.cell (by rw [HN.out]; exact hlt) 2 (by omega)
          simp only [Nat.add_zero] at d0 g0
          have p0 := hp2.1.2.2.2.2.2.1.cell 0
          have hw2 : w.heap.size + 1 < w2.heap.size := by have := hp2.1.2.1; have := hp2.1.2.2.1; omega
          have hst := (PgX.store HPT.out HD.out (by rw [HN.out]; exact hlt) hb12 HB1.out.size hnk hgk).next ((Below.refl _ _).alloc (Nat.le_refl _) (.cells #[.string csx, .slice A2 ckids.len cap2, .slice G cbody.len gcap] 91))
          have hq4 := Blk.new (((w2.setCell ⟨w.heap.size + 1, j * 3, none⟩ (.string csx)).setCell ⟨w.heap.size + 1, j * 3 + 1, none⟩ (.slice A2 ckids.len cap2)).setCell ⟨w.heap.size + 1, j * 3 + 2, none⟩ (.slice G cbody.len gcap)) 91 #[.string csx, .slice A2 ckids.len cap2, .slice G cbody.len gcap]
          rw [show (((w2.setCell ⟨w.heap.size + 1, j * 3, none⟩ (.string csx)).setCell ⟨w.heap.size + 1, j * 3 + 1, none⟩ (.slice A2 ckids.len cap2)).setCell ⟨w.heap.size + 1, j * 3 + 2, none⟩ (.slice G cbody.len gcap)).heap.size = w2.heap.size by simp [World.setCell]] at hq4
          simp only [List.getElem?_toArray, List.getElem?_cons_zero] at p0
          rw [HN.out] at p0
          have HST := Lib.hid hst
          have HQ4 := Lib.hid hq4
          have hMw : M + 2 ≤ w2.heap.size := hp2.1.2.2.1
          have HM2 := Lib.hid hMw
          have hcb : M + 1 < w2.heap.size := by omega
          clear hok hb2 hb12 hp2 hst hq4 k0 k1 k2 k3 k4 hMw hnk hgk
          go_wp2_with fail
          generalize w2.heap.size = cb at *
          generalize ((((w2.setCell ⟨w.heap.size + 1, j * 3, none⟩ (.string csx)).setCell ⟨w.heap.size + 1, j * 3 + 1, none⟩ (.slice A2 ckids.len cap2)).setCell ⟨w.heap.size + 1, j * 3 + 2, none⟩ (.slice G cbody.len gcap)).alloc (.cells #[.string csx, .slice A2 ckids.len cap2, .slice G cbody.len gcap] 91)) = W0 at *
          have hpp := HST.out
          have hqc := HQ4.out
          obtain ⟨_, _, hMs, _, _, hqp, D, hD, hIM, hH⟩ := id hpp.1
          rw [HN.out] at hqp
          have hgr := fun x (hb : Below W0.heap.size W0 x) => groups_below hD hb
          have hbp := fun x (hb : Below W0.heap.size W0 x) => hqp.below hb hqp.lt
          have hbc := fun x (hb : Below W0.heap.size W0 x) => hqc.below hb hqc.lt
          have hsc : ∀ x, Below W0.heap.size W0 x → IxS M cb csx A2 ckids.len cap2 x := fun x hb => ⟨(hbp x hb).cell 1, (hbc x hb).cell 0, (hbc x hb).cell 1⟩
          have hmx : ∀ x, Below W0.heap.size W0 x → M + 1 ≤ x.heap.size := fun x hb => by have := hb.size; omega
          have hst2 := fun x v zs u w6 (hb : Below W0.heap.size W0 x) hrun hat hoi hd1 => PgX.step (x := x) (v := v) (zs := zs) (v' := u) (w4 := w6) hpp HD.out (by rw [HN.out]; exact hlt) hb hD (by unfold maxLen; omega) hIM hH HKY.out hrun hat hoi hd1
          have hkk := HKY.out
          have hs0 := hsc W0 (Below.refl _ _)
          have HGR := Lib.hid hgr
          have HBP := Lib.hid hbp
          have HBC := Lib.hid hbc
          have HSC := Lib.hid hsc
          have HMX := Lib.hid hmx
          have HST2 := Lib.hid hst2
          have HKK := Lib.hid hkk
          have HWF : Hid ((Lit.int .i64 (j : Int)).wf = true) := Lib.hid (WalkArith.wf_i64 (by omega))
          have HJL : Hid (j ≤ 1048576) := Lib.hid (by omega)
          clear hpp hqc hMs hqp hD hIM hH hgr hbp hbc hsc hmx hst2 hkk HST HQ4 HKY HNX H1 HB HB1 d0 d1 d2 g0 g1 g2 p0 HPT
          generalize hkl : ckids.len = kl at *
          have hkl2 : kl ≤ maxLen := HKL.out
          clear hkl
          obtain ⟨y0, y1, y2⟩ := id hs0
          go_region_held3 (fun x => x.cell? ⟨M + 1, 1, none⟩ = some (.map (some M)) ∧ x.cell? ⟨cb, 0, none⟩ = some (.string csx) ∧ x.cell? ⟨cb, 1, none⟩ = some (.slice A2 kl cap2))
            (first | exact hs5 | exact hs4 | exact hs0 | exact HSC.out _ (by repeat (first | exact HX2.out | exact HX1.out | exact Below.refl _ _ | apply Below.drew | apply bl_alloc)))
            (first
              | (refine step_idx (by rfl) _ _ (by rfl) (x1 := w4) (y := w4.alloc (.cells #[.int .i64 (j : Int)] 3)) (ab := w4.heap.size) HOI.out HBK.out (World.grownBy_alloc w4 _ none) HZL.out HJL.out HWF.out (HMX.out _ (HX2.out)) (by rfl) (by rfl) (Blk.new w4 _ _) ?_
                 rintro u w6 hd1
                 obtain ⟨w7, hrun7, hg7, hst7⟩ := HST2.out _ _ _ _ _ HX2.out hrun HAT.out HOI.out hd1
                 have hg6 := hd1.1
                 have k1 := ix_keep HOI.out hg6 hg7 (HBP.out _ (HX2.out)) (by decide) (by omega)
                 have k2 := ix_keep HOI.out hg6 hg7 (HBC.out _ (HX2.out)) (by decide) (by omega)
                 have hs4 : IxS M cb csx A2 kl cap2 w6 := ⟨k1.1.cell 1, k2.1.cell 0, k2.1.cell 1⟩
                 have hs5 : IxS M cb csx A2 kl cap2 w7 := ⟨k1.2.cell 1, k2.2.cell 0, k2.2.cell 1⟩
                 have HSTEP := Lib.hid hst7
                 clear k1 k2 hg6 hg7 hd1 hst7)
              | (refine step_idx (by rfl) _ _ (by rfl) (x1 := w4.alloc (.cells #[.int .i64 (j : Int)] 3)) (y := w4.alloc (.cells #[.int .i64 (j : Int)] 3)) (ab := w4.heap.size) HOI'.out HBK'.out ((show (w4.alloc (.cells #[.int .i64 (j : Int)] 3)).grownBy (w4.alloc (.cells #[.int .i64 (j : Int)] 3)) none from ⟨rfl, rfl, rfl, Nat.le_refl _, fun _ _ _ => rfl⟩)) HZL'.out HJL.out HWF.out (HMX.out _ (bl_alloc HX2.out _)) (by rfl) (by rfl) (Blk.new w4 _ _) ?_
                 rintro u w6 hd1
                 obtain ⟨w7, hrun7, hg7, hst7⟩ := HST2.out _ _ _ _ _ (bl_alloc HX2.out _) hrun' HAT'.out HOI'.out hd1
                 have hg6 := hd1.1
                 have k1 := ix_keep HOI'.out hg6 hg7 (HBP.out _ (bl_alloc HX2.out _)) (by decide) (by omega)
                 have k2 := ix_keep HOI'.out hg6 hg7 (HBC.out _ (bl_alloc HX2.out _)) (by decide) (by omega)
                 have hs4 : IxS M cb csx A2 kl cap2 w6 := ⟨k1.1.cell 1, k2.1.cell 0, k2.1.cell 1⟩
                 have hs5 : IxS M cb csx A2 kl cap2 w7 := ⟨k1.2.cell 1, k2.2.cell 0, k2.2.cell 1⟩
                 have HSTEP := Lib.hid hst7
                 clear k1 k2 hg6 hg7 hd1 hst7)
              | (refine step_idx (by rfl) _ _ (by rfl) (x1 := w4) (y := w4) (ab := w3.heap.size) HOI.out HBK.out ((show w4.grownBy w4 none from ⟨rfl, rfl, rfl, Nat.le_refl _, fun _ _ _ => rfl⟩)) HZL.out HJL.out HWF.out (HMX.out _ (HX2.out)) (by rfl) (by rfl) ((Blk.new w3 3 #[.int .i64 (j : Int)]).below HB4.out (Blk.new w3 3 #[.int .i64 (j : Int)]).lt) ?_
                 rintro u w6 hd1
                 obtain ⟨w7, hrun7, hg7, hst7⟩ := HST2.out _ _ _ _ _ HX2.out hrun HAT.out HOI.out hd1
                 have hg6 := hd1.1
                 have k1 := ix_keep HOI.out hg6 hg7 (HBP.out _ (HX2.out)) (by decide) (by omega)
                 have k2 := ix_keep HOI.out hg6 hg7 (HBC.out _ (HX2.out)) (by decide) (by omega)
                 have hs4 : IxS M cb csx A2 kl cap2 w6 := ⟨k1.1.cell 1, k2.1.cell 0, k2.1.cell 1⟩
                 have hs5 : IxS M cb csx A2 kl cap2 w7 := ⟨k1.2.cell 1, k2.2.cell 0, k2.2.cell 1⟩
                 have HSTEP := Lib.hid hst7
                 clear k1 k2 hg6 hg7 hd1 hst7)
              | (refine step_idx (by rfl) _ _ (by rfl) (x1 := w4) (y := w4) (ab := W0.heap.size) HOI.out HBK.out ((show w4.grownBy w4 none from ⟨rfl, rfl, rfl, Nat.le_refl _, fun _ _ _ => rfl⟩)) HZL.out HJL.out HWF.out (HMX.out _ (HX2.out)) (by rfl) (by rfl) (((Blk.new W0.drew 3 #[.int .i64 (j : Int)]).below HB3.out (Blk.new W0.drew 3 #[.int .i64 (j : Int)]).lt).below HB4.out ((Blk.new W0.drew 3 #[.int .i64 (j : Int)]).below HB3.out (Blk.new W0.drew 3 #[.int .i64 (j : Int)]).lt).lt) ?_
                 rintro u w6 hd1
                 obtain ⟨w7, hrun7, hg7, hst7⟩ := HST2.out _ _ _ _ _ HX2.out hrun HAT.out HOI.out hd1
                 have hg6 := hd1.1
                 have k1 := ix_keep HOI.out hg6 hg7 (HBP.out _ (HX2.out)) (by decide) (by omega)
                 have k2 := ix_keep HOI.out hg6 hg7 (HBC.out _ (HX2.out)) (by decide) (by omega)
                 have hs4 : IxS M cb csx A2 kl cap2 w6 := ⟨k1.1.cell 1, k2.1.cell 0, k2.1.cell 1⟩
                 have hs5 : IxS M cb csx A2 kl cap2 w7 := ⟨k1.2.cell 1, k2.2.cell 0, k2.2.cell 1⟩
                 have HSTEP := Lib.hid hst7
                 clear k1 k2 hg6 hg7 hd1 hst7)
              | (go_at_call 67
                 refine (pred_any csx A2 kl cap2 _).mono ?_
                 first
                   | (have hz := HX1.out.size
                      rintro e w4 ⟨rfl, hb4⟩
                      have hx2 : Below W0.heap.size W0 w4 := bl_step (by repeat (first | exact HX1.out | apply bl_alloc)) hb4
                      obtain ⟨v, zs, hrun, hat, hoi, hzl, hbk⟩ := (HGR.out w4 hx2).at lawK Tryd.underlying71 (zeroIx _) (by unfold maxLen; omega) HKK.out
                      obtain ⟨v', zs', hrun', hat', hoi', hzl', hbk'⟩ := (HGR.out _ (bl_alloc hx2 (.cells #[.int .i64 (j : Int)] 3))).at lawK Tryd.underlying71 (zeroIx _) (by unfold maxLen; omega) HKK.out
                      have HX2 := Lib.hid hx2
                      have HB4 := Lib.hid hb4
                      have HAT := Lib.hid hat
                      have HOI := Lib.hid hoi
                      have HZL := Lib.hid hzl
                      have HBK := Lib.hid hbk
                      have HAT' := Lib.hid hat'
                      have HOI' := Lib.hid hoi'
                      have HZL' := Lib.hid hzl'
                      have HBK' := Lib.hid hbk'
                      clear hz hx2 hb4 hat hoi hzl hbk hat' hoi' hzl' hbk')
                   | (rintro e w3 ⟨rfl, hb3⟩
                      have HX1 : Hid (Below W0.heap.size W0 w3) := Lib.hid (bl_step (by repeat (first | exact Below.refl _ _ | apply Below.drew | apply bl_alloc)) hb3)
                      have HB3 := Lib.hid hb3
                      clear hb3)
                   | fail))
          all_goals
            go_wp2_with fail
            go_roundw
            case rel => exact ⟨j + 1, by omega, by go_num, HF.out, HSTEP.out⟩
            case measure => simp [intOf]; omega
      · obtain rfl : j = len := by omega
        have HV : Hid (progV cs = true) := Lib.hid (by
          rw [HE.out, ← hv, List.drop_eq_nil_of_le (by rw [HN.out]; exact Nat.le_refl _), decide_eq_true h6]; rfl)
        obtain ⟨⟨hbw, hM1, hM2, hq, _, hq1, D, hD, _, hH⟩, hC⟩ := hpart
        have hCt := PgC.done (cs := cs) (by rw [HN.out]; exact hC) hM1
        rw [HN.out] at hq1
        have x0 := hq1.cell 0
        have x1 := hq1.cell 1
        have r0 := hq.cell 0
        have r1 := hq.cell 1
        have f0 := hq.frozen 0
        have f1 := hq.frozen 1
        simp only [List.getElem?_toArray, List.getElem?_cons_zero, List.getElem?_cons_succ] at x0 x1 r0 r1
        have hg : ∀ a b : Value, wr.grownBy ((wr.setCell ⟨w.heap.size, 0, none⟩ a).setCell ⟨w.heap.size, 1, none⟩ b) (some w.heap.size) := fun a b =>
          grownBy_set (grownBy_set (show wr.grownBy wr (some w.heap.size) from ⟨rfl, rfl, rfl, Nat.le_refl _, fun _ _ _ => rfl⟩) (.inr rfl) _) (.inr rfl) _
        have hfin : ∀ a b : Value, POr w cs (.returned (.tuple #[.agg #[.slice (some ⟨w.heap.size + 1, 0, none⟩) j j, .map (some M)], .bool true])) ((wr.setCell ⟨w.heap.size, 0, none⟩ a).setCell ⟨w.heap.size, 1, none⟩ b) := fun a b =>
          ⟨(hbw.setCell (Nat.le_refl _) _).setCell (Nat.le_refl _) _, .inr ⟨HV.out, some ⟨w.heap.size + 1, 0, none⟩, M, by rw [HN.out], by omega, by simp [World.setCell]; omega, D, by rw [HN.out]; exact hD.kept (hg a b) (by simp; omega) (hD.rowsAbove (fun i hi => by cases hi; omega)), by rw [List.take_of_length_le (by rw [HN.out]; exact Nat.le_refl _)] at hH; exact hH, w.heap.size + 1, rfl, by omega, by simp [World.setCell]; omega, Cts.keep (fun p hp => World.cell?_of_block ((hg a b).block p.block hp.2 (by simp; omega))) (fun g hg => ⟨by omega, by simp [World.setCell]; exact hg.2⟩) cs 0 (fun j _ => World.cell?_of_block (a := ⟨w.heap.size + 1, j, none⟩) ((hg a b).block _ (show w.heap.size + 1 < wr.heap.size by omega) (by simp))) hCt⟩⟩
        have HFIN := Lib.hid hfin
        have HQ := Lib.hid hq
        clear hv hbw hM1 hM2 hq hq1 hD hH hg hfin HPT hC hCt
        go_wp2_with fail
        refine bodyPost_ret (v := .tuple #[.agg #[.slice (some ⟨w.heap.size + 1, 0, none⟩) j j, .map (some M)], .bool true]) ?_ rfl (HFIN.out _ _)
        exact results_cell_row3 Tryd.results50 _ _ w.heap.size _ _ _ rfl ((HQ.out.set_ 0 _).set_ 1 _) Tryd.underlying73 rfl (by kernel_rfl)
  · have t6 : (len : Int) > 20 := by omega
    have HV : Hid (progV cs = false) := Lib.hid (by rw [HE.out, decide_eq_false h6]; rfl)
    go_enter Tryd.func50, Tryd.ntmps50
    go_wp2_with fail
    refine bodyPost_ret (v := .tuple #[.agg #[.slice none 0 0, .map none], .bool false]) ?_ rfl ⟨?_, .inl ⟨HV.out, rfl⟩⟩
    · exact results_cell_row3 Tryd.results50 _ _ w.heap.size _ _ _ rfl HQ0.out Tryd.underlying73 rfl (by kernel_rfl)
    · exact HB0.out
end Go.Proofs.YtlapdnllncoomaaDoor

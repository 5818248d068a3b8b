/- impl.programOf walked; impl.ProgramValid. Condition: the clauses lie in memory, both tables in their variables. -/
import Derived.Test.YtmgfndgmebignaaGreatDoorProg
import Derived.Test.YtmgfndgmebignaaGreatDoorZmFQ50
import Derived.Test.YtmgfndgmebignaaGreatDoorZmFQ49
import Derived.Test.YtmgfndgmebignaaGreatDoorMk
import Derived.WalkKit
import Derived.WalkSpells
import Derived.Outline
import Derived.Lib.SlBytesConst
import Derived.Deep.RegionHeld3
namespace Go.Proofs.YtmgfndgmebignaaGreatDoor
open Go.RowKit Go.WideMaps Go.Maps Go.ChangeShapes

/-- What impl.programOf leaves. -/
def POr (w : World) (cs : List Cl) (e : Ending) (w' : World) : Prop :=
  Below w.heap.size w w' ∧ ((progV cs = false ∧ e = .returned (.tuple #[.agg #[.slice none 0 0, .map none], .bool false])) ∨
    (progV cs = true ∧ ∃ R M, e = .returned (.tuple #[.agg #[.slice R cs.length cs.length, .map (some M)], .bool true]) ∧ w.heap.size ≤ M ∧ M < w'.heap.size ∧
      ∃ D : DataW Unit, w'.ownsGroups Tryz.prog 122 (M + 1) 3 .i64 M cs.length D ∧ (∀ l, HoldsD D l (idxF cs 0 l)) ∧ ∃ r, R = some ⟨r, 0, none⟩ ∧ w.heap.size ≤ r ∧ r < w'.heap.size ∧ Cts w' (fun g => w.heap.size ≤ g ∧ g < w'.heap.size) r cs 0))
theorem PgP.start {w w1 : World} {cs : List Cl} {base : Nat} {xs : List Value} (h1 : (w.alloc (.cells #[.slice none 0 0, .map none] 83)).grownBy w1 none)
    (hown : w1.ownsRow base 65 3 (.slice (some ⟨w.heap.size + 1, 0, none⟩) cs.length cs.length) cs.length xs) :
    PgP w cs w1.heap.size 0 ((w1.alloc (.map #[] 0)).alloc (.cells #[.slice (some ⟨w.heap.size + 1, 0, none⟩) cs.length cs.length, .map (some w1.heap.size)] 83)) := by
  have e0 : (w.alloc (.cells #[.slice none 0 0, .map none] 83)).heap.size = w.heap.size + 1 := by simp
  have e1 : (w1.alloc (.map #[] 0)).heap.size = w1.heap.size + 1 := by simp
  have hb0 : Below w.heap.size w w1 := ((Below.refl _ _).alloc (Nat.le_refl _) _).grown h1 (by rw [e0]; omega) (fun k hk => by cases hk)
  have hblk : ∃ cur, Blk w1 (w.heap.size + 1) 65 cur ∧ cur.size = cs.length * 3 := by
    rcases hown.2 with ⟨h', _⟩ | ⟨g', cap', cur, h', _, hb, _, _, hs, _⟩
    · simp at h'
    · simp only [Value.slice.injEq, Option.some.injEq, Addr.mk.injEq, and_true, true_and] at h'
      obtain ⟨h', h''⟩ := h'
      subst h'
      exact ⟨cur, hb, by rw [hs, ← h'']⟩
  obtain ⟨cur, hc, hcs⟩ := hblk
  have hq : Blk w1 w.heap.size 83 #[.slice none 0 0, .map none] := (Blk.new w _ _).keep (h1.block w.heap.size (by rw [e0]; omega) (by simp))
  have hlt := hc.lt
  have hb2 : Below w1.heap.size w1 ((w1.alloc (.map #[] 0)).alloc (.cells #[.slice (some ⟨w.heap.size + 1, 0, none⟩) cs.length cs.length, .map (some w1.heap.size)] 83)) := two_alloc _ _ _
  have hnew := Blk.new (w1.alloc (.map #[] 0)) 83 #[.slice (some ⟨w.heap.size + 1, 0, none⟩) cs.length cs.length, .map (some w1.heap.size)]
  rw [e1] at hnew
  refine ⟨hb0.trans (hb2.mono hb0.size), by omega, by simp, hq.below hb2 hq.lt, ⟨cur, hc.below hb2 hc.lt, hcs⟩, hnew, .map [], ?_, isMap_empty, fun l => .inl ⟨rfl, rfl⟩⟩
  exact groups_below (World.ownsGroups_made (H := Unit) w1 Tryz.prog 122 3 .i64) ((Below.refl _ _).alloc (Nat.le_refl _) _)

theorem PgX.start {w w1 : World} {cs : List Cl} {base : Nat} {xs : List Value} (h1 : (w.alloc (.cells #[.slice none 0 0, .map none] 83)).grownBy w1 none)
    (hown : w1.ownsRow base 65 3 (.slice (some ⟨w.heap.size + 1, 0, none⟩) cs.length cs.length) cs.length xs) :
    PgX w cs w1.heap.size 0 0 ((w1.alloc (.map #[] 0)).alloc (.cells #[.slice (some ⟨w.heap.size + 1, 0, none⟩) cs.length cs.length, .map (some w1.heap.size)] 83)) :=
  ⟨PgP.start h1 hown, fun _ => False, (World.Shuns_made w1 _).kept (World.grownBy_alloc _ _ none) (by simp) (by simp), fun _ h => h.elim, by rw [List.take_zero]; trivial⟩

/-- Blocks of other types stand through the append and the store. -/
theorem ix_keep {x w4 w5 : World} {M : Nat} {v : Value} {zs : List Int} (hoi : x.ownsInts (M + 1) 3 .i64 v zs) (hg4 : x.grownBy w4 v.ownBlock) (hg5 : w4.grownBy w5 (some M)) {g : Nat} {t : TypeId} {ys : Array Value} (hb : Blk x g t ys) (ht : t ≠ 3) (hgm : g ≠ M) :
    Blk w4 g t ys ∧ Blk w5 g t ys := by
  have h1 := hb.lt
  have h4 : Blk w4 g t ys := hb.keep (hg4.block g h1 fun e => by
    rcases hoi.1.2 with ⟨rfl, _⟩ | ⟨g', cap, cur, rfl, _, hh, _⟩
    · simp [Value.ownBlock] at e
    · simp [Value.ownBlock] at e
      subst e
      have h2 := hb.symm.trans hh
      simp at h2
      exact ht h2.2)
  exact ⟨h4, h4.keep (hg5.block g h4.lt (by simpa using hgm))⟩
/-- The cells that the region reads. -/
def IxS (M cb : Nat) (s : ByteArray) (A : Option Addr) (len cap : Nat) (x : World) : Prop :=
  x.cell? ⟨M + 1, 1, none⟩ = some (.map (some M)) ∧ x.cell? ⟨cb, 0, none⟩ = some (.string s) ∧ x.cell? ⟨cb, 1, none⟩ = some (.slice A len cap)

set_option maxRecDepth 100000 in
set_option maxHeartbeats 4000000 in
/-- impl.programOf. -/
theorem progOf_any (cs : List Cl) (A : Option Addr) (cap lo hi : Nat) (w : World) (hk : ClS w lo hi cs A cap) (hh : hi ≤ w.heap.size) (hnd : cs.length + wtCs cs ≤ 1048576) (ht : nv.Tab w) (ho : op.OpTab w) :
    Calls Tryz.prog 42 #[.slice A cs.length cap] w fun e w' => POr w cs e w' := by
  have hmm := @run_makeMap Tryz.prog
  have hl : cs.length ≤ 1048576 := by omega
  have HE : Hid (progV cs = (decide (cs.length ≤ 20) && allC cs)) := Lib.hid rfl
  have HK := Lib.hid hk
  have HHI := Lib.hid hh
  have HND := Lib.hid hnd
  have HT := Lib.hid ht
  have HO := Lib.hid ho
  have hst := fun w1 base xs h1 => PgX.start (w := w) (w1 := w1) (cs := cs) (base := base) (xs := xs) h1
  have HST := Lib.hid hst
  clear hk hh hnd ht ho hst
  generalize hn : cs.length = len at *
  have HN := Lib.hid hn
  clear hn
  have hb0 : Below w.heap.size w (w.alloc (.cells #[.slice none 0 0, .map none] 83)) := (Below.refl _ _).alloc (Nat.le_refl _) _
  have hq0 := Blk.new w 83 #[.slice none 0 0, .map none]
  have HB0 := Lib.hid hb0
  have HQ0 := Lib.hid hq0
  clear hb0 hq0
  by_cases h6 : len ≤ 20
  · have t6 : ¬ ((len : Int) > 20) := by omega
    obtain ⟨i0, hi0, hz0, hz1, hz2⟩ := info_parts infoCl
    go_enter Tryz.func42, Tryz.ntmps42
    go_wp2_with (at_make; go_must (refine wpList_make_full _ rfl _ _ 80 rfl (w.heap.size + 1) 65 i0 _ 3 Tryz.underlying80 hi0 hz0 hz1 .i64 .i64 _ _ len rfl rfl rfl rfl (by rw [hz2]; omega) (by unfold maxLen; omega) (by simp) ?_); intro w1 hown hgrow)
    rw [show (w.alloc (.cells #[.slice none 0 0, .map none] 83)).heap.size = w.heap.size + 1 by simp] at hown
    have hp0 := HST.out w1 _ _ hgrow hown
    have hM0 : w.heap.size + 1 < w1.heap.size := hp0.1.2.1
    have HP0 := Lib.hid hp0
    clear hp0 hown hgrow HST hi0 hz0 hz1 hz2 HB0 HQ0
    generalize w1.heap.size = M at *
    go_loopw [20] (fun i wr => ∃ (j : Nat), j ≤ len ∧ i = .int .i64 j ∧ allC (cs.drop j) = allC cs ∧ PgX w cs M j j wr) (fun i _ => len - (intOf i).toNat)
    case atStart => exact ⟨0, Nat.zero_le _, rfl, rfl, HP0.out⟩
    case round =>
      obtain ⟨j, hj, rfl, hv, hpart⟩ := hrel
      have HPT := Lib.hid hpart
      by_cases hlt : j < len
      · have hltf : j < cs.length := by rw [HN.out]; exact hlt
        obtain ⟨c, hd⟩ := drop_cl cs j hltf
        obtain ⟨b, o, rfl, hlb, hbb, hrow⟩ := HK.out.2.2 (by rw [HN.out]; omega)
        obtain ⟨hfit, A', cap', B', capB', c0, c1, c2, c3, c4, hkid, hbd⟩ := ClAt.elem j cs b o hrow hd
        rw [hd] at hv
        have hv2 : (clauseV c && allC (cs.drop (j + 1))) = allC cs := hv
        have hb := hpart.1.1
        have hlo : (⟨b, o, none⟩ : Addr).block < w.heap.size := Nat.lt_of_lt_of_le hbb HHI.out
        have k0 := (hb.cell (p := ⟨b, o + j * 5, none⟩) hlo).trans c0
        have k1 := (hb.cell (p := ⟨b, o + j * 5 + 1, none⟩) hlo).trans c1
        have k2 := (hb.cell (p := ⟨b, o + j * 5 + 2, none⟩) hlo).trans c2
        have k3 := (hb.cell (p := ⟨b, o + j * 5 + 3, none⟩) hlo).trans c3
        have k4 := (hb.cell (p := ⟨b, o + j * 5 + 4, none⟩) hlo).trans c4
        have hwe := wtC_le cs j hd
        have hwn := wtC_nodes c
        have hkl : c.kids.len ≤ maxLen := Nat.le_trans hkid.1 hkid.2.1
        have hb1 : Below wr.heap.size wr (wr.alloc (.cells #[.int .i64 c.k, .int .i64 c.n, .string c.s, .slice A' c.kids.len cap', .slice B' c.body.len capB'] 33)) := (Below.refl _ _).alloc (Nat.le_refl _) _
        have hbw1 := hb.trans (hb1.mono hb.size)
        have C1 := clauseOf_any c A' B' cap' capB' lo hi _ (hkid.below hbw1 HHI.out) (hbd.below hbw1 HHI.out) (Nat.le_trans HHI.out hbw1.size) hfit (by have := HND.out; omega) (by have := HND.out; omega) (HT.out.below hbw1) (HO.out.below hbw1)
        have nextOf := fun x (h : Below wr.heap.size wr x) => HPT.out.next h
        have hkey := pk_key c.s c.kids.len hfit.2.2 hkl
        have H1 := Lib.hid C1
        have HB := Lib.hid hb
        have HB1 := Lib.hid hb1
        have HEE := Lib.hid hv2
        have HNX := Lib.hid nextOf
        have HKY := Lib.hid hkey
        have HD := Lib.hid hd
        have HKL := Lib.hid hkl
        clear C1 hb hb1 hbw1 hv hv2 c0 c1 c2 c3 c4 hkid hbd hrow hfit hd hlo hpart hltf hwe hwn nextOf hkey hkl HK
        obtain ⟨ck, cn, csx, ckids, cbody⟩ := c
        simp only at *
        go_wp2_with fail
        refine H1.out.mono ?_
        rintro e w2 ⟨hb2, hr⟩
        have hb12 : Below wr.heap.size wr w2 := HB1.out.trans (hb2.mono HB1.out.size)
        have hp2 := HNX.out w2 hb12
        rcases hr with ⟨hok, rfl⟩ | ⟨hok, A2, cap2, G, gcap, rfl, hnk, hgk⟩
        · have HV : Hid (progV cs = false) := Lib.hid (by rw [HE.out, ← HEE.out, hok]; simp)
          have hq := hp2.1.2.2.2.1
          have r0 := hq.cell 0
          have r1 := hq.cell 1
          have f0 := hq.frozen 0
          have f1 := hq.frozen 1
          simp only [List.getElem?_toArray, List.getElem?_cons_zero, List.getElem?_cons_succ] at r0 r1
          have hlt2 : w.heap.size < w2.heap.size := hq.lt
          have HQ2 := Lib.hid hq
          have HBW := Lib.hid hp2.1.1
          clear hok hb2 hb12 hp2 hq k0 k1 k2 k3 k4
          go_wp2_with fail
          refine bodyPost_ret (v := .tuple #[.agg #[.slice none 0 0, .map none], .bool false]) ?_ rfl ⟨?_, .inl ⟨HV.out, rfl⟩⟩
          · exact results_cell_row3 Tryz.results42 _ _ w.heap.size _ _ _ rfl (((HQ2.out.set_ 0 _).set_ 1 _).alloc _) Tryz.underlying83 rfl (by kernel_rfl)
          · exact ((HBW.out.setCell (Nat.le_refl _) _).setCell (Nat.le_refl _) _).alloc (by simpa [World.setCell] using HBW.out.size) _
        · have HF : Hid (allC (cs.drop (j + 1)) = allC cs) := Lib.hid (by rw [← HEE.out, hok]; rfl)
          obtain ⟨⟨v0, d0⟩, g0⟩ := hp2.1.cell (by rw [HN.out]; exact hlt) 0 (by omega)
          obtain ⟨⟨v1, d1⟩, g1⟩ := hp2.1.cell (by rw [HN.out]; exact hlt) 1 (by omega)
          obtain ⟨⟨v2, d2⟩, g2⟩ := hp2.1.cell (by rw [HN.out]; exact hlt) 2 (by omega)
          simp only [Nat.add_zero] at d0 g0
          have p0 := hp2.1.2.2.2.2.2.1.cell 0
          have hw2 : w.heap.size + 1 < w2.heap.size := by have := hp2.1.2.1; have := hp2.1.2.2.1; omega
          have hst := (PgX.store HPT.out HD.out (by rw [HN.out]; exact hlt) hb12 HB1.out.size hnk hgk).next ((Below.refl _ _).alloc (Nat.le_refl _) (.cells #[.string csx, .slice A2 ckids.len cap2, .slice G cbody.len gcap] 65))
          have hq4 := Blk.new (((w2.setCell ⟨w.heap.size + 1, j * 3, none⟩ (.string csx)).setCell ⟨w.heap.size + 1, j * 3 + 1, none⟩ (.slice A2 ckids.len cap2)).setCell ⟨w.heap.size + 1, j * 3 + 2, none⟩ (.slice G cbody.len gcap)) 65 #[.string csx, .slice A2 ckids.len cap2, .slice G cbody.len gcap]
          rw [show (((w2.setCell ⟨w.heap.size + 1, j * 3, none⟩ (.string csx)).setCell ⟨w.heap.size + 1, j * 3 + 1, none⟩ (.slice A2 ckids.len cap2)).setCell ⟨w.heap.size + 1, j * 3 + 2, none⟩ (.slice G cbody.len gcap)).heap.size = w2.heap.size by simp [World.setCell]] at hq4
          simp only [List.getElem?_toArray, List.getElem?_cons_zero] at p0
          rw [HN.out] at p0
          have HST := Lib.hid hst
          have HQ4 := Lib.hid hq4
          have hMw : M + 2 ≤ w2.heap.size := hp2.1.2.2.1
          have HM2 := Lib.hid hMw
          have hcb : M + 1 < w2.heap.size := by omega
          clear hok hb2 hb12 hp2 hst hq4 k0 k1 k2 k3 k4 hMw hnk hgk
          go_wp2_with fail
          generalize w2.heap.size = cb at *
          generalize ((((w2.setCell ⟨w.heap.size + 1, j * 3, none⟩ (.string csx)).setCell ⟨w.heap.size + 1, j * 3 + 1, none⟩ (.slice A2 ckids.len cap2)).setCell ⟨w.heap.size + 1, j * 3 + 2, none⟩ (.slice G cbody.len gcap)).alloc (.cells #[.string csx, .slice A2 ckids.len cap2, .slice G cbody.len gcap] 65)) = W0 at *
          have hpp := HST.out
          have hqc := HQ4.out
          obtain ⟨_, _, hMs, _, _, hqp, D, hD, hIM, hH⟩ := id hpp.1
          rw [HN.out] at hqp
          have hgr := fun x (hb : Below W0.heap.size W0 x) => groups_below hD hb
          have hbp := fun x (hb : Below W0.heap.size W0 x) => hqp.below hb hqp.lt
          have hbc := fun x (hb : Below W0.heap.size W0 x) => hqc.below hb hqc.lt
          have hsc : ∀ x, Below W0.heap.size W0 x → IxS M cb csx A2 ckids.len cap2 x := fun x hb => ⟨(hbp x hb).cell 1, (hbc x hb).cell 0, (hbc x hb).cell 1⟩
          have hmx : ∀ x, Below W0.heap.size W0 x → M + 1 ≤ x.heap.size := fun x hb => by have := hb.size; omega
          have hst2 := fun x v zs u w6 (hb : Below W0.heap.size W0 x) hrun hat hoi hd1 => PgX.step (x := x) (v := v) (zs := zs) (v' := u) (w4 := w6) hpp HD.out (by rw [HN.out]; exact hlt) hb hD (by unfold maxLen; omega) hIM hH HKY.out hrun hat hoi hd1
          have hkk := HKY.out
          have hs0 := hsc W0 (Below.refl _ _)
          have HGR := Lib.hid hgr
          have HBP := Lib.hid hbp
          have HBC := Lib.hid hbc
          have HSC := Lib.hid hsc
          have HMX := Lib.hid hmx
          have HST2 := Lib.hid hst2
          have HKK := Lib.hid hkk
          have HWF : Hid ((Lit.int .i64 (j : Int)).wf = true) := Lib.hid (WalkArith.wf_i64 (by omega))
          have HJL : Hid (j ≤ 1048576) := Lib.hid (by omega)
          clear hpp hqc hMs hqp hD hIM hH hgr hbp hbc hsc hmx hst2 hkk HST HQ4 HKY HNX H1 HB HB1 d0 d1 d2 g0 g1 g2 p0 HPT
          generalize hkl : ckids.len = kl at *
          have hkl2 : kl ≤ maxLen := HKL.out
          clear hkl
          obtain ⟨y0, y1, y2⟩ := id hs0
          go_region_held3 (fun x => x.cell? ⟨M + 1, 1, none⟩ = some (.map (some M)) ∧ x.cell? ⟨cb, 0, none⟩ = some (.string csx) ∧ x.cell? ⟨cb, 1, none⟩ = some (.slice A2 kl cap2))
            (first | exact hs5 | exact hs4 | exact hs0 | exact HSC.out _ (by repeat (first | exact HX2.out | exact HX1.out | exact Below.refl _ _ | apply Below.drew | apply bl_alloc)))
            (first
              | (refine step_idx (by rfl) _ _ (by rfl) (x1 := w4) (y := w4.alloc (.cells #[.int .i64 (j : Int)] 3)) (ab := w4.heap.size) HOI.out HBK.out (World.grownBy_alloc w4 _ none) HZL.out HJL.out HWF.out (HMX.out _ (HX2.out)) (by rfl) (by rfl) (Blk.new w4 _ _) ?_
                 rintro u w6 hd1
                 obtain ⟨w7, hrun7, hg7, hst7⟩ := HST2.out _ _ _ _ _ HX2.out hrun HAT.out HOI.out hd1
                 have hg6 := hd1.1
                 have k1 := ix_keep HOI.out hg6 hg7 (HBP.out _ (HX2.out)) (by decide) (by omega)
                 have k2 := ix_keep HOI.out hg6 hg7 (HBC.out _ (HX2.out)) (by decide) (by omega)
                 have hs4 : IxS M cb csx A2 kl cap2 w6 := ⟨k1.1.cell 1, k2.1.cell 0, k2.1.cell 1⟩
                 have hs5 : IxS M cb csx A2 kl cap2 w7 := ⟨k1.2.cell 1, k2.2.cell 0, k2.2.cell 1⟩
                 have HSTEP := Lib.hid hst7
                 clear k1 k2 hg6 hg7 hd1 hst7)
              | (refine step_idx (by rfl) _ _ (by rfl) (x1 := w4.alloc (.cells #[.int .i64 (j : Int)] 3)) (y := w4.alloc (.cells #[.int .i64 (j : Int)] 3)) (ab := w4.heap.size) HOI'.out HBK'.out ((show (w4.alloc (.cells #[.int .i64 (j : Int)] 3)).grownBy (w4.alloc (.cells #[.int .i64 (j : Int)] 3)) none from ⟨rfl, rfl, rfl, Nat.le_refl _, fun _ _ _ => rfl⟩)) HZL'.out HJL.out HWF.out (HMX.out _ (bl_alloc HX2.out _)) (by rfl) (by rfl) (Blk.new w4 _ _) ?_
                 rintro u w6 hd1
                 obtain ⟨w7, hrun7, hg7, hst7⟩ := HST2.out _ _ _ _ _ (bl_alloc HX2.out _) hrun' HAT'.out HOI'.out hd1
                 have hg6 := hd1.1
                 have k1 := ix_keep HOI'.out hg6 hg7 (HBP.out _ (bl_alloc HX2.out _)) (by decide) (by omega)
                 have k2 := ix_keep HOI'.out hg6 hg7 (HBC.out _ (bl_alloc HX2.out _)) (by decide) (by omega)
                 have hs4 : IxS M cb csx A2 kl cap2 w6 := ⟨k1.1.cell 1, k2.1.cell 0, k2.1.cell 1⟩
                 have hs5 : IxS M cb csx A2 kl cap2 w7 := ⟨k1.2.cell 1, k2.2.cell 0, k2.2.cell 1⟩
                 have HSTEP := Lib.hid hst7
                 clear k1 k2 hg6 hg7 hd1 hst7)
              | (refine step_idx (by rfl) _ _ (by rfl) (x1 := w4) (y := w4) (ab := w3.heap.size) HOI.out HBK.out ((show w4.grownBy w4 none from ⟨rfl, rfl, rfl, Nat.le_refl _, fun _ _ _ => rfl⟩)) HZL.out HJL.out HWF.out (HMX.out _ (HX2.out)) (by rfl) (by rfl) ((Blk.new w3 3 #[.int .i64 (j : Int)]).below HB4.out (Blk.new w3 3 #[.int .i64 (j : Int)]).lt) ?_
                 rintro u w6 hd1
                 obtain ⟨w7, hrun7, hg7, hst7⟩ := HST2.out _ _ _ _ _ HX2.out hrun HAT.out HOI.out hd1
                 have hg6 := hd1.1
                 have k1 := ix_keep HOI.out hg6 hg7 (HBP.out _ (HX2.out)) (by decide) (by omega)
                 have k2 := ix_keep HOI.out hg6 hg7 (HBC.out _ (HX2.out)) (by decide) (by omega)
                 have hs4 : IxS M cb csx A2 kl cap2 w6 := ⟨k1.1.cell 1, k2.1.cell 0, k2.1.cell 1⟩
                 have hs5 : IxS M cb csx A2 kl cap2 w7 := ⟨k1.2.cell 1, k2.2.cell 0, k2.2.cell 1⟩
                 have HSTEP := Lib.hid hst7
                 clear k1 k2 hg6 hg7 hd1 hst7)
              | (refine step_idx (by rfl) _ _ (by rfl) (x1 := w4) (y := w4) (ab := W0.heap.size) HOI.out HBK.out ((show w4.grownBy w4 none from ⟨rfl, rfl, rfl, Nat.le_refl _, fun _ _ _ => rfl⟩)) HZL.out HJL.out HWF.out (HMX.out _ (HX2.out)) (by rfl) (by rfl) (((Blk.new W0.drew 3 #[.int .i64 (j : Int)]).below HB3.out (Blk.new W0.drew 3 #[.int .i64 (j : Int)]).lt).below HB4.out ((Blk.new W0.drew 3 #[.int .i64 (j : Int)]).below HB3.out (Blk.new W0.drew 3 #[.int .i64 (j : Int)]).lt).lt) ?_
                 rintro u w6 hd1
                 obtain ⟨w7, hrun7, hg7, hst7⟩ := HST2.out _ _ _ _ _ HX2.out hrun HAT.out HOI.out hd1
                 have hg6 := hd1.1
                 have k1 := ix_keep HOI.out hg6 hg7 (HBP.out _ (HX2.out)) (by decide) (by omega)
                 have k2 := ix_keep HOI.out hg6 hg7 (HBC.out _ (HX2.out)) (by decide) (by omega)
                 have hs4 : IxS M cb csx A2 kl cap2 w6 := ⟨k1.1.cell 1, k2.1.cell 0, k2.1.cell 1⟩
                 have hs5 : IxS M cb csx A2 kl cap2 w7 := ⟨k1.2.cell 1, k2.2.cell 0, k2.2.cell 1⟩
                 have HSTEP := Lib.hid hst7
                 clear k1 k2 hg6 hg7 hd1 hst7)
              | (go_at_call 66
                 refine (pred_any csx A2 kl cap2 _).mono ?_
                 first
                   | (have hz := HX1.out.size
                      rintro e w4 ⟨rfl, hb4⟩
                      have hx2 : Below W0.heap.size W0 w4 := bl_step (by repeat (first | exact HX1.out | apply bl_alloc)) hb4
                      obtain ⟨v, zs, hrun, hat, hoi, hzl, hbk⟩ := (HGR.out w4 hx2).at lawK Tryz.underlying81 (zeroIx _) (by unfold maxLen; omega) HKK.out
                      obtain ⟨v', zs', hrun', hat', hoi', hzl', hbk'⟩ := (HGR.out _ (bl_alloc hx2 (.cells #[.int .i64 (j : Int)] 3))).at lawK Tryz.underlying81 (zeroIx _) (by unfold maxLen; omega) HKK.out
                      have HX2 := Lib.hid hx2
                      have HB4 := Lib.hid hb4
                      have HAT := Lib.hid hat
                      have HOI := Lib.hid hoi
                      have HZL := Lib.hid hzl
                      have HBK := Lib.hid hbk
                      have HAT' := Lib.hid hat'
                      have HOI' := Lib.hid hoi'
                      have HZL' := Lib.hid hzl'
                      have HBK' := Lib.hid hbk'
                      clear hz hx2 hb4 hat hoi hzl hbk hat' hoi' hzl' hbk')
                   | (rintro e w3 ⟨rfl, hb3⟩
                      have HX1 : Hid (Below W0.heap.size W0 w3) := Lib.hid (bl_step (by repeat (first | exact Below.refl _ _ | apply Below.drew | apply bl_alloc)) hb3)
                      have HB3 := Lib.hid hb3
                      clear hb3)
                   | fail))
          all_goals
            go_wp2_with fail
            go_roundw
            case rel => exact ⟨j + 1, by omega, by go_num, HF.out, HSTEP.out⟩
            case measure => simp [intOf]; omega
      · obtain rfl : j = len := by omega
        have HV : Hid (progV cs = true) := Lib.hid (by
          rw [HE.out, ← hv, List.drop_eq_nil_of_le (by rw [HN.out]; exact Nat.le_refl _), decide_eq_true h6]; rfl)
        obtain ⟨⟨hbw, hM1, hM2, hq, _, hq1, D, hD, _, hH⟩, hC⟩ := hpart
        have hCt := PgC.done (cs := cs) (by rw [HN.out]; exact hC) hM1
        rw [HN.out] at hq1
        have x0 := hq1.cell 0
        have x1 := hq1.cell 1
        have r0 := hq.cell 0
        have r1 := hq.cell 1
        have f0 := hq.frozen 0
        have f1 := hq.frozen 1
        simp only [List.getElem?_toArray, List.getElem?_cons_zero, List.getElem?_cons_succ] at x0 x1 r0 r1
        have hg : ∀ a b : Value, wr.grownBy ((wr.setCell ⟨w.heap.size, 0, none⟩ a).setCell ⟨w.heap.size, 1, none⟩ b) (some w.heap.size) := fun a b =>
          grownBy_set (grownBy_set (show wr.grownBy wr (some w.heap.size) from ⟨rfl, rfl, rfl, Nat.le_refl _, fun _ _ _ => rfl⟩) (.inr rfl) _) (.inr rfl) _
        have hfin : ∀ a b : Value, POr w cs (.returned (.tuple #[.agg #[.slice (some ⟨w.heap.size + 1, 0, none⟩) j j, .map (some M)], .bool true])) ((wr.setCell ⟨w.heap.size, 0, none⟩ a).setCell ⟨w.heap.size, 1, none⟩ b) := fun a b =>
          ⟨(hbw.setCell (Nat.le_refl _) _).setCell (Nat.le_refl _) _, .inr ⟨HV.out, some ⟨w.heap.size + 1, 0, none⟩, M, by rw [HN.out], by omega, by simp [World.setCell]; omega, D, by rw [HN.out]; exact hD.kept (hg a b) (by simp; omega) (hD.rowsAbove (fun i hi => by cases hi; omega)), by rw [List.take_of_length_le (by rw [HN.out]; exact Nat.le_refl _)] at hH; exact hH, w.heap.size + 1, rfl, by omega, by simp [World.setCell]; omega, Cts.keep (fun p hp => World.cell?_of_block ((hg a b).block p.block hp.2 (by simp; omega))) (fun g hg => ⟨by omega, by simp [World.setCell]; exact hg.2⟩) cs 0 (fun j _ => World.cell?_of_block (a := ⟨w.heap.size + 1, j, none⟩) ((hg a b).block _ (show w.heap.size + 1 < wr.heap.size by omega) (by simp))) hCt⟩⟩
        have HFIN := Lib.hid hfin
        have HQ := Lib.hid hq
        clear hv hbw hM1 hM2 hq hq1 hD hH hg hfin HPT hC hCt
        go_wp2_with fail
        refine bodyPost_ret (v := .tuple #[.agg #[.slice (some ⟨w.heap.size + 1, 0, none⟩) j j, .map (some M)], .bool true]) ?_ rfl (HFIN.out _ _)
        exact results_cell_row3 Tryz.results42 _ _ w.heap.size _ _ _ rfl ((HQ.out.set_ 0 _).set_ 1 _) Tryz.underlying83 rfl (by kernel_rfl)
  · have t6 : (len : Int) > 20 := by omega
    have HV : Hid (progV cs = false) := Lib.hid (by rw [HE.out, decide_eq_false h6]; rfl)
    go_enter Tryz.func42, Tryz.ntmps42
    go_wp2_with fail
    refine bodyPost_ret (v := .tuple #[.agg #[.slice none 0 0, .map none], .bool false]) ?_ rfl ⟨?_, .inl ⟨HV.out, rfl⟩⟩
    · exact results_cell_row3 Tryz.results42 _ _ w.heap.size _ _ _ rfl HQ0.out Tryz.underlying83 rfl (by kernel_rfl)
    · exact HB0.out
end Go.Proofs.YtmgfndgmebignaaGreatDoor

/- impl.FormatClause, FormatProgram. Condition: the clauses lie in memory, the tables of signs, of operators and of powers of ten in their variables. -/
namespace Go.Proofs.YtmgfndgmebignaaGreatDoor.wr
open Go.RowKit

theorem clT_pos (c : Cl) : 0 < (clT c).length := by unfold clT; simp only [List.length_append, List.length_cons, List.length_nil]; omega
set_option maxRecDepth 100000 in
set_option maxHeartbeats 2000000 in
/-- impl.FormatClause. -/
theorem implFC_any (c : Cl) (A B : Option Addr) (cap capB lo hi : Nat) (w : World) (hk : KidsAt w lo hi c.kids A cap) (hkb : KidsAt w lo hi c.body B capB) (hh : hi ≤ w.heap.size) (hf : Fits c.k c.n c.s) (hnd : nodes c.kids ≤ 1048576) (hndb : nodes c.body ≤ 1048576) (ht : nv.Tab w) (ho : op.OpTab w) (hp : Lib.TabIs Tryz.prog w "internal/strconv.uint64pow10" .u64 Lib.pow10Tab) :
    Calls Tryz.prog 11 #[.agg #[.int .i64 c.k, .int .i64 c.n, .string c.s, .slice A c.kids.len cap, .slice B c.body.len capB]] w fun e w' => e = .returned (.string ⟨(fcB c).toArray⟩) ∧ Below w.heap.size w w' := by
  have hb0 : Below w.heap.size w (w.alloc (.cells #[.int .i64 c.k, .int .i64 c.n, .string c.s, .slice A c.kids.len cap, .slice B c.body.len capB] 33)) := (Below.refl _ _).alloc (Nat.le_refl _) _
  have C1 := clauseOf_any c A B cap capB lo hi _ (hk.below hb0 hh) (hkb.below hb0 hh) (Nat.le_trans hh hb0.size) hf hnd hndb (ht.below hb0) (ho.below hb0)
  have HE : Hid (fcB c = if clauseV c = true then clT c else []) := Lib.hid rfl
  have H1 := Lib.hid C1
  have HB0 := Lib.hid hb0
  have HP := Lib.hid (Lib.tabBelow_of_tabIs hp)
  have HO := Lib.hid ho
  clear C1 hk hkb hf hnd hndb ht hb0 hp hh ho
  have hpos := clT_pos c
  have C9 := fun (hv : clauseV c = true) (A G : Option Addr) (cap gcap lo hi ob mb : Nat) (w2 : World) (hk : NdS w2 lo hi c.kids A cap) (hg : GlS w2 lo hi c.body G gcap) (hh : hi ≤ mb) (hw : TW ob mb [] w2) (ht : Pow10 ob mb w2) =>
    wclause_any c hv A G cap gcap lo hi ob mb [] w2 hk hg hh hw (by have := clT_len hv; simp; omega) ht
  have hlen : clauseV c = true → (clT c).length ≤ 30000 := clT_len
  have H9 := Lib.hid C9
  have HLEN := Lib.hid hlen
  have HPOS := Lib.hid hpos
  have HND := Lib.hid (fun (w w' : World) (lo hi lo' hi' : Nat) (A : Option Addr) (cap : Nat) (h : NdS w lo hi c.kids A cap) (hk : ∀ p : Addr, lo ≤ p.block → p.block < hi → w'.cell? p = w.cell? p) (h1 : lo' ≤ lo) (h2 : hi ≤ hi') => h.keep hk h1 h2)
  have HGL := Lib.hid (fun (w w' : World) (lo hi lo' hi' : Nat) (A : Option Addr) (cap : Nat) (h : GlS w lo hi c.body A cap) (hk : ∀ p : Addr, lo ≤ p.block → p.block < hi → w'.cell? p = w.cell? p) (h1 : lo' ≤ lo) (h2 : hi ≤ hi') => h.keep hk h1 h2)
  clear hpos C9 hlen
  generalize clT c = T at *
  generalize fcB c = R at *
  go_enter Tryz.func11, Tryz.ntmps11
  go_wp2_with fail
  refine H1.out.mono ?_
  rintro e w2 ⟨hb, hr⟩
  have hb2 := HB0.out.trans (hb.mono HB0.out.size)
  rcases hr with ⟨hv, rfl⟩ | ⟨hv, A2, cap2, G, gcap, rfl, hnk, hgl⟩
  · have HV : Hid (R = []) := Lib.hid (by rw [HE.out, hv]; rfl)
    have HB2 := Lib.hid hb2
    clear hv hb hb2
    go_wp2_with fail
    go_ret
    rw [HV.out]; exact ⟨rfl, HB2.out.alloc HB2.out.size _⟩
  · have HV : Hid (R = T) := Lib.hid (by rw [HE.out, hv]; rfl)
    have HVV := Lib.hid hv
    have C2 := fun o => newW_any (w2.alloc o) (HO.out.below (hb2.alloc hb2.size o))
    have H2 := Lib.hid C2
    have HB2 := Lib.hid hb2
    have HNK := Lib.hid hnk
    have HGK := Lib.hid hgl
    have hs2 := hb2.size
    clear hv hb hb2 hnk hgl C2 H1 HE
    generalize c.s = s at *
    generalize c.kids.len = kl at *
    generalize c.body.len = bl at *
    go_wp2_with fail
    refine (H2.out _).mono ?_
    rintro e w3 ⟨mb, rfl, hm, hq, hom, hb3⟩
    have hbx := ((Below.refl w2.heap.size w2).alloc (Nat.le_refl _) (.cells #[.string s, .slice A2 kl cap2, .slice G bl gcap] 65)).trans (hb3.mono (by simp))
    have hqc : Blk w3 w2.heap.size 65 #[.string s, .slice A2 kl cap2, .slice G bl gcap] := (Blk.new w2 _ _).below hb3 (by simp)
    have hm2 : w2.heap.size + 1 < mb := by simpa using hm
    have hbw := HB2.out.trans (hbx.mono HB2.out.size)
    rw [show (w2.alloc (.cells #[.string s, .slice A2 kl cap2, .slice G bl gcap] 65)).heap.size = w2.heap.size + 1 by simp] at hq hom
    have C4 := H9.out HVV.out A2 G cap2 gcap _ _ (w2.heap.size + 1) mb w3 (HND.out w2 w3 _ _ _ _ A2 cap2 HNK.out (fun p _ hp => hbx.cell hp) (Nat.le_refl _) (Nat.le_refl _)) (HGL.out w2 w3 _ _ _ _ G gcap HGK.out (fun p _ hp => hbx.cell hp) (Nat.le_refl _) (Nat.le_refl _)) (by omega) ⟨_, hq, World.ownsRow_nil _ _ _ _⟩
      ⟨fun w' hb' => HP.out w' (hbw.trans (hb'.mono (by omega))), hm2, hom⟩
    have x0 := hqc.cell 0
    have x1 := hqc.cell 1
    have x2 := hqc.cell 2
    simp only [List.getElem?_toArray, List.getElem?_cons_zero, List.getElem?_cons_succ] at x0 x1 x2
    have H4 := Lib.hid C4
    have HB3 := Lib.hid hbw
    have hmw : w.heap.size ≤ mb := by omega
    clear hm hq hom hb3 hbx hqc hbw C4
    go_wp2_with fail
    refine H4.out.mono ?_
    rintro e w4 ⟨rfl, hw4, htf4⟩
    obtain ⟨tv, hq4, ho4⟩ := hw4
    rw [List.nil_append] at ho4
    have HFB : Hid (Below w.heap.size w w4) := Lib.hid (HB3.out.trans (htf4.1.mono hmw))
    have y0 := hq4.cell 0
    simp only [List.getElem?_toArray, List.getElem?_cons_zero] at y0
    clear hq4 htf4 x0 x1 x2
    have hl4 := HLEN.out HVV.out
    rcases ho4.2 with ⟨rfl, h0⟩ | ⟨g, cap4, cur, rfl, _⟩
    · exact absurd h0 (by have := HPOS.out; omega)
    · have hcv := run_convert_bytes_back (P := Tryz.prog) w4 71 9 5 ⟨g, 0, none⟩ cap4 T Tryz.underlying71 Tryz.underlying5 Tryz.underlying9 (fun j hj => ho4.cells (g := g) rfl j _ (by simp [Lib.byteCells, hj]))
      clear ho4
      go_wp2_with fail
      go_ret
      rw [HV.out]; exact ⟨rfl, HFB.out⟩
end Go.Proofs.YtmgfndgmebignaaGreatDoor.wr

/- impl.FormatProgram. Condition: the clauses lie in memory, the tables of signs, of operators and of powers of ten in their variables. -/
namespace Go.Proofs.YtmgfndgmebignaaGreatDoor.wr
open Go.RowKit

theorem nds_cut {w : World} {lo hi n : Nat} {f : Fr} {A : Option Addr} {cap : Nat} (h : NdS w lo hi f A cap) (hno : ∀ b, lo ≤ b → b < hi → b < n) : NdS w lo n f A cap := by
  by_cases hl : lo < hi
  · exact h.keep (fun _ _ _ => rfl) (Nat.le_refl _) (by have := hno (hi - 1) (by omega) (by omega); omega)
  · refine ⟨h.1, h.2.1, fun h0 => ?_⟩
    obtain ⟨b, _, h1, h2, _⟩ := h.2.2 h0
    omega
theorem gls_cut {w : World} {lo hi n : Nat} {f : Fr} {A : Option Addr} {cap : Nat} (h : GlS w lo hi f A cap) (hno : ∀ b, lo ≤ b → b < hi → b < n) : GlS w lo n f A cap := by
  by_cases hl : lo < hi
  · exact h.keep (fun _ _ _ => rfl) (Nat.le_refl _) (by have := hno (hi - 1) (by omega) (by omega); omega)
  · refine ⟨h.1, h.2.1, fun h0 => ?_⟩
    obtain ⟨b, _, h1, h2, _⟩ := h.2.2 h0
    omega

set_option maxRecDepth 100000 in
set_option maxHeartbeats 4000000 in
/-- impl.FormatProgram. -/
theorem implFP_any (cs : List Cl) (A : Option Addr) (cap lo hi : Nat) (w : World) (hk : ClS w lo hi cs A cap) (hh : hi ≤ w.heap.size) (hnd : cs.length + wtCs cs ≤ 1048576) (ht : nv.Tab w) (ho : op.OpTab w) (hp : Lib.TabIs Tryz.prog w "internal/strconv.uint64pow10" .u64 Lib.pow10Tab) :
    Calls Tryz.prog 16 #[.slice A cs.length cap] w fun e w' => e = .returned (.string ⟨(fpB cs).toArray⟩) ∧ Below w.heap.size w w' := by
  obtain ⟨i0, hi0, hz0, hz1, hz2⟩ := info_parts infoU8
  have C1 := progOf_any cs A cap lo hi w hk hh hnd ht ho
  have HE : Hid (fpB cs = if progV cs = true then pgT cs else []) := Lib.hid rfl
  have HPV : Hid (progV cs = (decide (cs.length ≤ 20) && allC cs)) := Lib.hid rfl
  have HPL := Lib.hid (pgT_len cs)
  have H1 := Lib.hid C1
  have HP := Lib.hid (Lib.tabBelow_of_tabIs hp)
  have HO := Lib.hid ho
  clear C1 hk hh hnd ht ho hp
  generalize fpB cs = R at *
  generalize hn : cs.length = len at *
  have HN := Lib.hid hn
  clear hn
  go_enter Tryz.func16, Tryz.ntmps16
  go_wp2_with fail
  refine H1.out.mono ?_
  rintro e w2 ⟨hb2, hr⟩
  have HB2 := Lib.hid hb2
  clear hb2 H1
  rcases hr with ⟨hok, rfl⟩ | ⟨hok, R', M, rfl, hM1, hM2, D, hD, hH, r, rfl, hr1, hr2, hct⟩
  · have HV : Hid (R = []) := Lib.hid (by rw [HE.out, hok]; rfl)
    clear hok
    go_wp2_with fail
    go_ret
    rw [HV.out]
    exact ⟨rfl, HB2.out.alloc HB2.out.size _⟩
  · have HV : Hid (R = pgT cs) := Lib.hid (by rw [HE.out, hok]; rfl)
    have hall : allC cs = true := by
      have h := HPV.out
      rw [hok] at h
      exact (Bool.and_eq_true _ _ ▸ h.symm).2
    have hl20 : len ≤ 20 := by
      have h := HPV.out
      rw [hok] at h
      have h2 := (Bool.and_eq_true _ _ ▸ h.symm).1
      rw [decide_eq_true_iff] at h2
      exact h2
    have hpl : (pgT cs).length ≤ 700000 := by have := HPL.out hall; omega
    have C2 := fun o => newW_any (w2.alloc o) (HO.out.below (HB2.out.alloc HB2.out.size o))
    have H2 := Lib.hid C2
    have HALL := Lib.hid hall
    have HCT0 := Lib.hid hct
    clear hok hM1 hM2 hD hH hr1 hct hall C2 HE HPV HPL
    rw [HN.out]
    go_wp2_with fail
    refine (H2.out _).mono ?_
    rintro e w3 ⟨mb, rfl, hm, hqm, hom, hb3⟩
    have hbx := ((Below.refl w2.heap.size w2).alloc (Nat.le_refl _) (.cells #[.slice (some ⟨r, 0, none⟩) len len, .map (some M)] 83)).trans (hb3.mono (by simp))
    have hqp : Blk w3 w2.heap.size 83 #[.slice (some ⟨r, 0, none⟩) len len, .map (some M)] := (Blk.new w2 _ _).below hb3 (by simp)
    have hm2 : w2.heap.size + 1 < mb := by simpa using hm
    have hbw := HB2.out.trans (hbx.mono HB2.out.size)
    rw [show (w2.alloc (.cells #[.slice (some ⟨r, 0, none⟩) len len, .map (some M)] 83)).heap.size = w2.heap.size + 1 by simp] at hqm hom
    have HCT : Hid (Cts w3 (fun g => g < w2.heap.size) r cs 0) := Lib.hid (Cts.keep (fun p hp => hbx.cell hp.2) (fun g hg => hg.2) cs 0 (fun j _ => hbx.cell (p := ⟨r, j, none⟩) hr2) HCT0.out)
    have HPW : Hid (Pow10 (w2.heap.size + 1) mb w3) := Lib.hid ⟨fun w' hb' => HP.out w' (hbw.trans (hb'.mono (by have := HB2.out.size; omega))), hm2, hom⟩
    have HTW : Hid (TW (w2.heap.size + 1) mb [] w3) := Lib.hid ⟨_, hqm, World.ownsRow_nil _ _ _ _⟩
    have HBW := Lib.hid hbw
    have hmw : w.heap.size ≤ mb := by have := HB2.out.size; omega
    have p0 := hqp.cell 0
    simp only [List.getElem?_toArray, List.getElem?_cons_zero] at p0
    clear hm hqm hom hb3 hbx hqp hbw H2 HCT0 HP HO HB2
    go_wp2_with fail
    generalize w2.heap.size = pg at *
    go_loopw [19] (fun i wr => ∃ (j : Nat) (b2 : List UInt8), j ≤ len ∧ i = .int .i64 j ∧ b2 ++ pgT (cs.drop j) = pgT cs ∧ TW (pg + 1) mb b2 wr ∧ TF mb w3 wr) (fun i _ => len - (intOf i).toNat)
    case atStart => exact ⟨0, [], Nat.zero_le _, rfl, rfl, HTW.out, TF.refl _ _⟩
    case round =>
      obtain ⟨j, b2, hj, rfl, hL, hw, htf⟩ := hrel
      have hbl : b2.length + (pgT (cs.drop j)).length ≤ 700000 := by have := congrArg List.length hL; simp only [List.length_append] at this; omega
      have HL := Lib.hid hL
      have HTF := Lib.hid htf
      have HW := Lib.hid hw
      by_cases hlt : j < len
      · obtain ⟨c, hd⟩ := drop_cl cs j (by rw [HN.out]; exact hlt)
        obtain ⟨A', cp, G, gcap, lo2, hi2, e0, e1, e2, hno, hnk, hgl⟩ := Cts.get cs 0 j hd HCT.out
        rw [Nat.zero_add] at e0 e1 e2
        have hrm : r < mb := by omega
        have k0 := (htf.1.cell (p := ⟨r, j * 3, none⟩) hrm).trans e0
        have k1 := (htf.1.cell (p := ⟨r, j * 3 + 1, none⟩) hrm).trans e1
        have k2 := (htf.1.cell (p := ⟨r, j * 3 + 2, none⟩) hrm).trans e2
        have hmr : mb < wr.heap.size := by obtain ⟨_, hq, _⟩ := hw; exact hq.lt
        have hb7 : Below wr.heap.size wr (wr.alloc (.cells #[.string c.s, .slice A' c.kids.len cp, .slice G c.body.len gcap] 65)) := (Below.refl _ _).alloc (Nat.le_refl _) _
        have hq7 := Blk.new wr 65 #[.string c.s, .slice A' c.kids.len cp, .slice G c.body.len gcap]
        have x0 := hq7.cell 0
        have x1 := hq7.cell 1
        have x2 := hq7.cell 2
        simp only [List.getElem?_toArray, List.getElem?_cons_zero, List.getElem?_cons_succ] at x0 x1 x2
        have htf7 := htf.trans (TF.below hb7 (Nat.le_of_lt hmr))
        rw [hd, pgT_cons] at hL hbl
        have hbl2 : b2.length + ((clT c).length + 1) ≤ 700000 := by simp only [List.length_append, List.length_cons] at hbl; omega
        have C3 := wclause_any c (allC_at cs j hd HALL.out) A' G cp gcap lo2 pg (pg + 1) mb b2 _ ((nds_cut hnk hno).keep (fun p _ hp => htf7.1.cell (by omega)) (Nat.le_refl _) (Nat.le_refl _)) ((gls_cut hgl hno).keep (fun p _ hp => htf7.1.cell (by omega)) (Nat.le_refl _) (Nat.le_refl _)) (by omega) (hw.below hb7) (by omega) (HPW.out.on htf7.1)
        have HX : Hid (((b2 ++ clT c) ++ [10]) ++ pgT (cs.drop (j + 1)) = pgT cs) := Lib.hid (by rw [← hL]; simp)
        have H3 := Lib.hid C3
        have HTF7 := Lib.hid htf7
        clear C3 htf7 hb7 hq7 hw htf hL hbl hnk hgl hno hd e0 e1 e2 HL HW HTF
        generalize clT c = T at *
        generalize c.s = s at *
        generalize c.kids.len = kl at *
        generalize c.body.len = bl at *
        go_wp2_with fail
        refine H3.out.mono ?_
        rintro e w5 ⟨rfl, hw5, htf5⟩
        obtain ⟨tv, hq, ho⟩ := hw5
        obtain ⟨A0, c0, rfl, _, _⟩ := row_form ho
        have y0 := hq.cell 0
        have yf := hq.frozen 0
        simp only [List.getElem?_toArray, List.getElem?_cons_zero] at y0
        have hmw5 := hq.lt
        have HT5 := Lib.hid (HTF7.out.trans htf5)
        have HQ := Lib.hid hq
        have HO := Lib.hid ho
        have hbl5 : (b2 ++ T).length + 1 ≤ 700000 := by simp only [List.length_append]; omega
        clear htf5 hq ho x0 x1 x2 k0 k1 k2 HTF7 H3
        generalize b2 ++ T = b5 at *
        go_wp2_with (at_builtin; go_must (refine wpList_append_lies _ rfl _ _ _ rfl (mb + 1) 5 i0 _ 1 1 Tryz.underlying71 hi0 hz0 hz1 hz2 rfl (by omega) _ (b5).length (Lib.byteCells (b5)) rfl (HO.out.alloc _) ⟨w5.heap.size, 0, none⟩ 1 1 [.int .u8 10] rfl rfl (World.news_of_block (cs := #[.int .u8 10]) (t := 5) (fr := (0, 0)) (Blk.new w5 5 #[.int .u8 10])) (by simp [Value.oneCell']) (by omega) (by unfold maxLen; omega) (by omega) (by simp; omega) (w5.heap.size + 1) (by simp) ?_); intro g9 cap9 w9 hown9 hgrow9 _ _; have hst9 := TW.step1 (c := 10) HQ.out HO.out rfl hgrow9 hown9; have y9 := hst9.2.2.cell 0; have yf9 := hst9.2.2.frozen 0; simp only [List.getElem?_toArray, List.getElem?_cons_zero] at y9; have HS9 := Lib.hid (And.intro hst9.1 hst9.2.1); clear hown9 hgrow9 hst9; refine Hid.out ?_)
        refine Lib.hid ?_
        have HEND : Hid (TW (pg + 1) mb (b5 ++ [10]) _ ∧ TF mb w3 _) := Lib.hid ⟨HS9.out.1, HT5.out.trans HS9.out.2⟩
        go_wp2_with fail
        go_roundw
        case rel => exact ⟨j + 1, b5 ++ [10], by omega, by go_num, HX.out, HEND.out.1, HEND.out.2⟩
        case measure => simp [intOf]; omega
      · obtain rfl : j = len := by omega
        have hLL : b2 = pgT cs := by
          have h1 : cs.drop j = [] := by rw [List.drop_eq_nil_iff]; rw [HN.out]; exact Nat.le_refl _
          rw [← hL, h1]
          unfold pgT
          simp
        have HS : Hid (R = b2) := Lib.hid (by rw [HV.out, hLL])
        obtain ⟨tv, hq, hown⟩ := hw
        have y0 := hq.cell 0
        simp only [List.getElem?_toArray, List.getElem?_cons_zero] at y0
        have HB : Hid (Below w.heap.size w wr) := Lib.hid (HBW.out.trans (htf.1.mono hmw))
        clear hLL hL hbl htf hq HW HTF HL
        by_cases hl0 : b2 = []
        · subst hl0
          rcases hown.2 with ⟨rfl, _⟩ | ⟨g, cap3, cur, rfl, _⟩
          · have hcv : (convert 71 9 (.slice none 0 0)).run Tryz.prog wr = .ok (.string ⟨#[]⟩) wr := by kernel_rfl
            clear hown
            go_wp2_with fail
            go_ret
            rw [HS.out]; exact ⟨rfl, HB.out⟩
          · have hcv : (convert 71 9 (.slice (some ⟨g, 0, none⟩) 0 cap3)).run Tryz.prog wr = .ok (.string ⟨#[]⟩) wr := run_convert_bytes_back (P := Tryz.prog) wr 71 9 5 ⟨g, 0, none⟩ cap3 [] Tryz.underlying71 Tryz.underlying5 Tryz.underlying9 (fun j hj => absurd hj (Nat.not_lt_zero _))
            clear hown
            go_wp2_with fail
            go_ret
            rw [HS.out]; exact ⟨rfl, HB.out⟩
        · obtain ⟨g, cap3, rfl, _, _⟩ := hown.form (List.length_pos_iff.2 hl0)
          have hcv := run_convert_bytes_back (P := Tryz.prog) wr 71 9 5 ⟨g, 0, none⟩ cap3 b2 Tryz.underlying71 Tryz.underlying5 Tryz.underlying9 (fun j hj => hown.cells (g := g) rfl j _ (by unfold Lib.byteCells; rw [List.getElem?_map, List.getElem?_eq_getElem hj]; rfl))
          clear hown hl0
          go_wp2_with fail
          go_ret
          rw [HS.out]; exact ⟨rfl, HB.out⟩
end Go.Proofs.YtmgfndgmebignaaGreatDoor.wr

/- laws.markText, markTermS, markTerm: rows of terms are marked. Condition: the call owns the row. -/
namespace Go.Proofs.YtmgfndgmebignaaGreatDoor
open Go.RowKit

theorem one_byte (j : Nat) (w : World) : (convert 71 9 (.slice (some ⟨w.heap.size, 0, none⟩) 1 1)).run Tryz.prog (w.alloc (.cells #[.int .u8 (48 + (j : Int) % 10)] 5)) =
    .ok (.string ⟨[UInt8.ofNat (48 + j % 10)].toArray⟩) (w.alloc (.cells #[.int .u8 (48 + (j : Int) % 10)] 5)) := by
  refine run_convert_bytes_back _ _ _ 5 ⟨w.heap.size, 0, none⟩ 1 [UInt8.ofNat (48 + j % 10)] Tryz.underlying71 Tryz.underlying5 Tryz.underlying9 fun i hi => ?_
  obtain rfl : i = 0 := by simpa using hi
  have h := (Blk.new w 5 #[.int .u8 (48 + (j : Int) % 10)]).cell 0
  have e : ((UInt8.ofNat (48 + j % 10)).toNat : Int) = 48 + (j : Int) % 10 := by
    rw [UInt8.toNat_ofNat']
    omega
  show (w.alloc _).cell? ⟨w.heap.size, 0, none⟩ = some (.int .u8 ((UInt8.ofNat (48 + j % 10)).toNat : Int))
  rw [h, e]
  rfl
theorem digs_step (fu j : Nat) (out : List UInt8) (hj : j ≤ fu) (h0 : ¬ j = 0) : ∃ fu', j / 10 ≤ fu' ∧ digs fu j out = digs fu' (j / 10) (UInt8.ofNat (48 + j % 10) :: out) := by
  cases fu with
  | zero => omega
  | succ fu => exact ⟨fu, by omega, by simp only [digs]; rw [if_neg h0]⟩
theorem digs_zero (fu : Nat) (out : List UInt8) : digs fu 0 out = out := by
  cases fu with
  | zero => rfl
  | succ fu => rfl
theorem str_cons (d : UInt8) (out : List UInt8) : (.string (⟨[d].toArray⟩ ++ ⟨out.toArray⟩) : Value) = .string ⟨(d :: out).toArray⟩ := congrArg Value.string (ByteArray.mk_append_mk [d] out)
set_option maxRecDepth 100000 in
set_option maxHeartbeats 1000000 in
theorem markText_any (k0 : Nat) (w : World) (h0 : 0 < k0) (h1 : k0 ≤ 1099511627776) :
    Calls Tryz.prog 57 #[.int .i64 (k0 : Int)] w fun e w' => e = .returned (.string (mtext k0)) ∧ Below w.heap.size w w' := by
  have t0 : ¬ (k0 : Int) ≤ 0 := by omega
  go_enter Tryz.func57, Tryz.ntmps57
  go_wp2_with fail
  go_loopw [3, 0] (fun o i wr => ∃ (j fu : Nat) (out : List UInt8), j ≤ fu ∧ out.length + j ≤ k0 ∧ i = .int .i64 j ∧ o = .string ⟨out.toArray⟩ ∧ digs fu j out = digs k0 k0 [] ∧ Below w.heap.size w wr) (fun _ i _ => (intOf i).toNat)
  case atStart => exact ⟨k0, k0, [], Nat.le_refl _, by simp, rfl, rfl, rfl, Below.refl _ _⟩
  case round =>
    obtain ⟨j, fu, out, hj, hl, rfl, rfl, hd, hb⟩ := hrel
    have HD := Lib.hid hd
    have HB := Lib.hid hb
    clear hd hb
    by_cases hz : j = 0
    · subst hz
      have HV : Hid (mtext k0 = ⟨#[109]⟩ ++ ⟨out.toArray⟩) := Lib.hid (by
        have h := HD.out
        rw [digs_zero] at h
        unfold mtext
        rw [← h]
        exact (ByteArray.mk_append_mk [109] out).symm)
      clear HD
      go_wp2_with fail
      go_ret
      rw [HV.out]
      exact ⟨rfl, HB.out⟩
    · have hjp : (0 : Int) < j := by omega
      obtain ⟨fu', hfu, hdd⟩ := digs_step fu j out hj hz
      have HE : Hid (digs fu' (j / 10) (UInt8.ofNat (48 + j % 10) :: out) = digs k0 k0 []) := Lib.hid (hdd.symm.trans HD.out)
      have kc := one_byte j
      generalize UInt8.ofNat (48 + j % 10) = d at *
      clear hdd HD
      go_wp2_with fail
      go_roundw
      case rel => exact ⟨j / 10, fu', d :: out, hfu, by simp only [List.length_cons]; omega, by go_num, str_cons d out, HE.out, HB.out.alloc HB.out.size _⟩
      case measure => simp [intOf]; omega

/-- What marking a row leaves: the marked row, in the same blocks; no other block was written. -/
def MarkedS (w : World) (f : Fr) (A : Option Addr) (cap : Nat) (L : List Nat) (k : Nat) (e : Ending) (w' : World) : Prop :=
  e = .returned (.int .i64 ((k + 3 * nodes f : Nat) : Int)) ∧ OwnS w' (markF f k) A cap L ∧ Wrote L w w'
def MarkS (f : Fr) : Prop := ∀ (A : Option Addr) (cap k : Nat) (L : List Nat) (w : World), OwnS w f A cap L → L.Nodup → k + 3 * nodes f ≤ 1099511627776 → 0 < k →
  Calls Tryz.prog 47 #[.slice A f.len cap, .int .i64 (k : Int)] w fun e w' => MarkedS w f A cap L k e w'

set_option maxRecDepth 100000 in
set_option maxHeartbeats 2000000 in
theorem markS_of (f : Fr) (h : ∀ i k n s kids rest, f.drop i = .cons k n s kids rest → MarkS kids) : MarkS f := by
  intro A cap k0 L w ho hnd hk hk0
  rcases ho with ⟨hcap, hmax, ⟨hz, rfl⟩ | ⟨b, L', cs, rfl, rfl, hblk, hcs, hown⟩⟩
  · have hnil : f = .nil := by
      cases f with
      | nil => rfl
      | cons _ _ _ _ _ => simp [Fr.len] at hz
    subst hnil
    have e0 : (Fr.nil.len : Int) = 0 := rfl
    have HM : Hid (MarkedS w .nil A cap [] k0 (.returned (.int .i64 (k0 : Int))) w) := Lib.hid ⟨rfl, ⟨Nat.zero_le _, hmax, .inl ⟨rfl, rfl⟩⟩, .refl _ _⟩
    clear h hk hnd hcap hz hmax
    go_enter Tryz.func47, Tryz.ntmps47
    go_wp2_with fail
    go_loop [5, 1] (fun i k => i = .int .i64 0 ∧ k = .int .i64 (k0 : Int)) (fun _ _ => 0)
    case atStart => exact ⟨rfl, rfl⟩
    case round =>
      obtain ⟨rfl, rfl⟩ := hrel
      go_wp2_with fail
      go_ret
      exact HM.out
  · have h0 := MkP.start (k0 := k0) hblk hcs hown
    have HFIN : Hid (∀ wr, MkP w f b cap L' k0 f.len wr → OwnS wr (markF f k0) (some ⟨b, 0, none⟩) cap (b :: L') ∧ Wrote (b :: L') w wr) := Lib.hid fun wr h => h.done hcap hmax
    have HST := Lib.hid h0
    have HND := Lib.hid hnd
    have HH := Lib.hid h
    have HK := Lib.hid hk
    have HCAP := Lib.hid hcap
    have hl : f.len ≤ 1099511627776 := by have := len_le_nodes f; omega
    clear h0 hown hnd h hblk hcs hmax
    unfold maxLen at *
    generalize hn : f.len = len at *
    have HN := Lib.hid hn
    clear hn
    go_enter Tryz.func47, Tryz.ntmps47
    go_wp2_with fail
    go_loopw [5, 1] (fun i k wr => ∃ (j kk : Nat), j ≤ len ∧ i = .int .i64 j ∧ k = .int .i64 kk ∧ kk = k0 + 3 * nodes (f.take j) ∧ MkP w f b cap L' k0 j wr) (fun i _ _ => len - (intOf i).toNat)
    case atStart => exact ⟨0, k0, Nat.zero_le _, rfl, rfl, rfl, HST.out⟩
    case round =>
      obtain ⟨j, kk, hj, rfl, rfl, hkk, hp⟩ := hrel
      by_cases hlt : j < len
      · obtain ⟨kn, nn, s, kids, hd⟩ := Fr.drop_cons j f (by rw [HN.out]; exact hlt)
        obtain ⟨A', cap', hopen⟩ := hp.open_ hd (by rw [HN.out]; exact hlt) (by rw [HN.out]; exact HCAP.out) HND.out HK.out
        rw [← hkk] at hopen
        obtain ⟨⟨v0, v1, v2, c0, c1, c2, c3⟩, hbw, hfz, K, hKn, hgo⟩ := hopen
        have hsp := nodes_split j f
        have hnt := nodes_take j f hd
        have hn1 : nodes (f.drop j) = 1 + nodes kids + nodes (f.drop (j + 1)) := by rw [hd]; rfl
        have hkb : kk + 3 + 3 * nodes kids ≤ 1099511627776 := by have := HK.out; omega
        have HKK : Hid (kk + 3 + 3 * nodes kids = k0 + 3 * nodes (f.take (j + 1))) := Lib.hid (by omega)
        have C2 : ∀ w1, OwnS w1 kids A' cap' K → Calls Tryz.prog 47 #[.slice A' kids.len cap', .int .i64 ((kk : Int) + 1 + 1 + 1)] w1 fun e w' => MarkedS w1 kids A' cap' K (kk + 3) e w' := fun w1 ho => by
          have h := HH.out _ _ _ _ _ _ hd A' cap' (kk + 3) K w1 ho hKn (by omega) (by omega)
          rwa [show ((kk + 3 : Nat) : Int) = (kk : Int) + 1 + 1 + 1 by omega] at h
        have C1 : ∀ w1, Calls Tryz.prog 57 #[.int .i64 ((kk : Int) + 1 + 1)] w1 fun e w' => e = .returned (.string (mtext (kk + 2))) ∧ Below w1.heap.size w1 w' := fun w1 => by
          have h := markText_any (kk + 2) w1 (by omega) (by omega)
          rwa [show ((kk + 2 : Nat) : Int) = (kk : Int) + 1 + 1 by omega] at h
        have hf0 := hfz (j * 4)
        have hf1 := hfz (j * 4 + 1)
        have hf2 := hfz (j * 4 + 2)
        have HGO := Lib.hid hgo
        have H1 := Lib.hid C1
        have H2 := Lib.hid C2
        clear hp hfz hgo C1 C2 hKn hkk hsp hnt hn1 hd
        go_wp2_with fail
        refine (H1.out _).mono ?_
        rintro e w1 ⟨rfl, hb1⟩
        obtain ⟨⟨⟨v3, d2⟩, d4, d3⟩, how, hgo⟩ := HGO.out w1 (hb1.mono (by simp [World.setCell]))
        have HO := Lib.hid how
        have HG2 := Lib.hid hgo
        clear hb1 how hgo HGO c0 c1 c2 c3 hf0 hf1 hf2
        go_wp2_with fail
        refine (H2.out _ HO.out).mono ?_
        rintro e w4 ⟨rfl, ho4, hw4⟩
        have hm := HG2.out w4 ho4 hw4
        have HM := Lib.hid hm
        clear hm ho4 hw4 HG2 HO
        go_wp2_with fail
        go_roundw
        case rel => exact ⟨j + 1, kk + 3 + 3 * nodes kids, by omega, by go_num, rfl, HKK.out, HM.out⟩
        case measure => simp [intOf]; omega
      · obtain rfl : j = len := by omega
        have HE : Hid (kk = k0 + 3 * nodes f) := Lib.hid (by rw [hkk, ← HN.out, Fr.take_len])
        have HF := Lib.hid (HFIN.out wr hp)
        clear hp hkk
        go_wp2_with fail
        go_ret
        unfold MarkedS
        rw [← HE.out]
        exact ⟨rfl, HF.out⟩

theorem mark_all (N : Nat) : ∀ f : Fr, f.size ≤ N → MarkS f := by
  induction N with
  | zero =>
    intro f hf
    refine markS_of f fun i k n s kids rest hd => ?_
    have h1 := Fr.size_drop i f
    rw [hd] at h1
    simp only [Fr.size] at h1
    omega
  | succ N ih =>
    intro f hf
    refine markS_of f fun i k n s kids rest hd => ih kids ?_
    have h1 := Fr.size_drop i f
    rw [hd] at h1
    simp only [Fr.size] at h1
    omega
/-- laws.markTermS. -/
theorem markS_any (f : Fr) : MarkS f := mark_all f.size f (Nat.le_refl _)

set_option maxRecDepth 100000 in
set_option maxHeartbeats 1000000 in
/-- laws.markTerm: the kids are marked, the term itself is a copy. -/
theorem markT_any (kk nn : Int) (s : ByteArray) (f : Fr) (A : Option Addr) (cap k : Nat) (L : List Nat) (w : World) (ho : OwnS w f A cap L) (hn : L.Nodup) (hk : k + 3 * nodes f ≤ 1099511627776) (h0 : 0 < k) :
    Calls Tryz.prog 21 #[.agg #[.int .i64 kk, .int .i64 nn, .string s, .slice A f.len cap], .int .i64 (k : Int)] w fun e w' => MarkedS w f A cap L k e w' := by
  have C1 := fun w1 (hb : Wrote [] w w1) => markS_any f A cap k L w1 (ho.wrote hb fun x _ => by simp) hn hk h0
  have H1 := Lib.hid C1
  clear C1 ho hn hk h0
  go_enter Tryz.func21, Tryz.ntmps21
  go_wp2_with fail
  have hw1 := (Wrote.refl [] w).alloc (.cells #[.int .i64 kk, .int .i64 nn, .string s, .slice A f.len cap] 31)
  refine (H1.out _ hw1).mono ?_
  rintro e w2 ⟨rfl, ho2, hw2⟩
  have HM : Hid (MarkedS w f A cap L k (.returned (.int .i64 ((k + 3 * nodes f : Nat) : Int))) w2) := Lib.hid ⟨rfl, ho2, (hw1.more (fun x hx => by simp at hx)).trans hw2⟩
  clear ho2 hw2 hw1
  go_wp2_with fail
  go_ret
  exact HM.out
end Go.Proofs.YtmgfndgmebignaaGreatDoor

/- laws.heldTermS, heldTerm: a marked row still holds its marks. Condition: the marked row lies in memory. -/
namespace Go.Proofs.YtmgfndgmebignaaGreatDoor
open Go.RowKit

def HeldS (f : Fr) : Prop := ∀ (A : Option Addr) (cap k lo hi : Nat) (w : World), KidsAt w lo hi (markF f k) A cap → hi ≤ w.heap.size → k + 3 * nodes f ≤ 1099511627776 → 0 < k →
  Calls Tryz.prog 48 #[.slice A f.len cap, .int .i64 (k : Int)] w fun e w' => e = .returned (.int .i64 ((k + 3 * nodes f : Nat) : Int)) ∧ Below w.heap.size w w'

set_option maxRecDepth 100000 in
set_option maxHeartbeats 2000000 in
theorem heldS_of (f : Fr) (h : ∀ i k n s kids rest, f.drop i = .cons k n s kids rest → HeldS kids) : HeldS f := by
  intro A cap k0 lo hi w hk hh hb hk0
  have HK := Lib.hid hk
  have HH := Lib.hid h
  have HHI := Lib.hid hh
  have HB := Lib.hid hb
  have hl : f.len ≤ 1099511627776 := by have := len_le_nodes f; omega
  have hml := markF_len f k0
  have HML := Lib.hid hml
  clear hk h hh hb hml
  generalize hn : f.len = len at *
  have HN := Lib.hid hn
  clear hn
  go_enter Tryz.func48, Tryz.ntmps48
  go_wp2_with fail
  go_loopw [5, 1] (fun i k wr => ∃ (j kk : Nat), j ≤ len ∧ i = .int .i64 j ∧ k = .int .i64 kk ∧ kk = k0 + 3 * nodes (f.take j) ∧ Below w.heap.size w wr) (fun i _ _ => len - (intOf i).toNat)
  case atStart => exact ⟨0, k0, Nat.zero_le _, rfl, rfl, rfl, Below.refl _ _⟩
  case round =>
    obtain ⟨j, kk, hj, rfl, rfl, hkk, hbw⟩ := hrel
    by_cases hlt : j < len
    · obtain ⟨kn, nn, s, kids, hd⟩ := Fr.drop_cons j f (by rw [HN.out]; exact hlt)
      have hdm : (markF f k0).drop j = .cons (kk : Int) ((kk : Int) + 1) (mtext (kk + 2)) (markF kids (kk + 3)) (markF (f.drop (j + 1)) (kk + 3 + 3 * nodes kids)) := by
        rw [markF_drop, hd, ← hkk]; rfl
      obtain ⟨b, o, rfl, hlb, hbb, hrow⟩ := HK.out.2.2 (by rw [HML.out]; omega)
      obtain ⟨_, A', cap', c0, c1, c2, c3, hkid⟩ := hrow.elem hdm
      rw [markF_len] at c3
      have hlo : (⟨b, o, none⟩ : Addr).block < w.heap.size := Nat.lt_of_lt_of_le hbb HHI.out
      have k0' := (hbw.cell (p := ⟨b, o + j * 4, none⟩) hlo).trans c0
      have k1' := (hbw.cell (p := ⟨b, o + j * 4 + 1, none⟩) hlo).trans c1
      have k2' := (hbw.cell (p := ⟨b, o + j * 4 + 2, none⟩) hlo).trans c2
      have k3' := (hbw.cell (p := ⟨b, o + j * 4 + 3, none⟩) hlo).trans c3
      have hsp := nodes_split j f
      have hnt := nodes_take j f hd
      have hn1 : nodes (f.drop j) = 1 + nodes kids + nodes (f.drop (j + 1)) := by rw [hd]; rfl
      have hkb : kk + 3 + 3 * nodes kids ≤ 1099511627776 := by have := HB.out; omega
      have HKK : Hid (kk + 3 + 3 * nodes kids = k0 + 3 * nodes (f.take (j + 1))) := Lib.hid (by omega)
      have C1 : ∀ w1, Calls Tryz.prog 57 #[.int .i64 ((kk : Int) + 1 + 1)] w1 fun e w' => e = .returned (.string (mtext (kk + 2))) ∧ Below w1.heap.size w1 w' := fun w1 => by
        have h := markText_any (kk + 2) w1 (by omega) (by omega)
        rwa [show ((kk + 2 : Nat) : Int) = (kk : Int) + 1 + 1 by omega] at h
      have C2 : ∀ w1, Below wr.heap.size wr w1 → Calls Tryz.prog 48 #[.slice A' kids.len cap', .int .i64 ((kk : Int) + 1 + 1 + 1)] w1 fun e w' => e = .returned (.int .i64 ((kk + 3 + 3 * nodes kids : Nat) : Int)) ∧ Below w1.heap.size w1 w' := fun w1 hb1 => by
        have hb2 := hbw.trans (hb1.mono hbw.size)
        have h := HH.out _ _ _ _ _ _ hd A' cap' (kk + 3) lo hi w1 (hkid.below hb2 HHI.out) (Nat.le_trans HHI.out hb2.size) (by omega) (by omega)
        rwa [show ((kk + 3 : Nat) : Int) = (kk : Int) + 1 + 1 + 1 by omega] at h
      have t0 : ((kk : Int) != (kk : Int)) = false := by simp
      have t1 : ((kk : Int) + 1 != (kk : Int) + 1) = false := by simp
      have t2 : ((mtext (kk + 2)).toList != (mtext (kk + 2)).toList) = false := by simp
      have t2' : (!((mtext (kk + 2)).toList == (mtext (kk + 2)).toList)) = false := by simp
      have t3 : ¬ (((kk + 3 + 3 * nodes kids : Nat) : Int) < 0) := by omega
      have hlo' : b < wr.heap.size := Nat.lt_of_lt_of_le hlo hbw.size
      have H1 := Lib.hid C1
      have H2 := Lib.hid C2
      have HBW := Lib.hid hbw
      generalize mtext (kk + 2) = mt at *
      clear C1 C2 hbw hkk hsp hnt hn1 hd hdm c0 c1 c2 c3 hkid hrow
      go_wp2_with fail
      go_region_held3 (fun w' => w'.cell? ⟨b, o + j * 4 + 2, none⟩ = some (.string mt))
        (first | exact y2 | exact k2')
        (first
          | (go_at_call 57
             refine (H1.out _).mono ?_
             rintro e w2 ⟨rfl, hb2⟩
             have hd2 : Below wr.heap.size wr w2 := (Below.refl wr.heap.size wr).drew.trans hb2
             have y2 := (hd2.cell (p := ⟨b, o + j * 4 + 2, none⟩) hlo').trans k2'
             have y3 := (hd2.cell (p := ⟨b, o + j * 4 + 3, none⟩) hlo').trans k3'
             have HB2 := Lib.hid hd2
             clear hb2 hd2))
      go_wp2_with fail
      refine (H2.out _ HB2.out).mono ?_
      rintro e w3 ⟨rfl, hb3⟩
      have HB3 : Hid (Below w.heap.size w w3) := Lib.hid ((HBW.out.trans (HB2.out.mono HBW.out.size)).trans (hb3.mono (Nat.le_trans HBW.out.size HB2.out.size)))
      clear hb3
      go_wp2_with fail
      go_roundw
      case rel => exact ⟨j + 1, kk + 3 + 3 * nodes kids, by omega, by go_num, rfl, HKK.out, HB3.out⟩
      case measure => simp [intOf]; omega
    · obtain rfl : j = len := by omega
      have HE : Hid (k0 + 3 * nodes f = kk) := Lib.hid (by rw [hkk, ← HN.out, Fr.take_len])
      have HBW := Lib.hid hbw
      clear hbw hkk
      go_wp2_with fail
      go_ret
      rw [HE.out]
      exact ⟨rfl, HBW.out⟩

theorem held_all (N : Nat) : ∀ f : Fr, f.size ≤ N → HeldS f := by
  induction N with
  | zero =>
    intro f hf
    refine heldS_of f fun i k n s kids rest hd => ?_
    have h1 := Fr.size_drop i f
    rw [hd] at h1
    simp only [Fr.size] at h1
    omega
  | succ N ih =>
    intro f hf
    refine heldS_of f fun i k n s kids rest hd => ih kids ?_
    have h1 := Fr.size_drop i f
    rw [hd] at h1
    simp only [Fr.size] at h1
    omega
/-- laws.heldTermS. -/
theorem heldS_any (f : Fr) : HeldS f := held_all f.size f (Nat.le_refl _)

set_option maxRecDepth 100000 in
set_option maxHeartbeats 1000000 in
/-- laws.heldTerm. -/
theorem heldT_any (kk nn : Int) (s : ByteArray) (f : Fr) (A : Option Addr) (cap k lo hi : Nat) (w : World) (hk : KidsAt w lo hi (markF f k) A cap) (hh : hi ≤ w.heap.size) (hb : k + 3 * nodes f ≤ 1099511627776) (h0 : 0 < k) :
    Calls Tryz.prog 22 #[.agg #[.int .i64 kk, .int .i64 nn, .string s, .slice A f.len cap], .int .i64 (k : Int)] w fun e w' => e = .returned (.int .i64 ((k + 3 * nodes f : Nat) : Int)) ∧ Below w.heap.size w w' := by
  have C1 := fun w1 (hb1 : Below w.heap.size w w1) => heldS_any f A cap k lo hi w1 (hk.below hb1 hh) (Nat.le_trans hh hb1.size) hb h0
  have H1 := Lib.hid C1
  have t0 : ¬ (((k + 3 * nodes f : Nat) : Int) < 0) := by omega
  clear C1 hk hh hb h0
  generalize ((k + 3 * nodes f : Nat) : Int) = r at *
  go_enter Tryz.func22, Tryz.ntmps22
  go_wp2_with fail
  have hb0 : Below w.heap.size w (w.alloc (.cells #[.int .i64 kk, .int .i64 nn, .string s, .slice A f.len cap] 31)) := (Below.refl _ _).alloc (Nat.le_refl _) _
  refine (H1.out _ hb0).mono ?_
  rintro e w2 ⟨rfl, hb2⟩
  have HB : Hid (Below w.heap.size w w2) := Lib.hid (hb0.trans (hb2.mono (by simp)))
  clear hb2 hb0
  go_wp2_with fail
  go_ret
  exact ⟨rfl, HB.out⟩
end Go.Proofs.YtmgfndgmebignaaGreatDoor

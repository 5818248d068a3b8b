/- impl.AnswerGoals. Condition: the query and the answer's values lie in memory, both tables in their variables. -/
import Derived.Test.YtnkaafimnkigpaaDoorProg
import Derived.Test.YtnkaafimnkigpaaDoorZmAG50
import Derived.Test.YtnkaafimnkigpaaDoorZmAG48
import Derived.Deep.RegionHeld3
namespace Go.Proofs.YtnkaafimnkigpaaDoor
open Go.RowKit Go.Maps

set_option maxRecDepth 100000 in
set_option maxHeartbeats 8000000 in
/-- impl.AnswerGoals. -/
theorem implAg_any (f g : Fr) (A B : Option Addr) (cap capB lo hi lo2 hi2 : Nat) (w : World) (hk : KidsAt w lo hi f A cap) (hh : hi ≤ w.heap.size) (hnd : nodes f ≤ 1048576) (hk2 : KidsAt w lo2 hi2 g B capB) (hh2 : hi2 ≤ w.heap.size) (hng : nodes g ≤ 1048576) (ht : nv.Tab w) (ho : op.OpTab w) :
    Calls Tryd.prog 23 #[.slice A f.len cap, .agg #[.slice B g.len capB]] w fun e w' => AgRes w f g e w' := by
  have hlt0 := tab_lt ht
  have hb0 : Below w.heap.size w (w.alloc (.cells #[.slice B g.len capB] 48)) := (Below.refl _ _).alloc (Nat.le_refl _) _
  have hq0 := Blk.new w 48 #[.slice B g.len capB]
  have C1 := questionOf_any f A cap lo hi _ (hk.below hb0 hh) (Nat.le_trans hh hb0.size) hnd (tab_below ht hb0 hlt0) (ho.below hb0)
  have C2 := fun w1 (q0 : Value) (Av : Option Addr) (vn capV : Nat) (hb : Below w.heap.size w w1) => valuesOf_any q0 Av vn capV g B capB lo2 hi2 w1 (hk2.below hb hh2) (Nat.le_trans hh2 hb.size) hng (tab_below ht hb hlt0)
  have hl : f.len ≤ 1048576 := by have := len_le_nodes f; omega
  have hlg : g.len ≤ 1048576 := by have := len_le_nodes g; omega
  have hvl : (varsF [] f).length ≤ 1048576 := by have h1 := varsF_len f []; simp only [List.length_nil] at h1; omega
  have e0 : (w.alloc (.cells #[.slice B g.len capB] 48)).heap.size = w.heap.size + 1 := by simp
  have H1 := Lib.hid C1
  have H2 := Lib.hid C2
  have HB0 := Lib.hid hb0
  have HQ0 := Lib.hid hq0
  have HE0 := Lib.hid e0
  have HND := Lib.hid hnd
  have HNG := Lib.hid hng
  clear C1 C2 hk hh hnd hk2 hh2 hng hb0 hq0 e0 ht ho
  generalize hn : f.len = len at *
  generalize hm : g.len = lem at *
  have HN := Lib.hid hn
  have HM := Lib.hid hm
  clear hn hm
  have hmm := @run_makeMap Tryd.prog
  have hmf : ∀ (fn : Fn) (first cap : Array Value) (w : World), (Instr.makeFunc fn first cap).run Tryd.prog w = .ok (.func fn first cap) w := fun _ _ _ _ => rfl
  go_enter Tryd.func23, Tryd.ntmps23
  go_wp2_with fail
  refine H1.out.mono ?_
  rintro e w2 ⟨hb, hr⟩
  rw [HE0.out] at hb hr
  have hb2 : Below w.heap.size w w2 := HB0.out.trans (hb.mono (by omega))
  have hq2 := HQ0.out.below (by rw [HE0.out]; exact hb) HQ0.out.lt
  have hs2 := hb.size
  rcases hr with ⟨hok, rfl⟩ | ⟨hok, G, gcap, vo, hi3, rfl, hgl, ⟨hg1, hg2⟩, hoi⟩
  · have HR : Hid (∀ w', Below w.heap.size w w' → AgRes w f g (.returned (.tuple #[.slice none 0 0, .bool false])) w') := Lib.hid fun w' hb => ag_no (ag_bad1 (g := g) hok) hb
    have HB2 : Hid (∀ o, Below w.heap.size w (w2.alloc o)) := Lib.hid fun o => hb2.alloc hb2.size o
    clear hok hb hb2 hq2
    go_wp2_with fail
    go_ret2
    exact HR.out _ (HB2.out _)
  · obtain ⟨Av, capV, rfl, hvc, hvm, hvr⟩ := hoi.read
    rw [HN.out]
    have HGV := Lib.hid hok
    have HGL := Lib.hid hgl
    have HV2 : Hid (0 < (varsF [] f).length → ∃ gv, Av = some ⟨gv, 0, none⟩ ∧ gv < w2.heap.size ∧ ∀ j, j < (varsF [] f).length → w2.cell? ⟨gv, j, none⟩ = some (.int .i64 ((varsF [] f).getD j 0))) := Lib.hid fun hp => by
      obtain ⟨gv, e, _, hc⟩ := hvr hp
      exact ⟨gv, e, World.block_lt_of_cell? w2 _ (hc 0 hp).1, fun j hj => (hc j hj).1⟩
    have HND2 : Hid (varsF [] f).Nodup := Lib.hid (varsF_nodup f [] List.nodup_nil)
    have HB2 := Lib.hid hb2
    have HQ2 := Lib.hid hq2
    have a0 := (hq2.alloc (.cells #[.slice G len gcap, .slice Av (varsF [] f).length capV] 86)).cell 0
    simp only [List.getElem?_toArray, List.getElem?_cons_zero] at a0
    have hb23 : Below w2.heap.size w2 (w2.alloc (.cells #[.slice G len gcap, .slice Av (varsF [] f).length capV] 86)) := (Below.refl _ _).alloc (Nat.le_refl _) _
    have hq3 := Blk.new w2 86 #[.slice G len gcap, .slice Av (varsF [] f).length capV]
    have C3 := H2.out (w2.alloc (.cells #[.slice G len gcap, .slice Av (varsF [] f).length capV] 86)) (.slice G len gcap) Av (varsF [] f).length capV (hb2.trans (hb23.mono hb2.size))
    have e3 : (w2.alloc (.cells #[.slice G len gcap, .slice Av (varsF [] f).length capV] 86)).heap.size = w2.heap.size + 1 := by simp
    clear hok hgl hvr hoi hb hb2 hq2 H1 H2
    generalize hvs : varsF [] f = vs at *
    have HVSE := Lib.hid hvs
    clear hvs
    generalize hvn : vs.length = vn at *
    have HVN := Lib.hid hvn
    clear hvn
    have H3 := Lib.hid C3
    have HB23 := Lib.hid hb23
    have HQ3 := Lib.hid hq3
    have HE3 := Lib.hid e3
    clear C3 hb23 hq3 e3
    go_wp2_with fail
    refine H3.out.mono ?_
    rintro e w3 ⟨hb, hr⟩
    have hb13 : Below w2.heap.size w2 w3 := HB23.out.trans (hb.mono HB23.out.size)
    have hb3 : Below w.heap.size w w3 := HB2.out.trans (hb13.mono HB2.out.size)
    have hq3 := HQ3.out.below hb HQ3.out.lt
    have hs3 := hb.size
    rw [HE3.out] at hs3 hr
    rcases hr with ⟨hve, hab, A3, cap3, rfl, hns⟩ | ⟨hbad, rfl⟩
    rotate_left
    · have HR := Lib.hid (ag_no (f := f) (g := g) (by
        by_cases h : vn = lem
        · exact ag_bad3 (hbad (by rw [h, HM.out]))
        · exact ag_bad2 (by rw [HVSE.out, HVN.out, HM.out]; exact h)) hb3)
      clear hbad hb hb13 hb3 hq3
      go_wp2_with fail
      go_ret2
      exact HR.out
    · rw [HM.out] at hve ⊢
      subst hve
      have b0 := hq3.cell 0
      have b1 := hq3.cell 1
      simp only [List.getElem?_toArray, List.getElem?_cons_zero, List.getElem?_cons_succ] at b0 b1
      have HNS := Lib.hid hns
      have HAB := Lib.hid hab
      have HB3 := Lib.hid hb3
      have HB13 := Lib.hid hb13
      have hlo3 : w2.heap.size < w3.heap.size := by omega
      have hst : MpS ((w3.alloc (.map #[] 0)).alloc (.cells #[.map (some w3.heap.size)] 92)) (w2.heap.size + 1) w3.heap.size w3.heap.size [] ∧ Below w3.heap.size w3 ((w3.alloc (.map #[] 0)).alloc (.cells #[.map (some w3.heap.size)] 92)) ∧ Blk ((w3.alloc (.map #[] 0)).alloc (.cells #[.map (some w3.heap.size)] 92)) (w3.heap.size + 1) 92 #[.map (some w3.heap.size)] := by
        refine ⟨⟨.map [], (World.ownsMap_made w3 _ _ _).alloc _, isMap_empty, fun _ => rfl, fun n m hm => by cases hm⟩, two_alloc w3 _ _, ?_⟩
        have h := Blk.new (w3.alloc (.map #[] 0)) 92 #[.map (some w3.heap.size)]
        rwa [show (w3.alloc (.map #[] 0)).heap.size = w3.heap.size + 1 by simp] at h
      have HST := Lib.hid hst
      clear hns hab hb hb3 hb13 hq3 hst a0
      go_wp2_with fail
      go_loopw [34] (fun i wr => ∃ (j : Nat) (st : St), j ≤ vn ∧ i = .int .i64 j ∧ st.length = j ∧ (∀ x, (lkS st x).or (fdB (vs.drop j) (g.drop j) x) = fdB vs g x) ∧ (∀ x, (lkS st x).isSome = true → x ∈ vs.take j) ∧ MpS wr (w2.heap.size + 1) w3.heap.size w3.heap.size st ∧ Below w3.heap.size w3 wr ∧ Blk wr (w3.heap.size + 1) 92 #[.map (some w3.heap.size)]) (fun i _ => vn - (intOf i).toNat)
      case atStart => exact ⟨0, [], Nat.zero_le _, rfl, rfl, fun _ => rfl, (fun x hx => by cases hx), HST.out⟩
      case round =>
        obtain ⟨j, st, hj, rfl, hsl, hor, hin, hmp, hbw, hbx⟩ := hrel
        by_cases hlt : j < vn
        · obtain ⟨kk, nn, s', kids, hd⟩ := Fr.drop_cons j g (by rw [HM.out]; exact hlt)
          obtain ⟨bv, rfl, hbv1, hbv2, hrow⟩ := HNS.out.2.2 (by rw [HM.out]; omega)
          obtain ⟨v, hcell, hnv⟩ := hrow.elem hd
          rw [Nat.zero_add] at hcell
          obtain ⟨gv, rfl, hgl, hcv⟩ := HV2.out (by omega)
          have kv := ((HB13.out.trans (hbw.mono HB13.out.size)).cell (p := ⟨gv, j, none⟩) hgl).trans (hcv j hlt)
          have kw := (hbw.cell (p := ⟨bv, j, none⟩) hbv2).trans hcell
          have kb := hbx.cell 0
          simp only [List.getElem?_toArray, List.getElem?_cons_zero] at kb
          have hmem := getD_mem (ns := vs) (j := j) (by rw [HVN.out]; exact hlt)
          have hrange : 0 ≤ vs.getD j 0 ∧ vs.getD j 0 ≤ 25 := by
            have h1 := hmem
            rw [← HVSE.out] at h1
            have h2 := qv_range HGV.out h1
            rw [HVSE.out] at h2
            exact h2
          have hnone : lkS st (vs.getD j 0) = none := by
            cases h : lkS st (vs.getD j 0) with
            | none => rfl
            | some m => exact absurd (hin _ (by rw [h]; rfl)) (nd_take HND2.out (by rw [HVN.out]; exact hlt))
          have hor2 := st_put (HVN.out.trans HM.out.symm) hd hor hnone
          have hin2 : ∀ x, (lkS ((vs.getD j 0, ⟨kk, nn, s', kids⟩) :: st) x).isSome = true → x ∈ vs.take (j + 1) := fun x hx => by
            rw [take_snoc (by rw [HVN.out]; exact hlt)]
            by_cases e : x = vs.getD j 0
            · subst e; simp
            · rw [lkS_other _ _ _ _ e] at hx
              exact List.mem_append_left _ (hin x hx)
          have hval : validT kk nn s' kids = true := allB_elem g j hd HAB.out
          have hkey : keyOf Tryd.prog 93 (.int .i64 (vs.getD j 0)) = some (.int .i64 (vs.getD j 0)) := keyOf_int_mk Tryd.underlying93 (WalkArith.wf_i64 (by omega))
          obtain ⟨D, hD, hI, hH, hX⟩ := hmp
          generalize vs.getD j 0 = n0 at *
          obtain ⟨w5, hrun, hown5, hgr5⟩ := (World.ownsMap.drew hD).update (t := 92) lawN Tryd.underlying92 (by unfold maxLen; omega) (val := v) hkey (d := .held v) (ps := []) rfl
          have hmp5 : MpS w5 (w2.heap.size + 1) w3.heap.size w3.heap.size ((n0, ⟨kk, nn, s', kids⟩) :: st) := MpS.put (w := wr.drew) hI hH (fun n m hm => by
            obtain ⟨a, u, b, c⟩ := hX n m hm
            exact ⟨a, u, b, c.keep (fun _ _ _ => rfl) (Nat.le_refl _) (Nat.le_refl _)⟩) (Nat.le_refl _) hbw.size hown5 hgr5 (validT_fits hval).1 (hnv.keep (fun p hl hp => hbw.cell hp) (by omega) (Nat.le_refl _))
          have hbw5 : Below w3.heap.size w3 w5 := hbw.drew.grown hgr5 hbw.size fun k hk => by simp at hk; omega
          have hbx5 : Blk w5 (w3.heap.size + 1) 92 #[.map (some w3.heap.size)] := (hbx.keep (w' := wr.drew) rfl).keep (hgr5.block _ hbx.lt (by simp))
          have kb5 := hbx5.cell 0
          simp only [List.getElem?_toArray, List.getElem?_cons_zero] at kb5
          have kw5 := (hbw5.cell (p := ⟨bv, j, none⟩) hbv2).trans hcell
          have HF : Hid (((n0, (⟨kk, nn, s', kids⟩ : Nd)) :: st).length = j + 1 ∧ (∀ x, (lkS ((n0, ⟨kk, nn, s', kids⟩) :: st) x).or (fdB (vs.drop (j + 1)) (g.drop (j + 1)) x) = fdB vs g x) ∧ (∀ x, (lkS ((n0, ⟨kk, nn, s', kids⟩) :: st) x).isSome = true → x ∈ vs.take (j + 1)) ∧ MpS w5 (w2.heap.size + 1) w3.heap.size w3.heap.size ((n0, ⟨kk, nn, s', kids⟩) :: st) ∧ Below w3.heap.size w3 w5 ∧ Blk w5 (w3.heap.size + 1) 92 #[.map (some w3.heap.size)]) := Lib.hid ⟨by rw [List.length_cons, hsl], hor2, hin2, hmp5, hbw5, hbx5⟩
          have ij0 : (0 : Int) ≤ (j : Int) := Int.natCast_nonneg _
          have ij1 : (j : Int) < (vn : Int) := by omega
          obtain ⟨T3, z3, rfl⟩ := hnv.iface
          clear hcell hnv hrow hcv hmem hrange hnone hor2 hin2 hval hkey hD hI hH hX hown5 hgr5 hmp5 hbw5 hbx5 hor hin hbw hbx hd
          go_wp2_with fail
          go_region_held3 (fun x => x.cell? ⟨w3.heap.size + 1, 0, none⟩ = some (.map (some w3.heap.size)) ∧ x.cell? ⟨bv, j, none⟩ = some (.iface T3 z3))
            (first | exact ⟨kb, kw⟩ | exact ⟨kb5, kw5⟩ | go_keep)
            (fail)
          go_wp2_with fail
          go_roundw
          case rel => exact ⟨j + 1, _, by omega, by go_num, HF.out⟩
          case measure => simp [intOf]; omega
        · obtain rfl : j = vn := by omega
          have hF : ∀ x, lkS st x = fdB vs g x := fun x => by
            have h1 := hor x
            rw [show vs.drop j = [] by rw [← HVN.out]; exact List.drop_length, show g.drop j = .nil by have h2 := Fr.drop_len g; rwa [HM.out] at h2] at h1
            rw [← h1]
            simp [fdB]
          have hbw2 : Below w2.heap.size w2 wr := HB13.out.trans (hbw.mono HB13.out.size)
          have hww : Below w.heap.size w wr := HB3.out.trans (hbw.mono HB3.out.size)
          have c0 := (hbw.cell (p := ⟨w2.heap.size, 0, none⟩) (by show w2.heap.size < _; omega)).trans b0
          have HFF := Lib.hid hF
          have HMP := Lib.hid hmp
          have HBX := Lib.hid hbx
          have HBW2 := Lib.hid hbw2
          have HWW := Lib.hid hww
          have hsw := hbw.size
          have hsx := hbx.lt
          have hst := fun w1 base xs => Part.start (w := wr) (w1 := w1) (f := apF vs g f) (base := base) (xs := xs)
          have hlen : (apF vs g f).len = len := by rw [apF_len]; exact HN.out
          rw [hlen] at hst
          have HST3 := Lib.hid hst
          have HLN := Lib.hid hlen
          clear hor hin hmp hbw hbx hF hbw2 hww hst HST hlen b0 b1 hsl
          obtain ⟨i0, hi0, hz0, hz1, hz2⟩ := info_parts infoT
          generalize wr = wq at *
          go_wp2_with (at_make; go_must (refine wpList_make_full _ rfl _ _ 29 rfl wq.heap.size 31 i0 _ 4 Tryd.underlying29 hi0 hz0 hz1 .i64 .i64 _ _ len rfl rfl rfl rfl (by rw [hz2]; omega) (by unfold maxLen; omega) (Nat.le_refl _) ?_); intro w6 hown hgrow; have HPT := Lib.hid (HST3.out _ _ _ hown hgrow); have c6 := (HPT.out.below.cell (p := ⟨w2.heap.size, 0, none⟩) (by show w2.heap.size < _; omega)).trans c0; clear hown hgrow)
          clear HST3 hi0 hz0 hz1 hz2 c0
          go_loopw [53] (fun i wr => ∃ (k : Nat), k ≤ len ∧ i = .int .i64 k ∧ agV vs g (f.drop k) = agV vs g f ∧ Part wq (apF vs g f) wq.heap.size k wr) (fun i _ => len - (intOf i).toNat)
          case atStart => exact ⟨0, Nat.zero_le _, rfl, rfl, HPT.out⟩
          case round =>
            obtain ⟨k, hk, rfl, hav, hpart⟩ := hrel
            have HPR := Lib.hid hpart
            clear hpart
            by_cases hlt : k < len
            · obtain ⟨kk, nn, s', kids, hd⟩ := Fr.drop_cons k f (by rw [HN.out]; exact hlt)
              obtain ⟨gb, rfl, hgb1, hgb2, hrow⟩ := HGL.out.2.2 (by rw [HN.out]; omega)
              obtain ⟨gv, A5, cp5, hcell, hgi, hnd⟩ := hrow.elem hd
              rw [Nat.zero_add] at hcell
              have hbw := HPR.out.below
              have hb2r : Below w2.heap.size w2 wr := HBW2.out.trans (hbw.mono HBW2.out.size)
              have k3 := (hb2r.cell (p := ⟨gb, k, none⟩) (by show gb < _; omega)).trans hcell
              have hgo := allG_elem f k hd (goals_all HGV.out)
              obtain ⟨rfl, hsh, hfm⟩ := GIs.node (w := w2) (lo := w.heap.size + 1) (hi := hi3) hgo hgi hnd
              have hvt : validT 3 nn s' kids = true := by
                unfold goalV at hgo
                rw [Bool.and_eq_true] at hgo
                exact hgo.1
              have HNX : Hid (∀ wx, Below wr.heap.size wr wx → NdS wx (w.heap.size + 1) hi3 kids A5 cp5) := Lib.hid fun wx hb => hnd.keep (fun p _ hp => (hb.cell (by have := hb2r.size; omega)).trans (hb2r.cell (by omega))) (Nat.le_refl _) (Nat.le_refl _)
              have hnk : nodes kids ≤ 119 := by have := (validT_fits hvt).2.2; omega
              have hvp : ∀ y, occN ⟨3, nn, s', kids⟩ y → (fdB vs g y).isSome = true := fun y hy => fdB_some vs g (HVN.out.trans HM.out.symm) (by
                rw [← HVSE.out]
                exact (varsF_iff f [] y).2 (.inr (occ_row f k hd hy)))
              have HRV : Hid (∀ wx v, Below wr.heap.size wr wx → NdV wx (w.heap.size + 1) hi3 3 nn s' kids v → Calls Tryd.prog 46 #[v, .func (.func 47) #[] #[.pointer (some ⟨w3.heap.size + 1, 0, none⟩)]] wx fun e w' => ∃ T x, e = .returned (.iface T x) ∧ Below wx.heap.size wx w' ∧ NdV w' 0 w'.heap.size (apT vs g 3 nn s' kids).k (apT vs g 3 nn s' kids).n (apT vs g 3 nn s' kids).s (apT vs g 3 nn s' kids).f (.iface T x)) := Lib.hid fun wx v hb hv => by
                have hbq : Below wq.heap.size wq wx := hbw.trans (hb.mono hbw.size)
                have hbx := HBX.out.below hbq HBX.out.lt
                have h1 := rvT_any ag_ef (ag_rep vs g w3.heap.size (w3.heap.size + 1) (w2.heap.size + 1) st HFF.out (by omega) (Nat.lt_succ_self _)) s' kids 3 nn 30 v (w.heap.size + 1) hi3 () [] [] wx hsh hvp hv (by have := hb2r.size; have := hb.size; omega) (fun x hx => nomatch hx) ⟨rfl, rfl, hbx.cell 0, HMP.out.below hbq (by omega)⟩ (by have := hbq.size; omega) (by show 0 + nodes kids ≤ 2097152; omega)
                refine h1.mono ?_
                rintro e w' ⟨Q', G', v', rfl, _, hw, _, _, _, hv'⟩
                have hv2 : NdV w' 0 w'.heap.size (apT vs g 3 nn s' kids).k (apT vs g 3 nn s' kids).n (apT vs g 3 nn s' kids).s (apT vs g 3 nn s' kids).f v' := hv'.range fun x hx => ⟨Nat.zero_le _, hx.2.1⟩
                obtain ⟨T, x, rfl⟩ := hv2.iface
                exact ⟨T, x, rfl, hw.below (Nat.le_refl _) (fun x hx => nomatch hx), hv2⟩
              have hwf := wf_ap (ns := vs) HAB.out hsh
              have hn2 := apT_nodes (ns := vs) HAB.out hsh
              have HVT : Hid (∀ w1 v, NdV w1 0 w1.heap.size (apT vs g 3 nn s' kids).k (apT vs g 3 nn s' kids).n (apT vs g 3 nn s' kids).s (apT vs g 3 nn s' kids).f v → Calls Tryd.prog 39 #[v] w1 fun e w' => TbRes w1 (vtF (apT vs g 3 nn s' kids)) (vtB (apT vs g 3 nn s' kids)) e w') := Lib.hid fun w1 v hv => vt_any (apT vs g 3 nn s' kids) v 0 w1.heap.size w1 hwf.1 hwf.2 hv (Nat.le_refl _) (by omega)
              have hav2 := hav
              rw [hd, agV_cons] at hav2
              have hdap : (apF vs g f).drop k = .cons (apT vs g 3 nn s' kids).k (apT vs g 3 nn s' kids).n (apT vs g 3 nn s' kids).s (apT vs g 3 nn s' kids).f (apF vs g (f.drop (k + 1))) := by rw [apF_drop, hd, apF_cons]
              have hft := apT_fits (ns := vs) HAB.out hsh
              have HSTEP := Lib.hid (fun A cap w2 hm => HPR.out.step (A := A) (cap := cap) (w2 := w2) hdap (by rw [HLN.out]; exact hlt) hft hm)
              have HCL := Lib.hid (fun w2 hb j hj => HPR.out.cells (w2 := w2) (by rw [HLN.out]; exact hlt) hb j hj)
              have NOG : Hid (vtB (apT vs g 3 nn s' kids) = false → ∀ w', Below w.heap.size w w' → AgRes w f g (.returned (.tuple #[.slice none 0 0, .bool false])) w') := Lib.hid fun h w' hb => ag_no (ag_bad4 (by rw [HVSE.out, ← hav2, h]; rfl)) hb
              have YES : Hid (vtB (apT vs g 3 nn s' kids) = true → vtF (apT vs g 3 nn s' kids) = apT vs g 3 nn s' kids ∧ agV vs g (f.drop (k + 1)) = agV vs g f) := Lib.hid fun h => ⟨by unfold vtF; rw [if_pos h], by rw [← hav2, h]; rfl⟩
              have HBR : Hid (Below w.heap.size w wr) := Lib.hid (HWW.out.trans (hbw.mono HWW.out.size))
              have hsq := HWW.out.size
              have hsr := hbw.size
              clear hrow hcell hgi hnd hbw hb2r hgo hsh hvt hnk hvp hwf hn2 hav hav2 hdap hft hd
              generalize vtF (apT vs g 3 nn s' kids) = rm at *
              generalize vtB (apT vs g 3 nn s' kids) = rok at *
              generalize apT vs g 3 nn s' kids = m at *
              rcases hfm with ⟨rfl, rfl, rfl⟩ | rfl | rfl
              · go_wp2_with fail
                refine (formC_any _).mono ?_
                rintro e w5 ⟨rfl, hb5⟩
                have C1 := HRV.out w5 _ hb5 (nd_cut w5 _ _ _)
                have H5 := Lib.hid C1
                have HB5 := Lib.hid hb5
                clear C1 hb5 k3
                go_wp2_with fail
                refine H5.out.mono ?_
                rintro e w6 ⟨T, x, rfl, hb6, hv6⟩
                have H6 := Lib.hid (HVT.out w6 _ hv6)
                have HB6 := Lib.hid (HB5.out.trans (hb6.mono HB5.out.size))
                clear hv6 hb6
                go_wp2_with fail
                refine H6.out.mono ?_
                rintro e w7 ⟨A7, c7, rfl, hm7⟩
                have hb7 : Below wr.heap.size wr w7 := HB6.out.trans ((made_below hm7).mono HB6.out.size)
                obtain ⟨⟨v0, d0⟩, f0⟩ := HCL.out w7 hb7 0 (by omega)
                obtain ⟨⟨v1, d1⟩, f1⟩ := HCL.out w7 hb7 1 (by omega)
                obtain ⟨⟨v2, d2⟩, f2⟩ := HCL.out w7 hb7 2 (by omega)
                obtain ⟨⟨v3, d3⟩, f3⟩ := HCL.out w7 hb7 3 (by omega)
                rw [Nat.add_zero] at d0 f0
                have ij0 : (0 : Int) ≤ (k : Int) := Int.natCast_nonneg _
                have ij1 : (k : Int) < (len : Int) := by omega
                have HM7 := Lib.hid hm7
                cases rok
                · have HR := Lib.hid (fun w' hb => NOG.out rfl w' hb)
                  have HBF : Hid (∀ a b c d, Below w.heap.size w ((((w7.setCell ⟨wq.heap.size, k * 4, none⟩ a).setCell ⟨wq.heap.size, k * 4 + 1, none⟩ b).setCell ⟨wq.heap.size, k * 4 + 2, none⟩ c).setCell ⟨wq.heap.size, k * 4 + 3, none⟩ d)) := Lib.hid fun a b c d => (((((HBR.out.trans (hb7.mono HBR.out.size))).setCell hsq _).setCell hsq _).setCell hsq _).setCell hsq _
                  clear hm7 hb7 H5 H6
                  go_wp2_with fail
                  go_ret2
                  exact HR.out _ (HBF.out _ _ _ _)
                · obtain ⟨rfl, hav⟩ := YES.out rfl
                  have hm8 : Made wr rm.f A7 c7 w7 := by
                    obtain ⟨L, h1, h2, h3, h4⟩ := HM7.out
                    exact ⟨L, h1, h2, fun x hx => ⟨Nat.le_trans HB6.out.size (h3 x hx).1, (h3 x hx).2⟩, hb7⟩
                  have HS := Lib.hid (HSTEP.out A7 c7 w7 hm8)
                  have HAV := Lib.hid hav
                  clear hm7 hb7 hm8 H5 H6 hav
                  go_wp2_with fail
                  go_roundw
                  case rel => exact ⟨k + 1, by omega, by go_num, HAV.out, HS.out⟩
                  case measure => simp [intOf]; omega
              · go_wp2_with fail
                refine (formB_any _ _ _ _ _).mono ?_
                rintro e w5 ⟨rfl, hb5⟩
                have C1 := HRV.out w5 _ hb5 (nd_form (HNX.out w5 hb5))
                have H5 := Lib.hid C1
                have HB5 := Lib.hid hb5
                clear C1 hb5 k3
                go_wp2_with fail
                refine H5.out.mono ?_
                rintro e w6 ⟨T, x, rfl, hb6, hv6⟩
                have H6 := Lib.hid (HVT.out w6 _ hv6)
                have HB6 := Lib.hid (HB5.out.trans (hb6.mono HB5.out.size))
                clear hv6 hb6
                go_wp2_with fail
                refine H6.out.mono ?_
                rintro e w7 ⟨A7, c7, rfl, hm7⟩
                have hb7 : Below wr.heap.size wr w7 := HB6.out.trans ((made_below hm7).mono HB6.out.size)
                obtain ⟨⟨v0, d0⟩, f0⟩ := HCL.out w7 hb7 0 (by omega)
                obtain ⟨⟨v1, d1⟩, f1⟩ := HCL.out w7 hb7 1 (by omega)
                obtain ⟨⟨v2, d2⟩, f2⟩ := HCL.out w7 hb7 2 (by omega)
                obtain ⟨⟨v3, d3⟩, f3⟩ := HCL.out w7 hb7 3 (by omega)
                rw [Nat.add_zero] at d0 f0
                have ij0 : (0 : Int) ≤ (k : Int) := Int.natCast_nonneg _
                have ij1 : (k : Int) < (len : Int) := by omega
                have HM7 := Lib.hid hm7
                cases rok
                · have HR := Lib.hid (fun w' hb => NOG.out rfl w' hb)
                  have HBF : Hid (∀ a b c d, Below w.heap.size w ((((w7.setCell ⟨wq.heap.size, k * 4, none⟩ a).setCell ⟨wq.heap.size, k * 4 + 1, none⟩ b).setCell ⟨wq.heap.size, k * 4 + 2, none⟩ c).setCell ⟨wq.heap.size, k * 4 + 3, none⟩ d)) := Lib.hid fun a b c d => (((((HBR.out.trans (hb7.mono HBR.out.size))).setCell hsq _).setCell hsq _).setCell hsq _).setCell hsq _
                  clear hm7 hb7 H5 H6
                  go_wp2_with fail
                  go_ret2
                  exact HR.out _ (HBF.out _ _ _ _)
                · obtain ⟨rfl, hav⟩ := YES.out rfl
                  have hm8 : Made wr rm.f A7 c7 w7 := by
                    obtain ⟨L, h1, h2, h3, h4⟩ := HM7.out
                    exact ⟨L, h1, h2, fun x hx => ⟨Nat.le_trans HB6.out.size (h3 x hx).1, (h3 x hx).2⟩, hb7⟩
                  have HS := Lib.hid (HSTEP.out A7 c7 w7 hm8)
                  have HAV := Lib.hid hav
                  clear hm7 hb7 hm8 H5 H6 hav
                  go_wp2_with fail
                  go_roundw
                  case rel => exact ⟨k + 1, by omega, by go_num, HAV.out, HS.out⟩
                  case measure => simp [intOf]; omega
              · go_wp2_with fail
                refine (formP_any _ _ _ _ _).mono ?_
                rintro e w5 ⟨rfl, hb5⟩
                have C1 := HRV.out w5 _ hb5 (nd_form (HNX.out w5 hb5))
                have H5 := Lib.hid C1
                have HB5 := Lib.hid hb5
                clear C1 hb5 k3
                go_wp2_with fail
                refine H5.out.mono ?_
                rintro e w6 ⟨T, x, rfl, hb6, hv6⟩
                have H6 := Lib.hid (HVT.out w6 _ hv6)
                have HB6 := Lib.hid (HB5.out.trans (hb6.mono HB5.out.size))
                clear hv6 hb6
                go_wp2_with fail
                refine H6.out.mono ?_
                rintro e w7 ⟨A7, c7, rfl, hm7⟩
                have hb7 : Below wr.heap.size wr w7 := HB6.out.trans ((made_below hm7).mono HB6.out.size)
                obtain ⟨⟨v0, d0⟩, f0⟩ := HCL.out w7 hb7 0 (by omega)
                obtain ⟨⟨v1, d1⟩, f1⟩ := HCL.out w7 hb7 1 (by omega)
                obtain ⟨⟨v2, d2⟩, f2⟩ := HCL.out w7 hb7 2 (by omega)
                obtain ⟨⟨v3, d3⟩, f3⟩ := HCL.out w7 hb7 3 (by omega)
                rw [Nat.add_zero] at d0 f0
                have ij0 : (0 : Int) ≤ (k : Int) := Int.natCast_nonneg _
                have ij1 : (k : Int) < (len : Int) := by omega
                have HM7 := Lib.hid hm7
                cases rok
                · have HR := Lib.hid (fun w' hb => NOG.out rfl w' hb)
                  have HBF : Hid (∀ a b c d, Below w.heap.size w ((((w7.setCell ⟨wq.heap.size, k * 4, none⟩ a).setCell ⟨wq.heap.size, k * 4 + 1, none⟩ b).setCell ⟨wq.heap.size, k * 4 + 2, none⟩ c).setCell ⟨wq.heap.size, k * 4 + 3, none⟩ d)) := Lib.hid fun a b c d => (((((HBR.out.trans (hb7.mono HBR.out.size))).setCell hsq _).setCell hsq _).setCell hsq _).setCell hsq _
                  clear hm7 hb7 H5 H6
                  go_wp2_with fail
                  go_ret2
                  exact HR.out _ (HBF.out _ _ _ _)
                · obtain ⟨rfl, hav⟩ := YES.out rfl
                  have hm8 : Made wr rm.f A7 c7 w7 := by
                    obtain ⟨L, h1, h2, h3, h4⟩ := HM7.out
                    exact ⟨L, h1, h2, fun x hx => ⟨Nat.le_trans HB6.out.size (h3 x hx).1, (h3 x hx).2⟩, hb7⟩
                  have HS := Lib.hid (HSTEP.out A7 c7 w7 hm8)
                  have HAV := Lib.hid hav
                  clear hm7 hb7 hm8 H5 H6 hav
                  go_wp2_with fail
                  go_roundw
                  case rel => exact ⟨k + 1, by omega, by go_num, HAV.out, HS.out⟩
                  case measure => simp [intOf]; omega
            · obtain rfl : k = len := by omega
              have hag : agB f g = true := ag_good HGV.out (by rw [HVSE.out, HVN.out, HM.out]) HAB.out (by
                rw [HVSE.out, ← hav]
                have h2 := Fr.drop_len f
                rw [HN.out] at h2
                rw [h2]; rfl)
              have har : agR f g = apF vs g f := by rw [ag_yes hag, HVSE.out]
              have hpp := HPR.out
              rw [← HLN.out] at hpp
              obtain ⟨L, h1, h2, h3, h4⟩ := hpp.done (by rw [HLN.out]; unfold maxLen; omega)
              have HF : Hid (AgRes w f g (.returned (.tuple #[.slice (some ⟨wq.heap.size, 0, none⟩) k k, .bool true])) wr) := Lib.hid (by
                unfold AgRes
                rw [har, hag, HLN.out]
                refine ⟨_, k, rfl, L, ?_, h2, fun x hx => ⟨Nat.le_trans HWW.out.size (h3 x hx).1, (h3 x hx).2⟩, HWW.out.trans (h4.mono HWW.out.size)⟩
                have := h1
                rwa [HLN.out] at this)
              clear hav hag har hpp h1 h2 h3 h4
              go_wp2_with fail
              go_ret2
              exact HF.out
end Go.Proofs.YtnkaafimnkigpaaDoor

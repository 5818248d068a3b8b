/- spec.AnswerGoals. Condition: the query and the answer's values lie in memory. -/
import Derived.Test.YtnkaafimnkigpaaDoorProg
import Derived.Test.YtnkaafimnkigpaaDoorZmAG44
import Derived.Test.YtnkaafimnkigpaaDoorZmAG45
import Derived.Deep.AppendLies
import Derived.Deep.RegionHeld3
namespace Go.Proofs.YtnkaafimnkigpaaDoor
open Go.RowKit

theorem infoBg : (Tryd.prog.info? 60).map (fun i => (i.zero, i.size, i.bytes)) = some (some (.agg #[.int .i64 0, .int .i64 0, .int .i64 0, .string ByteArray.empty, .slice none 0 0]), 5, 64) := by kernel_rfl
/-- All variables of a valid query are numbers of i64. -/
theorem addV_ini {acc : List Int} {n : Int} (h : ∀ x ∈ acc, InI x) (hn : InI n) : ∀ x ∈ addV acc n, InI x := by
  unfold addV
  split
  · exact h
  · intro x hx
    rcases List.mem_append.1 hx with hx | hx
    · exact h x hx
    · simp at hx; subst hx; exact hn

set_option maxRecDepth 100000 in
set_option maxHeartbeats 8000000 in
/-- spec.AnswerGoals. -/
theorem specAg_any (f g : Fr) (A B : Option Addr) (cap capB lo hi lo2 hi2 : Nat) (w : World) (hk : KidsAt w lo hi f A cap) (hh : hi ≤ w.heap.size) (hnd : nodes f ≤ 1048576) (hk2 : KidsAt w lo2 hi2 g B capB) (hh2 : hi2 ≤ w.heap.size) (hng : nodes g ≤ 1048576) :
    Calls Tryd.prog 20 #[.slice A f.len cap, .agg #[.slice B g.len capB]] w fun e w' => AgRes w f g e w' := by
  have hb0 : Below w.heap.size w (w.alloc (.cells #[.slice B g.len capB] 48)) := (Below.refl _ _).alloc (Nat.le_refl _) _
  have hq0 := Blk.new w 48 #[.slice B g.len capB]
  have C1 := specQVars_any f A cap lo hi _ (hk.below hb0 hh) (Nat.le_trans hh hb0.size) hnd
  have C2 := fun w1 (hb : Below w.heap.size w w1) => specQV_any f A cap lo hi w1 (hk.below hb hh) (Nat.le_trans hh hb.size) hnd
  have hqv : goalsV f = true → qvF f = varsF [] f := fun h => by unfold qvF; rw [if_pos h]
  have hl : f.len ≤ 1048576 := by have := len_le_nodes f; omega
  have hlg : g.len ≤ 1048576 := by have := len_le_nodes g; omega
  have e0 : (w.alloc (.cells #[.slice B g.len capB] 48)).heap.size = w.heap.size + 1 := by simp
  have H1 := Lib.hid C1
  have H2 := Lib.hid C2
  have HQV := Lib.hid hqv
  have HB0 := Lib.hid hb0
  have HQ0 := Lib.hid hq0
  have HE0 := Lib.hid e0
  have HK := Lib.hid hk
  have HHI := Lib.hid hh
  have HND := Lib.hid hnd
  have HK2 := Lib.hid hk2
  have HH2 := Lib.hid hh2
  have HNG := Lib.hid hng
  clear C1 C2 hqv hk hh hnd hk2 hh2 hng hb0 hq0 e0
  generalize hn : f.len = len at *
  generalize hm : g.len = lem at *
  have HN := Lib.hid hn
  have HM := Lib.hid hm
  clear hn hm
  cases hgv : goalsV f
  · rw [hgv] at H2
    have HRN : Hid (∀ w', Below w.heap.size w w' → AgRes w f g (.returned (.tuple #[.slice (some ⟨w'.heap.size, 0, none⟩) 0 0, .bool false])) (w'.alloc (.cells #[] 31))) := Lib.hid fun w' hb => ag_no2 (ag_bad1 (g := g) hgv) hb
    generalize qvF f = vs at *
    generalize hvn : vs.length = vn at *
    have HVN := Lib.hid hvn
    clear hvn hgv HQV
    go_enter Tryd.func20, Tryd.ntmps20
    go_wp2_with fail
    refine H1.out.mono ?_
    rintro e w2 ⟨v, rfl, ho, hb⟩
    obtain ⟨Av, capV, rfl, hvc, hvm, hvr⟩ := ho.read
    rw [HE0.out] at hb ho
    have hb2 : Below w.heap.size w w2 := HB0.out.trans (hb.mono (by omega))
    have hq2 := HQ0.out.below (by rw [HE0.out]; exact hb) HQ0.out.lt
    have HB2 := Lib.hid hb2
    have HV2 := Lib.hid hvr
    have HQ2 := Lib.hid hq2
    clear hb ho hvr hb2 hq2 H1
    rw [HVN.out] at hvc HV2
    rw [HVN.out]
    go_wp2_with fail
    refine (H2.out w2 HB2.out).mono ?_
    rintro e w3 ⟨rfl, hb⟩
    have hb3 : Below w.heap.size w w3 := HB2.out.trans (hb.mono HB2.out.size)
    have hq3 := HQ2.out.below hb HQ2.out.lt
    have hqs := hq3.lt
    have a0 := hq3.cell 0
    simp only [List.getElem?_toArray, List.getElem?_cons_zero] at a0
    have HB3 := Lib.hid hb3
    have HQ3 := Lib.hid hq3
    have HV3 : Hid (0 < vn → ∃ gv, Av = some ⟨gv, 0, none⟩ ∧ gv < w3.heap.size ∧ ∀ j, j < vn → w3.cell? ⟨gv, j, none⟩ = some (.int .i64 (vs.getD j 0))) := Lib.hid fun hp => by
      obtain ⟨gv, e, _, hc⟩ := HV2.out hp
      have c0 := (hc 0 hp).1
      have hlt := World.block_lt_of_cell? w2 _ c0
      exact ⟨gv, e, Nat.lt_of_lt_of_le hlt hb.size, fun j hj => (hb.cell (p := ⟨gv, j, none⟩) hlt).trans (hc j hj).1⟩
    clear hb hb3 hq3 HV2 HQ2 H2
    go_wp2_with fail
    go_ret2
    exact HRN.out _ HB3.out
  · rw [hgv] at H2
    rw [HQV.out hgv] at H1
    have HGV := Lib.hid hgv
    have hvl : (varsF [] f).length ≤ 1048576 := by have h1 := varsF_len f []; have h2 := HND.out; simp only [List.length_nil] at h1; omega
    generalize hvs : varsF [] f = vs at *
    have HVSE := Lib.hid hvs
    generalize hvn : vs.length = vn at *
    have HVN := Lib.hid hvn
    clear hvn hgv HQV hvs
    go_enter Tryd.func20, Tryd.ntmps20
    go_wp2_with fail
    refine H1.out.mono ?_
    rintro e w2 ⟨v, rfl, ho, hb⟩
    obtain ⟨Av, capV, rfl, hvc, hvm, hvr⟩ := ho.read
    rw [HE0.out] at hb ho
    have hb2 : Below w.heap.size w w2 := HB0.out.trans (hb.mono (by omega))
    have hq2 := HQ0.out.below (by rw [HE0.out]; exact hb) HQ0.out.lt
    have HB2 := Lib.hid hb2
    have HV2 := Lib.hid hvr
    have HQ2 := Lib.hid hq2
    clear hb ho hvr hb2 hq2 H1
    rw [HVN.out] at hvc HV2
    rw [HVN.out]
    go_wp2_with fail
    refine (H2.out w2 HB2.out).mono ?_
    rintro e w3 ⟨rfl, hb⟩
    have hb3 : Below w.heap.size w w3 := HB2.out.trans (hb.mono HB2.out.size)
    have hq3 := HQ2.out.below hb HQ2.out.lt
    have hqs := hq3.lt
    have a0 := hq3.cell 0
    simp only [List.getElem?_toArray, List.getElem?_cons_zero] at a0
    have HB3 := Lib.hid hb3
    have HQ3 := Lib.hid hq3
    have HV3 : Hid (0 < vn → ∃ gv, Av = some ⟨gv, 0, none⟩ ∧ gv < w3.heap.size ∧ ∀ j, j < vn → w3.cell? ⟨gv, j, none⟩ = some (.int .i64 (vs.getD j 0))) := Lib.hid fun hp => by
      obtain ⟨gv, e, _, hc⟩ := HV2.out hp
      have c0 := (hc 0 hp).1
      have hlt := World.block_lt_of_cell? w2 _ c0
      exact ⟨gv, e, Nat.lt_of_lt_of_le hlt hb.size, fun j hj => (hb.cell (p := ⟨gv, j, none⟩) hlt).trans (hc j hj).1⟩
    clear hb hb3 hq3 HV2 HQ2 H2
    by_cases hne : vn = lem
    case neg =>
      have HR := Lib.hid (ag_no2 (f := f) (g := g) (ag_bad2 (by rw [HVSE.out, HVN.out, HM.out]; exact hne)) HB3.out)
      have t0 : ((vn : Int) == (lem : Int)) = false := by rw [beq_eq_false_iff_ne]; omega
      have t1 : ((vn : Int) != (lem : Int)) = true := by rw [bne_iff_ne]; omega
      go_wp2_with fail
      go_ret2
      exact HR.out
    case pos =>
      subst hne
      have t0 : ((vn : Int) == (vn : Int)) = true := by simp
      have t1 : ((vn : Int) != (vn : Int)) = false := by simp
      have hst : RowO w w3.heap.size (.slice (some ⟨w3.heap.size, 0, none⟩) 0 0) (vs.take 0) (g.take 0) (w3.alloc (.cells #[] 60)) ∧ Below w3.heap.size w3 (w3.alloc (.cells #[] 60)) := ⟨by
        rw [show g.take 0 = .nil by cases g <;> rfl]
        exact RowO.empty (Nat.le_refl _), (Below.refl _ _).alloc (Nat.le_refl _) _⟩
      have HST := Lib.hid hst
      clear hst
      obtain ⟨i0, hi0, hz0, hz1, hz2⟩ := info_parts infoBg
      go_wp2_with fail
      go_loopw [7, 8] (fun u i wr => ∃ (j : Nat) (bo : Value), j ≤ vn ∧ i = .int .i64 j ∧ bo = u ∧ RowO w w3.heap.size bo (vs.take j) (g.take j) wr ∧ Below w3.heap.size w3 wr) (fun _ i _ => vn - (intOf i).toNat)
      case atStart => exact ⟨0, _, Nat.zero_le _, rfl, rfl, HST.out⟩
      case round =>
        obtain ⟨j, bo, hj, rfl, rfl, hrw, hbw⟩ := hrel
        by_cases hlt : j < vn
        · obtain ⟨kk, nn, s', kids, hd⟩ := Fr.drop_cons j g (by rw [HM.out]; exact hlt)
          obtain ⟨b, o, rfl, hlb, hbb, hrow⟩ := HK2.out.2.2 (by rw [HM.out]; omega)
          obtain ⟨hfit, A', cp, c0, c1, c2, c3, hkid⟩ := hrow.elem hd
          obtain ⟨gv, rfl, hgl, hcv⟩ := HV3.out (by omega)
          have hwr : Below w.heap.size w wr := HB3.out.trans (hbw.mono HB3.out.size)
          have hlo : (⟨b, o, none⟩ : Addr).block < w.heap.size := Nat.lt_of_lt_of_le hbb HH2.out
          have k0 := (hwr.cell (p := ⟨b, o + j * 4, none⟩) hlo).trans c0
          have k1 := (hwr.cell (p := ⟨b, o + j * 4 + 1, none⟩) hlo).trans c1
          have k2 := (hwr.cell (p := ⟨b, o + j * 4 + 2, none⟩) hlo).trans c2
          have k3 := (hwr.cell (p := ⟨b, o + j * 4 + 3, none⟩) hlo).trans c3
          have kv := (hbw.cell (p := ⟨gv, j, none⟩) hgl).trans (hcv j hlt)
          have ka := (hbw.cell (p := ⟨w.heap.size, 0, none⟩) hqs).trans a0
          have hvi : InI (vs.getD j 0) := by
            have h1 := getD_mem (ns := vs) (j := j) (by rw [HVN.out]; exact hlt)
            rw [← HVSE.out] at h1
            have h2 := qv_range HGV.out h1
            rw [HVSE.out] at h2
            exact ⟨by omega, by omega⟩
          have hlen : (g.take j).len = j := Fr.len_take j g (by rw [HM.out]; omega)
          obtain ⟨xs, hown, hds⟩ := hrw
          rw [hlen] at hown
          have hvl := hown.lt
          have hsw := hbw.size
          have STEP := fun x w5 g9 cap9 h1 h2 h3 => RowO.step (x := x) (w5 := w5) (g9 := g9) (cap9 := cap9) hds hd (by rw [HVN.out]; exact hlt) (by rw [HM.out]; exact hlt) hvi hfit (hkid.more (Nat.zero_le _) HH2.out) h1 h2 (fun g hg => (hvl g hg).1) h3 hbw rfl
          generalize vs.getD j 0 = n0 at *
          have HSTEP := Lib.hid STEP
          have HOWN := Lib.hid hown
          have hgn : bo.ownBlock ≠ some gv := fun e => by have := (hvl _ e).1; omega
          have hgb : bo.ownBlock ≠ some b := fun e => by have := (hvl _ e).1; simp only at hlo; omega
          have hga : bo.ownBlock ≠ some w.heap.size := fun e => by have := (hvl _ e).1; omega
          have ij0 : (0 : Int) ≤ (j : Int) := Int.natCast_nonneg _
          have ij1 : (j : Int) < (vn : Int) := by omega
          have hgl2 : gv < wr.heap.size := by omega
          have hbl2 : b < wr.heap.size := by simp only at hlo; omega
          have hal2 : w.heap.size < wr.heap.size := by omega
          clear STEP hown hds hd hrow hkid hfit c0 c1 c2 c3 hcv hwr hbw hvl hlo hvi
          go_wp2_with fail
          go_region_held3 (fun x => x.cell? ⟨gv, j, none⟩ = some (.int .i64 n0) ∧ x.cell? ⟨w.heap.size, 0, none⟩ = some (.slice (some ⟨b, o, none⟩) vn capB) ∧ x.cell? ⟨b, o + j * 4, none⟩ = some (.int .i64 kk) ∧ x.cell? ⟨b, o + j * 4 + 1, none⟩ = some (.int .i64 nn) ∧ x.cell? ⟨b, o + j * 4 + 2, none⟩ = some (.string s') ∧ x.cell? ⟨b, o + j * 4 + 3, none⟩ = some (.slice A' kids.len cp))
            (first
              | exact ⟨kv, ka, k0, k1, k2, k3⟩
              | go_keep
              | (go_split_ands
                 refine ⟨?_, ?_, ?_, ?_, ?_, ?_⟩
                 · (rw [hgrow.cell_far _ (by simp; omega) (Ne.symm hgn)]; assumption)
                 · (rw [hgrow.cell_far _ (by simp; omega) (Ne.symm hga)]; assumption)
                 · (rw [hgrow.cell_far _ (by simp; omega) (Ne.symm hgb)]; assumption)
                 · (rw [hgrow.cell_far _ (by simp; omega) (Ne.symm hgb)]; assumption)
                 · (rw [hgrow.cell_far _ (by simp; omega) (Ne.symm hgb)]; assumption)
                 · (rw [hgrow.cell_far _ (by simp; omega) (Ne.symm hgb)]; assumption)))
            ((refine step_append_lies _ (by rfl) _ _ _ (by rfl) w3.heap.size 60 i0 _ 5 64 Tryd.underlying26 hi0 hz0 hz1 hz2 rfl (by omega) bo j xs (by rfl) (by first | exact ((HOWN.out.alloc _).drew) | exact ((World.ownsRow.drew HOWN.out).alloc _))
                ⟨wr.heap.size, 0, none⟩ 1 1 [.int .i64 n0, .int .i64 kk, .int .i64 nn, .string s', .slice A' kids.len cp] (by rfl) (by rfl) (World.news_of_block (cs := #[.int .i64 n0, .int .i64 kk, .int .i64 nn, .string s', .slice A' kids.len cp]) (t := 60) (fr := (0, 0)) (heap_alloc_new wr _)) (by simp [Value.oneCell'])
                (by omega) (by unfold maxLen; omega) (by omega) (by simp; omega) (wr.heap.size + 1) (by simp) ?_; intro g9 cap9 w5 hown5 hgrow hat hlt5))
          have HS := Lib.hid (HSTEP.out _ w5 g9 cap9 ((Below.refl _ _).alloc (Nat.le_refl _) _).drew hgrow hown5)
          clear HSTEP hown5 hgrow hat kv ka k0 k1 k2 k3
          go_wp2_with fail
          go_roundw
          case rel => exact ⟨j + 1, _, by omega, by go_num, rfl, HS.out⟩
          case measure => simp [intOf]; omega
        · obtain rfl : j = vn := by omega
          rw [show vs.take j = vs by rw [← HVN.out]; exact List.take_length, show g.take j = g by rw [← HM.out]; exact Fr.take_len g] at hrw
          obtain ⟨X, cx, rfl⟩ := hrw.form
          have hwr : Below w.heap.size w wr := HB3.out.trans (hbw.mono HB3.out.size)
          have hbd := hrw.bds hwr
          have hst : RowP wr.heap.size (.slice (some ⟨wr.heap.size, 0, none⟩) 0 0) ((apF vs g f).take 0) (wr.alloc (.cells #[] 31)) ∧ Below wr.heap.size wr (wr.alloc (.cells #[] 31)) := ⟨by
            rw [show (apF vs g f).take 0 = .nil by cases apF vs g f <;> rfl]
            exact RowP.empty (Nat.le_refl _), (Below.refl _ _).alloc (Nat.le_refl _) _⟩
          have HST2 := Lib.hid hst
          have HWR := Lib.hid hwr
          have HBD := Lib.hid hbd
          have hsw := hbw.size
          have hgl := HM.out
          rw [hgl]
          clear hst hwr hbd hrw hbw a0 HST
          generalize wr = wq at *
          obtain ⟨i1, hi1, hy0, hy1, hy2⟩ := info_parts infoT
          go_wp2_with fail
          go_loopw [9, 10] (fun u i wr => ∃ (j2 : Nat) (v2 : Value), j2 ≤ len ∧ i = .int .i64 j2 ∧ v2 = u ∧ (j2 = 0 ∨ allB g = true) ∧ agV vs g (f.drop j2) = agV vs g f ∧ RowP wq.heap.size v2 ((apF vs g f).take j2) wr ∧ Below wq.heap.size wq wr) (fun _ i _ => len - (intOf i).toNat)
          case atStart => exact ⟨0, _, Nat.zero_le _, rfl, rfl, .inl rfl, rfl, HST2.out⟩
          case round =>
            obtain ⟨j2, v2, hj2, rfl, rfl, hal, hav, hrp, hbx⟩ := hrel
            by_cases hlt2 : j2 < len
            · obtain ⟨kk, nn, s', kids, hd⟩ := Fr.drop_cons j2 f (by rw [HN.out]; exact hlt2)
              obtain ⟨b, o, rfl, hlb, hbb, hrow⟩ := HK.out.2.2 (by rw [HN.out]; omega)
              obtain ⟨hfit, A', cp, c0, c1, c2, c3, hkid⟩ := hrow.elem hd
              have hbw : Below w.heap.size w wr := HWR.out.trans (hbx.mono HWR.out.size)
              have hlo : (⟨b, o, none⟩ : Addr).block < w.heap.size := Nat.lt_of_lt_of_le hbb HHI.out
              have k0 := (hbw.cell (p := ⟨b, o + j2 * 4, none⟩) hlo).trans c0
              have k1 := (hbw.cell (p := ⟨b, o + j2 * 4 + 1, none⟩) hlo).trans c1
              have k2 := (hbw.cell (p := ⟨b, o + j2 * 4 + 2, none⟩) hlo).trans c2
              have k3 := (hbw.cell (p := ⟨b, o + j2 * 4 + 3, none⟩) hlo).trans c3
              have hgo := allG_elem f j2 hd (goals_all HGV.out)
              have hvt : validT kk nn s' kids = true := by
                unfold goalV at hgo
                rw [Bool.and_eq_true] at hgo
                exact hgo.1
              have hnk := nodes_drop_elem j2 f hd
              have C3 := specAp_any kk nn s' kids A' cp lo hi vs g X cx 0 wq.heap.size wr (hkid.below hbw HHI.out) (Nat.le_trans HHI.out hbw.size) hfit (by have := HND.out; omega) (HBD.out.below hbx (Nat.le_refl _)) hbx.size HNG.out
              rw [HM.out] at C3
              have hsh := (validT_fits hvt).1
              have hav2 := hav
              rw [hd, agV_cons] at hav2
              have hdap : (apF vs g f).drop j2 = .cons (apT vs g kk nn s' kids).k (apT vs g kk nn s' kids).n (apT vs g kk nn s' kids).s (apT vs g kk nn s' kids).f (apF vs g (f.drop (j2 + 1))) := by rw [apF_drop, hd, apF_cons]
              have hlen : ((apF vs g f).take j2).len = j2 := Fr.len_take j2 _ (by rw [apF_len, HN.out]; omega)
              have htk := Fr.take_succ j2 _ hdap
              obtain ⟨xs, L, hown, hD, hN, hL, hv⟩ := hrp
              have hvl := hown.lt
              have NOG : Hid (apB vs g kk nn s' kids = false → ∀ w', Below w.heap.size w w' → AgRes w f g (.returned (.tuple #[.slice (some ⟨w'.heap.size, 0, none⟩) 0 0, .bool false])) (w'.alloc (.cells #[] 31))) := Lib.hid fun h w' hb => ag_no2 (by
                by_cases ha : allB g = true
                · refine ag_bad4 ?_
                  rw [HVSE.out, ← hav2, ← (apB_good hvt ha).1, h]; rfl
                · exact ag_bad3 (by cases h2 : allB g with | true => exact absurd h2 ha | false => rfl)) hb
              have YES : Hid (apB vs g kk nn s' kids = true → allB g = true ∧ apR vs g kk nn s' kids = apT vs g kk nn s' kids ∧ agV vs g (f.drop (j2 + 1)) = agV vs g f ∧ Fits (apT vs g kk nn s' kids).k (apT vs g kk nn s' kids).n (apT vs g kk nn s' kids).s) := Lib.hid fun h => by
                have ha : allB g = true := by
                  cases h2 : allB g with
                  | true => rfl
                  | false => rw [(apB_bad (.inr h2)).1] at h; cases h
                refine ⟨ha, by unfold apR; rw [if_pos h], ?_, apT_fits ha hsh⟩
                rw [← hav2, ← (apB_good hvt ha).1, h]; rfl
              have HSTEP : Hid (∀ A2 cap2 w5 x w9 g9 cap9, Fits (apT vs g kk nn s' kids).k (apT vs g kk nn s' kids).n (apT vs g kk nn s' kids).s → Made wr (apT vs g kk nn s' kids).f A2 cap2 w5 → Below w5.heap.size w5 x → x.grownBy w9 v2.ownBlock →
                  w9.ownsRow wq.heap.size 31 4 (.slice (some ⟨g9, 0, none⟩) (j2 + 1) cap9) (j2 + 1) (xs ++ [.int .i64 (apT vs g kk nn s' kids).k, .int .i64 (apT vs g kk nn s' kids).n, .string (apT vs g kk nn s' kids).s, .slice A2 (apT vs g kk nn s' kids).f.len cap2]) → (v2.ownBlock = some g9 ∨ g9 = x.heap.size) →
                  RowP wq.heap.size (.slice (some ⟨g9, 0, none⟩) (j2 + 1) cap9) ((apF vs g f).take (j2 + 1)) w9 ∧ Below wq.heap.size wq w9) := Lib.hid fun A2 cap2 w5 x w9 g9 cap9 hft hm hb hg ho hat => by
                have hb2 := made_below hm
                have hst := RowP.step (base := wq.heap.size) hD hN hL hv (fun g hg => (hvl g hg).2) hbx.size hft hm hb hg (by rw [hlen]; exact ho) hat
                rw [hlen, ← htk] at hst
                have h3 := hbx.trans ((hb2.trans (hb.mono hb2.size)).mono hbx.size)
                exact ⟨hst, h3.grown hg h3.size fun g hg => (hvl g hg).1⟩
              rw [hlen] at hown
              have hkeep : Hid (∀ w5, Below wr.heap.size wr w5 → w5.ownsRow wq.heap.size 31 4 v2 j2 xs) := Lib.hid fun w5 hb2 =>
                hown.kept (row := none) ⟨hb2.os, hb2.tape, hb2.output, hb2.size, fun k hk _ => hb2.block k hk⟩ (by
                  cases h : v2.ownBlock with
                  | none => exact .inl rfl
                  | some g => exact .inr (by simp))
              have HBW := Lib.hid hbw
              have hwx := hbx.size
              have H3 := Lib.hid C3
              clear C3 hown hD hN hL hv hvl hbx hbw hd hrow hkid c0 c1 c2 c3 hfit hlen hav hav2 hal hdap htk hlo hgo hvt hnk hsh
              generalize apB vs g kk nn s' kids = ok at *
              generalize apR vs g kk nn s' kids = m at *
              generalize apT vs g kk nn s' kids = mt at *
              go_wp2_with fail
              refine H3.out.mono ?_
              rintro e w5 ⟨A2, c2, rfl, hm5⟩
              have hd5 := made_below hm5
              obtain ⟨x0, x1, x2, x3⟩ := cells4i (Blk.new w5 31 #[.int .i64 m.k, .int .i64 m.n, .string m.s, .slice A2 m.f.len c2])
              cases ok
              · have HR := Lib.hid (NOG.out rfl _ ((HBW.out.trans (hd5.mono HBW.out.size)).alloc (Nat.le_trans HBW.out.size hd5.size) (.cells #[.int .i64 m.k, .int .i64 m.n, .string m.s, .slice A2 m.f.len c2] 31)))
                rw [show (w5.alloc (.cells #[.int .i64 m.k, .int .i64 m.n, .string m.s, .slice A2 m.f.len c2] 31)).heap.size = w5.heap.size + 1 by simp] at HR
                clear hm5 hd5
                go_wp2_with fail
                go_ret2
                exact HR.out
              · obtain ⟨hal, rfl, hav, hft⟩ := YES.out rfl
                have HO5 := Lib.hid (hkeep.out w5 hd5)
                have HB5 := Lib.hid hd5
                have HM5 := Lib.hid hm5
                have HFT := Lib.hid hft
                have HAL := Lib.hid hal
                have HAV := Lib.hid hav
                have hs5 := hd5.size
                have HNEW := Lib.hid (heap_alloc_new (w5.alloc (.cells #[.int .i64 m.k, .int .i64 m.n, .string m.s, .slice A2 m.f.len c2] 31)) (.cells #[.int .i64 m.k, .int .i64 m.n, .string m.s, .slice A2 m.f.len c2] 31))
                rw [show (w5.alloc (.cells #[.int .i64 m.k, .int .i64 m.n, .string m.s, .slice A2 m.f.len c2] 31)).heap.size = w5.heap.size + 1 by simp] at HNEW
                clear hm5 hd5 hft hal hav NOG YES hkeep
                go_wp2_with (at_builtin; go_must (refine wpList_append_lies _ rfl _ _ _ rfl wq.heap.size 31 i1 _ 4 56 Tryd.underlying29 hi1 hy0 hy1 hy2 rfl (by omega) v2 j2 xs rfl ((HO5.out.alloc _).alloc _) ⟨w5.heap.size + 1, 0, none⟩ 1 1 [.int .i64 m.k, .int .i64 m.n, .string m.s, .slice A2 m.f.len c2] rfl rfl (World.news_of_block (cs := #[.int .i64 m.k, .int .i64 m.n, .string m.s, .slice A2 m.f.len c2]) (fr := (0, 0)) HNEW.out) (by simp [Value.oneCell']) (by omega) (by unfold maxLen; omega) (by omega) (by simp; omega) (w5.heap.size + 1 + 1) (by simp) ?_); intro g9 cap9 w9 hown9 hgrow hat hlt9; have HS := Lib.hid (HSTEP.out A2 c2 w5 _ w9 g9 cap9 HFT.out HM5.out (two_alloc w5 _ _) hgrow hown9 (by simpa using hat)); clear hown9 hgrow hat)
                go_roundw
                case rel => exact ⟨j2 + 1, _, by omega, by go_num, rfl, .inr HAL.out, HAV.out, HS.out⟩
                case measure => simp [intOf]; omega
            · obtain rfl : j2 = len := by omega
              have hdl : f.drop j2 = .nil := by
                have h1 := Fr.drop_len f
                rwa [HN.out] at h1
              have ha : allB g = true := by
                rcases hal with rfl | h
                · have hfn : f = .nil := hdl
                  have h2 := HVN.out
                  rw [← HVSE.out, hfn] at h2
                  have h3 : j = 0 := h2.symm
                  have h4 := HM.out
                  rw [h3] at h4
                  cases g with
                  | nil => rfl
                  | cons _ _ _ _ _ => simp [Fr.len] at h4
                · exact h
              have hag : agB f g = true := ag_good HGV.out (by rw [HVSE.out, HVN.out, HM.out]) ha (by rw [HVSE.out, ← hav, hdl]; rfl)
              have har : agR f g = apF vs g f := by rw [ag_yes hag, HVSE.out]
              rw [show (apF vs g f).take j2 = apF vs g f by rw [← HN.out, ← apF_len vs g f]; exact Fr.take_len _] at hrp
              obtain ⟨A2, cap2, rfl⟩ := hrp.form
              have HF : Hid (AgRes w f g (.returned (.tuple #[.slice A2 (apF vs g f).len cap2, .bool true])) wr) := Lib.hid (by
                unfold AgRes
                rw [har, hag]
                exact ⟨A2, cap2, rfl, hrp.done (HWR.out.trans (hbx.mono HWR.out.size)) HWR.out.size⟩)
              clear hrp hbx hav hal hdl ha hag har
              go_wp2_with fail
              go_ret2
              exact HF.out
end Go.Proofs.YtnkaafimnkigpaaDoor

/- The law FnRenumberTerms, walked. Condition: the code lies in memory, the table of signs in its variable. -/
import Derived.Test.YtabkoofmfhbmhaaDoorProg
import Derived.Test.YtabkoofmfhbmhaaDoorZmRn38
import Derived.Test.YtabkoofmfhbmhaaDoorZmRn48
import Derived.Test.YtabkoofmfhbmhaaDoorZmRn44
import Derived.Test.YtabkoofmfhbmhaaDoorZmRn50
namespace Go.Proofs.YtabkoofmfhbmhaaDoor
open Go.RowKit

theorem OwnS.ky {w : World} {f : Fr} {A : Option Addr} {cap : Nat} {L : List Nat} (h : OwnS w f A cap L) : KidsAt w 0 w.heap.size f A cap := h.kids fun x hx => ⟨Nat.zero_le _, h.lt x hx⟩
theorem drop_getD (xs : List Int) (j : Nat) (h : j < xs.length) : xs.drop j = xs.getD j 0 :: xs.drop (j + 1) := by
  rw [List.drop_eq_getElem_cons h]
  simp [List.getD, List.getElem?_eq_getElem h]
theorem iotaL_le {c c' : Nat} (h : iotaL c <+: iotaL c') : c ≤ c' := by
  have := h.length_le
  rwa [iotaL_len, iotaL_len] at this
theorem iotaL_inj {l : List Int} {c : Nat} (h : l = iotaL c) : l.length = c := by rw [h, iotaL_len]

set_option maxRecDepth 100000 in
set_option maxHeartbeats 8000000 in
theorem lawPRn_any (A : Option Addr) (len cap : Nat) (w : World) (hb : Bts w w.heap.size A len) (hc : len ≤ cap) (hm : cap ≤ maxLen) (ht : nv.Tab w) :
    Calls Tryd.prog 3 #[.slice A len cap] w fun e w' => e = .returned (.bool true) ∧ Below w.heap.size w w' := by
  by_cases h2 : len ≤ 1048576
  · have t0 : ¬ (len : Int) > 1048576 := by omega
    have C1 := drawRN_any A len cap w hb hc hm
    have H1 := Lib.hid C1
    have HT := Lib.hid ht
    clear C1 hb hc hm ht
    go_enter Tryd.func3, Tryd.ntmps3
    go_wp2_with fail
    refine H1.out.mono ?_
    rintro e w2 ⟨F, A1, c1, rfl, hF3, hn, ⟨L, o1, hnd, hlm⟩, hb⟩
    have HK := Lib.hid o1.ky
    have HB2 := Lib.hid hb
    have HN := Lib.hid hn
    have HLEN : Hid (F.len ≤ 3) := Lib.hid hF3
    have hlw := fun (h : allV F = true) => rn_law h
    have hrn : nodes (rnF F) ≤ 1000 := Nat.le_trans (rnF_nodes F) hn
    have hno := fun (h : allV F = false) => (show rnF F = .nil by unfold rnF; rw [if_neg (by rw [h]; decide)])
    have hvb := allVars_small F
    have C2 := implRenT_any F A1 c1 0 w2.heap.size w2 o1.ky (Nat.le_refl _) (by omega) (HT.out.below HB2.out)
    have C3 := fun w1 (hk : KidsAt w1 0 w1.heap.size F A1 c1) => specRenT_any F A1 c1 0 w1.heap.size w1 hk (Nat.le_refl _) (by omega)
    unfold RnRes at C2 C3
    generalize rnF F = G at *
    generalize allV F = ok at *
    generalize (allVars F).length = N at *
    have H2 := Lib.hid C2
    have H3 := Lib.hid C3
    have HLW := Lib.hid hlw
    have HRN := Lib.hid hrn
    have HNO := Lib.hid hno
    have HVB := Lib.hid hvb
    clear C2 C3 hlw hrn hno hvb hn hF3 o1 hnd hlm hb H1
    generalize F.len = fl at *
    go_wp2_with fail
    refine H2.out.mono ?_
    rintro e w3 ⟨A3, c3, rfl, L3, o3, n3, l3, hb3⟩
    have HO3 := Lib.hid o3
    have HN3 := Lib.hid n3
    have HL3 : Hid (∀ x ∈ L3, x < w3.heap.size) := Lib.hid fun x hx => (l3 x hx).2
    have HK3 := Lib.hid ((HK.out.below hb3 (Nat.le_refl _)).more (Nat.le_refl 0) hb3.size)
    have HB3 := Lib.hid (HB2.out.trans (hb3.mono HB2.out.size))
    clear o3 n3 l3 hb3 H2 HK
    go_wp2_with fail
    refine (H3.out _ HK3.out).mono ?_
    rintro e w4 ⟨A4, c4, rfl, L4, o4, n4, l4, hb4⟩
    have HO4 := Lib.hid (HO3.out.below hb4 HO3.out.lt)
    have HP4 := Lib.hid o4
    have hXY : (L3 ++ L4).Nodup := List.nodup_append.2 ⟨HN3.out, n4, fun a ha b hb e => by have := HL3.out a ha; have := (l4 b hb).1; omega⟩
    have HB4 := Lib.hid (HB3.out.trans (hb4.mono HB3.out.size))
    have CP := fun w1 (hb : Below w4.heap.size w4 w1) => pgT_any G G A3 A4 c3 c4 L3 L4 w1 (HO4.out.below hb HO4.out.lt) (HP4.out.below hb HP4.out.lt) hXY (Nat.le_trans HRN.out (by omega))
    rw [eqF_refl] at CP
    have HCP := Lib.hid CP
    have tv : (ok != ok) = false := by cases ok <;> rfl
    have te : (ok == ok) = true := by cases ok <;> rfl
    clear CP hXY o4 n4 l4 hb4 H3 HK3 HO3
    generalize hgl : G.len = gl at *
    have HGL := Lib.hid hgl
    clear hgl
    cases ok
    · go_wp2_with fail
      refine (HCP.out _ (Below.refl _ _)).mono ?_
      rintro e w5 ⟨rfl, hb5⟩
      have HB45 := Lib.hid hb5
      clear hb5
      go_wp2_with fail
      refine (HCP.out _ HB45.out).mono ?_
      rintro e w6 ⟨rfl, hb6⟩
      have HB6 := Lib.hid (HB4.out.trans ((HB45.out.trans (hb6.mono HB45.out.size)).mono HB4.out.size))
      clear hb6
      go_wp2_with fail
      go_ret
      exact ⟨rfl, HB6.out⟩
    · obtain ⟨g1, g2, g3, g4⟩ := HLW.out (by first | exact trivial | exact rfl)
      have hN26 := HVB.out (by first | exact trivial | exact rfl)
      have G4 := Lib.hid g4
      have HV := Lib.hid g2
      subst g1
      go_wp2_with fail
      refine (HCP.out _ (Below.refl _ _)).mono ?_
      rintro e w5 ⟨rfl, hb5⟩
      have HO5 := Lib.hid (HO4.out.below hb5 HO4.out.lt)
      have HB5 := Lib.hid (HB4.out.trans (hb5.mono HB4.out.size))
      have HS45 := Lib.hid hb5.size
      have C6 := implRenT_any G A3 c3 0 w5.heap.size w5 HO5.out.ky (Nat.le_refl _) (Nat.le_trans HRN.out (by omega)) (HT.out.below HB5.out)
      unfold RnRes at C6
      rw [g3, g2, HGL.out] at C6
      have H6 := Lib.hid C6
      clear hb5 C6 g2 g3 g4 HCP HO4 HP4
      go_wp2_with fail
      refine H6.out.mono ?_
      rintro e w6 ⟨A6, c6, rfl, L6, o6, n6, l6, hb6⟩
      have HO6 := Lib.hid (HO5.out.below hb6 HO5.out.lt)
      have HP6 := Lib.hid o6
      have hXY : (L6 ++ L3).Nodup := List.nodup_append.2 ⟨n6, HN3.out, fun a ha b hb e => by have := (l6 a ha).1; have := HO5.out.lt b hb; omega⟩
      have HXY := Lib.hid hXY
      have HB6 := Lib.hid (HB5.out.trans (hb6.mono HB5.out.size))
      clear o6 n6 l6 hb6 hXY H6 HO5
      have HKG := Lib.hid HO6.out.ky
      have hgm : gl ≤ 3 := HLEN.out
      go_wp2_with fail
      go_loopw [10, 11] (fun c i wr => ∃ (j cn : Nat), j ≤ gl ∧ i = .int .i64 j ∧ c = .int .i64 cn ∧ cn ≤ N ∧ varsF (iotaL cn) (G.drop j) = iotaL N ∧ Below w6.heap.size w6 wr) (fun _ i _ => gl - (intOf i).toNat)
      case atStart => exact ⟨0, 0, Nat.zero_le _, rfl, rfl, Nat.zero_le _, G4.out, Below.refl _ _⟩
      case round =>
        obtain ⟨j, cn, hj, rfl, rfl, hcn, hvars, hbr⟩ := hrel
        by_cases hlt : j < gl
        · obtain ⟨kk, nn, s, kids, hd⟩ := Fr.drop_cons j G (by rw [HGL.out]; exact hlt)
          have hval := allV_at j G HV.out hd
          obtain ⟨b, o, rfl, hlb, hbb, hrow⟩ := HKG.out.2.2 (by rw [HGL.out]; omega)
          obtain ⟨hfit, A', cap', c0, c1, c2, c3', hkid⟩ := hrow.elem hd
          have hlo : (⟨b, o, none⟩ : Addr).block < w6.heap.size := hbb
          have k0 := (hbr.cell (p := ⟨b, o + j * 4, none⟩) hlo).trans c0
          have k1 := (hbr.cell (p := ⟨b, o + j * 4 + 1, none⟩) hlo).trans c1
          have k2 := (hbr.cell (p := ⟨b, o + j * 4 + 2, none⟩) hlo).trans c2
          have k3 := (hbr.cell (p := ⟨b, o + j * 4 + 3, none⟩) hlo).trans c3'
          have hnk := nodes_dropc j G hd
          have hbw := HB6.out.trans (hbr.mono HB6.out.size)
          have CV := implVars_any kk nn s kids A' cap' 0 w6.heap.size wr (hkid.below hbr (Nat.le_refl _)) hbr.size hfit (Nat.le_trans hnk (Nat.le_trans HRN.out (by omega))) (HT.out.below hbw)
          have hvb : varsB kk nn s kids = varsT [] kk nn kids := by unfold varsB; rw [if_pos hval]
          rw [hvb] at CV
          have hxl : (varsT [] kk nn kids).length ≤ 2000 := by have h1 := varsT_len [] kk nn kids; simp at h1; have := HRN.out; omega
          rw [hd] at hvars
          have hvars' : varsF (varsT (iotaL cn) kk nn kids) (G.drop (j + 1)) = iotaL N := hvars
          have hpre : varsT (iotaL cn) kk nn kids <+: iotaL N := by rw [← hvars']; exact varsF_up _ _
          obtain ⟨c', hc'⟩ : ∃ c', varsT (iotaL cn) kk nn kids = iotaL c' := ⟨_, iotaL_pre hpre⟩
          have hfold := fold_varsT (iotaL cn) kk nn kids
          rw [hc'] at hfold hvars' hpre
          have hcc : cn ≤ c' := iotaL_le (by rw [← hfold]; exact fold_up _ _)
          have hcN : c' ≤ N := iotaL_le hpre
          have HVARS := Lib.hid hvars'
          have HBW := Lib.hid hbw
          have HBR := Lib.hid hbr
          generalize varsT [] kk nn kids = xs at *
          have HF0 := Lib.hid hfold
          have HCV := Lib.hid CV
          obtain ⟨wq, rfl⟩ : ∃ x : World, x = wr := ⟨_, rfl⟩
          clear CV hvb hvars hvars' hpre hc' hfold hbw hbr c0 c1 c2 c3' hkid hrow hfit hd hval hnk
          go_wp2_with fail
          refine HCV.out.mono ?_
          rintro e w7 ⟨v, rfl, hown, hb7⟩
          obtain ⟨A9, c9, rfl, hx1, hx2, hread⟩ := hown.read
          have HR := Lib.hid hread
          have HBQ := Lib.hid (HBR.out.trans (hb7.mono HBR.out.size))
          have hx3 : c9 ≤ maxLen := hx2
          unfold maxLen at hx2
          generalize hxln : xs.length = xl at *
          have HXL := Lib.hid hxln
          clear hown hread hb7 hxln hx3 HCV
          go_wp2_with fail
          go_loopw [10, 13] (fun c k wr => ∃ (jj cc : Nat), jj ≤ xl ∧ k = .int .i64 jj ∧ c = .int .i64 cc ∧ cc ≤ c' ∧ (xs.drop jj).foldl addV (iotaL cc) = iotaL c' ∧ Below w7.heap.size w7 wr) (fun _ k _ => xl - (intOf k).toNat)
          case atStart => exact ⟨0, cn, Nat.zero_le _, rfl, rfl, hcc, HF0.out, Below.refl _ _⟩
          case round =>
            obtain ⟨jj, cc, hjj, rfl, rfl, hccle, hfo, hbz⟩ := hrel
            by_cases hl2 : jj < xl
            · obtain ⟨g, rfl, _, hrd⟩ := HR.out (by omega)
              obtain ⟨hr1, _⟩ := hrd jj hl2
              have hlg : g < w7.heap.size := by
                rcases Nat.lt_or_ge g w7.heap.size with h | h
                · exact h
                · simp [World.cell?, Array.getElem?_eq_none h] at hr1
              have hr2 := (hbz.cell (p := ⟨g, jj, none⟩) hlg).trans hr1
              rw [drop_getD xs jj (by rw [HXL.out]; exact hl2)] at hfo
              have hfo' : (xs.drop (jj + 1)).foldl addV (addV (iotaL cc) (xs.getD jj 0)) = iotaL c' := hfo
              have hp2 : addV (iotaL cc) (xs.getD jj 0) <+: iotaL c' := by rw [← hfo']; exact fold_up _ _
              have hst := add_iota hp2
              have HFO := Lib.hid hfo'
              have HP2 := Lib.hid hp2
              have HBZ := Lib.hid hbz
              generalize xs.getD jj 0 = x at *
              clear hfo hfo' hp2 hbz hrd hr1
              rcases hst with ⟨hx0, hxc, hadd⟩ | ⟨rfl, hadd⟩
              · have HA := Lib.hid hadd
                have n1 : ¬ x > (cc : Int) := by omega
                have n2 : (x == (cc : Int)) = false := by rw [beq_eq_false_iff_ne]; omega
                clear hadd
                go_wp2_with fail
                go_roundw
                case rel => exact ⟨jj + 1, cc, by omega, by go_num, rfl, hccle, by rw [← HA.out]; exact HFO.out, HBZ.out⟩
                case measure => simp [intOf]; omega
              · have HA := Lib.hid hadd
                have hle : cc + 1 ≤ c' := iotaL_le (by rw [← hadd]; exact HP2.out)
                clear hadd
                go_wp2_with fail
                go_roundw
                case rel => exact ⟨jj + 1, cc + 1, by omega, by go_num, by go_num, hle, by rw [← HA.out]; exact HFO.out, HBZ.out⟩
                case measure => simp [intOf]; omega
            · obtain rfl : jj = xl := by omega
              have hce : cc = c' := by
                rw [← HXL.out, List.drop_length] at hfo
                have h1 := iotaL_inj (show iotaL cc = iotaL c' from hfo)
                rw [iotaL_len] at h1
                exact h1
              subst hce
              have HBZ := Lib.hid (HBQ.out.trans (hbz.mono HBQ.out.size))
              clear hfo hbz
              go_wp2_with fail
              go_roundw
              case rel => exact ⟨j + 1, cc, by omega, by go_num, rfl, hcN, HVARS.out, HBZ.out⟩
              case measure => simp [intOf]; omega
        · obtain rfl : j = gl := by omega
          have CP := pgT_any G G A6 A3 c6 c3 L6 L3 wr (HP6.out.below hbr HP6.out.lt) (HO6.out.below hbr HO6.out.lt) HXY.out (Nat.le_trans HRN.out (by omega))
          rw [eqF_refl, HGL.out] at CP
          have HCP := Lib.hid CP
          have HB7 := Lib.hid (HB6.out.trans (hbr.mono HB6.out.size))
          clear CP hvars hbr
          go_wp2_with fail
          refine HCP.out.mono ?_
          rintro e w8 ⟨rfl, hb8⟩
          have HB8 := Lib.hid (HB7.out.trans (hb8.mono HB7.out.size))
          clear hb8
          go_wp2_with fail
          go_ret
          exact ⟨rfl, HB8.out⟩
  · have HB := Lib.hid (Below.refl w.heap.size w)
    have t0 : (len : Int) > 1048576 := by omega
    clear hb hc hm ht
    go_enter Tryd.func3, Tryd.ntmps3
    go_wp2_with fail
    go_ret
    exact ⟨rfl, HB.out⟩
end Go.Proofs.YtabkoofmfhbmhaaDoor

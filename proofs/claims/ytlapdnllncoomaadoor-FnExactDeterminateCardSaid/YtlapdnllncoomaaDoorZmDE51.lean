/- spec.Determinate. Condition: the clauses lie in memory. -/
import Derived.Test.YtlapdnllncoomaaDoorProg
import Derived.Test.YtlapdnllncoomaaDoorZmDE49
import Derived.Test.YtlapdnllncoomaaDoorZmDE50
import Derived.Test.YtlapdnllncoomaaDoorMk
import Derived.WalkKit
import Derived.WalkSpells
import Derived.Outline
import Derived.Lib.SlBytesConst
import Derived.Deep.RegionHeld3
namespace Go.Proofs.YtlapdnllncoomaaDoor
open Go.RowKit

theorem infoTm : (Tryd.prog.info? 29).map (fun i => (i.zero, i.size, i.bytes)) = some (some (.agg #[.int .i64 0, .int .i64 0, .string ⟨#[]⟩, .slice none 0 0]), 4, 56) := by kernel_rfl
def knN (an : Nat) : Array Value := madeCells #[.int .i64 0, .int .i64 0, .string ⟨#[]⟩, .slice none 0 0] (an * 4)
theorem run_knN (an : Nat) (h : an ≤ 4) (w : World) : (Instr.makeSlice 27 (.int .i64 (an : Int)) (.int .i64 (an : Int))).run Tryd.prog w = .ok (.slice (some ⟨w.heap.size, 0, none⟩) an an) (w.alloc (.cells (knN an) 29)) := by
  obtain ⟨i0, hi0, hz0, hz1, hz2⟩ := info_parts infoTm
  have hr := run_make (P := Tryd.prog) w 27 29 i0 _ Tryd.underlying27 hi0 hz0 .i64 .i64 an an (by omega) (by omega) (by rw [hz2]; omega) (by omega)
  rw [hr, hz1]
  rfl
/-- The first i of them do not fit each other. -/
def DetI (cs : List Cl) (zs : List Int) (i0 : Nat) : Prop := ∀ i k : Nat, k < i → i < i0 → kfL (kz cs (zs.getD i 0)) (kz cs (zs.getD k 0)) = false
def DetK (cs : List Cl) (zs : List Int) (i m : Nat) : Prop := ∀ k : Nat, k < m → kfL (kz cs (zs.getD i 0)) (kz cs (zs.getD k 0)) = false

set_option maxRecDepth 100000 in
set_option maxHeartbeats 8000000 in
/-- spec.Determinate. -/
theorem specDe_any (cs : List Cl) (A : Option Addr) (cap lo hi : Nat) (s : ByteArray) (a : Int) (w : World) (hk : ClS w lo hi cs A cap) (hh : hi ≤ w.heap.size) (hnd : cs.length + wtCs cs ≤ 1048576) :
    Calls Tryd.prog 23 #[.slice A cs.length cap, .string s, .int .i64 a] w fun e w' => e = .returned (.bool (deA cs s a)) ∧ Below w.heap.size w w' := by
  have C1 := specPV_any cs A cap lo hi w hk hh hnd
  have HE : Hid (deA cs s a = ((progV cs && (decide (0 ≤ a) && decide (a ≤ 4))) && @decide (Det cs (forF cs 0 s a.toNat)) (Classical.propDecidable _))) := Lib.hid rfl
  have HWC := Lib.hid hk.wf
  have H1 := Lib.hid C1
  have HK := Lib.hid hk
  have HHI := Lib.hid hh
  have hl : cs.length ≤ 1048576 := by omega
  clear C1 hk hh hnd
  cases hok : progV cs
  · have HV : Hid (deA cs s a = false) := Lib.hid (by rw [HE.out, hok]; simp)
    rw [hok] at H1
    generalize cs.length = len at *
    go_enter Tryd.func23, Tryd.ntmps23
    go_wp2_with fail
    refine H1.out.mono ?_
    rintro e w2 ⟨rfl, hb⟩
    have HB2 := Lib.hid hb
    clear hb
    go_wp2_with fail
    go_ret
    rw [HV.out]; exact ⟨rfl, HB2.out⟩
  · have hwk := (prog_wf hok HWC.out).2
    have HWK := Lib.hid hwk
    have HOK := Lib.hid hok
    rw [hok] at H1
    clear hok hwk
    by_cases ha : 0 ≤ a ∧ a ≤ 4
    · obtain ⟨an, rfl⟩ : ∃ an : Nat, a = (an : Int) := ⟨a.toNat, by omega⟩
      have han : an ≤ 4 := by omega
      have HV : Hid (deA cs s (an : Int) = @decide (Det cs (forF cs 0 s an)) (Classical.propDecidable _)) := Lib.hid (by
        rw [HE.out, HOK.out, decide_eq_true ha.1, decide_eq_true ha.2]
        simp)
      have C2 := fun w1 B (hb : Below w.heap.size w w1) => for_any cs A cap lo hi 0 0 s B an an w1 (HK.out.below hb HHI.out) (Nat.le_trans HHI.out hb.size) hl
      have H2 := Lib.hid C2
      have hmk := run_knN an han
      have HLEN := Lib.hid (forF_len s an cs 0)
      have t1 : ¬ (an : Int) < 0 := by omega
      have t2 : ¬ (an : Int) > 4 := by omega
      clear C2 ha HE
      generalize hn : cs.length = n' at *
      have HN := Lib.hid hn
      clear hn
      go_enter Tryd.func23, Tryd.ntmps23
      go_wp2_with fail
      refine H1.out.mono ?_
      rintro e w2 ⟨rfl, hb⟩
      have HB2 := Lib.hid hb
      clear hb H1
      go_wp2_with fail
      refine (H2.out _ _ (HB2.out.alloc HB2.out.size _)).mono ?_
      rintro e w3 ⟨vl, rfl, hov, hb⟩
      obtain ⟨Av, cz, rfl, hzc, hzm, _⟩ := hov.read
      have HOV := Lib.hid hov
      have HB3 := Lib.hid ((HB2.out.alloc HB2.out.size _).trans (hb.mono (HB2.out.alloc HB2.out.size _).size))
      clear hov hb hzm H2 hmk
      generalize hzs : forF cs 0 s an = zs at *
      have HZS := Lib.hid hzs
      clear hzs
      generalize hzll : zs.length = zl at *
      have HZL := Lib.hid hzll
      have hz20 : zl ≤ n' := HLEN.out
      clear hzll
      go_wp2_with fail
      go_loopw [8] (fun iv wr => ∃ (i : Nat), i ≤ zl ∧ iv = .int .i64 i ∧ DetI cs zs i ∧ Below w3.heap.size w3 wr) (fun iv _ => zl - (intOf iv).toNat)
      case atStart => exact ⟨0, Nat.zero_le _, rfl, fun i k _ hi => absurd hi (Nat.not_lt_zero i), Below.refl _ _⟩
      case round =>
        obtain ⟨i, hiz, rfl, hdi, hbw⟩ := hrel
        by_cases hil : i < zl
        · have HDI := Lib.hid hdi
          have HBI := Lib.hid hbw
          clear hdi hbw
          go_wp2_with fail
          obtain ⟨wq, rfl⟩ : ∃ x : World, x = wr := ⟨wr, rfl⟩
          go_loopw [9] (fun iv wr => ∃ (m : Nat), m ≤ i ∧ iv = .int .i64 m ∧ DetK cs zs i m ∧ Below w3.heap.size w3 wr) (fun iv _ => i - (intOf iv).toNat)
          case atStart => exact ⟨0, Nat.zero_le _, rfl, fun k hk => absurd hk (Nat.not_lt_zero k), HBI.out⟩
          case round =>
            obtain ⟨m, hm, rfl, hdk, hbw⟩ := hrel
            by_cases hml : m < i
            · obtain ⟨z, hz⟩ : ∃ z, zs[m]? = some z := ⟨zs[m]'(by rw [HZL.out]; omega), List.getElem?_eq_getElem _⟩
              obtain ⟨y, hy⟩ : ∃ y, zs[i]? = some y := ⟨zs[i]'(by rw [HZL.out]; omega), List.getElem?_eq_getElem _⟩
              obtain ⟨jz, czl, hzj, hjl, hcz, -, -⟩ := forF_mem s an z cs 0 (by rw [HZS.out]; exact List.mem_of_getElem? hz)
              obtain ⟨ji, cil, hyj, hjl2, hci, -, -⟩ := forF_mem s an y cs 0 (by rw [HZS.out]; exact List.mem_of_getElem? hy)
              obtain rfl : z = (jz : Int) := by omega
              obtain rfl : y = (ji : Int) := by omega
              rw [HN.out] at hjl hjl2
              obtain ⟨rest, hdz⟩ := drop_get hcz
              obtain ⟨rest2, hdi2⟩ := drop_get hci
              obtain ⟨bb, oo, rfl, hlb, hbb, hrow⟩ := HK.out.2.2 (by rw [HN.out]; omega)
              obtain ⟨-, Az, cpz, Bz, cbz, c0, c1, c2, c3, -, hkid, -⟩ := ClAt.elem jz cs bb oo hrow hdz
              obtain ⟨-, Ai, cpi, Bi, cbi, d0, d1, d2, d3, -, hkid2, -⟩ := ClAt.elem ji cs bb oo hrow hdi2
              obtain ⟨A2, c2', he, -, -, hrd⟩ := HOV.out.read
              obtain ⟨gv, hA2, -, hcell⟩ := hrd (by rw [HZL.out]; omega)
              have hgl : gv < w3.heap.size := by
                injection he with h1 h2 h3
                exact (HOV.out.lt gv (by rw [h1, hA2]; simp [ownV, Value.ownBlock])).2
              have hkv7 : Av = some ⟨gv, 0, none⟩ ∧ w3.cell? ⟨gv, m, none⟩ = some (.int .i64 (jz : Int)) ∧ w3.cell? ⟨gv, i, none⟩ = some (.int .i64 (ji : Int)) := by
                injection he with h1 h2 h3
                refine ⟨h1.trans hA2, ?_, ?_⟩
                · have := (hcell m (by rw [HZL.out]; omega)).1
                  rw [this]
                  simp [List.getD, hz]
                · have := (hcell i (by rw [HZL.out]; omega)).1
                  rw [this]
                  simp [List.getD, hy]
              obtain ⟨hAv, kv1, kv2⟩ := hkv7
              have hbl : bb < w.heap.size := Nat.lt_of_lt_of_le hbb HHI.out
              have hbww := HB3.out.trans (hbw.mono HB3.out.size)
              have HKZ := Lib.hid (fun w1 (hb : Below wr.heap.size wr w1) => l7Key_any czl.k czl.n czl.s czl.kids Az cpz lo hi 29 w1 (hkid.below (hbww.trans (hb.mono hbww.size)) HHI.out) (Nat.le_trans HHI.out (Nat.le_trans hbww.size hb.size)) (HWK.out czl (List.mem_of_getElem? hcz)).2)
              have HKI := Lib.hid (fun w1 (hb : Below wr.heap.size wr w1) => l7Key_any cil.k cil.n cil.s cil.kids Ai cpi lo hi 29 w1 (hkid2.below (hbww.trans (hb.mono hbww.size)) HHI.out) (Nat.le_trans HHI.out (Nat.le_trans hbww.size hb.size)) (HWK.out cil (List.mem_of_getElem? hci)).2)
              have hfv : kfL (⟨(keyF cil.kids).toArray⟩ : ByteArray).data.toList (⟨(keyF czl.kids).toArray⟩ : ByteArray).data.toList = kfL (kz cs (zs.getD i 0)) (kz cs (zs.getD m 0)) := by
                unfold kz
                rw [show zs.getD i 0 = (ji : Int) by simp [List.getD, hy], show zs.getD m 0 = (jz : Int) by simp [List.getD, hz], kdAt_of hcz, kdAt_of hci]
              have HKF := Lib.hid (fun w1 => (specKF_any ⟨(keyF cil.kids).toArray⟩ ⟨(keyF czl.kids).toArray⟩ w1).mono fun e w' (h : e = .returned (.bool (kfL (⟨(keyF cil.kids).toArray⟩ : ByteArray).data.toList (⟨(keyF czl.kids).toArray⟩ : ByteArray).data.toList)) ∧ w' = w1) => (⟨by rw [h.1, hfv], h.2⟩ : e = .returned (.bool (kfL (kz cs (zs.getD i 0)) (kz cs (zs.getD m 0)))) ∧ w' = w1))
              have HSTA : Hid (∀ x, Below wr.heap.size wr x → x.cell? ⟨gv, i, none⟩ = some (.int .i64 (ji : Int)) ∧ x.cell? ⟨gv, m, none⟩ = some (.int .i64 (jz : Int)) ∧ x.cell? ⟨bb, oo + ji * 5, none⟩ = some (.int .i64 cil.k) ∧ x.cell? ⟨bb, oo + ji * 5 + 1, none⟩ = some (.int .i64 cil.n) ∧ x.cell? ⟨bb, oo + ji * 5 + 2, none⟩ = some (.string cil.s) ∧ x.cell? ⟨bb, oo + ji * 5 + 3, none⟩ = some (.slice Ai cil.kids.len cpi) ∧
                  x.cell? ⟨bb, oo + jz * 5, none⟩ = some (.int .i64 czl.k) ∧ x.cell? ⟨bb, oo + jz * 5 + 1, none⟩ = some (.int .i64 czl.n) ∧ x.cell? ⟨bb, oo + jz * 5 + 2, none⟩ = some (.string czl.s) ∧ x.cell? ⟨bb, oo + jz * 5 + 3, none⟩ = some (.slice Az czl.kids.len cpz)) := Lib.hid fun x hb => by
                have hbx := hbww.trans (hb.mono hbww.size)
                have hb3 := hbw.trans (hb.mono hbw.size)
                exact ⟨(hb3.cell (p := ⟨gv, i, none⟩) hgl).trans kv2, (hb3.cell (p := ⟨gv, m, none⟩) hgl).trans kv1, (hbx.cell (p := ⟨bb, _, none⟩) hbl).trans d0, (hbx.cell (p := ⟨bb, _, none⟩) hbl).trans d1, (hbx.cell (p := ⟨bb, _, none⟩) hbl).trans d2, (hbx.cell (p := ⟨bb, _, none⟩) hbl).trans d3,
                  (hbx.cell (p := ⟨bb, _, none⟩) hbl).trans c0, (hbx.cell (p := ⟨bb, _, none⟩) hbl).trans c1, (hbx.cell (p := ⟨bb, _, none⟩) hbl).trans c2, (hbx.cell (p := ⟨bb, _, none⟩) hbl).trans c3⟩
              have HDK := Lib.hid hdk
              have HBW := Lib.hid hbw
              obtain ⟨k0, k1, k2, k3, k4, k5, k6, k7, k8, k9⟩ := HSTA.out wr (Below.refl _ _)
              clear hzj hyj hcz hci hdz hdi2 hlb hrow c0 c1 c2 c3 d0 d1 d2 d3 hkid hkid2 he hrd hA2 hcell hz hy hdk hbw hbww hbb kv1 kv2 hfv
              subst hAv
              obtain ⟨kk1, nn1, ss1, kids1, body1⟩ := czl
              obtain ⟨kk2, nn2, ss2, kids2, body2⟩ := cil
              simp only at *
              generalize (⟨(keyF kids1).toArray⟩ : ByteArray) = kz1 at *
              generalize (⟨(keyF kids2).toArray⟩ : ByteArray) = kz2 at *
              generalize hfb : kfL (kz cs (zs.getD i 0)) (kz cs (zs.getD m 0)) = fb at *
              have HFV := Lib.hid hfb
              clear hfb
              generalize kids1.len = kl1 at *
              generalize kids2.len = kl2 at *
              have hgw : gv < wr.heap.size := by have := HBW.out.size; omega
              have hmz : m < zl := by omega
              cases fb
              · have HDM : Hid (DetK cs zs i (m + 1)) := Lib.hid fun k hk => by
                  rcases Nat.lt_succ_iff_lt_or_eq.1 hk with h | rfl
                  · exact HDK.out k h
                  · exact HFV.out
                go_wp2_with fail
                go_region_held3 (fun x => x.cell? ⟨gv, i, none⟩ = some (.int .i64 (ji : Int)) ∧ x.cell? ⟨gv, m, none⟩ = some (.int .i64 (jz : Int)) ∧ x.cell? ⟨bb, oo + ji * 5, none⟩ = some (.int .i64 kk2) ∧ x.cell? ⟨bb, oo + ji * 5 + 1, none⟩ = some (.int .i64 nn2) ∧ x.cell? ⟨bb, oo + ji * 5 + 2, none⟩ = some (.string ss2) ∧ x.cell? ⟨bb, oo + ji * 5 + 3, none⟩ = some (.slice Ai kl2 cpi) ∧
                    x.cell? ⟨bb, oo + jz * 5, none⟩ = some (.int .i64 kk1) ∧ x.cell? ⟨bb, oo + jz * 5 + 1, none⟩ = some (.int .i64 nn1) ∧ x.cell? ⟨bb, oo + jz * 5 + 2, none⟩ = some (.string ss1) ∧ x.cell? ⟨bb, oo + jz * 5 + 3, none⟩ = some (.slice Az kl1 cpz))
                  (first | exact HST9.out | exact HST8.out | exact HSTA.out wr (Below.refl _ _))
                  (first
                    | (go_at_call_of 34 Ai
                       refine (HKI.out _ (Below.refl _ wr).drew).mono ?_
                       rintro e w8 ⟨rfl, hb⟩
                       have HB8 := Lib.hid ((Below.refl wr.heap.size wr).drew.trans hb)
                       have HST8 := Lib.hid (HSTA.out w8 HB8.out)
                       clear hb)
                    | (go_at_call_of 34 Az
                       refine (HKZ.out _ HB8.out).mono ?_
                       rintro e w9 ⟨rfl, hb⟩
                       have HB9 := Lib.hid (HB8.out.trans (hb.mono HB8.out.size))
                       have HST9 := Lib.hid (HSTA.out w9 HB9.out)
                       clear hb)
                    | (go_at_call 49
                       refine (HKF.out _).mono ?_
                       rintro e w9 ⟨rfl, rfl⟩))
                clear k0 k1 k2 k3 k4 k5 k6 k7 k8 k9
                go_wp2_with fail
                go_roundw
                case rel => exact ⟨m + 1, by omega, by go_num, HDM.out, HBW.out.trans (HB9.out.mono HBW.out.size)⟩
                case measure => simp [intOf]; omega
              · have HVF : Hid (deA cs s (an : Int) = false) := Lib.hid (by
                  rw [HV.out]
                  refine @decide_eq_false _ (Classical.propDecidable _) fun hdt => ?_
                  have := hdt i m hml (by rw [HZL.out]; exact hil)
                  rw [HFV.out] at this
                  cases this)
                go_wp2_with fail
                go_region_held3 (fun x => x.cell? ⟨gv, i, none⟩ = some (.int .i64 (ji : Int)) ∧ x.cell? ⟨gv, m, none⟩ = some (.int .i64 (jz : Int)) ∧ x.cell? ⟨bb, oo + ji * 5, none⟩ = some (.int .i64 kk2) ∧ x.cell? ⟨bb, oo + ji * 5 + 1, none⟩ = some (.int .i64 nn2) ∧ x.cell? ⟨bb, oo + ji * 5 + 2, none⟩ = some (.string ss2) ∧ x.cell? ⟨bb, oo + ji * 5 + 3, none⟩ = some (.slice Ai kl2 cpi) ∧
                    x.cell? ⟨bb, oo + jz * 5, none⟩ = some (.int .i64 kk1) ∧ x.cell? ⟨bb, oo + jz * 5 + 1, none⟩ = some (.int .i64 nn1) ∧ x.cell? ⟨bb, oo + jz * 5 + 2, none⟩ = some (.string ss1) ∧ x.cell? ⟨bb, oo + jz * 5 + 3, none⟩ = some (.slice Az kl1 cpz))
                  (first | exact HST9.out | exact HST8.out | exact HSTA.out wr (Below.refl _ _))
                  (first
                    | (go_at_call_of 34 Ai
                       refine (HKI.out _ (Below.refl _ wr).drew).mono ?_
                       rintro e w8 ⟨rfl, hb⟩
                       have HB8 := Lib.hid ((Below.refl wr.heap.size wr).drew.trans hb)
                       have HST8 := Lib.hid (HSTA.out w8 HB8.out)
                       clear hb)
                    | (go_at_call_of 34 Az
                       refine (HKZ.out _ HB8.out).mono ?_
                       rintro e w9 ⟨rfl, hb⟩
                       have HB9 := Lib.hid (HB8.out.trans (hb.mono HB8.out.size))
                       have HST9 := Lib.hid (HSTA.out w9 HB9.out)
                       clear hb)
                    | (go_at_call 49
                       refine (HKF.out _).mono ?_
                       rintro e w9 ⟨rfl, rfl⟩))
                clear k0 k1 k2 k3 k4 k5 k6 k7 k8 k9
                go_wp2_with fail
                go_ret
                rw [HVF.out]; exact ⟨rfl, HB3.out.trans ((HBW.out.trans (HB9.out.mono HBW.out.size)).mono HB3.out.size)⟩
            · obtain rfl : m = i := by omega
              have HDJ : Hid (DetI cs zs (m + 1)) := Lib.hid fun p k hkp hp => by
                rcases Nat.lt_succ_iff_lt_or_eq.1 hp with h | rfl
                · exact HDI.out p k hkp h
                · exact hdk k hkp
              have HBW := Lib.hid hbw
              clear hdk hbw
              go_wp2_with fail
              go_roundw
              case rel => exact ⟨m + 1, by omega, by go_num, HDJ.out, HBW.out⟩
              case measure => simp [intOf]; omega
        · obtain rfl : i = zl := by omega
          have HVT : Hid (deA cs s (an : Int) = true) := Lib.hid (by
            rw [HV.out]
            refine @decide_eq_true _ (Classical.propDecidable _) fun p k hkp hp => hdi p k hkp (by rw [HZL.out] at hp; exact hp))
          have HBW := Lib.hid hbw
          clear hdi hbw
          go_wp2_with fail
          go_ret
          rw [HVT.out]; exact ⟨rfl, HB3.out.trans (HBW.out.mono HB3.out.size)⟩
    · have HV : Hid (deA cs s a = false) := Lib.hid (by
        rw [HE.out, HOK.out]
        by_cases h0 : 0 ≤ a
        · rw [decide_eq_true h0, decide_eq_false (show ¬ a ≤ 4 from fun h => ha ⟨h0, h⟩)]; simp
        · rw [decide_eq_false h0]; simp)
      have hway : a < 0 ∨ (¬ a < 0 ∧ a > 4) := by omega
      clear ha
      generalize cs.length = len at *
      rcases hway with t1 | ⟨t1, t2⟩
      all_goals
        go_enter Tryd.func23, Tryd.ntmps23
        go_wp2_with fail
        refine H1.out.mono ?_
        rintro e w2 ⟨rfl, hb⟩
        have HB2 := Lib.hid hb
        clear hb
        go_wp2_with fail
        go_ret
        rw [HV.out]; exact ⟨rfl, HB2.out⟩
end Go.Proofs.YtlapdnllncoomaaDoor

/- laws.markText, markTermS, markTerm: rows of terms are marked. Condition: the call owns the row. -/
namespace Go.Proofs.YtlapdnllncoomaaDoor
open Go.RowKit

theorem one_byte (j : Nat) (w : World) : (convert 112 9 (.slice (some ⟨w.heap.size, 0, none⟩) 1 1)).run Tryd.prog (w.alloc (.cells #[.int .u8 (48 + (j : Int) % 10)] 5)) =
    .ok (.string ⟨[UInt8.ofNat (48 + j % 10)].toArray⟩) (w.alloc (.cells #[.int .u8 (48 + (j : Int) % 10)] 5)) := by
  refine run_convert_bytes_back _ _ _ 5 ⟨w.heap.size, 0, none⟩ 1 [UInt8.ofNat (48 + j % 10)] Tryd.underlying112 Tryd.underlying5 Tryd.underlying9 fun i hi => ?_
  obtain rfl : i = 0 := by simpa using hi
  have h := (Blk.new w 5 #[.int .u8 (48 + (j : Int) % 10)]).cell 0
  have e : ((UInt8.ofNat (48 + j % 10)).toNat : Int) = 48 + (j : Int) % 10 := by
    rw [UInt8.toNat_ofNat']
    omega
  show (w.alloc _).cell? ⟨w.heap.size, 0, none⟩ = some (.int .u8 ((UInt8.ofNat (48 + j % 10)).toNat : Int))
  rw [h, e]
  rfl
theorem digs_step (fu j : Nat) (out : List UInt8) (hj : j ≤ fu) (h0 : ¬ j = 0) : ∃ fu', j / 10 ≤ fu' ∧ digs fu j out = digs fu' (j / 10) (UInt8.ofNat (48 + j % 10) :: out) := by
  cases fu with
  | zero => omega
  | succ fu => exact ⟨fu, by omega, by simp only [digs]; rw [if_neg h0]⟩
theorem digs_zero (fu : Nat) (out : List UInt8) : digs fu 0 out = out := by
  cases fu with
  | zero => rfl
  | succ fu => rfl
theorem str_cons (d : UInt8) (out : List UInt8) : (.string (⟨[d].toArray⟩ ++ ⟨out.toArray⟩) : Value) = .string ⟨(d :: out).toArray⟩ := congrArg Value.string (ByteArray.mk_append_mk [d] out)
set_option maxRecDepth 100000 in
set_option maxHeartbeats 1000000 in
theorem markText_any (k0 : Nat) (w : World) (h0 : 0 < k0) (h1 : k0 ≤ 1099511627776) :
    Calls Tryd.prog 47 #[.int .i64 (k0 : Int)] w fun e w' => e = .returned (.string (mtext k0)) ∧ Below w.heap.size w w' := by
  have t0 : ¬ (k0 : Int) ≤ 0 := by omega
  go_enter Tryd.func47, Tryd.ntmps47
  go_wp2_with fail
  go_loopw [3, 0] (fun o i wr => ∃ (j fu : Nat) (out : List UInt8), j ≤ fu ∧ out.length + j ≤ k0 ∧ i = .int .i64 j ∧ o = .string ⟨out.toArray⟩ ∧ digs fu j out = digs k0 k0 [] ∧ Below w.heap.size w wr) (fun _ i _ => (intOf i).toNat)
  case atStart => exact ⟨k0, k0, [], Nat.le_refl _, by simp, rfl, rfl, rfl, Below.refl _ _⟩
  case round =>
    obtain ⟨j, fu, out, hj, hl, rfl, rfl, hd, hb⟩ := hrel
    have HD := Lib.hid hd
    have HB := Lib.hid hb
    clear hd hb
    by_cases hz : j = 0
    · subst hz
      have HV : Hid (mtext k0 = ⟨#[109]⟩ ++ ⟨out.toArray⟩) := Lib.hid (by
        have h := HD.out
        rw [digs_zero] at h
        unfold mtext
        rw [← h]
        exact (ByteArray.mk_append_mk [109] out).symm)
      clear HD
      go_wp2_with fail
      go_ret
      rw [HV.out]
      exact ⟨rfl, HB.out⟩
    · have hjp : (0 : Int) < j := by omega
      obtain ⟨fu', hfu, hdd⟩ := digs_step fu j out hj hz
      have HE : Hid (digs fu' (j / 10) (UInt8.ofNat (48 + j % 10) :: out) = digs k0 k0 []) := Lib.hid (hdd.symm.trans HD.out)
      have kc := one_byte j
      generalize UInt8.ofNat (48 + j % 10) = d at *
      clear hdd HD
      go_wp2_with fail
      go_roundw
      case rel => exact ⟨j / 10, fu', d :: out, hfu, by simp only [List.length_cons]; omega, by go_num, str_cons d out, HE.out, HB.out.alloc HB.out.size _⟩
      case measure => simp [intOf]; omega

/-- What marking a row leaves: the marked row, in the same blocks; no other block was written. -/
def MarkedS (w : World) (f : Fr) (A : Option Addr) (cap : Nat) (L : List Nat) (k : Nat) (e : Ending) (w' : World) : Prop :=
  e = .returned (.int .i64 ((k + 3 * nodes f : Nat) : Int)) ∧ OwnS w' (markF f k) A cap L ∧ Wrote L w w'
def MarkS (f : Fr) : Prop := ∀ (A : Option Addr) (cap k : Nat) (L : List Nat) (w : World), OwnS w f A cap L → L.Nodup → k + 3 * nodes f ≤ 1099511627776 → 0 < k →
  Calls Tryd.prog 30 #[.slice A f.len cap, .int .i64 (k : Int)] w fun e w' => MarkedS w f A cap L k e w'

set_option maxRecDepth 100000 in
set_option maxHeartbeats 2000000 in
theorem markS_of (f : Fr) (h : ∀ i k n s kids rest, f.drop i = .cons k n s kids rest → MarkS kids) : MarkS f := by
  intro A cap k0 L w ho hnd hk hk0
  rcases ho with ⟨hcap, hmax, ⟨hz, rfl⟩ | ⟨b, L', cs, rfl, rfl, hblk, hcs, hown⟩⟩
  · have hnil : f = .nil := by
      cases f with
      | nil => rfl
      | cons _ _ _ _ _ => simp [Fr.len] at hz
    subst hnil
    have e0 : (Fr.nil.len : Int) = 0 := rfl
    have HM : Hid (MarkedS w .nil A cap [] k0 (.returned (.int .i64 (k0 : Int))) w) := Lib.hid ⟨rfl, ⟨Nat.zero_le _, hmax, .inl ⟨rfl, rfl⟩⟩, .refl _ _⟩
    clear h hk hnd hcap hz hmax
    go_enter Tryd.func30, Tryd.ntmps30
    go_wp2_with fail
    go_loop [5, 1] (fun i k => i = .int .i64 0 ∧ k = .int .i64 (k0 : Int)) (fun _ _ => 0)
    case atStart => exact ⟨rfl, rfl⟩
    case round =>
      obtain ⟨rfl, rfl⟩ := hrel
      go_wp2_with fail
      go_ret
      exact HM.out
  · have h0 := MkP.start (k0 := k0) hblk hcs hown
    have HFIN : Hid (∀ wr, MkP w f b cap L' k0 f.len wr → OwnS wr (markF f k0) (some ⟨b, 0, none⟩) cap (b :: L') ∧ Wrote (b :: L') w wr) := Lib.hid fun wr h => h.done hcap hmax
    have HST := Lib.hid h0
    have HND := Lib.hid hnd
    have HH := Lib.hid h
    have HK := Lib.hid hk
    have HCAP := Lib.hid hcap
    have hl : f.len ≤ 1099511627776 := by have := len_le_nodes f; omega
    clear h0 hown hnd h hblk hcs hmax
    unfold maxLen at *
    generalize hn : f.len = len at *
    have HN := Lib.hid hn
    clear hn
    go_enter Tryd.func30, Tryd.ntmps30
    go_wp2_with fail
    go_loopw [5, 1] (fun i k wr => ∃ (j kk : Nat), j ≤ len ∧ i = .int .i64 j ∧ k = .int .i64 kk ∧ kk = k0 + 3 * nodes (f.take j) ∧ MkP w f b cap L' k0 j wr) (fun i _ _ => len - (intOf i).toNat)
    case atStart => exact ⟨0, k0, Nat.zero_le _, rfl, rfl, rfl, HST.out⟩
    case round =>
      obtain ⟨j, kk, hj, rfl, rfl, hkk, hp⟩ := hrel
      by_cases hlt : j < len
      · obtain ⟨kn, nn, s, kids, hd⟩ := Fr.drop_cons j f (by rw [HN.out]; exact hlt)
        obtain ⟨A', cap', hopen⟩ := hp.open_ hd (by rw [HN.out]; exact hlt) (by rw [HN.out]; exact HCAP.out) HND.out HK.out
        rw [← hkk] at hopen
        obtain ⟨⟨v0, v1, v2, c0, c1, c2, c3⟩, hbw, hfz, K, hKn, hgo⟩ := hopen
        have hsp := nodes_split j f
        have hnt := nodes_take j f hd
        have hn1 : nodes (f.drop j) = 1 + nodes kids + nodes (f.drop (j + 1)) := by rw [hd]; rfl
        have hkb : kk + 3 + 3 * nodes kids ≤ 1099511627776 := by have := HK.out; omega
        have HKK : Hid (kk + 3 + 3 * nodes kids = k0 + 3 * nodes (f.take (j + 1))) := Lib.hid (by omega)
        have C2 : ∀ w1, OwnS w1 kids A' cap' K → Calls Tryd.prog 30 #[.slice A' kids.len cap', .int .i64 ((kk : Int) + 1 + 1 + 1)] w1 fun e w' => MarkedS w1 kids A' cap' K (kk + 3) e w' := fun w1 ho => by
          have h := HH.out _ _ _ _ _ _ hd A' cap' (kk + 3) K w1 ho hKn (by omega) (by omega)
          rwa [show ((kk + 3 : Nat) : Int) = (kk : Int) + 1 + 1 + 1 by omega] at h
        have C1 : ∀ w1, Calls Tryd.prog 47 #[.int .i64 ((kk : Int) + 1 + 1)] w1 fun e w' => e = .returned (.string (mtext (kk + 2))) ∧ Below w1.heap.size w1 w' := fun w1 => by
          have h := markText_any (kk + 2) w1 (by omega) (by omega)
          rwa [show ((kk + 2 : Nat) : Int) = (kk : Int) + 1 + 1 by omega] at h
        have hf0 := hfz (j * 4)
        have hf1 := hfz (j * 4 + 1)
        have hf2 := hfz (j * 4 + 2)
        have HGO := Lib.hid hgo
        have H1 := Lib.hid C1
        have H2 := Lib.hid C2
        clear hp hfz hgo C1 C2 hKn hkk hsp hnt hn1 hd
        go_wp2_with fail
        refine (H1.out _).mono ?_
        rintro e w1 ⟨rfl, hb1⟩
        obtain ⟨⟨⟨v3, d2⟩, d4, d3⟩, how, hgo⟩ := HGO.out w1 (hb1.mono (by simp [World.setCell]))
        have HO := Lib.hid how
        have HG2 := Lib.hid hgo
        clear hb1 how hgo HGO c0 c1 c2 c3 hf0 hf1 hf2
        go_wp2_with fail
        refine (H2.out _ HO.out).mono ?_
        rintro e w4 ⟨rfl, ho4, hw4⟩
        have hm := HG2.out w4 ho4 hw4
        have HM := Lib.hid hm
        clear hm ho4 hw4 HG2 HO
        go_wp2_with fail
        go_roundw
        case rel => exact ⟨j + 1, kk + 3 + 3 * nodes kids, by omega, by go_num, rfl, HKK.out, HM.out⟩
        case measure => simp [intOf]; omega
      · obtain rfl : j = len := by omega
        have HE : Hid (kk = k0 + 3 * nodes f) := Lib.hid (by rw [hkk, ← HN.out, Fr.take_len])
        have HF := Lib.hid (HFIN.out wr hp)
        clear hp hkk
        go_wp2_with fail
        go_ret
        unfold MarkedS
        rw [← HE.out]
        exact ⟨rfl, HF.out⟩

theorem mark_all (N : Nat) : ∀ f : Fr, f.size ≤ N → MarkS f := by
  induction N with
  | zero =>
    intro f hf
    refine markS_of f fun i k n s kids rest hd => ?_
    have h1 := Fr.size_drop i f
    rw [hd] at h1
    simp only [Fr.size] at h1
    omega
  | succ N ih =>
    intro f hf
    refine markS_of f fun i k n s kids rest hd => ih kids ?_
    have h1 := Fr.size_drop i f
    rw [hd] at h1
    simp only [Fr.size] at h1
    omega
/-- laws.markTermS. -/
theorem markS_any (f : Fr) : MarkS f := mark_all f.size f (Nat.le_refl _)

set_option maxRecDepth 100000 in
set_option maxHeartbeats 1000000 in
/-- laws.markTerm: the kids are marked, the term itself is a copy. -/
theorem markT_any (kk nn : Int) (s : ByteArray) (f : Fr) (A : Option Addr) (cap k : Nat) (L : List Nat) (w : World) (ho : OwnS w f A cap L) (hn : L.Nodup) (hk : k + 3 * nodes f ≤ 1099511627776) (h0 : 0 < k) :
    Calls Tryd.prog 20 #[.agg #[.int .i64 kk, .int .i64 nn, .string s, .slice A f.len cap], .int .i64 (k : Int)] w fun e w' => MarkedS w f A cap L k e w' := by
  have C1 := fun w1 (hb : Wrote [] w w1) => markS_any f A cap k L w1 (ho.wrote hb fun x _ => by simp) hn hk h0
  have H1 := Lib.hid C1
  clear C1 ho hn hk h0
  go_enter Tryd.func20, Tryd.ntmps20
  go_wp2_with fail
  have hw1 := (Wrote.refl [] w).alloc (.cells #[.int .i64 kk, .int .i64 nn, .string s, .slice A f.len cap] 29)
  refine (H1.out _ hw1).mono ?_
  rintro e w2 ⟨rfl, ho2, hw2⟩
  have HM : Hid (MarkedS w f A cap L k (.returned (.int .i64 ((k + 3 * nodes f : Nat) : Int))) w2) := Lib.hid ⟨rfl, ho2, (hw1.more (fun x hx => by simp at hx)).trans hw2⟩
  clear ho2 hw2 hw1
  go_wp2_with fail
  go_ret
  exact HM.out
end Go.Proofs.YtlapdnllncoomaaDoor

/- laws.heldTermS, heldTerm: a marked row still holds its marks. Condition: the marked row lies in memory. -/
namespace Go.Proofs.YtlapdnllncoomaaDoor
open Go.RowKit

def HeldS (f : Fr) : Prop := ∀ (A : Option Addr) (cap k lo hi : Nat) (w : World), KidsAt w lo hi (markF f k) A cap → hi ≤ w.heap.size → k + 3 * nodes f ≤ 1099511627776 → 0 < k →
  Calls Tryd.prog 31 #[.slice A f.len cap, .int .i64 (k : Int)] w fun e w' => e = .returned (.int .i64 ((k + 3 * nodes f : Nat) : Int)) ∧ Below w.heap.size w w'

set_option maxRecDepth 100000 in
set_option maxHeartbeats 2000000 in
theorem heldS_of (f : Fr) (h : ∀ i k n s kids rest, f.drop i = .cons k n s kids rest → HeldS kids) : HeldS f := by
  intro A cap k0 lo hi w hk hh hb hk0
  have HK := Lib.hid hk
  have HH := Lib.hid h
  have HHI := Lib.hid hh
  have HB := Lib.hid hb
  have hl : f.len ≤ 1099511627776 := by have := len_le_nodes f; omega
  have hml := markF_len f k0
  have HML := Lib.hid hml
  clear hk h hh hb hml
  generalize hn : f.len = len at *
  have HN := Lib.hid hn
  clear hn
  go_enter Tryd.func31, Tryd.ntmps31
  go_wp2_with fail
  go_loopw [5, 1] (fun i k wr => ∃ (j kk : Nat), j ≤ len ∧ i = .int .i64 j ∧ k = .int .i64 kk ∧ kk = k0 + 3 * nodes (f.take j) ∧ Below w.heap.size w wr) (fun i _ _ => len - (intOf i).toNat)
  case atStart => exact ⟨0, k0, Nat.zero_le _, rfl, rfl, rfl, Below.refl _ _⟩
  case round =>
    obtain ⟨j, kk, hj, rfl, rfl, hkk, hbw⟩ := hrel
    by_cases hlt : j < len
    · obtain ⟨kn, nn, s, kids, hd⟩ := Fr.drop_cons j f (by rw [HN.out]; exact hlt)
      have hdm : (markF f k0).drop j = .cons (kk : Int) ((kk : Int) + 1) (mtext (kk + 2)) (markF kids (kk + 3)) (markF (f.drop (j + 1)) (kk + 3 + 3 * nodes kids)) := by
        rw [markF_drop, hd, ← hkk]; rfl
      obtain ⟨b, o, rfl, hlb, hbb, hrow⟩ := HK.out.2.2 (by rw [HML.out]; omega)
      obtain ⟨_, A', cap', c0, c1, c2, c3, hkid⟩ := hrow.elem hdm
      rw [markF_len] at c3
      have hlo : (⟨b, o, none⟩ : Addr).block < w.heap.size := Nat.lt_of_lt_of_le hbb HHI.out
      have k0' := (hbw.cell (p := ⟨b, o + j * 4, none⟩) hlo).trans c0
      have k1' := (hbw.cell (p := ⟨b, o + j * 4 + 1, none⟩) hlo).trans c1
      have k2' := (hbw.cell (p := ⟨b, o + j * 4 + 2, none⟩) hlo).trans c2
      have k3' := (hbw.cell (p := ⟨b, o + j * 4 + 3, none⟩) hlo).trans c3
      have hsp := nodes_split j f
      have hnt := nodes_take j f hd
      have hn1 : nodes (f.drop j) = 1 + nodes kids + nodes (f.drop (j + 1)) := by rw [hd]; rfl
      have hkb : kk + 3 + 3 * nodes kids ≤ 1099511627776 := by have := HB.out; omega
      have HKK : Hid (kk + 3 + 3 * nodes kids = k0 + 3 * nodes (f.take (j + 1))) := Lib.hid (by omega)
      have C1 : ∀ w1, Calls Tryd.prog 47 #[.int .i64 ((kk : Int) + 1 + 1)] w1 fun e w' => e = .returned (.string (mtext (kk + 2))) ∧ Below w1.heap.size w1 w' := fun w1 => by
        have h := markText_any (kk + 2) w1 (by omega) (by omega)
        rwa [show ((kk + 2 : Nat) : Int) = (kk : Int) + 1 + 1 by omega] at h
      have C2 : ∀ w1, Below wr.heap.size wr w1 → Calls Tryd.prog 31 #[.slice A' kids.len cap', .int .i64 ((kk : Int) + 1 + 1 + 1)] w1 fun e w' => e = .returned (.int .i64 ((kk + 3 + 3 * nodes kids : Nat) : Int)) ∧ Below w1.heap.size w1 w' := fun w1 hb1 => by
        have hb2 := hbw.trans (hb1.mono hbw.size)
        have h := HH.out _ _ _ _ _ _ hd A' cap' (kk + 3) lo hi w1 (hkid.below hb2 HHI.out) (Nat.le_trans HHI.out hb2.size) (by omega) (by omega)
        rwa [show ((kk + 3 : Nat) : Int) = (kk : Int) + 1 + 1 + 1 by omega] at h
      have t0 : ((kk : Int) != (kk : Int)) = false := by simp
      have t1 : ((kk : Int) + 1 != (kk : Int) + 1) = false := by simp
      have t2 : ((mtext (kk + 2)).toList != (mtext (kk + 2)).toList) = false := by simp
      have t2' : (!((mtext (kk + 2)).toList == (mtext (kk + 2)).toList)) = false := by simp
      have t3 : ¬ (((kk + 3 + 3 * nodes kids : Nat) : Int) < 0) := by omega
      have hlo' : b < wr.heap.size := Nat.lt_of_lt_of_le hlo hbw.size
      have H1 := Lib.hid C1
      have H2 := Lib.hid C2
      have HBW := Lib.hid hbw
      generalize mtext (kk + 2) = mt at *
      clear C1 C2 hbw hkk hsp hnt hn1 hd hdm c0 c1 c2 c3 hkid hrow
      go_wp2_with fail
      go_region_held3 (fun w' => w'.cell? ⟨b, o + j * 4 + 2, none⟩ = some (.string mt))
        (first | exact y2 | exact k2')
        (first
          | (go_at_call 47
             refine (H1.out _).mono ?_
             rintro e w2 ⟨rfl, hb2⟩
             have hd2 : Below wr.heap.size wr w2 := (Below.refl wr.heap.size wr).drew.trans hb2
             have y2 := (hd2.cell (p := ⟨b, o + j * 4 + 2, none⟩) hlo').trans k2'
             have y3 := (hd2.cell (p := ⟨b, o + j * 4 + 3, none⟩) hlo').trans k3'
             have HB2 := Lib.hid hd2
             clear hb2 hd2))
      go_wp2_with fail
      refine (H2.out _ HB2.out).mono ?_
      rintro e w3 ⟨rfl, hb3⟩
      have HB3 : Hid (Below w.heap.size w w3) := Lib.hid ((HBW.out.trans (HB2.out.mono HBW.out.size)).trans (hb3.mono (Nat.le_trans HBW.out.size HB2.out.size)))
      clear hb3
      go_wp2_with fail
      go_roundw
      case rel => exact ⟨j + 1, kk + 3 + 3 * nodes kids, by omega, by go_num, rfl, HKK.out, HB3.out⟩
      case measure => simp [intOf]; omega
    · obtain rfl : j = len := by omega
      have HE : Hid (k0 + 3 * nodes f = kk) := Lib.hid (by rw [hkk, ← HN.out, Fr.take_len])
      have HBW := Lib.hid hbw
      clear hbw hkk
      go_wp2_with fail
      go_ret
      rw [HE.out]
      exact ⟨rfl, HBW.out⟩

theorem held_all (N : Nat) : ∀ f : Fr, f.size ≤ N → HeldS f := by
  induction N with
  | zero =>
    intro f hf
    refine heldS_of f fun i k n s kids rest hd => ?_
    have h1 := Fr.size_drop i f
    rw [hd] at h1
    simp only [Fr.size] at h1
    omega
  | succ N ih =>
    intro f hf
    refine heldS_of f fun i k n s kids rest hd => ih kids ?_
    have h1 := Fr.size_drop i f
    rw [hd] at h1
    simp only [Fr.size] at h1
    omega
/-- laws.heldTermS. -/
theorem heldS_any (f : Fr) : HeldS f := held_all f.size f (Nat.le_refl _)

end Go.Proofs.YtlapdnllncoomaaDoor

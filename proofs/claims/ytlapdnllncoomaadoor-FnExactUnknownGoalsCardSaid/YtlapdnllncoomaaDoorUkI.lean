/- impl.UnknownGoals. Condition: the clauses lie in memory, both tables in their variables. -/
import Derived.Test.YtlapdnllncoomaaDoorProg
import Derived.Test.YtlapdnllncoomaaDoorPgI
import Derived.Test.YtlapdnllncoomaaDoorUkS
import Derived.Test.YtlapdnllncoomaaDoorFm
import Derived.Test.YtlapdnllncoomaaDoorTermOf
import Derived.Deep.RegionHeld3
namespace Go.Proofs.YtlapdnllncoomaaDoor
open Go.RowKit Go.WideMaps Go.Maps Go.ChangeShapes

theorem allC_elem {c : Cl} {rest : List Cl} : ∀ (cs : List Cl) (i : Nat), cs.drop i = c :: rest → allC cs = true → clauseV c = true
  | [], i, h, _ => by simp at h
  | _ :: _, 0, h, ha => by
    simp at h
    obtain ⟨rfl, _⟩ := h
    exact (Bool.and_eq_true _ _ ▸ ha).1
  | _ :: cs, i + 1, h, ha => allC_elem cs i (by simpa using h) (Bool.and_eq_true _ _ ▸ ha).2
theorem clauseV_body {c : Cl} (h : clauseV c = true) : allG c.body = true := by
  unfold clauseV goalsV at h
  simp only [Bool.and_eq_true] at h
  exact h.2.2
theorem ukB_nodes (cs : List Cl) : ∀ f : Fr, nodes (ukB cs f) ≤ nodes f
  | .nil => Nat.le_refl _
  | .cons k n s kids rest => by
    have := ukB_nodes cs rest
    unfold ukB
    split <;> simp only [nodes] <;> omega
theorem ukC_nodes (cs : List Cl) : ∀ r : List Cl, nodes (ukC cs r) ≤ wtCs r
  | [] => Nat.le_refl _
  | c :: r => by
    have h1 := ukC_nodes cs r
    have h2 := ukB_nodes cs c.body
    have h3 := wtC_nodes c
    show nodes ((ukB cs c.body).app (ukC cs r)) ≤ wtC c + wtCs r
    rw [nodes_app]
    omega
theorem ukF_nodes (cs : List Cl) (h : cs.length + wtCs cs ≤ 1048576) : nodes (ukF cs) ≤ 1048576 := by
  have := ukC_nodes cs cs
  unfold ukF
  split
  · omega
  · exact Nat.zero_le _
theorem ints_form {w : World} {base : Nat} {e : TypeId} {v : Value} {zs : List Int} (h : w.ownsInts base e .i64 v zs) : ∃ A c, v = .slice A zs.length c := by
  rcases h.1.2 with ⟨rfl, h0⟩ | ⟨g, cap, cur, rfl, _⟩
  · exact ⟨none, 0, by rw [h0]⟩
  · exact ⟨_, cap, rfl⟩

set_option maxRecDepth 100000 in
set_option maxHeartbeats 8000000 in
/-- impl.UnknownGoals. -/
theorem implUG_any (cs : List Cl) (A : Option Addr) (cap lo hi : Nat) (w : World) (hk : ClS w lo hi cs A cap) (hh : hi ≤ w.heap.size) (hnd : cs.length + wtCs cs ≤ 1048576) (ht : nv.Tab w) (ho : op.OpTab w) :
    Calls Tryd.prog 28 #[.slice A cs.length cap] w fun e w' => MadeS w (ukF cs) e w' := by
  have hlen : (ukC cs cs).len ≤ 1048576 := by have := ukC_len cs cs; omega
  have hwf := hk.wf
  have C1 := progOf_any cs A cap lo hi w hk hh hnd ht ho
  have HU : Hid (ukF cs = if progV cs = true then ukC cs cs else .nil) := Lib.hid rfl
  have HP : Hid (progV cs = (decide (cs.length ≤ 20) && allC cs)) := Lib.hid rfl
  have HND := Lib.hid hnd
  have HL := Lib.hid hlen
  have H1 := Lib.hid C1
  have HWF := Lib.hid hwf
  clear C1 hk hh hnd hlen hwf ht ho
  generalize hn : cs.length = len at *
  have HN := Lib.hid hn
  clear hn
  obtain ⟨i0, hi0, hz0, hz1, hz2⟩ := info_parts infoT
  go_enter Tryd.func28, Tryd.ntmps28
  go_wp2_with fail
  refine H1.out.mono ?_
  rintro e w2 ⟨hb2, hr⟩
  have HB2 := Lib.hid hb2
  clear hb2 H1
  rcases hr with ⟨hok, rfl⟩ | ⟨hok, R, M, rfl, hM1, hM2, D, hD, hH, r, rfl, hr1, hr2, hct⟩
  · have HV : Hid (ukF cs = .nil) := Lib.hid (by rw [HU.out, hok]; rfl)
    clear hok
    go_wp2_with fail
    go_ret
    rw [HV.out]
    exact ⟨none, 0, rfl, made_nil (HB2.out.alloc HB2.out.size _)⟩
  · have HV : Hid (ukF cs = ukC cs cs) := Lib.hid (by rw [HU.out, hok]; rfl)
    have hall : allC cs = true := by
      have h := HP.out
      rw [hok] at h
      exact (Bool.and_eq_true _ _ ▸ h.symm).2
    have hl20 : len ≤ 20 := by
      have h := HP.out
      rw [hok] at h
      have h2 := (Bool.and_eq_true _ _ ▸ h.symm).1
      rw [decide_eq_true_iff] at h2
      exact h2
    rw [HN.out] at hD
    have hb3 : Below w2.heap.size w2 (w2.alloc (.cells #[.slice (some ⟨r, 0, none⟩) len len, .map (some M)] 73)) := (Below.refl _ _).alloc (Nat.le_refl _) _
    have hq := Blk.new w2 73 #[.slice (some ⟨r, 0, none⟩) len len, .map (some M)]
    have hD3 := groups_below hD hb3
    have hct3 : Cts (w2.alloc (.cells #[.slice (some ⟨r, 0, none⟩) len len, .map (some M)] 73)) (fun g => g < w2.heap.size) r cs 0 :=
      Cts.keep (fun p hp => hb3.cell hp.2) (fun g hg => hg.2) cs 0 (fun j _ => hb3.cell (p := ⟨r, j, none⟩) hr2) hct
    have hbw : Below w.heap.size w (w2.alloc (.cells #[.slice (some ⟨r, 0, none⟩) len len, .map (some M)] 73)) := HB2.out.trans (hb3.mono HB2.out.size)
    have hs3 : w2.heap.size < (w2.alloc (.cells #[.slice (some ⟨r, 0, none⟩) len len, .map (some M)] 73)).heap.size := by simp
    rw [HN.out]
    have hpg : PgAt w2 cs (some ⟨r, 0, none⟩) M w.heap.size := ⟨hM1, hM2, D, by rw [HN.out]; exact hD, hH, r, rfl, hr1, hr2, hct⟩
    have HPG := Lib.hid (hpg.below hb3)
    have HALL := Lib.hid hall
    have HD := Lib.hid hD3
    have HQ := Lib.hid hq
    have HH := Lib.hid hH
    have HCT := Lib.hid hct3
    have HBW := Lib.hid hbw
    clear hok hM1 hM2 hD hH hr1 hct hb3 hD3 hct3 hq hbw hall HB2 HP HU hpg
    go_wp2_with fail
    generalize w2.alloc (.cells #[.slice (some ⟨r, 0, none⟩) len len, .map (some M)] 73) = W0 at *
    generalize w2.heap.size = pg at *
    go_loopw [5, 22] (fun o i wr => ∃ (j : Nat) (v : Value) (F : Fr), j ≤ len ∧ i = .int .i64 j ∧ v = o ∧ RowP W0.heap.size v F wr ∧ F.app (ukC cs (cs.drop j)) = ukC cs cs ∧ Below W0.heap.size W0 wr) (fun _ i _ => len - (intOf i).toNat)
    case atStart => exact ⟨0, _, .nil, Nat.zero_le _, rfl, rfl, RowP.nil _ _, rfl, Below.refl _ _⟩
    case round =>
      obtain ⟨j, v, F, hj, rfl, rfl, hr, hF, hb⟩ := hrel
      by_cases hlt : j < len
      · obtain ⟨c, hd⟩ := drop_cl cs j (by rw [HN.out]; exact hlt)
        obtain ⟨A', cp, G, gcap, lo2, hi2, e0, e1, e2, hno, _, hgl⟩ := Cts.get cs 0 j hd HCT.out
        rw [Nat.zero_add] at e0 e1 e2
        have hlo : r < W0.heap.size := by omega
        have k0 := (hb.cell (p := ⟨r, j * 3, none⟩) hlo).trans e0
        have k1 := (hb.cell (p := ⟨r, j * 3 + 1, none⟩) hlo).trans e1
        have k2 := (hb.cell (p := ⟨r, j * 3 + 2, none⟩) hlo).trans e2
        have hF2 : F.app ((ukB cs c.body).app (ukC cs (cs.drop (j + 1)))) = ukC cs cs := by rw [hd] at hF; exact hF
        have hcb := clauseV_body (allC_elem cs j hd HALL.out)
        have HWC : Hid (wtC c ≤ 1048576) := Lib.hid (by have h1 := wtC_le cs j hd; have h2 := HND.out; omega)
        have hbx : Below wr.heap.size wr (wr.alloc (.cells #[.string c.s, .slice A' c.kids.len cp, .slice G c.body.len gcap] 91)) := (Below.refl _ _).alloc (Nat.le_refl _) _
        have hst := hr.below hbx
        have hbb := hb.trans (hbx.mono hb.size)
        have hgm := Nat.le_trans hgl.1 hgl.2.1
        unfold maxLen at hgm
        have HF2 := Lib.hid hF2
        have HST := Lib.hid hst
        have HBB := Lib.hid hbb
        have HGL := Lib.hid hgl
        have HNO := Lib.hid hno
        have HCB := Lib.hid hcb
        clear hF hF2 hr hb hd e0 e1 e2 hno hgl hcb hbx hst hbb
        generalize hgn : c.body.len = gl at *
        have HGN := Lib.hid hgn
        clear hgn
        generalize c.kids.len = ckl at *
        go_wp2_with fail
        go_loopw [5, 29] (fun o i wx => ∃ (m : Nat) (v2 : Value) (F2 : Fr), m ≤ gl ∧ i = .int .i64 m ∧ v2 = o ∧ RowP W0.heap.size v2 F2 wx ∧ F2.app ((ukB cs (c.body.drop m)).app (ukC cs (cs.drop (j + 1)))) = ukC cs cs ∧ Below W0.heap.size W0 wx) (fun _ i _ => gl - (intOf i).toNat)
        case atStart => exact ⟨0, v, F, Nat.zero_le _, rfl, rfl, HST.out, HF2.out, HBB.out⟩
        case round =>
          obtain ⟨m, v2, F2, hm, rfl, rfl, hr, hF, hb⟩ := hrel
          by_cases hlt2 : m < gl
          · obtain ⟨kk, nn, ss, kids, hd⟩ := Fr.drop_cons m c.body (by rw [HGN.out]; exact hlt2)
            obtain ⟨gb, rfl, hgb1, hgb2, hrow⟩ := HGL.out.2.2 (by rw [HGN.out]; omega)
            have hgb3 : gb < W0.heap.size := by have := HNO.out gb hgb1 hgb2; omega
            obtain ⟨gv, A3, cp3, hcell, hgi, hnd⟩ := hrow.elem hd
            rw [Nat.zero_add] at hcell
            have k3 := (hb.cell (p := ⟨gb, m, none⟩) hgb3).trans hcell
            have hgo := allG_elem c.body m hd HCB.out
            have hfit3 : kids.len ≤ maxLen := Nat.le_trans hnd.1 hnd.2.1
            have HGO := Lib.hid hgo
            have HBX := Lib.hid hb
            have HR := Lib.hid hr
            have HFF := Lib.hid hF
            have HDD := Lib.hid hd
            have HNDS := Lib.hid hnd
            have HFT := Lib.hid hfit3
            clear hb hr hF hd hrow hcell hgo hfit3 hnd k0 k1 k2
            rcases hgi with ⟨hg, rfl⟩ | ⟨hg, rfl⟩ | ⟨hg, rfl⟩
            · have hn : ukB cs (c.body.drop m) = ukB cs (c.body.drop (m + 1)) := ukB_no cs HDD.out (by rw [goal_other HGO.out (by rw [hg]; decide)]; simp)
              have HF3 : Hid (F2.app ((ukB cs (c.body.drop (m + 1))).app (ukC cs (cs.drop (j + 1)))) = ukC cs cs) := Lib.hid (by rw [← hn]; exact HFF.out)
              have HX : Hid (∀ o, RowP W0.heap.size v2 F2 (wr.alloc o) ∧ Below W0.heap.size W0 (wr.alloc o)) := Lib.hid fun o => by
                have h : Below wr.heap.size wr (wr.alloc o) := (Below.refl _ _).alloc (Nat.le_refl _) o
                exact ⟨HR.out.below h, HBX.out.trans (h.mono HBX.out.size)⟩
              clear hn hg
              go_wp2_with fail
              go_roundw
              case rel => exact ⟨m + 1, _, F2, by omega, by go_num, rfl, (HX.out _).1, HF3.out, (HX.out _).2⟩
              case measure => simp [intOf]; omega
            · have hn : ukB cs (c.body.drop m) = ukB cs (c.body.drop (m + 1)) := ukB_no cs HDD.out (by rw [goal_other HGO.out (by rw [hg]; decide)]; simp)
              have HF3 : Hid (F2.app ((ukB cs (c.body.drop (m + 1))).app (ukC cs (cs.drop (j + 1)))) = ukC cs cs) := Lib.hid (by rw [← hn]; exact HFF.out)
              have HX : Hid (∀ o, RowP W0.heap.size v2 F2 (wr.alloc o) ∧ Below W0.heap.size W0 (wr.alloc o)) := Lib.hid fun o => by
                have h : Below wr.heap.size wr (wr.alloc o) := (Below.refl _ _).alloc (Nat.le_refl _) o
                exact ⟨HR.out.below h, HBX.out.trans (h.mono HBX.out.size)⟩
              clear hn hg
              go_wp2_with fail
              go_roundw
              case rel => exact ⟨m + 1, _, F2, by omega, by go_num, rfl, (HX.out _).1, HF3.out, (HX.out _).2⟩
              case measure => simp [intOf]; omega
            · obtain ⟨hpk, rfl, rfl, hval⟩ := goal_plain HGO.out hg
              obtain ⟨hsh, hnk⟩ := valid_shape2 hval
              obtain ⟨_, hnm, _, _⟩ := shapeT_struct hsh
              have hss : ss.size ≤ maxLen := by have := nameB_size hnm; unfold maxLen; omega
              have hix : idxF cs 0 (pk ss kids.len) = forF cs 0 ss kids.len := forF_idx ss kids.len hss HFT.out cs 0 HWF.out
              have hkey := pk_key ss kids.len hss HFT.out
              have hfit : Fits 3 0 ss := ⟨by omega, by omega, hss⟩
              have hb1 : Below wr.heap.size wr (wr.alloc (.cells #[.string ss, .slice A3 kids.len cp3] 74)) := (Below.refl _ _).alloc (Nat.le_refl _) _
              have hq1 := Blk.new wr 74 #[.string ss, .slice A3 kids.len cp3]
              have hby := HBX.out.trans (hb1.mono HBX.out.size)
              have hry := HR.out.below hb1
              have HPK := Lib.hid hpk
              have HSH := Lib.hid hsh
              have HNK := Lib.hid hnk
              have HIX := Lib.hid hix
              have HKK := Lib.hid hkey
              have HFIT := Lib.hid hfit
              have HQ1 := Lib.hid hq1
              have HBY := Lib.hid hby
              have HRY := Lib.hid hry
              have HCLS : Hid (cs.length ≤ 20) := Lib.hid (by rw [HN.out]; exact hl20)
              have hln20 : (forF cs 0 ss kids.len).length ≤ 20 := Nat.le_trans (forF_len ss kids.len cs 0) HCLS.out
              have HSS := Lib.hid hss
              have hqw := HQ.out.below (HBX.out) HQ.out.lt
              have q0 := hqw.cell 0
              have q1 := hqw.cell 1
              simp only [List.getElem?_toArray, List.getElem?_cons_zero, List.getElem?_cons_succ] at q0 q1
              have hpgl : pg < wr.heap.size := hqw.lt
              clear hpk hval hsh hnk hnm hss hix hkey hfit hb1 hq1 hby hry hg HR HBX hqw
              have hzy : wr.heap.size < (wr.alloc (.cells #[.string ss, .slice A3 kids.len cp3] 74)).heap.size := HQ1.out.lt
              have C6 := cfor_any cs (some ⟨r, 0, none⟩) M _ ss A3 kids.len cp3 _ (HPG.out.below HBY.out) HWF.out (by have := HCLS.out; omega) HSS.out HFT.out
              rw [HN.out] at C6
              have H6' := Lib.hid C6
              clear C6
              go_wp2_with fail
              generalize wr.alloc (.cells #[.string ss, .slice A3 kids.len cp3] 74) = Y0 at *
              refine H6'.out.mono ?_
              rintro e w6 ⟨vz, rfl, hoi, hb6⟩
              obtain ⟨Az, cz, rfl⟩ := ints_form hoi
              have HX1 := Lib.hid hb6
              have HH0 : Hid (∀ h0 : (forF cs 0 ss kids.len).length = 0, ukB cs (c.body.drop m) = .cons 3 0 ss kids (ukB cs (c.body.drop (m + 1)))) := Lib.hid fun h0 => ukB_yes cs HDD.out ⟨HPK.out, h0⟩
              have HH1 : Hid (∀ h0 : ¬ (forF cs 0 ss kids.len).length = 0, ukB cs (c.body.drop m) = ukB cs (c.body.drop (m + 1))) := Lib.hid fun h0 => ukB_no cs HDD.out fun h => h0 h.2
              clear hoi hb6 H6' k3 q0 q1
              generalize (forF cs 0 ss kids.len).length = ln at *
              by_cases h0 : ln = 0
              · have HY := Lib.hid (HH0.out h0)
                have t0 : ((ln : Int) == 0) = true := by simp [h0]
                clear HH0 HH1 h0
                have hb6 := HBY.out.trans (HX1.out.mono HBY.out.size)
                have HR6 := Lib.hid (HRY.out.below HX1.out)
                have HB6 := Lib.hid hb6
                clear hb6
                go_wp2_with fail
                refine (formP_any _ _ _ _ _).mono ?_
                rintro e w7 ⟨rfl, hb7⟩
                have HR7 := Lib.hid (HR6.out.below hb7)
                have HB7 := Lib.hid (HB6.out.trans (hb7.mono HB6.out.size))
                clear hb7 HR6 HB6 HX1 HRY HBY
                have hhi : hi2 ≤ pg := by
                  by_cases hq : lo2 ≤ hi2 - 1
                  · have := HNO.out (hi2 - 1) hq (by omega); omega
                  · omega
                have hs7 := HB7.out.size
                have C2 := tmT_any ss kids 3 0 30 (.iface 60 (.agg #[.string ss, .slice A3 kids.len cp3])) lo2 hi2 w7 HSH.out (.inr (.inr ⟨rfl, A3, cp3, rfl, HNDS.out.keep (fun p _ hp => HB7.out.cell (by omega)) (Nat.le_refl _) (Nat.le_refl _)⟩)) (by omega) (by have := HNK.out; omega)
                have hF3 : (F2.app (.cons 3 0 ss kids .nil)).app ((ukB cs (c.body.drop (m + 1))).app (ukC cs (cs.drop (j + 1)))) = ukC cs cs := by
                  have h := HFF.out
                  rw [HY.out] at h
                  rw [fr_assoc]
                  exact h
                have hfl : F2.len + 1 ≤ 1048576 := by
                  have h := congrArg Fr.len hF3
                  rw [Fr.len_app, Fr.len_app] at h
                  have h2 := HL.out
                  have h3 : (Fr.cons 3 0 ss kids .nil).len = 1 := rfl
                  omega
                have HF3 := Lib.hid hF3
                obtain ⟨xs, L, hown, hDs, hN, hL, hv⟩ := HR7.out
                have hvl := hown.lt
                have HSTEP : Hid (∀ A4 cap2 w8 w9 g cap4, Made w7 kids A4 cap2 w8 → (w8.alloc (.cells #[.int .i64 3, .int .i64 0, .string ss, .slice A4 kids.len cap2] 29)).grownBy w9 v2.ownBlock →
                    w9.ownsRow W0.heap.size 29 4 (.slice (some ⟨g, 0, none⟩) (F2.len + 1) cap4) (F2.len + 1) (xs ++ [.int .i64 3, .int .i64 0, .string ss, .slice A4 kids.len cap2]) → (v2.ownBlock = some g ∨ g = w8.heap.size + 1) →
                    RowP W0.heap.size (.slice (some ⟨g, 0, none⟩) (F2.len + 1) cap4) (F2.app (.cons 3 0 ss kids .nil)) w9 ∧ Below W0.heap.size W0 w9) := Lib.hid fun A4 cap2 w8 w9 g cap4 hm2 hg ho hat => by
                  have hb2 := made_below2 hm2
                  have hb3 : Below w8.heap.size w8 (w8.alloc (.cells #[.int .i64 3, .int .i64 0, .string ss, .slice A4 kids.len cap2] 29)) := (Below.refl _ _).alloc (Nat.le_refl _) _
                  refine ⟨RowP.step (base := W0.heap.size) hDs hN hL hv (fun g hg => (hvl g hg).2) hs7 HFIT.out hm2 hb3 hg ho (by simpa using hat), ?_⟩
                  have h3 := HB7.out.trans ((hb2.trans (hb3.mono hb2.size)).mono hs7)
                  exact h3.grown hg h3.size fun g hg => (hvl g hg).1
                have hkeep : ∀ A4 cap2 w8, Made w7 kids A4 cap2 w8 → w8.ownsRow W0.heap.size 29 4 v2 F2.len xs ∧ w7.heap.size ≤ w8.heap.size := fun A4 cap2 w8 hm2 => by
                  have hb2 := made_below2 hm2
                  exact ⟨hown.kept (row := none) ⟨hb2.os, hb2.tape, hb2.output, hb2.size, fun k hk _ => hb2.block k hk⟩ (by
                    cases h : v2.ownBlock with
                    | none => exact .inl rfl
                    | some g => exact .inr (by simp)), hb2.size⟩
                have H6 := Lib.hid C2
                have HKEEP := Lib.hid hkeep
                clear hkeep hown hDs hN hL hv hvl hF3 HR7 C2 hhi
                generalize F2.len = fl at *
                go_wp2_with fail
                refine H6.out.mono ?_
                rintro e w8 ⟨A4, cap2, rfl, hm2⟩
                obtain ⟨ho2, hs2⟩ := HKEEP.out A4 cap2 w8 hm2
                have HO2 := Lib.hid ho2
                have HM2 := Lib.hid hm2
                clear ho2 hm2
                go_wp2_with (at_builtin; go_must (refine wpList_append_lies _ rfl _ _ _ rfl W0.heap.size 29 i0 _ 4 56 Tryd.underlying27 hi0 hz0 hz1 hz2 rfl (by omega) v2 fl xs rfl (HO2.out.alloc _) ⟨w8.heap.size, 0, none⟩ 1 1 [.int .i64 3, .int .i64 0, .string ss, .slice A4 kids.len cap2] rfl rfl (World.news_of_block (cs := #[.int .i64 3, .int .i64 0, .string ss, .slice A4 kids.len cap2]) (fr := (0, 0)) (heap_alloc_new w8 _)) (by simp [Value.oneCell']) (by omega) (by unfold maxLen; omega) (by omega) (by simp; omega) (w8.heap.size + 1) (by simp) ?_); intro g cap4 w9 hown9 hgrow hat hlt9; have HS := Lib.hid (HSTEP.out A4 cap2 w8 w9 g cap4 HM2.out hgrow hown9 hat); clear hown9 hgrow hat)
                go_roundw
                case rel => exact ⟨m + 1, _, _, by omega, by go_num, rfl, HS.out.1, HF3.out, HS.out.2⟩
                case measure => simp [intOf]; omega
              · have hn := HH1.out h0
                have HF3 : Hid (F2.app ((ukB cs (c.body.drop (m + 1))).app (ukC cs (cs.drop (j + 1)))) = ukC cs cs) := Lib.hid (by rw [← hn]; exact HFF.out)
                have t0 : ((ln : Int) == 0) = false := by simp; exact h0
                clear HH0 HH1 hn h0
                have HR6 := Lib.hid (HRY.out.below HX1.out)
                have HB6 := Lib.hid (HBY.out.trans (HX1.out.mono HBY.out.size))
                go_wp2_with fail
                go_roundw
                case rel => exact ⟨m + 1, _, F2, by omega, by go_num, rfl, HR6.out, HF3.out, HB6.out⟩
                case measure => simp [intOf]; omega
          · obtain rfl : m = gl := by omega
            have e1 : c.body.drop m = .nil := by rw [← HGN.out]; exact Fr.drop_len _
            have HF3 : Hid (F2.app (ukC cs (cs.drop (j + 1))) = ukC cs cs) := Lib.hid (by rw [e1] at hF; exact hF)
            have HR := Lib.hid hr
            have HB := Lib.hid hb
            clear hr hb hF e1
            go_wp2_with fail
            go_roundw
            case rel => exact ⟨j + 1, _, F2, by omega, by go_num, rfl, HR.out, HF3.out, HB.out⟩
            case measure => simp [intOf]; omega
      · obtain rfl : j = len := by omega
        have e1 : cs.drop j = [] := by rw [← HN.out]; exact List.drop_length
        rw [e1] at hF
        have e2 : F.app (ukC cs []) = F := by
          clear hF hr
          induction F with
          | nil => rfl
          | cons _ _ _ _ _ _ ih => show Fr.cons _ _ _ _ _ = _; rw [ih]
        rw [e2] at hF
        subst hF
        obtain ⟨A2, cap2, rfl⟩ := hr.form
        have HM := Lib.hid (hr.done (HBW.out.trans (hb.mono HBW.out.size)) HBW.out.size)
        clear hr hb
        go_wp2_with fail
        go_ret
        rw [HV.out]
        exact ⟨A2, cap2, rfl, HM.out⟩
end Go.Proofs.YtlapdnllncoomaaDoor

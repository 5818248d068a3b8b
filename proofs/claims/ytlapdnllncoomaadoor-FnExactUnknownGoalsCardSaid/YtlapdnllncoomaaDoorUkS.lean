/- The model's UnknownGoals. Condition: the clauses lie in memory. -/
import Derived.Test.YtlapdnllncoomaaDoorProg
import Derived.Test.YtlapdnllncoomaaDoorCfS
import Derived.Test.YtlapdnllncoomaaDoorCopy
namespace Go.Proofs.YtlapdnllncoomaaDoor
open Go.RowKit

/-- The goals of a body that no clause's head fits. -/
def ukB (cs : List Cl) : Fr → Fr
  | .nil => .nil
  | .cons k n s kids rest => if plainK k s kids.len = true ∧ (forF cs 0 s kids.len).length = 0 then .cons k n s kids (ukB cs rest) else ukB cs rest
def ukC (cs : List Cl) : List Cl → Fr
  | [] => .nil
  | c :: r => (ukB cs c.body).app (ukC cs r)
def ukF (cs : List Cl) : Fr := if progV cs = true then ukC cs cs else .nil
theorem fr_assoc (a b c : Fr) : (a.app b).app c = a.app (b.app c) := by
  induction a with
  | nil => rfl
  | cons _ _ _ _ _ _ ih => simp only [Fr.app, ih]
theorem ukB_len (cs : List Cl) : ∀ f : Fr, (ukB cs f).len ≤ f.len
  | .nil => Nat.le_refl _
  | .cons k n s kids rest => by
    have := ukB_len cs rest
    unfold ukB
    split <;> simp only [Fr.len] <;> omega
theorem ukC_len (cs : List Cl) : ∀ r : List Cl, (ukC cs r).len ≤ wtCs r
  | [] => Nat.le_refl _
  | c :: r => by
    have h1 := ukC_len cs r
    have h2 := ukB_len cs c.body
    show ((ukB cs c.body).app (ukC cs r)).len ≤ wtC c + wtCs r
    rw [Fr.len_app]
    unfold wtC
    omega
theorem made_below2 {w w2 : World} {f : Fr} {A : Option Addr} {cap : Nat} (h : Made w f A cap w2) : Below w.heap.size w w2 := by
  obtain ⟨L, _, _, _, h4⟩ := h
  exact h4
theorem ukB_yes (cs : List Cl) {f : Fr} {k n : Int} {s : ByteArray} {kids rest : Fr} (hd : f = .cons k n s kids rest) (h : plainK k s kids.len = true ∧ (forF cs 0 s kids.len).length = 0) : ukB cs f = .cons k n s kids (ukB cs rest) := by
  rw [hd, ukB, if_pos h]
theorem ukB_no (cs : List Cl) {f : Fr} {k n : Int} {s : ByteArray} {kids rest : Fr} (hd : f = .cons k n s kids rest) (h : ¬ (plainK k s kids.len = true ∧ (forF cs 0 s kids.len).length = 0)) : ukB cs f = ukB cs rest := by
  rw [hd, ukB, if_neg h]

set_option maxRecDepth 100000 in
set_option maxHeartbeats 8000000 in
/-- spec.UnknownGoals. -/
theorem specUG_any (cs : List Cl) (A : Option Addr) (cap lo hi : Nat) (w : World) (hk : ClS w lo hi cs A cap) (hh : hi ≤ w.heap.size) (hnd : cs.length + wtCs cs ≤ 1048576) :
    Calls Tryd.prog 27 #[.slice A cs.length cap] w fun e w' => MadeS w (ukF cs) e w' := by
  have hlen : (ukC cs cs).len ≤ 1048576 := by have := ukC_len cs cs; omega
  have hl : cs.length ≤ 1048576 := by omega
  have C1 := fun w1 (hb : Below w.heap.size w w1) => specPV_any cs A cap lo hi w1 (hk.below hb hh) (Nat.le_trans hh hb.size) hnd
  have HU : Hid (ukF cs = if progV cs = true then ukC cs cs else .nil) := Lib.hid rfl
  have HK := Lib.hid hk
  have HHI := Lib.hid hh
  have HND := Lib.hid hnd
  have HL := Lib.hid hlen
  have H1 := Lib.hid C1
  have hb0 : Below w.heap.size w (w.alloc (.cells #[] 29)) := (Below.refl _ _).alloc (Nat.le_refl _) _
  have hst : RowP w.heap.size (.slice (some ⟨w.heap.size, 0, none⟩) 0 0) .nil (w.alloc (.cells #[] 29)) := RowP.empty (Nat.le_refl _)
  have HB0 := Lib.hid hb0
  have HST := Lib.hid hst
  clear C1 hk hh hnd hlen hb0 hst
  generalize hv : progV cs = pv at *
  clear hv
  generalize hn : cs.length = len at *
  have HN := Lib.hid hn
  clear hn
  obtain ⟨i0, hi0, hz0, hz1, hz2⟩ := info_parts infoT
  cases pv
  · have HV : Hid (ukF cs = .nil) := Lib.hid (by rw [HU.out]; rfl)
    clear HU
    go_enter Tryd.func27, Tryd.ntmps27
    go_wp2_with fail
    go_loopw [3, 4] (fun o i wr => i = .int .i64 0 ∧ (∃ v, v = o ∧ RowP w.heap.size v .nil wr) ∧ Below w.heap.size w wr) (fun _ _ _ => 0)
    case atStart => exact ⟨rfl, ⟨_, rfl, HST.out⟩, HB0.out⟩
    case round =>
      obtain ⟨rfl, ⟨v, rfl, hr⟩, hb⟩ := hrel
      have hres : ∀ wx, Below wr.heap.size wr wx → ∃ A2 cap2, v = .slice A2 0 cap2 ∧ Made w .nil A2 cap2 wx := fun wx hbx => by
        have h2 := hr.below hbx
        obtain ⟨A2, cap2, rfl⟩ := h2.form
        exact ⟨A2, cap2, rfl, h2.done (hb.trans (hbx.mono hb.size)) (Nat.le_refl _)⟩
      have HR := Lib.hid hres
      have H2 := Lib.hid (H1.out wr hb)
      clear hres hr hb H1
      by_cases hp : 0 < len
      · have hp' : (0 : Int) < (len : Int) := by omega
        go_wp2_with fail
        refine H2.out.mono ?_
        rintro e w2 ⟨rfl, hb2⟩
        obtain ⟨A2, cap2, rfl, hm⟩ := HR.out w2 hb2
        have HM := Lib.hid hm
        clear hm hb2
        go_wp2_with fail
        go_ret
        rw [HV.out]
        exact ⟨A2, cap2, rfl, HM.out⟩
      · obtain ⟨A2, cap2, rfl, hm⟩ := HR.out wr (Below.refl _ _)
        have HM := Lib.hid hm
        clear hm
        go_wp2_with fail
        go_ret
        rw [HV.out]
        exact ⟨A2, cap2, rfl, HM.out⟩
  · have HV : Hid (ukF cs = ukC cs cs) := Lib.hid (by rw [HU.out]; rfl)
    clear HU
    go_enter Tryd.func27, Tryd.ntmps27
    go_wp2_with fail
    go_loopw [3, 4] (fun o i wr => ∃ (j : Nat) (v : Value) (F : Fr), j ≤ len ∧ i = .int .i64 j ∧ v = o ∧ RowP w.heap.size v F wr ∧ F.app (ukC cs (cs.drop j)) = ukC cs cs ∧ Below w.heap.size w wr) (fun _ i _ => len - (intOf i).toNat)
    case atStart => exact ⟨0, _, .nil, Nat.zero_le _, rfl, rfl, HST.out, rfl, HB0.out⟩
    case round =>
      obtain ⟨j, v, F, hj, rfl, rfl, hr, hF, hb⟩ := hrel
      by_cases hlt : j < len
      · obtain ⟨c, hd⟩ := drop_cl cs j (by rw [HN.out]; exact hlt)
        obtain ⟨b, o, rfl, hlb, hbb, hrow⟩ := HK.out.2.2 (by rw [HN.out]; omega)
        obtain ⟨_, A', cp, A2, cp2, c0, c1, c2, c3, c4, hkid, hbd⟩ := ClAt.elem j cs b o hrow hd
        have hlo : b < w.heap.size := Nat.lt_of_lt_of_le hbb HHI.out
        have hF2 : F.app ((ukB cs c.body).app (ukC cs (cs.drop (j + 1)))) = ukC cs cs := by rw [hd] at hF; exact hF
        have HWC : Hid (wtC c ≤ 1048576) := Lib.hid (by have h1 := wtC_le cs j hd; have h2 := HND.out; omega)
        have H2 := Lib.hid (H1.out wr hb)
        have HF2 := Lib.hid hF2
        have HR := Lib.hid hr
        have HB := Lib.hid hb
        have HC4 := Lib.hid c4
        have HBD := Lib.hid hbd
        clear hF hF2 hr hb hd hrow c0 c1 c2 c3 c4 hkid hbd
        have hgl := HBD.out.1
        have hgm := HBD.out.2.1
        unfold maxLen at hgm
        generalize hgn : c.body.len = gl at *
        have HGN := Lib.hid hgn
        clear hgn
        go_wp2_with fail
        refine H2.out.mono ?_
        rintro e w2 ⟨rfl, hb2⟩
        have hbw := HB.out.trans (hb2.mono HB.out.size)
        have HST2 := Lib.hid (HR.out.below hb2)
        have HBW := Lib.hid hbw
        clear hb2 hbw H2 HR HB
        go_wp2_with fail
        go_loopw [3, 5] (fun o i wx => ∃ (m : Nat) (v2 : Value) (F2 : Fr), m ≤ gl ∧ i = .int .i64 m ∧ v2 = o ∧ RowP w.heap.size v2 F2 wx ∧ F2.app ((ukB cs (c.body.drop m)).app (ukC cs (cs.drop (j + 1)))) = ukC cs cs ∧ Below w.heap.size w wx) (fun _ i _ => gl - (intOf i).toNat)
        case atStart => exact ⟨0, v, F, Nat.zero_le _, rfl, rfl, HST2.out, HF2.out, HBW.out⟩
        case round =>
          obtain ⟨m, v2, F2, hm, rfl, rfl, hr, hF, hb⟩ := hrel
          have c4 := (hb.cell (p := ⟨b, o + j * 5 + 4, none⟩) hlo).trans HC4.out
          by_cases hlt2 : m < gl
          · obtain ⟨kk, nn, ss, kids, hd⟩ := Fr.drop_cons m c.body (by rw [HGN.out]; exact hlt2)
            obtain ⟨b2, o2, rfl, _, hbb2, hrow2⟩ := HBD.out.2.2 (by rw [HGN.out]; omega)
            obtain ⟨hfit, A3, cp3, d0, d1, d2, d3, hkid⟩ := hrow2.elem hd
            have hlo2 : b2 < w.heap.size := Nat.lt_of_lt_of_le hbb2 HHI.out
            have k0 := (hb.cell (p := ⟨b2, o2 + m * 4, none⟩) hlo2).trans d0
            have k1 := (hb.cell (p := ⟨b2, o2 + m * 4 + 1, none⟩) hlo2).trans d1
            have k2 := (hb.cell (p := ⟨b2, o2 + m * 4 + 2, none⟩) hlo2).trans d2
            have k3 := (hb.cell (p := ⟨b2, o2 + m * 4 + 3, none⟩) hlo2).trans d3
            have HBX := Lib.hid hb
            have HR := Lib.hid hr
            have HFF := Lib.hid hF
            have HD := Lib.hid hd
            have HFIT := Lib.hid hfit
            have HKID := Lib.hid hkid
            have hb1 : Below wr.heap.size wr (wr.alloc (.cells #[.int .i64 kk, .int .i64 nn, .string ss, .slice A3 kids.len cp3] 29)) := (Below.refl _ _).alloc (Nat.le_refl _) _
            have HB1 := Lib.hid hb1
            have C2 := plain_any kk nn ss A3 kids.len cp3 (wr.alloc (.cells #[.int .i64 kk, .int .i64 nn, .string ss, .slice A3 kids.len cp3] 29)) hfit.2.2
            have C3 := fun w1 (hb : Below w.heap.size w w1) => for_any cs (some ⟨b, o, none⟩) cap lo hi kk nn ss A3 kids.len cp3 w1 (HK.out.below hb HHI.out) (Nat.le_trans HHI.out hb.size) (by rw [HN.out]; exact hl)
            rw [HN.out] at C3
            have C4 := fun w1 (hb : Below w.heap.size w w1) => cpT_any ss kids kk nn A3 cp3 lo hi w1 (hkid.below hb HHI.out) (Nat.le_trans HHI.out hb.size) hfit (by
              have h1 := nodes_drop_elem m c.body hd
              have h2 := wtC_nodes c
              have h3 := HWC.out
              omega)
            have HQ := Lib.hid (Blk.new wr 29 #[.int .i64 kk, .int .i64 nn, .string ss, .slice A3 kids.len cp3])
            have H3 := Lib.hid C2
            have H4 := Lib.hid C3
            have H5 := Lib.hid C4
            clear hb hr hF hd hfit hkid hrow2 d0 d1 d2 d3 hb1 C2 C3 C4
            cases hp : plainK kk ss kids.len
            · have hn : ukB cs (c.body.drop m) = ukB cs (c.body.drop (m + 1)) := ukB_no cs HD.out (by rw [hp]; simp)
              have HF3 : Hid (F2.app ((ukB cs (c.body.drop (m + 1))).app (ukC cs (cs.drop (j + 1)))) = ukC cs cs) := Lib.hid (by rw [← hn]; exact HFF.out)
              rw [hp] at H3
              clear hp hn H4 H5
              go_wp2_with fail
              refine H3.out.mono ?_
              rintro e w3 ⟨rfl, hb3⟩
              have h3 := HB1.out.trans (hb3.mono HB1.out.size)
              have HR3 := Lib.hid (HR.out.below h3)
              have HB3 := Lib.hid (HBX.out.trans (h3.mono HBX.out.size))
              clear h3 hb3 k0 k1 k2 k3 c4
              go_wp2_with fail
              go_roundw
              case rel => exact ⟨m + 1, _, F2, by omega, by go_num, rfl, HR3.out, HF3.out, HB3.out⟩
              case measure => simp [intOf]; omega
            · have HP := Lib.hid hp
              rw [hp] at H3
              clear hp
              go_wp2_with fail
              refine H3.out.mono ?_
              rintro e w3 ⟨rfl, hb3⟩
              have h3 := HB1.out.trans (hb3.mono HB1.out.size)
              have q3 := HQ.out.below hb3 HQ.out.lt
              obtain ⟨x0, x1, x2, x3⟩ := cells4i q3
              have HQ3 := Lib.hid q3
              have HR3 := Lib.hid (HR.out.below h3)
              have HB3 := Lib.hid (HBX.out.trans (h3.mono HBX.out.size))
              have hz3 : wr.heap.size < w3.heap.size := q3.lt
              clear h3 hb3 q3 H3 HR HBX HB1 HQ
              go_wp2_with fail
              refine (H4.out w3 HB3.out).mono ?_
              rintro e w4 ⟨vI, rfl, hoI, hb4⟩
              obtain ⟨AI, cI, rfl, _⟩ := hoI.read
              have q4 := HQ3.out.below hb4 HQ3.out.lt
              have HR4 := Lib.hid (HR3.out.below hb4)
              have HB4 := Lib.hid (HB3.out.trans (hb4.mono HB3.out.size))
              clear hoI hb4 x0 x1 x2 x3 HR3 HB3 HQ3 H4
              obtain ⟨x0, x1, x2, x3⟩ := cells4i q4
              clear q4
              by_cases h0 : (forF cs 0 ss kids.len).length = 0
              · have hy : ukB cs (c.body.drop m) = .cons kk nn ss kids (ukB cs (c.body.drop (m + 1))) := ukB_yes cs HD.out ⟨HP.out, h0⟩
                have hF3 : (F2.app (.cons kk nn ss kids .nil)).app ((ukB cs (c.body.drop (m + 1))).app (ukC cs (cs.drop (j + 1)))) = ukC cs cs := by
                  have h := HFF.out
                  rw [hy] at h
                  rw [fr_assoc]
                  exact h
                have hfl : F2.len + 1 ≤ 1048576 := by
                  have h := congrArg Fr.len hF3
                  rw [Fr.len_app, Fr.len_app] at h
                  have h2 := HL.out
                  have h3 : (Fr.cons kk nn ss kids .nil).len = 1 := rfl
                  omega
                have HF3 := Lib.hid hF3
                obtain ⟨xs, L, hown, hDs, hN, hL, hv⟩ := HR4.out
                have hvl := hown.lt
                have hs4 := HB4.out.size
                have HSTEP : Hid (∀ A4 cap2 w5 w6 g cap4, Made w4 kids A4 cap2 w5 → (w5.alloc (.cells #[.int .i64 kk, .int .i64 nn, .string ss, .slice A4 kids.len cap2] 29)).grownBy w6 v2.ownBlock →
                    w6.ownsRow w.heap.size 29 4 (.slice (some ⟨g, 0, none⟩) (F2.len + 1) cap4) (F2.len + 1) (xs ++ [.int .i64 kk, .int .i64 nn, .string ss, .slice A4 kids.len cap2]) → (v2.ownBlock = some g ∨ g = w5.heap.size + 1) →
                    RowP w.heap.size (.slice (some ⟨g, 0, none⟩) (F2.len + 1) cap4) (F2.app (.cons kk nn ss kids .nil)) w6 ∧ Below w.heap.size w w6) := Lib.hid fun A4 cap2 w5 w6 g cap4 hm2 hg ho hat => by
                  have hb2 := made_below2 hm2
                  have hb3 : Below w5.heap.size w5 (w5.alloc (.cells #[.int .i64 kk, .int .i64 nn, .string ss, .slice A4 kids.len cap2] 29)) := (Below.refl _ _).alloc (Nat.le_refl _) _
                  refine ⟨RowP.step (base := w.heap.size) hDs hN hL hv (fun g hg => (hvl g hg).2) hs4 HFIT.out hm2 hb3 hg ho (by simpa using hat), ?_⟩
                  have h3 := HB4.out.trans ((hb2.trans (hb3.mono hb2.size)).mono hs4)
                  exact h3.grown hg h3.size fun g hg => (hvl g hg).1
                have hkeep : ∀ A4 cap2 w5, Made w4 kids A4 cap2 w5 → w5.ownsRow w.heap.size 29 4 v2 F2.len xs ∧ w4.heap.size ≤ w5.heap.size := fun A4 cap2 w5 hm2 => by
                  have hb2 := made_below2 hm2
                  exact ⟨hown.kept (row := none) ⟨hb2.os, hb2.tape, hb2.output, hb2.size, fun k hk _ => hb2.block k hk⟩ (by
                    cases h : v2.ownBlock with
                    | none => exact .inl rfl
                    | some g => exact .inr (by simp)), hb2.size⟩
                have H6 := Lib.hid (H5.out w4 HB4.out)
                have HKEEP := Lib.hid hkeep
                rw [h0]
                clear hkeep hown hDs hN hL hv hvl hy hF3 h0 HR4 HB4 H5
                generalize F2.len = fl at *
                go_wp2_with fail
                refine H6.out.mono ?_
                rintro e w5 ⟨A4, cap2, rfl, hm2⟩
                obtain ⟨ho2, hs2⟩ := HKEEP.out A4 cap2 w5 hm2
                have HO2 := Lib.hid ho2
                have HM2 := Lib.hid hm2
                clear ho2 hm2
                go_wp2_with (at_builtin; go_must (refine wpList_append_lies _ rfl _ _ _ rfl w.heap.size 29 i0 _ 4 56 Tryd.underlying27 hi0 hz0 hz1 hz2 rfl (by omega) v2 fl xs rfl (HO2.out.alloc _) ⟨w5.heap.size, 0, none⟩ 1 1 [.int .i64 kk, .int .i64 nn, .string ss, .slice A4 kids.len cap2] rfl rfl (World.news_of_block (cs := #[.int .i64 kk, .int .i64 nn, .string ss, .slice A4 kids.len cap2]) (fr := (0, 0)) (heap_alloc_new w5 _)) (by simp [Value.oneCell']) (by omega) (by unfold maxLen; omega) (by omega) (by simp; omega) (w5.heap.size + 1) (by simp) ?_); intro g cap4 w6 hown6 hgrow hat hlt6; have HS := Lib.hid (HSTEP.out A4 cap2 w5 w6 g cap4 HM2.out hgrow hown6 hat); clear hown6 hgrow hat)
                go_roundw
                case rel => exact ⟨m + 1, _, _, by omega, by go_num, rfl, HS.out.1, HF3.out, HS.out.2⟩
                case measure => simp [intOf]; omega
              · have hn : ukB cs (c.body.drop m) = ukB cs (c.body.drop (m + 1)) := ukB_no cs HD.out fun h => h0 h.2
                have HF3 : Hid (F2.app ((ukB cs (c.body.drop (m + 1))).app (ukC cs (cs.drop (j + 1)))) = ukC cs cs) := Lib.hid (by rw [← hn]; exact HFF.out)
                have t0 : (((forF cs 0 ss kids.len).length : Int) == 0) = false := by simp; exact fun h => h0 (by simp [h])
                generalize (forF cs 0 ss kids.len).length = ln at *
                clear hn H5 h0
                go_wp2_with fail
                go_roundw
                case rel => exact ⟨m + 1, _, F2, by omega, by go_num, rfl, HR4.out, HF3.out, HB4.out⟩
                case measure => simp [intOf]; omega
          · obtain rfl : m = gl := by omega
            have e1 : c.body.drop m = .nil := by rw [← HGN.out]; exact Fr.drop_len _
            have HF3 : Hid (F2.app (ukC cs (cs.drop (j + 1))) = ukC cs cs) := Lib.hid (by rw [e1] at hF; exact hF)
            have HR := Lib.hid hr
            have HB := Lib.hid hb
            clear hr hb hF e1
            go_wp2_with fail
            go_roundw
            case rel => exact ⟨j + 1, _, F2, by omega, by go_num, rfl, HR.out, HF3.out, HB.out⟩
            case measure => simp [intOf]; omega
      · obtain rfl : j = len := by omega
        have e1 : cs.drop j = [] := by rw [← HN.out]; exact List.drop_length
        rw [e1] at hF
        have e2 : F.app (ukC cs []) = F := by
          clear hF hr
          induction F with
          | nil => rfl
          | cons _ _ _ _ _ _ ih => show Fr.cons _ _ _ _ _ = _; rw [ih]
        rw [e2] at hF
        subst hF
        obtain ⟨A2, cap2, rfl⟩ := hr.form
        have HM := Lib.hid (hr.done hb (Nat.le_refl _))
        clear hr hb
        go_wp2_with fail
        go_ret
        rw [HV.out]
        exact ⟨A2, cap2, rfl, HM.out⟩
end Go.Proofs.YtlapdnllncoomaaDoor

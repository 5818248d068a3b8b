/- The law FnExactTermVars, walked. Condition: the argument lies in memory, the table of signs in its variable. -/
import Derived.Test.YtppnmodemhoebaaDoorProg
import Derived.Test.YtppnmodemhoebaaDoorNumP
import Derived.Test.YtppnmodemhoebaaDoorCi
import Derived.Test.YtppnmodemhoebaaDoorHeld
import Derived.Test.YtppnmodemhoebaaDoorLawTV0
import Derived.Deep.RegionHeld3
namespace Go.Proofs.YtppnmodemhoebaaDoor
open Go.RowKit

theorem varsB_len (k n : Int) (s : ByteArray) (f : Fr) : (varsB k n s f).length ≤ nodes f + 1 := by
  unfold varsB
  split
  · have := varsT_len [] k n f; simpa using this
  · simp

set_option maxRecDepth 100000 in
set_option maxHeartbeats 8000000 in
theorem lawVR_any (k n : Int) (s : ByteArray) (f : Fr) (A : Option Addr) (cap : Nat) (w : World) (hk : KidsAt w 0 w.heap.size f A cap) (hf : Fits k n s) (ht : nv.Tab w) :
    Calls Tryd.prog 4 #[.agg #[.int .i64 k, .int .i64 n, .string s, .slice A f.len cap]] w fun e w' => e = .returned (.bool true) ∧ Below w.heap.size w w' := by
  have hlt := tab_lt ht
  have C1 := fun w1 (hb : Below w.heap.size w w1) => szT_any s f k n A cap 0 w.heap.size 1048576 w1 (hk.below hb (Nat.le_refl _)) hb.size hf (by omega) (by omega)
  have hr := szT_range s f 1048576 (by omega)
  generalize szT s f 1048576 = r at *
  have H1 := Lib.hid C1
  have HK := Lib.hid hk
  have HT := Lib.hid ht
  have HF := Lib.hid hf
  have r1 := hr.1
  have r2 := hr.2.1
  clear C1 hk ht hf
  have hb1 : ∀ o, Below w.heap.size w (w.alloc o) := fun o => (Below.refl _ _).alloc (Nat.le_refl _) _
  have HB1 := Lib.hid hb1
  clear hb1
  by_cases hneg : r < 0
  · clear hr
    go_enter Tryd.func4, Tryd.ntmps4
    go_wp2_with fail
    refine (H1.out _ (HB1.out _)).mono ?_
    rintro e w2 ⟨rfl, hb⟩
    have HB := Lib.hid hb
    clear hb
    go_wp2_with fail
    go_ret
    exact ⟨rfl, (HB1.out _).trans (HB.out.mono (by simp))⟩
  · have hwt : s.size + f.len + wt f ≤ 1048576 := by have := hr.2.2 (by omega); omega
    have hnd : nodes f ≤ 1048576 := by have := nodes_le_wt f; omega
    have hgn : (varsB k n s f).length ≤ 1048577 := by have := varsB_len k n s f; omega
    have CT := fun w1 (hb : Below w.heap.size w w1) => toT_any k n s f A cap 0 w.heap.size w1 (HK.out.below hb (Nat.le_refl _)) hb.size (by omega)
    have CS := fun w1 A1 cap1 lo hi (hk : KidsAt w1 lo hi f A1 cap1) hh => specVars_any k n s f A1 cap1 lo hi w1 hk hh HF.out hnd
    have CI := fun w1 A1 cap1 lo hi (hk : KidsAt w1 lo hi f A1 cap1) hh (ht : nv.Tab w1) => implVars_any k n s f A1 cap1 lo hi w1 hk hh HF.out hnd ht
    have CE := fun w1 A1 cap1 lo hi A2 cap2 lo2 hi2 (hk : KidsAt w1 lo hi f A1 cap1) hh (hk2 : KidsAt w1 lo2 hi2 f A2 cap2) hh2 => eqT_any s f s f k n k n A1 A2 cap1 cap2 lo hi lo2 hi2 w1 hk hk2 hh hh2
    rw [eqT_refl] at CE
    generalize varsB k n s f = G at *
    have CG := eqI_any G
    have CMT : ∀ (w1 : World) (A1 : Option Addr) (cap1 : Nat) (L : List Nat), OwnS w1 f A1 cap1 L → L.Nodup → Calls Tryd.prog 16 #[.agg #[.int .i64 k, .int .i64 n, .string s, .slice A1 f.len cap1], .int .i64 ((1 : Nat) : Int)] w1 fun e w' => e = .returned (.int .i64 ((1 + 3 * nodes f : Nat) : Int)) ∧ OwnS w' (markF f 1) A1 cap1 L ∧ Wrote L w1 w' :=
      fun w1 A1 cap1 L ho hn => markT_any k n s f A1 cap1 1 L w1 ho hn (by omega) (by omega)
    have CMG : ∀ (v : Value) (base : Nat) (w1 : World), OwnI w1 base v G → Calls Tryd.prog 17 #[v, .int .i64 ((1 : Nat) : Int)] w1 fun e w' => e = .returned (.int .i64 ((1 + G.length : Nat) : Int)) ∧ OwnI w' base v (mkI 1 G.length) ∧ Wrote (ownV v) w1 w' :=
      fun v base w1 ho => markI_any G v base 1 w1 ho (by omega)
    have CHG : ∀ (v : Value) (base : Nat) (w1 : World), OwnI w1 base v (mkI 1 G.length) → Calls Tryd.prog 18 #[v, .int .i64 ((1 : Nat) : Int)] w1 fun e w' => e = .returned (.int .i64 ((1 + G.length : Nat) : Int)) ∧ Below w1.heap.size w1 w' :=
      fun v base w1 ho => heldI_any 1 G.length v base w1 ho (by omega)
    have HT' := Lib.hid CT
    have HS := Lib.hid CS
    have HI := Lib.hid CI
    have HE := Lib.hid CE
    have HG := Lib.hid CG
    have HMT := Lib.hid CMT
    have HMG := Lib.hid CMG
    have HHG := Lib.hid CHG
    have tk : ¬ (((1 + 3 * nodes f : Nat) : Int) < 0) := by omega
    have tq : ¬ (((1 + G.length : Nat) : Int) < 0) := by omega
    have tm : (((1 + G.length : Nat) : Int) != ((1 + G.length : Nat) : Int)) = false := by simp
    generalize ((1 + 3 * nodes f : Nat) : Int) = kf at *
    generalize ((1 + G.length : Nat) : Int) = kg at *
    clear CT CS CI CE CG CMT CMG CHG hr hwt hnd hgn
    go_enter Tryd.func4, Tryd.ntmps4
    go_wp2_with fail
    refine (H1.out _ (HB1.out _)).mono ?_
    rintro e w2 ⟨rfl, hb⟩
    have hq := (Blk.new w 25 #[.int .i64 k, .int .i64 n, .string s, .slice A f.len cap]).below hb (by simp)
    have hb2 : Below w.heap.size w w2 := (HB1.out _).trans (hb.mono (by simp))
    have hsz2 : w.heap.size < w2.heap.size := by have := hb.size; simp at this; omega
    obtain ⟨a0, a1, a2, a3⟩ := cells4 hq
    have HQ := Lib.hid hq
    have HB2 := Lib.hid hb2
    clear hb hq hb2 H1
    go_wp2_with fail
    refine (HT'.out _ HB2.out).mono ?_
    rintro e w3 ⟨A1, cap1, rfl, hm⟩
    have hm1 := kids_of_made hm
    have hsz3 := hm1.2.size
    have HM1 := Lib.hid hm1
    clear hm hm1 a0 a1 a2 a3
    go_wp2_with fail
    refine (HS.out _ _ _ _ _ HM1.out.1 (Nat.le_refl _)).mono ?_
    rintro e w4 ⟨vw, rfl, how, hbw⟩
    have hb4' := HM1.out.2.trans (hbw.mono HM1.out.2.size)
    have hb4w : Below w.heap.size w w4 := HB2.out.trans (hb4'.mono (by omega))
    have hq4 := HQ.out.below hb4' hsz2
    obtain ⟨a0, a1, a2, a3⟩ := cells4 hq4
    have HW := Lib.hid how
    have HQ4 := Lib.hid hq4
    have HB4 := Lib.hid hb4w
    have hsz4 : w.heap.size < w4.heap.size := by have := hb4'.size; omega
    have hsz34 := hbw.size
    clear how hbw hb4' hb4w hq4 HM1 HQ HB2
    go_wp2_with fail
    refine (HT'.out _ HB4.out).mono ?_
    rintro e w5 ⟨Ax, capx, rfl, hmx⟩
    obtain ⟨Lx, hox, hnx, hlx, hbx⟩ := hmx
    have hb5 : Below w.heap.size w w5 := HB4.out.trans (hbx.mono (by omega))
    have hq5 := HQ4.out.below hbx hsz4
    have hw5 := HW.out.below hbx
    have hwl := HW.out.lt
    have HWL := Lib.hid hwl
    clear hwl
    have hsz5 : w.heap.size < w5.heap.size := by have := hbx.size; omega
    have hsz45 := hbx.size
    have hk5 := hox.kids hlx
    have HQ5 := Lib.hid hq5
    have HB5 := Lib.hid hb5
    have HX5 := Lib.hid hox
    have HXN := Lib.hid hnx
    have HXL := Lib.hid hlx
    have HK5 := Lib.hid hk5
    have HW5 := Lib.hid hw5
    clear hox hnx hlx hbx hb5 hq5 hw5 hk5 a0 a1 a2 a3 HQ4 HB4 HW
    go_wp2_with fail
    refine (HI.out _ _ _ _ _ (HK5.out.below ((Below.refl _ _).alloc (Nat.le_refl _) _) (Nat.le_refl _)) (by simp) (tab_below HT.out (HB5.out.trans (((Below.refl _ _).alloc (Nat.le_refl _) _).mono (Nat.le_of_lt hsz5))) hlt)).mono ?_
    rintro e w6 ⟨vg, rfl, hog, hbg⟩
    have hck : Ci6 w w.heap.size #[.int .i64 k, .int .i64 n, .string s, .slice A f.len cap] w5.heap.size #[.int .i64 k, .int .i64 n, .string s, .slice Ax f.len capx] G w3.heap.size w4.heap.size vw f Ax capx Lx (w5.heap.size + 1) vg w6 := by
      have hb56 : Below w5.heap.size w5 w6 := ((Below.refl _ _).alloc (Nat.le_refl _) _).trans (hbg.mono (by simp))
      refine ⟨HQ5.out.below hb56 hsz5, (Blk.new w5 _ _).below hbg (by simp), HW5.out.below hb56, HX5.out.below hb56 fun x hx => (HXL.out x hx).2, by simpa using hog, HB5.out.trans (hb56.mono (by omega)), fun x hx => (HWL.out x hx).2, HXL.out, HXN.out, Nat.le_refl _, by omega, by omega, by omega, by omega⟩
    clear hog hbg HQ5 HB5 HX5 HXN HXL HK5 HW5 HWL
    have CKG : ∀ wk, Ci6 w w.heap.size #[.int .i64 k, .int .i64 n, .string s, .slice A f.len cap] w5.heap.size #[.int .i64 k, .int .i64 n, .string s, .slice Ax f.len capx] G w3.heap.size w4.heap.size vw f Ax capx Lx (w5.heap.size + 1) vg wk → KidsAt wk 0 wk.heap.size f Ax capx := fun wk h => by
      obtain ⟨b0, b6, hk, ho, _⟩ := h
      exact ho.kids fun x hx => ⟨Nat.zero_le _, ho.lt x hx⟩
    have HCKG := Lib.hid CKG
    clear CKG
    have HCK := Lib.hid hck
    clear hck
    go_wp2_with fail
    refine (HG.out _ _ _ _ _ HCK.out.2.2.2.2.1 HCK.out.2.2.1).mono ?_
    rintro e w7 ⟨rfl, hb7⟩
    have hck7 := HCK.out.below hb7
    obtain ⟨a0, a1, a2, a3⟩ := cells4 hck7.1
    obtain ⟨x0, x1, x2, x3⟩ := cells4 hck7.2.1
    have hbw7 := hck7.2.2.2.2.2.1
    have hs5 := hck7.2.1.lt
    have hs0 := hck7.1.lt
    have HK7 := Lib.hid (HCKG.out w7 hck7)
    have HCK7 := Lib.hid hck7
    have HB7 := Lib.hid hbw7
    clear hb7 hck7 HCK hbw7
    go_wp2_with fail
    go_region_held3 (fun w' => w'.cell? ⟨w5.heap.size, 0, none⟩ = some (.int .i64 k) ∧ w'.cell? ⟨w5.heap.size, 1, none⟩ = some (.int .i64 n) ∧ w'.cell? ⟨w5.heap.size, 2, none⟩ = some (.string s) ∧ w'.cell? ⟨w5.heap.size, 3, none⟩ = some (.slice Ax f.len capx) ∧ w'.cell? ⟨w.heap.size, 0, none⟩ = some (.int .i64 k) ∧ w'.cell? ⟨w.heap.size, 1, none⟩ = some (.int .i64 n) ∧ w'.cell? ⟨w.heap.size, 2, none⟩ = some (.string s) ∧ w'.cell? ⟨w.heap.size, 3, none⟩ = some (.slice A f.len cap))
      (first | exact ⟨z0, z1, z2, z3, z4, z5, z6, z7⟩ | exact ⟨y0, y1, y2, y3, y4, y5, y6, y7⟩ | exact ⟨x0, x1, x2, x3, a0, a1, a2, a3⟩)
      (first
        | (go_at_call 12
           refine (HT'.out _ HB7.out.drew).mono ?_
           rintro e w8 ⟨A3, cap3, rfl, hm⟩
           have hm8 := kids_of_made hm
           have hd8 : Below w7.heap.size w7 w8 := (Below.refl w7.heap.size w7).drew.trans hm8.2
           have hck8 := HCK7.out.below hd8
           obtain ⟨y4, y5, y6, y7⟩ := cells4 hck8.1
           obtain ⟨y0, y1, y2, y3⟩ := cells4 hck8.2.1
           have hk8 := HCKG.out w8 hck8
           have HM8 := Lib.hid hm8
           have HK8 := Lib.hid hk8
           have HCK8 := Lib.hid hck8
           clear hm hm8 hk8 hck8 hd8)
        | (go_at_call 15
           refine (HE.out _ _ _ _ _ _ _ _ _ HK8.out (Nat.le_refl _) HM8.out.1 (Nat.le_refl _)).mono ?_
           rintro e w9 ⟨rfl, hb9⟩
           have hck9 := HCK8.out.below hb9
           obtain ⟨z4, z5, z6, z7⟩ := cells4 hck9.1
           obtain ⟨z0, z1, z2, z3⟩ := cells4 hck9.2.1
           have HCK9 := Lib.hid hck9
           clear hb9 hck9))
    clear a0 a1 a2 a3 x0 x1 x2 x3 y0 y1 y2 y3 y4 y5 y6 y7 HM8 HK8 HCK8 HCK7 HK7 HB7
    go_wp2_with fail
    refine (HMT.out _ _ _ _ HCK9.out.2.2.2.1 HCK9.out.2.2.2.2.2.2.2.2.1).mono ?_
    rintro e w10 ⟨rfl, hom, hwr⟩
    have hck10 := HCK9.out.mark hwr
    have HCK10 := Lib.hid hck10
    clear hom hwr hck10 HCK9 z0 z1 z2 z3 z4 z5 z6 z7
    go_wp2_with fail
    refine (HG.out _ _ _ _ _ HCK10.out.2.2.1 HCK10.out.2.1).mono ?_
    rintro e w11 ⟨rfl, hb11⟩
    have hck11 := HCK10.out.below hb11
    have HCK11 := Lib.hid hck11
    clear hb11 hck11 HCK10
    go_wp2_with fail
    refine (HMG.out _ _ _ HCK11.out.2.2.1).mono ?_
    rintro e w12 ⟨rfl, hom, hwr⟩
    have hck12 := HCK11.out.mark hwr hom
    have HCK12 := Lib.hid hck12
    clear hom hwr hck12 HCK11
    go_wp2_with fail
    refine (HHG.out _ _ _ HCK12.out.2.2.1).mono ?_
    rintro e w13 ⟨rfl, hb13⟩
    have hck13 := HCK12.out.below hb13
    obtain ⟨a0, a1, a2, a3⟩ := cells4 hck13.1
    have hb13w := hck13.2.2.2
    have HCK13 := Lib.hid hck13
    have HB13 := Lib.hid hb13w
    clear hb13 hck13 HCK12 hb13w
    go_wp2_with fail
    refine (HT'.out _ HB13.out).mono ?_
    rintro e w14 ⟨A14, cap14, rfl, hm⟩
    have hm14 := kids_of_made hm
    have hck14 := HCK13.out.below hm14.2
    have HM14 := Lib.hid hm14.1
    have HCK14 := Lib.hid hck14
    clear hm hm14 hck14 HCK13 a0 a1 a2 a3
    go_wp2_with fail
    refine (HI.out _ _ _ _ _ HM14.out (Nat.le_refl _) (tab_below HT.out HCK14.out.2.2.2 hlt)).mono ?_
    rintro e w15 ⟨vh, rfl, hoh, hbh⟩
    have hck15 := HCK14.out.below hbh
    have HM15 := Lib.hid hoh
    have HCK15 := Lib.hid hck15
    clear hoh hbh hck15 HCK14
    go_wp2_with fail
    refine (HG.out _ _ _ _ _ HM15.out HCK15.out.2.1).mono ?_
    rintro e w16 ⟨rfl, hb16⟩
    have hck16 := HCK15.out.below hb16
    have HCK16 := Lib.hid hck16
    clear hb16 hck16 HCK15 HM15
    go_wp2_with fail
    refine (HHG.out _ _ _ HCK16.out.2.2.1).mono ?_
    rintro e w17 ⟨rfl, hb17⟩
    have hck17 := HCK16.out.below hb17
    have HB17 := Lib.hid hck17.2.2.2
    clear hb17 hck17 HCK16
    go_wp2_with fail
    go_ret
    exact ⟨rfl, HB17.out⟩
end Go.Proofs.YtppnmodemhoebaaDoor

/- impl.QueryVars; the law FnExactQueryVars, walked. Condition: the argument lies in memory, both tables in their variables. -/
import Derived.Test.YtejflpmecpmhkaaDoorProg
import Derived.Test.YtejflpmecpmhkaaDoorQvI
import Derived.Test.YtejflpmecpmhkaaDoorHeld
import Derived.Test.YtejflpmecpmhkaaDoorLawTV0
namespace Go.Proofs.YtejflpmecpmhkaaDoor
open Go.RowKit

/-- The state of the law behind the call of impl's function: the model's answer, the copy and the program's answer. -/
def Cq6 (w : World) (G : List Int) (lw hw : Nat) (vw : Value) (f : Fr) (Ax : Option Addr) (capx : Nat) (Lx : List Nat) (lg : Nat) (vg : Value) (wk : World) : Prop :=
  OwnI wk lw vw G ∧ OwnS wk f Ax capx Lx ∧ OwnI wk lg vg G ∧ Below w.heap.size w wk ∧ (∀ x ∈ ownV vw, x < hw) ∧ (∀ x ∈ Lx, hw ≤ x ∧ x < lg) ∧ Lx.Nodup ∧ (w.heap.size ≤ hw ∧ hw ≤ lg)
theorem Cq6.below {w : World} {G : List Int} {lw hw : Nat} {vw : Value} {f : Fr} {Ax : Option Addr} {capx : Nat} {Lx : List Nat} {lg : Nat} {vg : Value} {wk wl : World}
    (h : Cq6 w G lw hw vw f Ax capx Lx lg vg wk) (hb : Below wk.heap.size wk wl) : Cq6 w G lw hw vw f Ax capx Lx lg vg wl := by
  obtain ⟨hk, ho, hg, hw', h1⟩ := h
  exact ⟨hk.below hb, ho.below hb ho.lt, hg.below hb, hw'.trans (hb.mono hw'.size), h1⟩
/-- Behind the copy's marks. -/
def Cq10 (w : World) (G : List Int) (lw hw : Nat) (vw : Value) (lg : Nat) (vg : Value) (wk : World) : Prop :=
  OwnI wk lw vw G ∧ OwnI wk lg vg G ∧ Below w.heap.size w wk ∧ (∀ x ∈ ownV vw, x < hw) ∧ (w.heap.size ≤ hw ∧ hw ≤ lg)
theorem Cq6.mark {w : World} {G : List Int} {lw hw : Nat} {vw : Value} {f : Fr} {Ax : Option Addr} {capx : Nat} {Lx : List Nat} {lg : Nat} {vg : Value} {wk wl : World}
    (h : Cq6 w G lw hw vw f Ax capx Lx lg vg wk) (hb : Wrote Lx wk wl) : Cq10 w G lw hw vw lg vg wl := by
  obtain ⟨hk, ho, hg, hw', h1, h2, h3, h4, h5⟩ := h
  have hgl := hg.lt
  refine ⟨hk.keep hb fun x hx e => ?_, hg.keep hb fun x hx e => ?_, hw'.trans (hb.below hw'.size fun x e => ?_), h1, h4, h5⟩
  · have := (h2 _ e).1; have := h1 x hx; omega
  · have := (h2 _ e).2; have := (hgl x hx).1; omega
  · have := (h2 _ e).1; omega
theorem Cq10.below {w : World} {G : List Int} {lw hw : Nat} {vw : Value} {lg : Nat} {vg : Value} {wk wl : World}
    (h : Cq10 w G lw hw vw lg vg wk) (hb : Below wk.heap.size wk wl) : Cq10 w G lw hw vw lg vg wl := by
  obtain ⟨hk, hg, hw', h1⟩ := h
  exact ⟨hk.below hb, hg.below hb, hw'.trans (hb.mono hw'.size), h1⟩
/-- Behind the answer's marks. -/
def Cq12 (w : World) (G : List Int) (lw : Nat) (vw : Value) (lg : Nat) (vg : Value) (wk : World) : Prop :=
  OwnI wk lw vw G ∧ OwnI wk lg vg (mkI 1 G.length) ∧ Below w.heap.size w wk
theorem Cq10.mark {w : World} {G : List Int} {lw hw : Nat} {vw : Value} {lg : Nat} {vg : Value} {wk wl : World}
    (h : Cq10 w G lw hw vw lg vg wk) (hb : Wrote (ownV vg) wk wl) (ho : OwnI wl lg vg (mkI 1 G.length)) : Cq12 w G lw vw lg vg wl := by
  obtain ⟨hk, hg, hw', h1, h2, h3⟩ := h
  have hgl := hg.lt
  refine ⟨hk.keep hb fun x hx e => ?_, ho, hw'.trans (hb.below hw'.size fun x e => ?_)⟩
  · have := (hgl _ e).1; have := h1 x hx; omega
  · have := (hgl _ e).1; omega
theorem Cq12.below {w : World} {G : List Int} {lw : Nat} {vw : Value} {lg : Nat} {vg : Value} {wk wl : World}
    (h : Cq12 w G lw vw lg vg wk) (hb : Below wk.heap.size wk wl) : Cq12 w G lw vw lg vg wl := by
  obtain ⟨hk, hg, hw'⟩ := h
  exact ⟨hk.below hb, hg.below hb, hw'.trans (hb.mono hw'.size)⟩

set_option maxRecDepth 100000 in
/-- impl.QueryVars. -/
theorem implQs_any (f : Fr) (A : Option Addr) (cap lo hi : Nat) (w : World) (hk : KidsAt w lo hi f A cap) (hh : hi ≤ w.heap.size) (hnd : nodes f ≤ 1048576) (ht : nv.Tab w) (ho : op.OpTab w) :
    Calls Tryd.prog 13 #[.slice A f.len cap] w fun e w' => ∃ v, e = .returned v ∧ OwnI w' w.heap.size v (qvF f) ∧ Below w.heap.size w w' := by
  have C1 := questionOf_any f A cap lo hi w hk hh hnd ht ho
  have HE : Hid (qvF f = if goalsV f = true then varsF [] f else []) := Lib.hid rfl
  have H1 := Lib.hid C1
  clear C1 hk hnd ht ho
  generalize f.len = len at *
  go_enter Tryd.func13, Tryd.ntmps13
  go_wp2_with fail
  refine H1.out.mono ?_
  rintro e w2 ⟨hb, hr⟩
  have HB2 := Lib.hid hb
  rcases hr with ⟨hok, rfl⟩ | ⟨hok, R, M, vo, hi2, rfl, _, hh2, hoi⟩
  · have HV : Hid (qvF f = []) := Lib.hid (by rw [HE.out, hok]; rfl)
    clear hb hok
    go_wp2_with fail
    go_ret
    rw [HV.out]; exact ⟨_, rfl, OwnI.nil _ _, HB2.out.alloc HB2.out.size _⟩
  · have HV : Hid (qvF f = varsF [] f) := Lib.hid (by rw [HE.out, hok]; rfl)
    have HOI : Hid (∀ o, OwnI (w2.alloc o) w.heap.size vo (varsF [] f)) := Lib.hid fun o => (hoi.mono hh2).below ((Below.refl _ _).alloc (Nat.le_refl _) o)
    obtain ⟨A3, cap3, rfl, _⟩ := hoi.read
    clear hb hok hoi
    go_wp2_with fail
    go_ret
    rw [HV.out]; exact ⟨_, rfl, HOI.out _, HB2.out.alloc HB2.out.size _⟩
theorem qvF_len (f : Fr) : (qvF f).length ≤ nodes f := by
  unfold qvF
  split
  · have := varsF_len f []; simpa using this
  · simp

set_option maxRecDepth 100000 in
set_option maxHeartbeats 8000000 in
theorem lawQs_any (f : Fr) (A : Option Addr) (cap : Nat) (w : World) (hk : KidsAt w 0 w.heap.size f A cap) (ht : nv.Tab w) (ho : op.OpTab w) :
    Calls Tryd.prog 4 #[.slice A f.len cap] w fun e w' => e = .returned (.bool true) ∧ Below w.heap.size w w' := by
  have hr := szS_range f 1048576 (by omega)
  have C1 := szS_any f A cap 0 w.heap.size 1048576 w hk (Nat.le_refl _) (by omega) (by omega)
  generalize szS f 1048576 = r at *
  have H1 := Lib.hid C1
  have HK := Lib.hid hk
  have HT := Lib.hid ht
  have HO := Lib.hid ho
  have r1 := hr.1
  have r2 := hr.2.1
  clear C1 hk ht ho
  by_cases hneg : r < 0
  · clear hr
    go_enter Tryd.func4, Tryd.ntmps4
    go_wp2_with fail
    refine H1.out.mono ?_
    rintro e w2 ⟨rfl, hb⟩
    have HB := Lib.hid hb
    clear hb
    go_wp2_with fail
    go_ret
    exact ⟨rfl, HB.out⟩
  · have hwt : f.len + wt f ≤ 1048576 := by have := hr.2.2 (by omega); omega
    have hnd : nodes f ≤ 1048576 := by have := nodes_le_wt f; omega
    have hgn : (qvF f).length ≤ 1048576 := Nat.le_trans (qvF_len f) hnd
    have CT := fun w1 (hb : Below w.heap.size w w1) => toS_any f A cap 0 w.heap.size w1 (HK.out.below hb (Nat.le_refl _)) hb.size hwt
    have CS := fun w1 A1 cap1 lo hi (hk : KidsAt w1 lo hi f A1 cap1) hh => specQVars_any f A1 cap1 lo hi w1 hk hh hnd
    have CI := fun w1 A1 cap1 lo hi (hk : KidsAt w1 lo hi f A1 cap1) hh (hb : Below w.heap.size w w1) => implQs_any f A1 cap1 lo hi w1 hk hh hnd (HT.out.below hb) (HO.out.below hb)
    have CE := fun w1 A1 cap1 lo hi A2 cap2 lo2 hi2 (hk : KidsAt w1 lo hi f A1 cap1) hh (hk2 : KidsAt w1 lo2 hi2 f A2 cap2) hh2 => eqS_any f f A1 A2 cap1 cap2 lo hi lo2 hi2 w1 hk hk2 hh hh2
    rw [eqF_refl] at CE
    generalize qvF f = G at *
    have CG := eqI_any G
    have CMT : ∀ (w1 : World) (A1 : Option Addr) (cap1 : Nat) (L : List Nat), OwnS w1 f A1 cap1 L → L.Nodup → Calls Tryd.prog 15 #[.slice A1 f.len cap1, .int .i64 ((1 : Nat) : Int)] w1 fun e w' => e = .returned (.int .i64 ((1 + 3 * nodes f : Nat) : Int)) ∧ OwnS w' (markF f 1) A1 cap1 L ∧ Wrote L w1 w' :=
      fun w1 A1 cap1 L ho hn => markS_any f A1 cap1 1 L w1 ho hn (by omega) (by omega)
    have CMG : ∀ (v : Value) (base : Nat) (w1 : World), OwnI w1 base v G → Calls Tryd.prog 16 #[v, .int .i64 ((1 : Nat) : Int)] w1 fun e w' => e = .returned (.int .i64 ((1 + G.length : Nat) : Int)) ∧ OwnI w' base v (mkI 1 G.length) ∧ Wrote (ownV v) w1 w' :=
      fun v base w1 ho => markI_any G v base 1 w1 ho (by omega)
    have CHG : ∀ (v : Value) (base : Nat) (w1 : World), OwnI w1 base v (mkI 1 G.length) → Calls Tryd.prog 17 #[v, .int .i64 ((1 : Nat) : Int)] w1 fun e w' => e = .returned (.int .i64 ((1 + G.length : Nat) : Int)) ∧ Below w1.heap.size w1 w' :=
      fun v base w1 ho => heldI_any 1 G.length v base w1 ho (by omega)
    have HT' := Lib.hid CT
    have HS := Lib.hid CS
    have HI := Lib.hid CI
    have HE := Lib.hid CE
    have HG := Lib.hid CG
    have HMT := Lib.hid CMT
    have HMG := Lib.hid CMG
    have HHG := Lib.hid CHG
    have tk : ¬ (((1 + 3 * nodes f : Nat) : Int) < 0) := by omega
    have tq : ¬ (((1 + G.length : Nat) : Int) < 0) := by omega
    have tm : (((1 + G.length : Nat) : Int) != ((1 + G.length : Nat) : Int)) = false := by simp
    generalize ((1 + 3 * nodes f : Nat) : Int) = kf at *
    generalize ((1 + G.length : Nat) : Int) = kg at *
    clear CT CS CI CE CG CMT CMG CHG hr hwt hnd hgn
    go_enter Tryd.func4, Tryd.ntmps4
    go_wp2_with fail
    refine H1.out.mono ?_
    rintro e w2 ⟨rfl, hb⟩
    have HB2 := Lib.hid hb
    clear hb H1
    go_wp2_with fail
    refine (HT'.out _ HB2.out).mono ?_
    rintro e w3 ⟨A1, cap1, rfl, hm⟩
    have hm1 := kids_of_made hm
    have HM1 := Lib.hid hm1
    clear hm hm1
    go_wp2_with fail
    refine (HS.out _ _ _ _ _ HM1.out.1 (Nat.le_refl _)).mono ?_
    rintro e w4 ⟨vw, rfl, how, hbw⟩
    have hb4' := HM1.out.2.trans (hbw.mono HM1.out.2.size)
    have hb4w : Below w.heap.size w w4 := HB2.out.trans (hb4'.mono HB2.out.size)
    have hwl := how.lt
    obtain ⟨Aw, capw, hform, _⟩ := how.read
    subst hform
    have HW := Lib.hid how
    have HWL := Lib.hid hwl
    have HB4 := Lib.hid hb4w
    clear how hbw hb4' hb4w HM1 HB2 hwl
    go_wp2_with fail
    refine (HT'.out _ HB4.out).mono ?_
    rintro e w5 ⟨Ax, capx, rfl, hmx⟩
    obtain ⟨Lx, hox, hnx, hlx, hbx⟩ := hmx
    have hb5 : Below w.heap.size w w5 := HB4.out.trans (hbx.mono HB4.out.size)
    have hw5 := HW.out.below hbx
    have hsz45 := hbx.size
    have hsw4 := HB4.out.size
    have hk5 := hox.kids hlx
    have HB5 := Lib.hid hb5
    have HX5 := Lib.hid hox
    have HXN := Lib.hid hnx
    have HXL := Lib.hid hlx
    have HK5 := Lib.hid hk5
    have HW5 := Lib.hid hw5
    clear hox hnx hlx hbx hb5 hw5 hk5 HB4 HW
    go_wp2_with fail
    refine (HI.out _ _ _ _ _ HK5.out (Nat.le_refl _) HB5.out).mono ?_
    rintro e w6 ⟨vg, rfl, hog, hbg⟩
    obtain ⟨Ag, capg, hform, _⟩ := hog.read
    subst hform
    have hck : Cq6 w G w3.heap.size w4.heap.size (.slice Aw G.length capw) f Ax capx Lx w5.heap.size (.slice Ag G.length capg) w6 :=
      ⟨HW5.out.below hbg, HX5.out.below hbg fun x hx => (HXL.out x hx).2, hog, HB5.out.trans (hbg.mono HB5.out.size), fun x hx => (HWL.out x hx).2, HXL.out, HXN.out, hsw4, hsz45⟩
    have HCK := Lib.hid hck
    clear hog hbg HB5 HX5 HXN HXL HK5 HW5 hck HWL
    go_wp2_with fail
    refine (HG.out _ _ _ _ _ HCK.out.2.2.1 HCK.out.1).mono ?_
    rintro e w7 ⟨rfl, hb7⟩
    have hck7 := HCK.out.below hb7
    have HBW7 := Lib.hid hck7.2.2.2.1
    have HCK7 := Lib.hid hck7
    clear hb7 hck7 HCK
    go_wp2_with fail
    refine (HT'.out _ HBW7.out).mono ?_
    rintro e w8 ⟨A3, cap3, rfl, hm⟩
    have hm8 := kids_of_made hm
    have hck8 := HCK7.out.below hm8.2
    have HM8 := Lib.hid hm8.1
    have HK8 : Hid (KidsAt w8 0 w8.heap.size f Ax capx) := Lib.hid (hck8.2.1.kids fun x hx => ⟨Nat.zero_le _, hck8.2.1.lt x hx⟩)
    have HCK8 := Lib.hid hck8
    clear hm hm8 hck8 HCK7 HBW7
    go_wp2_with fail
    refine (HE.out _ _ _ _ _ _ _ _ _ HK8.out (Nat.le_refl _) HM8.out (Nat.le_refl _)).mono ?_
    rintro e w9 ⟨rfl, hb9⟩
    have hck9 := HCK8.out.below hb9
    have HCK9 := Lib.hid hck9
    clear hb9 hck9 HCK8 HK8 HM8
    go_wp2_with fail
    refine (HMT.out _ _ _ _ HCK9.out.2.1 HCK9.out.2.2.2.2.2.2.1).mono ?_
    rintro e w10 ⟨rfl, hom, hwr⟩
    have hck10 := HCK9.out.mark hwr
    have HCK10 := Lib.hid hck10
    clear hom hwr hck10 HCK9
    go_wp2_with fail
    refine (HG.out _ _ _ _ _ HCK10.out.2.1 HCK10.out.1).mono ?_
    rintro e w11 ⟨rfl, hb11⟩
    have hck11 := HCK10.out.below hb11
    have HCK11 := Lib.hid hck11
    clear hb11 hck11 HCK10
    go_wp2_with fail
    refine (HMG.out _ _ _ HCK11.out.2.1).mono ?_
    rintro e w12 ⟨rfl, hom, hwr⟩
    have hck12 := HCK11.out.mark hwr hom
    have HCK12 := Lib.hid hck12
    clear hom hwr hck12 HCK11
    go_wp2_with fail
    refine (HHG.out _ _ _ HCK12.out.2.1).mono ?_
    rintro e w13 ⟨rfl, hb13⟩
    have hck13 := HCK12.out.below hb13
    have HCK13 := Lib.hid hck13
    have HB13 := Lib.hid hck13.2.2
    clear hb13 hck13 HCK12
    go_wp2_with fail
    refine (HT'.out _ HB13.out).mono ?_
    rintro e w14 ⟨A14, cap14, rfl, hm⟩
    have hm14 := kids_of_made hm
    have hck14 := HCK13.out.below hm14.2
    have HM14 := Lib.hid hm14.1
    have HCK14 := Lib.hid hck14
    clear hm hm14 hck14 HCK13
    go_wp2_with fail
    refine (HI.out _ _ _ _ _ HM14.out (Nat.le_refl _) HCK14.out.2.2).mono ?_
    rintro e w15 ⟨vh, rfl, hoh, hbh⟩
    have hck15 := HCK14.out.below hbh
    obtain ⟨Ah, caph, hform, _⟩ := hoh.read
    subst hform
    have HM15 := Lib.hid hoh
    have HCK15 := Lib.hid hck15
    clear hoh hbh hck15 HCK14
    go_wp2_with fail
    refine (HG.out _ _ _ _ _ HM15.out HCK15.out.1).mono ?_
    rintro e w16 ⟨rfl, hb16⟩
    have hck16 := HCK15.out.below hb16
    have HCK16 := Lib.hid hck16
    clear hb16 hck16 HCK15 HM15
    go_wp2_with fail
    refine (HHG.out _ _ _ HCK16.out.2.1).mono ?_
    rintro e w17 ⟨rfl, hb17⟩
    have hck17 := HCK16.out.below hb17
    have HB17 := Lib.hid hck17.2.2
    clear hb17 hck17 HCK16
    go_wp2_with fail
    go_ret
    exact ⟨rfl, HB17.out⟩
end Go.Proofs.YtejflpmecpmhkaaDoor

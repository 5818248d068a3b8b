/- The law FnExactRenumberTerms, walked. Condition: the argument lies in memory, the table of signs in its variable. -/
import Derived.Test.YtojilompidmfiaaDoorProg
import Derived.Test.YtojilompidmfiaaDoorImplR
import Derived.Test.YtojilompidmfiaaDoorHeld
import Derived.Test.YtojilompidmfiaaDoorLawTV0
namespace Go.Proofs.YtojilompidmfiaaDoor
open Go.RowKit

/-- The state of the law behind the call of impl's function: the model's answer, the copy and the program's answer. -/
def Cr6 (w : World) (G : Fr) (Aw : Option Addr) (capw lw hw : Nat) (f : Fr) (Ax : Option Addr) (capx : Nat) (Lx : List Nat) (hx : Nat) (Ag : Option Addr) (capg : Nat) (Lg : List Nat) (wk : World) : Prop :=
  KidsAt wk lw hw G Aw capw ∧ OwnS wk f Ax capx Lx ∧ OwnS wk G Ag capg Lg ∧ Below w.heap.size w wk ∧ (∀ x ∈ Lx, hw ≤ x ∧ x < hx) ∧ Lx.Nodup ∧ (∀ x ∈ Lg, hx ≤ x) ∧ Lg.Nodup ∧ (w.heap.size ≤ hw ∧ hw ≤ hx ∧ hw ≤ wk.heap.size)
theorem Cr6.below {w : World} {G : Fr} {Aw : Option Addr} {capw lw hw : Nat} {f : Fr} {Ax : Option Addr} {capx : Nat} {Lx : List Nat} {hx : Nat} {Ag : Option Addr} {capg : Nat} {Lg : List Nat} {wk wl : World}
    (h : Cr6 w G Aw capw lw hw f Ax capx Lx hx Ag capg Lg wk) (hb : Below wk.heap.size wk wl) : Cr6 w G Aw capw lw hw f Ax capx Lx hx Ag capg Lg wl := by
  obtain ⟨hk, ho, hg, hw', h1, h2, h3, h4, h5, h6, h7⟩ := h
  exact ⟨hk.below hb h7, ho.below hb ho.lt, hg.below hb hg.lt, hw'.trans (hb.mono hw'.size), h1, h2, h3, h4, h5, h6, Nat.le_trans h7 hb.size⟩
theorem Cr6.rows {w : World} {G : Fr} {Aw : Option Addr} {capw lw hw : Nat} {f : Fr} {Ax : Option Addr} {capx : Nat} {Lx : List Nat} {hx : Nat} {Ag : Option Addr} {capg : Nat} {Lg : List Nat} {wk : World}
    (h : Cr6 w G Aw capw lw hw f Ax capx Lx hx Ag capg Lg wk) : KidsAt wk 0 wk.heap.size G Ag capg ∧ KidsAt wk 0 wk.heap.size G Aw capw ∧ KidsAt wk 0 wk.heap.size f Ax capx := by
  obtain ⟨hk, ho, hg, hw', h1, h2, h3, h4, h5, h6, h7⟩ := h
  exact ⟨hg.kids fun x hx => ⟨Nat.zero_le _, hg.lt x hx⟩, hk.more (Nat.zero_le _) h7, ho.kids fun x hx => ⟨Nat.zero_le _, ho.lt x hx⟩⟩
/-- Behind the copy's marks. -/
def Cr10 (w : World) (G : Fr) (Aw : Option Addr) (capw lw hw : Nat) (Ag : Option Addr) (capg : Nat) (Lg : List Nat) (wk : World) : Prop :=
  KidsAt wk lw hw G Aw capw ∧ OwnS wk G Ag capg Lg ∧ Below w.heap.size w wk ∧ (∀ x ∈ Lg, hw ≤ x) ∧ Lg.Nodup ∧ (w.heap.size ≤ hw ∧ hw ≤ wk.heap.size)
theorem Cr6.mark {w : World} {G : Fr} {Aw : Option Addr} {capw lw hw : Nat} {f : Fr} {Ax : Option Addr} {capx : Nat} {Lx : List Nat} {hx : Nat} {Ag : Option Addr} {capg : Nat} {Lg : List Nat} {wk wl : World}
    (h : Cr6 w G Aw capw lw hw f Ax capx Lx hx Ag capg Lg wk) (hb : Wrote Lx wk wl) : Cr10 w G Aw capw lw hw Ag capg Lg wl := by
  obtain ⟨hk, ho, hg, hw', h1, h2, h3, h4, h5, h6, h7⟩ := h
  refine ⟨hk.wrote hb h7 fun x e => .inr (h1 x e).1, hg.wrote hb fun x hx e => ?_, hw'.trans (hb.below hw'.size fun x e => ?_), fun x e => ?_, h4, h5, Nat.le_trans h7 hb.size⟩
  · have := (h1 x e).2; have := h3 x hx; omega
  · have := (h1 x e).1; omega
  · have := h3 x e; omega
theorem Cr10.below {w : World} {G : Fr} {Aw : Option Addr} {capw lw hw : Nat} {Ag : Option Addr} {capg : Nat} {Lg : List Nat} {wk wl : World}
    (h : Cr10 w G Aw capw lw hw Ag capg Lg wk) (hb : Below wk.heap.size wk wl) : Cr10 w G Aw capw lw hw Ag capg Lg wl := by
  obtain ⟨hk, hg, hw', h1, h2, h3, h4⟩ := h
  exact ⟨hk.below hb h4, hg.below hb hg.lt, hw'.trans (hb.mono hw'.size), h1, h2, h3, Nat.le_trans h4 hb.size⟩
theorem Cr10.rows {w : World} {G : Fr} {Aw : Option Addr} {capw lw hw : Nat} {Ag : Option Addr} {capg : Nat} {Lg : List Nat} {wk : World}
    (h : Cr10 w G Aw capw lw hw Ag capg Lg wk) : KidsAt wk 0 wk.heap.size G Ag capg ∧ KidsAt wk 0 wk.heap.size G Aw capw := by
  obtain ⟨hk, hg, hw', h1, h2, h3, h4⟩ := h
  exact ⟨hg.kids fun x hx => ⟨Nat.zero_le _, hg.lt x hx⟩, hk.more (Nat.zero_le _) h4⟩
/-- Behind the answer's marks. -/
def Cr12 (w : World) (G : Fr) (Aw : Option Addr) (capw lw hw : Nat) (Ag : Option Addr) (capg hg : Nat) (wk : World) : Prop :=
  KidsAt wk lw hw G Aw capw ∧ hw ≤ wk.heap.size ∧ KidsAt wk 0 hg (markF G 1) Ag capg ∧ hg ≤ wk.heap.size ∧ Below w.heap.size w wk
theorem Cr10.mark {w : World} {G : Fr} {Aw : Option Addr} {capw lw hw : Nat} {Ag : Option Addr} {capg : Nat} {Lg : List Nat} {wk wl : World}
    (h : Cr10 w G Aw capw lw hw Ag capg Lg wk) (hb : Wrote Lg wk wl) (ho : OwnS wl (markF G 1) Ag capg Lg) : Cr12 w G Aw capw lw hw Ag capg wl.heap.size wl := by
  obtain ⟨hk, hg, hw', h1, h2, h3, h4⟩ := h
  refine ⟨hk.wrote hb h4 fun x e => .inr (h1 x e), Nat.le_trans h4 hb.size, ho.kids fun x hx => ⟨Nat.zero_le _, ho.lt x hx⟩, Nat.le_refl _, hw'.trans (hb.below hw'.size fun x e => ?_)⟩
  have := h1 x e; omega
theorem Cr12.below {w : World} {G : Fr} {Aw : Option Addr} {capw lw hw : Nat} {Ag : Option Addr} {capg hg : Nat} {wk wl : World}
    (h : Cr12 w G Aw capw lw hw Ag capg hg wk) (hb : Below wk.heap.size wk wl) : Cr12 w G Aw capw lw hw Ag capg hg wl := by
  obtain ⟨hk, hs, hg, hs2, hw'⟩ := h
  exact ⟨hk.below hb hs, Nat.le_trans hs hb.size, hg.below hb hs2, Nat.le_trans hs2 hb.size, hw'.trans (hb.mono hw'.size)⟩

set_option maxRecDepth 100000 in
set_option maxHeartbeats 8000000 in
theorem lawRT_any (f : Fr) (A : Option Addr) (cap : Nat) (w : World) (hk : KidsAt w 0 w.heap.size f A cap) (ht : nv.Tab w) :
    Calls Tryd.prog 12 #[.slice A f.len cap] w fun e w' => e = .returned (.bool true) ∧ Below w.heap.size w w' := by
  have hlt := tab_lt ht
  have hr := szS_range f 1048576 (by omega)
  have C1 := szS_any f A cap 0 w.heap.size 1048576 w hk (Nat.le_refl _) (by omega) (by omega)
  generalize szS f 1048576 = r at *
  have H1 := Lib.hid C1
  have HK := Lib.hid hk
  have HT := Lib.hid ht
  have r1 := hr.1
  have r2 := hr.2.1
  clear C1 hk ht
  by_cases hneg : r < 0
  · clear hr
    go_enter Tryd.func12, Tryd.ntmps12
    go_wp2_with fail
    refine H1.out.mono ?_
    rintro e w2 ⟨rfl, hb⟩
    have HB := Lib.hid hb
    clear hb
    go_wp2_with fail
    go_ret
    exact ⟨rfl, HB.out⟩
  · have hwt : f.len + wt f ≤ 1048576 := by have := hr.2.2 (by omega); omega
    have hnd : nodes f ≤ 1048576 := by have := nodes_le_wt f; omega
    have hgn : nodes (rnF f) ≤ 1048576 := Nat.le_trans (rnF_nodes f) hnd
    have CT := fun w1 (hb : Below w.heap.size w w1) => toS_any f A cap 0 w.heap.size w1 (HK.out.below hb (Nat.le_refl _)) hb.size hwt
    have CS := fun w1 A1 cap1 lo hi (hk : KidsAt w1 lo hi f A1 cap1) hh => specRenT_any f A1 cap1 lo hi w1 hk hh hnd
    have CI := fun w1 A1 cap1 lo hi (hk : KidsAt w1 lo hi f A1 cap1) hh (ht : nv.Tab w1) => implRenT_any f A1 cap1 lo hi w1 hk hh hnd ht
    have CE := fun w1 A1 cap1 lo hi A2 cap2 lo2 hi2 (hk : KidsAt w1 lo hi f A1 cap1) hh (hk2 : KidsAt w1 lo2 hi2 f A2 cap2) hh2 => eqS_any f f A1 A2 cap1 cap2 lo hi lo2 hi2 w1 hk hk2 hh hh2
    rw [eqF_refl] at CE
    unfold RnRes at CS CI
    generalize rnF f = G at *
    generalize allV f = ok at *
    have CG := fun w1 A1 cap1 lo hi A2 cap2 lo2 hi2 (hk : KidsAt w1 lo hi G A1 cap1) hh (hk2 : KidsAt w1 lo2 hi2 G A2 cap2) hh2 => eqS_any G G A1 A2 cap1 cap2 lo hi lo2 hi2 w1 hk hk2 hh hh2
    rw [eqF_refl] at CG
    have CMT : ∀ (w1 : World) (A1 : Option Addr) (cap1 : Nat) (L : List Nat), OwnS w1 f A1 cap1 L → L.Nodup → Calls Tryd.prog 42 #[.slice A1 f.len cap1, .int .i64 ((1 : Nat) : Int)] w1 fun e w' => e = .returned (.int .i64 ((1 + 3 * nodes f : Nat) : Int)) ∧ OwnS w' (markF f 1) A1 cap1 L ∧ Wrote L w1 w' :=
      fun w1 A1 cap1 L ho hn => markS_any f A1 cap1 1 L w1 ho hn (by omega) (by omega)
    have CMG : ∀ (w1 : World) (A1 : Option Addr) (cap1 : Nat) (L : List Nat), OwnS w1 G A1 cap1 L → L.Nodup → Calls Tryd.prog 42 #[.slice A1 G.len cap1, .int .i64 ((1 : Nat) : Int)] w1 fun e w' => e = .returned (.int .i64 ((1 + 3 * nodes G : Nat) : Int)) ∧ OwnS w' (markF G 1) A1 cap1 L ∧ Wrote L w1 w' :=
      fun w1 A1 cap1 L ho hn => markS_any G A1 cap1 1 L w1 ho hn (by omega) (by omega)
    have CHG := fun w1 A1 cap1 lo hi hk hh => heldS_any G A1 cap1 1 lo hi w1 hk hh (by omega) (by omega)
    have HT' := Lib.hid CT
    have HS := Lib.hid CS
    have HI := Lib.hid CI
    have HE := Lib.hid CE
    have HG := Lib.hid CG
    have HMT := Lib.hid CMT
    have HMG := Lib.hid CMG
    have HHG := Lib.hid CHG
    have tok : (ok != ok) = false := by cases ok <;> rfl
    have tk : ¬ (((1 + 3 * nodes f : Nat) : Int) < 0) := by omega
    have tq : ¬ (((1 + 3 * nodes G : Nat) : Int) < 0) := by omega
    have tm : (((1 + 3 * nodes G : Nat) : Int) != ((1 + 3 * nodes G : Nat) : Int)) = false := by simp
    generalize ((1 + 3 * nodes f : Nat) : Int) = kf at *
    generalize ((1 + 3 * nodes G : Nat) : Int) = kg at *
    clear CT CS CI CE CG CMT CMG CHG hr hwt hnd hgn
    go_enter Tryd.func12, Tryd.ntmps12
    go_wp2_with fail
    refine H1.out.mono ?_
    rintro e w2 ⟨rfl, hb⟩
    have HB2 := Lib.hid hb
    clear hb H1
    go_wp2_with fail
    refine (HT'.out _ HB2.out).mono ?_
    rintro e w3 ⟨A1, cap1, rfl, hm⟩
    have hm1 := kids_of_made hm
    have HM1 := Lib.hid hm1
    clear hm hm1
    go_wp2_with fail
    refine (HS.out _ _ _ _ _ HM1.out.1 (Nat.le_refl _)).mono ?_
    rintro e w4 ⟨Aw, capw, rfl, hmw⟩
    have hmw1 := kids_of_made hmw
    have hb4' := HM1.out.2.trans (hmw1.2.mono HM1.out.2.size)
    have hb4w : Below w.heap.size w w4 := HB2.out.trans (hb4'.mono HB2.out.size)
    have HW := Lib.hid hmw1.1
    have HB4 := Lib.hid hb4w
    clear hmw hmw1 hb4' hb4w HM1 HB2
    go_wp2_with fail
    refine (HT'.out _ HB4.out).mono ?_
    rintro e w5 ⟨Ax, capx, rfl, hmx⟩
    obtain ⟨Lx, hox, hnx, hlx, hbx⟩ := hmx
    have hb5 : Below w.heap.size w w5 := HB4.out.trans (hbx.mono HB4.out.size)
    have hw5 := HW.out.below hbx (Nat.le_refl _)
    have hsz45 := hbx.size
    have hsw4 := HB4.out.size
    have hk5 := hox.kids hlx
    have HB5 := Lib.hid hb5
    have HX5 := Lib.hid hox
    have HXN := Lib.hid hnx
    have HXL := Lib.hid hlx
    have HK5 := Lib.hid hk5
    have HW5 := Lib.hid hw5
    clear hox hnx hlx hbx hb5 hw5 hk5 HB4 HW
    go_wp2_with fail
    refine (HI.out _ _ _ _ _ HK5.out (Nat.le_refl _) (tab_below HT.out HB5.out hlt)).mono ?_
    rintro e w6 ⟨Ag, capg, rfl, Lg, hog, hng, hlg, hbg⟩
    have hck : Cr6 w G Aw capw w3.heap.size w4.heap.size f Ax capx Lx w5.heap.size Ag capg Lg w6 :=
      ⟨HW5.out.below hbg hsz45, HX5.out.below hbg fun x hx => (HXL.out x hx).2, hog, HB5.out.trans (hbg.mono HB5.out.size), HXL.out, HXN.out, fun x hx => (hlg x hx).1, hng, hsw4, hsz45, Nat.le_trans hsz45 hbg.size⟩
    have HCK := Lib.hid hck
    have HKK := Lib.hid hck.rows
    clear hog hng hlg hbg HB5 HX5 HXN HXL HK5 HW5 hck
    go_wp2_with fail
    refine (HG.out _ _ _ _ _ _ _ _ _ HKK.out.1 (Nat.le_refl _) HKK.out.2.1 (Nat.le_refl _)).mono ?_
    rintro e w7 ⟨rfl, hb7⟩
    have hck7 := HCK.out.below hb7
    have HBW7 := Lib.hid hck7.2.2.2.1
    have HCK7 := Lib.hid hck7
    clear hb7 hck7 HCK HKK
    go_wp2_with fail
    refine (HT'.out _ HBW7.out).mono ?_
    rintro e w8 ⟨A3, cap3, rfl, hm⟩
    have hm8 := kids_of_made hm
    have hck8 := HCK7.out.below hm8.2
    have HM8 := Lib.hid hm8.1
    have HK8 := Lib.hid hck8.rows.2.2
    have HCK8 := Lib.hid hck8
    clear hm hm8 hck8 HCK7 HBW7
    go_wp2_with fail
    refine (HE.out _ _ _ _ _ _ _ _ _ HK8.out (Nat.le_refl _) HM8.out (Nat.le_refl _)).mono ?_
    rintro e w9 ⟨rfl, hb9⟩
    have hck9 := HCK8.out.below hb9
    have HCK9 := Lib.hid hck9
    clear hb9 hck9 HCK8 HK8 HM8
    go_wp2_with fail
    refine (HMT.out _ _ _ _ HCK9.out.2.1 HCK9.out.2.2.2.2.2.1).mono ?_
    rintro e w10 ⟨rfl, hom, hwr⟩
    have hck10 := HCK9.out.mark hwr
    have HKK := Lib.hid hck10.rows
    have HCK10 := Lib.hid hck10
    clear hom hwr hck10 HCK9
    go_wp2_with fail
    refine (HG.out _ _ _ _ _ _ _ _ _ HKK.out.1 (Nat.le_refl _) HKK.out.2 (Nat.le_refl _)).mono ?_
    rintro e w11 ⟨rfl, hb11⟩
    have hck11 := HCK10.out.below hb11
    have HCK11 := Lib.hid hck11
    clear hb11 hck11 HCK10 HKK
    go_wp2_with fail
    refine (HMG.out _ _ _ _ HCK11.out.2.1 HCK11.out.2.2.2.2.1).mono ?_
    rintro e w12 ⟨rfl, hom, hwr⟩
    have hck12 := HCK11.out.mark hwr hom
    have HCK12 := Lib.hid hck12
    clear hom hwr hck12 HCK11
    go_wp2_with fail
    refine (HHG.out _ _ _ _ _ HCK12.out.2.2.1 HCK12.out.2.2.2.1).mono ?_
    rintro e w13 ⟨rfl, hb13⟩
    have hck13 := HCK12.out.below hb13
    have HCK13 := Lib.hid hck13
    have HB13 := Lib.hid hck13.2.2.2.2
    clear hb13 hck13 HCK12
    go_wp2_with fail
    refine (HT'.out _ HB13.out).mono ?_
    rintro e w14 ⟨A14, cap14, rfl, hm⟩
    have hm14 := kids_of_made hm
    have hck14 := HCK13.out.below hm14.2
    have HM14 := Lib.hid hm14.1
    have HCK14 := Lib.hid hck14
    clear hm hm14 hck14 HCK13
    go_wp2_with fail
    refine (HI.out _ _ _ _ _ HM14.out (Nat.le_refl _) (tab_below HT.out HCK14.out.2.2.2.2 hlt)).mono ?_
    rintro e w15 ⟨Ah, caph, rfl, hmh⟩
    have hm15 := kids_of_made hmh
    have hck15 := HCK14.out.below hm15.2
    have HM15 := Lib.hid hm15.1
    have HCK15 := Lib.hid hck15
    clear hmh hm15 hck15 HCK14
    go_wp2_with fail
    refine (HG.out _ _ _ _ _ _ _ _ _ HM15.out (Nat.le_refl _) HCK15.out.1 HCK15.out.2.1).mono ?_
    rintro e w16 ⟨rfl, hb16⟩
    have hck16 := HCK15.out.below hb16
    have HCK16 := Lib.hid hck16
    clear hb16 hck16 HCK15 HM15
    go_wp2_with fail
    refine (HHG.out _ _ _ _ _ HCK16.out.2.2.1 HCK16.out.2.2.2.1).mono ?_
    rintro e w17 ⟨rfl, hb17⟩
    have hck17 := HCK16.out.below hb17
    have HB17 := Lib.hid hck17.2.2.2.2
    clear hb17 hck17 HCK16
    go_wp2_with fail
    go_ret
    exact ⟨rfl, HB17.out⟩
end Go.Proofs.YtojilompidmfiaaDoor

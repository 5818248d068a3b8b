/- The law FnExactUnknownGoals, walked. Condition: the argument lies in memory, both tables in their variables. -/
import Derived.Test.YtlapdnllncoomaaDoorProg
import Derived.Test.YtlapdnllncoomaaDoorUkS
import Derived.Test.YtlapdnllncoomaaDoorUkI
import Derived.Test.YtlapdnllncoomaaDoorHeld
import Derived.Test.YtlapdnllncoomaaDoorLawTV0
import Derived.Test.YtlapdnllncoomaaDoorClE
namespace Go.Proofs.YtlapdnllncoomaaDoor
open Go.RowKit

theorem ndCs_wt : ∀ cs : List Cl, ndCs cs ≤ cs.length + wtCs cs
  | [] => Nat.le_refl _
  | c :: cs => by
    have h1 := ndCs_wt cs
    have h2 := wtC_nodes c
    simp only [ndCs, wtCs, List.length_cons, ndC]
    omega
/-- The state of the law behind the call of impl's function: the model's answer, the copy and the program's answer. -/
def Cu6 (w : World) (G : Fr) (Aw : Option Addr) (capw lw hw : Nat) (cs : List Cl) (Ax : Option Addr) (capx : Nat) (Lx : List Nat) (hx : Nat) (Ag : Option Addr) (capg : Nat) (Lg : List Nat) (wk : World) : Prop :=
  KidsAt wk lw hw G Aw capw ∧ OwnCS wk cs Ax capx Lx ∧ OwnS wk G Ag capg Lg ∧ Below w.heap.size w wk ∧ (∀ x ∈ Lx, hw ≤ x ∧ x < hx) ∧ Lx.Nodup ∧ (∀ x ∈ Lg, hx ≤ x) ∧ Lg.Nodup ∧ (w.heap.size ≤ hw ∧ hw ≤ hx ∧ hw ≤ wk.heap.size)
theorem Cu6.below {w : World} {G : Fr} {Aw : Option Addr} {capw lw hw : Nat} {cs : List Cl} {Ax : Option Addr} {capx : Nat} {Lx : List Nat} {hx : Nat} {Ag : Option Addr} {capg : Nat} {Lg : List Nat} {wk wl : World}
    (h : Cu6 w G Aw capw lw hw cs Ax capx Lx hx Ag capg Lg wk) (hb : Below wk.heap.size wk wl) : Cu6 w G Aw capw lw hw cs Ax capx Lx hx Ag capg Lg wl := by
  obtain ⟨hk, ho, hg, hw', h1, h2, h3, h4, h5, h6, h7⟩ := h
  exact ⟨hk.below hb h7, ho.below hb ho.lt, hg.below hb hg.lt, hw'.trans (hb.mono hw'.size), h1, h2, h3, h4, h5, h6, Nat.le_trans h7 hb.size⟩
theorem Cu6.rows {w : World} {G : Fr} {Aw : Option Addr} {capw lw hw : Nat} {cs : List Cl} {Ax : Option Addr} {capx : Nat} {Lx : List Nat} {hx : Nat} {Ag : Option Addr} {capg : Nat} {Lg : List Nat} {wk : World}
    (h : Cu6 w G Aw capw lw hw cs Ax capx Lx hx Ag capg Lg wk) : KidsAt wk 0 wk.heap.size G Ag capg ∧ KidsAt wk 0 wk.heap.size G Aw capw ∧ ClS wk 0 wk.heap.size cs Ax capx := by
  obtain ⟨hk, ho, hg, hw', h1, h2, h3, h4, h5, h6, h7⟩ := h
  exact ⟨hg.kids fun x hx => ⟨Nat.zero_le _, hg.lt x hx⟩, hk.more (Nat.zero_le _) h7, ho.clauses fun x hx => ⟨Nat.zero_le _, ho.lt x hx⟩⟩
/-- Behind the copy's marks. -/
def Cu10 (w : World) (G : Fr) (Aw : Option Addr) (capw lw hw : Nat) (Ag : Option Addr) (capg : Nat) (Lg : List Nat) (wk : World) : Prop :=
  KidsAt wk lw hw G Aw capw ∧ OwnS wk G Ag capg Lg ∧ Below w.heap.size w wk ∧ (∀ x ∈ Lg, hw ≤ x) ∧ Lg.Nodup ∧ (w.heap.size ≤ hw ∧ hw ≤ wk.heap.size)
theorem Cu6.mark {w : World} {G : Fr} {Aw : Option Addr} {capw lw hw : Nat} {cs : List Cl} {Ax : Option Addr} {capx : Nat} {Lx : List Nat} {hx : Nat} {Ag : Option Addr} {capg : Nat} {Lg : List Nat} {wk wl : World}
    (h : Cu6 w G Aw capw lw hw cs Ax capx Lx hx Ag capg Lg wk) (hb : Wrote Lx wk wl) : Cu10 w G Aw capw lw hw Ag capg Lg wl := by
  obtain ⟨hk, ho, hg, hw', h1, h2, h3, h4, h5, h6, h7⟩ := h
  refine ⟨hk.wrote hb h7 fun x e => .inr (h1 x e).1, hg.wrote hb fun x hx e => ?_, hw'.trans (hb.below hw'.size fun x e => ?_), fun x e => ?_, h4, h5, Nat.le_trans h7 hb.size⟩
  · have := (h1 x e).2; have := h3 x hx; omega
  · have := (h1 x e).1; omega
  · have := h3 x e; omega
theorem Cu10.below {w : World} {G : Fr} {Aw : Option Addr} {capw lw hw : Nat} {Ag : Option Addr} {capg : Nat} {Lg : List Nat} {wk wl : World}
    (h : Cu10 w G Aw capw lw hw Ag capg Lg wk) (hb : Below wk.heap.size wk wl) : Cu10 w G Aw capw lw hw Ag capg Lg wl := by
  obtain ⟨hk, hg, hw', h1, h2, h3, h4⟩ := h
  exact ⟨hk.below hb h4, hg.below hb hg.lt, hw'.trans (hb.mono hw'.size), h1, h2, h3, Nat.le_trans h4 hb.size⟩
theorem Cu10.rows {w : World} {G : Fr} {Aw : Option Addr} {capw lw hw : Nat} {Ag : Option Addr} {capg : Nat} {Lg : List Nat} {wk : World}
    (h : Cu10 w G Aw capw lw hw Ag capg Lg wk) : KidsAt wk 0 wk.heap.size G Ag capg ∧ KidsAt wk 0 wk.heap.size G Aw capw := by
  obtain ⟨hk, hg, hw', h1, h2, h3, h4⟩ := h
  exact ⟨hg.kids fun x hx => ⟨Nat.zero_le _, hg.lt x hx⟩, hk.more (Nat.zero_le _) h4⟩
/-- Behind the answer's marks. -/
def Cu12 (w : World) (G : Fr) (Aw : Option Addr) (capw lw hw : Nat) (Ag : Option Addr) (capg hg : Nat) (wk : World) : Prop :=
  KidsAt wk lw hw G Aw capw ∧ hw ≤ wk.heap.size ∧ KidsAt wk 0 hg (markF G 1) Ag capg ∧ hg ≤ wk.heap.size ∧ Below w.heap.size w wk
theorem Cu10.mark {w : World} {G : Fr} {Aw : Option Addr} {capw lw hw : Nat} {Ag : Option Addr} {capg : Nat} {Lg : List Nat} {wk wl : World}
    (h : Cu10 w G Aw capw lw hw Ag capg Lg wk) (hb : Wrote Lg wk wl) (ho : OwnS wl (markF G 1) Ag capg Lg) : Cu12 w G Aw capw lw hw Ag capg wl.heap.size wl := by
  obtain ⟨hk, hg, hw', h1, h2, h3, h4⟩ := h
  refine ⟨hk.wrote hb h4 fun x e => .inr (h1 x e), Nat.le_trans h4 hb.size, ho.kids fun x hx => ⟨Nat.zero_le _, ho.lt x hx⟩, Nat.le_refl _, hw'.trans (hb.below hw'.size fun x e => ?_)⟩
  have := h1 x e; omega
theorem Cu12.below {w : World} {G : Fr} {Aw : Option Addr} {capw lw hw : Nat} {Ag : Option Addr} {capg hg : Nat} {wk wl : World}
    (h : Cu12 w G Aw capw lw hw Ag capg hg wk) (hb : Below wk.heap.size wk wl) : Cu12 w G Aw capw lw hw Ag capg hg wl := by
  obtain ⟨hk, hs, hg, hs2, hw'⟩ := h
  exact ⟨hk.below hb hs, Nat.le_trans hs hb.size, hg.below hb hs2, Nat.le_trans hs2 hb.size, hw'.trans (hb.mono hw'.size)⟩

set_option maxRecDepth 100000 in
set_option maxHeartbeats 8000000 in
theorem lawUG_any (cs : List Cl) (A : Option Addr) (cap : Nat) (w : World) (hk : ClS w 0 w.heap.size cs A cap) (ht : nv.Tab w) (ho : op.OpTab w) :
    Calls Tryd.prog 7 #[.slice A cs.length cap] w fun e w' => e = .returned (.bool true) ∧ Below w.heap.size w w' := by
  have hr := szCS_range cs 1048576 (by omega)
  have C1 := szCS_any cs A cap 0 w.heap.size 1048576 w hk (Nat.le_refl _) (by omega) (by omega)
  generalize szCS cs 1048576 = r at *
  have H1 := Lib.hid C1
  have HK := Lib.hid hk
  have HT := Lib.hid ht
  have HO := Lib.hid ho
  have r1 := hr.1
  have r2 := hr.2.1
  clear C1 hk ht ho
  by_cases hneg : r < 0
  · clear hr
    go_enter Tryd.func7, Tryd.ntmps7
    go_wp2_with fail
    refine H1.out.mono ?_
    rintro e w2 ⟨rfl, hb⟩
    have HB := Lib.hid hb
    clear hb
    go_wp2_with fail
    go_ret
    exact ⟨rfl, HB.out⟩
  · have hwt : cs.length + wtCs cs ≤ 1048576 := by have := hr.2.2 (by omega); omega
    have hgn : nodes (ukF cs) ≤ 1048576 := ukF_nodes cs hwt
    have hnd : ndCs cs ≤ 1048576 := Nat.le_trans (ndCs_wt cs) hwt
    have hcl : cs.length ≤ 1048576 := by omega
    have CT := fun w1 (hb : Below w.heap.size w w1) => toCS_any cs A cap 0 w.heap.size w1 (HK.out.below hb (Nat.le_refl _)) hb.size hwt
    have CS := fun w1 A1 lo hi (hk : ClS w1 lo hi cs A1 cs.length) hh => specUG_any cs A1 cs.length lo hi w1 hk hh hwt
    have CI := fun w1 A1 lo hi (hk : ClS w1 lo hi cs A1 cs.length) hh (hb : Below w.heap.size w w1) => implUG_any cs A1 cs.length lo hi w1 hk hh hwt (HT.out.below hb) (HO.out.below hb)
    have CE := fun w1 A1 lo hi A2 lo2 hi2 (hk : ClS w1 lo hi cs A1 cs.length) hh (hk2 : ClS w1 lo2 hi2 cs A2 cs.length) hh2 => eqCS_any cs A1 A2 cs.length cs.length lo hi lo2 hi2 w1 hk hk2 hh hh2
    have hmd : ∀ w1 A1 w2, MadeC w1 cs A1 cs.length w2 → ClS w2 w1.heap.size w2.heap.size cs A1 cs.length ∧ Below w1.heap.size w1 w2 := fun _ _ _ h => clauses_of_made h
    unfold MadeS at CS CI
    generalize ukF cs = G at *
    have CG := fun w1 A1 cap1 lo hi A2 cap2 lo2 hi2 (hk : KidsAt w1 lo hi G A1 cap1) hh (hk2 : KidsAt w1 lo2 hi2 G A2 cap2) hh2 => eqS_any G G A1 A2 cap1 cap2 lo hi lo2 hi2 w1 hk hk2 hh hh2
    rw [eqF_refl] at CG
    have CMT : ∀ (w1 : World) (A1 : Option Addr) (L : List Nat), OwnCS w1 cs A1 cs.length L → L.Nodup → Calls Tryd.prog 19 #[.slice A1 cs.length cs.length, .int .i64 ((1 : Nat) : Int)] w1 fun e w' => (∃ k : Nat, e = .returned (.int .i64 (k : Int)) ∧ 0 < k ∧ k ≤ 1 + 3 * ndCs cs) ∧ Wrote L w1 w' :=
      fun w1 A1 L ho hn => markCS_any cs A1 cs.length 1 L w1 ho hn hcl (by omega) (by omega)
    have CMG : ∀ (w1 : World) (A1 : Option Addr) (cap1 : Nat) (L : List Nat), OwnS w1 G A1 cap1 L → L.Nodup → Calls Tryd.prog 30 #[.slice A1 G.len cap1, .int .i64 ((1 : Nat) : Int)] w1 fun e w' => e = .returned (.int .i64 ((1 + 3 * nodes G : Nat) : Int)) ∧ OwnS w' (markF G 1) A1 cap1 L ∧ Wrote L w1 w' :=
      fun w1 A1 cap1 L ho hn => markS_any G A1 cap1 1 L w1 ho hn (by omega) (by omega)
    have CHG := fun w1 A1 cap1 lo hi hk hh => heldS_any G A1 cap1 1 lo hi w1 hk hh (by omega) (by omega)
    have HT' := Lib.hid CT
    have HS := Lib.hid CS
    have HI := Lib.hid CI
    have HE := Lib.hid CE
    have HG := Lib.hid CG
    have HMT := Lib.hid CMT
    have HMG := Lib.hid CMG
    have HHG := Lib.hid CHG
    have HMD := Lib.hid hmd
    have tq : ¬ (((1 + 3 * nodes G : Nat) : Int) < 0) := by omega
    have tm : (((1 + 3 * nodes G : Nat) : Int) != ((1 + 3 * nodes G : Nat) : Int)) = false := by simp
    generalize ((1 + 3 * nodes G : Nat) : Int) = kg at *
    clear CT CS CI CE CG CMT CMG CHG hr hwt hnd hgn hmd hcl
    generalize hcn : cs.length = cn at *
    have HCN := Lib.hid hcn
    clear hcn
    go_enter Tryd.func7, Tryd.ntmps7
    go_wp2_with fail
    refine H1.out.mono ?_
    rintro e w2 ⟨rfl, hb⟩
    have HB2 := Lib.hid hb
    clear hb H1
    go_wp2_with fail
    refine (HT'.out _ HB2.out).mono ?_
    rintro e w3 ⟨A1, rfl, hm⟩
    have hm1 := HMD.out _ _ _ hm
    have HM1 := Lib.hid hm1
    clear hm hm1
    go_wp2_with fail
    refine (HS.out _ _ _ _ HM1.out.1 (Nat.le_refl _)).mono ?_
    rintro e w4 ⟨Aw, capw, rfl, hmw⟩
    have hmw1 := kids_of_made hmw
    have hb4' := HM1.out.2.trans (hmw1.2.mono HM1.out.2.size)
    have hb4w : Below w.heap.size w w4 := HB2.out.trans (hb4'.mono HB2.out.size)
    have HW := Lib.hid hmw1.1
    have HB4 := Lib.hid hb4w
    clear hmw hmw1 hb4' hb4w HM1 HB2
    go_wp2_with fail
    refine (HT'.out _ HB4.out).mono ?_
    rintro e w5 ⟨Ax, rfl, hmx⟩
    obtain ⟨Lx, hox, hnx, hlx, hbx⟩ := hmx
    have hb5 : Below w.heap.size w w5 := HB4.out.trans (hbx.mono HB4.out.size)
    have hw5 := HW.out.below hbx (Nat.le_refl _)
    have hsz45 := hbx.size
    have hsw4 := HB4.out.size
    have hk5 := hox.clauses hlx
    have HB5 := Lib.hid hb5
    have HX5 := Lib.hid hox
    have HXN := Lib.hid hnx
    have HXL := Lib.hid hlx
    have HK5 := Lib.hid hk5
    have HW5 := Lib.hid hw5
    clear hox hnx hlx hbx hb5 hw5 hk5 HB4 HW
    go_wp2_with fail
    refine (HI.out _ _ _ _ HK5.out (Nat.le_refl _) HB5.out).mono ?_
    rintro e w6 ⟨Ag, capg, rfl, Lg, hog, hng, hlg, hbg⟩
    have hck : Cu6 w G Aw capw w3.heap.size w4.heap.size cs Ax cn Lx w5.heap.size Ag capg Lg w6 :=
      ⟨HW5.out.below hbg hsz45, HX5.out.below hbg fun x hx => (HXL.out x hx).2, hog, HB5.out.trans (hbg.mono HB5.out.size), HXL.out, HXN.out, fun x hx => (hlg x hx).1, hng, hsw4, hsz45, Nat.le_trans hsz45 hbg.size⟩
    have HCK := Lib.hid hck
    have HKK := Lib.hid hck.rows
    clear hog hng hlg hbg HB5 HX5 HXN HXL HK5 HW5 hck
    go_wp2_with fail
    refine (HG.out _ _ _ _ _ _ _ _ _ HKK.out.1 (Nat.le_refl _) HKK.out.2.1 (Nat.le_refl _)).mono ?_
    rintro e w7 ⟨rfl, hb7⟩
    have hck7 := HCK.out.below hb7
    have HBW7 := Lib.hid hck7.2.2.2.1
    have HCK7 := Lib.hid hck7
    clear hb7 hck7 HCK HKK
    go_wp2_with fail
    refine (HT'.out _ HBW7.out).mono ?_
    rintro e w8 ⟨A3, rfl, hm⟩
    have hm8 := HMD.out _ _ _ hm
    have hck8 := HCK7.out.below hm8.2
    have HM8 := Lib.hid hm8.1
    have HK8 := Lib.hid hck8.rows.2.2
    have HCK8 := Lib.hid hck8
    clear hm hm8 hck8 HCK7 HBW7
    go_wp2_with fail
    refine (HE.out _ _ _ _ _ _ _ HK8.out (Nat.le_refl _) HM8.out (Nat.le_refl _)).mono ?_
    rintro e w9 ⟨rfl, hb9⟩
    have hck9 := HCK8.out.below hb9
    have HCK9 := Lib.hid hck9
    clear hb9 hck9 HCK8 HK8 HM8
    go_wp2_with fail
    refine (HMT.out _ _ _ HCK9.out.2.1 HCK9.out.2.2.2.2.2.1).mono ?_
    rintro e w10 ⟨⟨kz, rfl, hkz, _⟩, hwr⟩
    have tkz : ¬ ((kz : Int) < 0) := by omega
    have hck10 := HCK9.out.mark hwr
    have HKK := Lib.hid hck10.rows
    have HCK10 := Lib.hid hck10
    clear hkz hwr hck10 HCK9
    go_wp2_with fail
    refine (HG.out _ _ _ _ _ _ _ _ _ HKK.out.1 (Nat.le_refl _) HKK.out.2 (Nat.le_refl _)).mono ?_
    rintro e w11 ⟨rfl, hb11⟩
    have hck11 := HCK10.out.below hb11
    have HCK11 := Lib.hid hck11
    clear hb11 hck11 HCK10 HKK
    go_wp2_with fail
    refine (HMG.out _ _ _ _ HCK11.out.2.1 HCK11.out.2.2.2.2.1).mono ?_
    rintro e w12 ⟨rfl, hom, hwr⟩
    have hck12 := HCK11.out.mark hwr hom
    have HCK12 := Lib.hid hck12
    clear hom hwr hck12 HCK11
    go_wp2_with fail
    refine (HHG.out _ _ _ _ _ HCK12.out.2.2.1 HCK12.out.2.2.2.1).mono ?_
    rintro e w13 ⟨rfl, hb13⟩
    have hck13 := HCK12.out.below hb13
    have HCK13 := Lib.hid hck13
    have HB13 := Lib.hid hck13.2.2.2.2
    clear hb13 hck13 HCK12
    go_wp2_with fail
    refine (HT'.out _ HB13.out).mono ?_
    rintro e w14 ⟨A14, rfl, hm⟩
    have hm14 := HMD.out _ _ _ hm
    have hck14 := HCK13.out.below hm14.2
    have HM14 := Lib.hid hm14.1
    have HCK14 := Lib.hid hck14
    clear hm hm14 hck14 HCK13
    go_wp2_with fail
    refine (HI.out _ _ _ _ HM14.out (Nat.le_refl _) HCK14.out.2.2.2.2).mono ?_
    rintro e w15 ⟨Ah, caph, rfl, hmh⟩
    have hm15 := kids_of_made hmh
    have hck15 := HCK14.out.below hm15.2
    have HM15 := Lib.hid hm15.1
    have HCK15 := Lib.hid hck15
    clear hmh hm15 hck15 HCK14
    go_wp2_with fail
    refine (HG.out _ _ _ _ _ _ _ _ _ HM15.out (Nat.le_refl _) HCK15.out.1 HCK15.out.2.1).mono ?_
    rintro e w16 ⟨rfl, hb16⟩
    have hck16 := HCK15.out.below hb16
    have HCK16 := Lib.hid hck16
    clear hb16 hck16 HCK15 HM15
    go_wp2_with fail
    refine (HHG.out _ _ _ _ _ HCK16.out.2.2.1 HCK16.out.2.2.2.1).mono ?_
    rintro e w17 ⟨rfl, hb17⟩
    have hck17 := HCK16.out.below hb17
    have HB17 := Lib.hid hck17.2.2.2.2
    clear hb17 hck17 HCK16
    go_wp2_with fail
    go_ret
    exact ⟨rfl, HB17.out⟩
end Go.Proofs.YtlapdnllncoomaaDoor

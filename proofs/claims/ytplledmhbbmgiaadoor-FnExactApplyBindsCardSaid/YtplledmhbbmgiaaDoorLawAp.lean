/- The law FnExactApplyBinds, walked. Condition: the arguments lie in memory, the table of signs in its variable. -/
import Derived.Test.YtplledmhbbmgiaaDoorProg
import Derived.Test.YtplledmhbbmgiaaDoorApI
import Derived.Test.YtplledmhbbmgiaaDoorBdE
import Derived.Test.YtplledmhbbmgiaaDoorMl
import Derived.Deep.RegionHeld3
namespace Go.Proofs.YtplledmhbbmgiaaDoor
open Go.RowKit

theorem apR_nodes (ns : List Int) (g : Fr) (k n : Int) (s : ByteArray) (f : Fr) : nodes (apR ns g k n s f).f ≤ 1048576 := by
  unfold apR
  split
  · rename_i h
    unfold apB vtB at h
    simp only [Bool.and_eq_true] at h
    have := (validT_fits h.2.2).2.2
    omega
  · exact Nat.zero_le _

section
variable (w : World) (H H6 H9 H10 B b2 hw : Nat) (cs3 : Array Value) (k n gk gn : Int) (s gs : ByteArray) (f gkids : Fr) (ns : List Int) (g : Fr) (A0 A1 Aw Ag : Option Addr) (c0 c1 cw cg : Nat) (L0 L1 Lg : List Nat)
/-- How the blocks lie to each other. -/
def ApOrd : Prop := (w.heap.size ≤ H ∧ H < B) ∧ H6 < B ∧ (w.heap.size ≤ B ∧ hw ≤ B) ∧ B ≤ H9 ∧ H9 < b2 ∧ b2 ≤ H10 ∧ (∀ x ∈ L1, B ≤ x ∧ x < H9) ∧ (∀ x ∈ L0, H9 < x ∧ x < b2) ∧ (∀ x ∈ Lg, b2 ≤ x ∧ x < H10) ∧ L1.Nodup ∧ L0.Nodup ∧ Lg.Nodup
/-- Behind the call of impl's function. -/
def Ap1 (wk : World) : Prop := MlEnd w H H6 H10 hw cs3 gk gn gs gkids Aw Ag cw cg wk ∧ Blk wk H9 29 #[.int .i64 k, .int .i64 n, .string s, .slice A1 f.len c1] ∧ OwnS wk f A1 c1 L1 ∧ OwnBS wk ns g A0 c0 L0 ∧ OwnS wk gkids Ag cg Lg
/-- Behind the marks of the term. -/
def Ap2 (wk : World) : Prop := MlEnd w H H6 H10 hw cs3 gk gn gs gkids Aw Ag cw cg wk ∧ OwnBS wk ns g A0 c0 L0 ∧ OwnS wk gkids Ag cg Lg
end
section
variable {w : World} {H H6 H9 H10 B b2 hw hg : Nat} {cs3 : Array Value} {k n gk gn : Int} {s gs : ByteArray} {f gkids : Fr} {ns : List Int} {g : Fr} {A0 A1 Aw Ag : Option Addr} {c0 c1 cw cg : Nat} {L0 L1 Lg : List Nat} {wk wl : World}
theorem OwnBS.wrote {L : List Nat} (h : OwnBS wk ns g A0 c0 L0) (hb : Wrote L wk wl) (hn : ∀ x ∈ L0, x ∉ L) : OwnBS wl ns g A0 c0 L0 := h.keep fun x hx => hb.block x (h.lt x hx) (hn x hx)
theorem Ap1.below (h : Ap1 w H H6 H9 H10 hw cs3 k n gk gn s gs f gkids ns g A0 A1 Aw Ag c0 c1 cw cg L0 L1 Lg wk) (hb : Below wk.heap.size wk wl) : Ap1 w H H6 H9 H10 hw cs3 k n gk gn s gs f gkids ns g A0 A1 Aw Ag c0 c1 cw cg L0 L1 Lg wl := by
  obtain ⟨h1, h2, h3, h4, h5⟩ := h
  exact ⟨h1.below hb, h2.below hb h2.lt, h3.below hb h3.lt, h4.below hb h4.lt, h5.below hb h5.lt⟩
theorem Ap1.mark (h : Ap1 w H H6 H9 H10 hw cs3 k n gk gn s gs f gkids ns g A0 A1 Aw Ag c0 c1 cw cg L0 L1 Lg wk) (ho : ApOrd w H H6 H9 H10 B b2 hw L0 L1 Lg) (hb : Wrote L1 wk wl) : Ap2 w H H6 H10 hw cs3 gk gn gs gkids ns g A0 Aw Ag c0 cw cg L0 Lg wl := by
  obtain ⟨h1, h2, h3, h4, h5⟩ := h
  obtain ⟨o1, o2, o3, o4, o5, o6, o7, o8, o9, _⟩ := ho
  exact ⟨h1.wrote hb ⟨o1, o2, o3⟩ fun x e => ⟨(o7 x e).1, by have := (o7 x e).2; omega⟩, h4.wrote hb fun x e e' => by have := (o8 x e).1; have := (o7 x e').2; omega, h5.wrote hb fun x e e' => by have := (o9 x e).1; have := (o7 x e').2; omega⟩
theorem Ap2.mark (h : Ap2 w H H6 H10 hw cs3 gk gn gs gkids ns g A0 Aw Ag c0 cw cg L0 Lg wk) (ho : ApOrd w H H6 H9 H10 B b2 hw L0 L1 Lg) (hb : Wrote L0 wk wl) : Ml3 w H H6 H10 hw cs3 gk gn gs gkids Aw Ag cw cg Lg wl := by
  obtain ⟨h1, h4, h5⟩ := h
  obtain ⟨o1, o2, o3, o4, o5, o6, o7, o8, o9, _⟩ := ho
  exact ⟨h1.wrote hb ⟨o1, o2, o3⟩ fun x e => ⟨by have := (o8 x e).1; omega, by have := (o8 x e).2; omega⟩, h5.wrote hb fun x e e' => by have := (o9 x e).1; have := (o8 x e').2; omega⟩
theorem Ml3.markA (h : Ml3 w H H6 H10 hw cs3 gk gn gs gkids Aw Ag cw cg Lg wk) (ho : ApOrd w H H6 H9 H10 B b2 hw L0 L1 Lg) (hb : Wrote Lg wk wl) (hm : OwnS wl (markF gkids 1) Ag cg Lg) : Ml4 w H H6 H10 hw cs3 gk gn gs gkids Aw Ag cw cg wl.heap.size wl := by
  obtain ⟨o1, o2, o3, o4, o5, o6, o7, o8, o9, _⟩ := ho
  exact ⟨h.1.wrote hb ⟨o1, o2, o3⟩ fun x e => ⟨by have := (o9 x e).1; omega, by have := (o9 x e).2; omega⟩, hm.kids fun x hx => ⟨Nat.zero_le _, hm.lt x hx⟩, Nat.le_refl _⟩
theorem own_binds (h : OwnBS wk ns g A0 c0 L0) : BdS wk 0 wk.heap.size ns g A0 c0 := h.binds fun x hx => ⟨Nat.zero_le _, h.lt x hx⟩
end

set_option maxRecDepth 100000 in
set_option maxHeartbeats 16000000 in
theorem lawAp_any (k n : Int) (s : ByteArray) (f : Fr) (A : Option Addr) (cap : Nat) (ns : List Int) (g : Fr) (Bb : Option Addr) (capB : Nat) (w : World) (hk : KidsAt w 0 w.heap.size f A cap) (hf : Fits k n s) (hK : BdS w 0 w.heap.size ns g Bb capB) (ht : nv.Tab w) :
    Calls Tryd.prog 4 #[.agg #[.int .i64 k, .int .i64 n, .string s, .slice A f.len cap], .slice Bb g.len capB] w fun e w' => e = .returned (.bool true) ∧ Below w.heap.size w w' := by
  have hlt := tab_lt ht
  have hr := szT_range s f 1048576 (by omega)
  have C0 := fun w1 (hb : Below w.heap.size w w1) => szT_any s f k n A cap 0 w.heap.size 1048576 w1 (hk.below hb (Nat.le_refl _)) hb.size hf (by omega) (by omega)
  generalize szT s f 1048576 = r at *
  have r1 := hr.1
  have r2 := hr.2.1
  have hb1 : ∀ o, Below w.heap.size w (w.alloc o) := fun o => (Below.refl _ _).alloc (Nat.le_refl _) _
  have H0 := Lib.hid C0
  have HK := Lib.hid hk
  have HKB := Lib.hid hK
  have HT := Lib.hid ht
  have HF := Lib.hid hf
  have HB1 := Lib.hid hb1
  clear C0 hk hK ht hf hb1
  by_cases hneg : r < 0
  · clear hr
    go_enter Tryd.func4, Tryd.ntmps4
    go_wp2_with fail
    refine (H0.out _ (HB1.out _)).mono ?_
    rintro e w2 ⟨rfl, hb⟩
    have HB : Hid (Below w.heap.size w w2) := Lib.hid ((HB1.out _).trans (hb.mono (by simp)))
    clear hb
    go_wp2_with fail
    go_ret
    exact ⟨rfl, HB.out⟩
  have hq := szS_range g r (by omega)
  have C0 := fun w1 (hb : Below w.heap.size w w1) => szBS_any ns g Bb capB 0 w.heap.size r w1 (HKB.out.below hb (Nat.le_refl _)) hb.size (by omega) (by omega)
  generalize szS g r = q at *
  have H00 := Lib.hid C0
  have q1 := hq.1
  have q2 := hq.2.1
  clear C0
  by_cases hneg2 : q < 0
  · clear hr hq
    go_enter Tryd.func4, Tryd.ntmps4
    go_wp2_with fail
    refine (H0.out _ (HB1.out _)).mono ?_
    rintro e w2 ⟨rfl, hb⟩
    have HB : Hid (Below w.heap.size w w2) := Lib.hid ((HB1.out _).trans (hb.mono (by simp)))
    clear hb
    go_wp2_with fail
    refine (H00.out _ HB.out).mono ?_
    rintro e w3 ⟨rfl, hb⟩
    have HB3 : Hid (Below w.heap.size w w3) := Lib.hid (HB.out.trans (hb.mono HB.out.size))
    clear hb
    go_wp2_with fail
    go_ret
    exact ⟨rfl, HB3.out⟩
  have hw2 : s.size + f.len + wt f ≤ 1048576 := by have := hr.2.2 (by omega); omega
  have hwg : g.len + wt g ≤ 1048576 := by have := hq.2.2 (by omega); omega
  have hn2 : nodes f ≤ 1048576 := by have := nodes_le_wt f; omega
  have hng : nodes g ≤ 1048576 := by have := nodes_le_wt g; omega
  have hgn := apR_nodes ns g k n s f
  have CT := fun w1 (hb : Below w.heap.size w w1) => toT_any k n s f A cap 0 w.heap.size w1 (HK.out.below hb (Nat.le_refl _)) hb.size (by omega)
  have CTB := fun w1 (hb : Below w.heap.size w w1) => toBS_any ns g Bb capB 0 w.heap.size w1 (HKB.out.below hb (Nat.le_refl _)) hb.size hwg
  have CS := fun w1 A1 cap1 lo hi (hk : KidsAt w1 lo hi f A1 cap1) hh B1 lo2 hi2 (hkB : BdS w1 lo2 hi2 ns g B1 g.len) hh2 => specAp_any k n s f A1 cap1 lo hi ns g B1 g.len lo2 hi2 w1 hk hh HF.out hn2 hkB hh2 hng
  have CI := fun w1 A1 cap1 lo hi (hk : KidsAt w1 lo hi f A1 cap1) hh B1 lo2 hi2 (hkB : BdS w1 lo2 hi2 ns g B1 g.len) hh2 (ht : nv.Tab w1) => implAp_any k n s f A1 cap1 lo hi ns g B1 g.len lo2 hi2 w1 hk hh HF.out hn2 hkB hh2 hng ht
  generalize apB ns g k n s f = ok at *
  generalize apR ns g k n s f = gm at *
  obtain ⟨gk, gn, gs, gkids⟩ := gm
  simp only at hgn
  have CE := fun w1 A1 cap1 lo hi A3 cap3 lo3 hi3 (hk : KidsAt w1 lo hi f A1 cap1) hh (hk3 : KidsAt w1 lo3 hi3 f A3 cap3) hh3 => eqT_any s f s f k n k n A1 A3 cap1 cap3 lo hi lo3 hi3 w1 hk hk3 hh hh3
  rw [eqT_refl] at CE
  have CEB := fun w1 A1 lo hi A3 lo3 hi3 (hk : BdS w1 lo hi ns g A1 g.len) hh (hk3 : BdS w1 lo3 hi3 ns g A3 g.len) hh3 => eqBS_any ns g A1 A3 g.len g.len lo hi lo3 hi3 w1 hk hk3 hh hh3
  have CEG := fun w1 A1 cap1 lo hi A3 cap3 lo3 hi3 (hk : KidsAt w1 lo hi gkids A1 cap1) hh (hk3 : KidsAt w1 lo3 hi3 gkids A3 cap3) hh3 => eqT_any gs gkids gs gkids gk gn gk gn A1 A3 cap1 cap3 lo hi lo3 hi3 w1 hk hk3 hh hh3
  rw [eqT_refl] at CEG
  have CM1 : ∀ (w1 : World) (A1 : Option Addr) (cap1 : Nat) (L : List Nat), OwnS w1 f A1 cap1 L → L.Nodup → Calls Tryd.prog 18 #[.agg #[.int .i64 k, .int .i64 n, .string s, .slice A1 f.len cap1], .int .i64 ((1 : Nat) : Int)] w1 fun e w' => e = .returned (.int .i64 ((1 + 3 * nodes f : Nat) : Int)) ∧ OwnS w' (markF f 1) A1 cap1 L ∧ Wrote L w1 w' :=
    fun w1 A1 cap1 L ho hn => markT_any k n s f A1 cap1 1 L w1 ho hn (by omega) (by omega)
  have CMB := fun (w1 : World) (A1 : Option Addr) (L : List Nat) (ho : OwnBS w1 ns g A1 g.len L) (hn : L.Nodup) => markBS_any ns g A1 g.len (1 + 3 * nodes f) L w1 ho hn (by omega) (by omega)
  have CMG : ∀ (w1 : World) (A1 : Option Addr) (cap1 : Nat) (L : List Nat), OwnS w1 gkids A1 cap1 L → L.Nodup → Calls Tryd.prog 18 #[.agg #[.int .i64 gk, .int .i64 gn, .string gs, .slice A1 gkids.len cap1], .int .i64 ((1 : Nat) : Int)] w1 fun e w' => e = .returned (.int .i64 ((1 + 3 * nodes gkids : Nat) : Int)) ∧ OwnS w' (markF gkids 1) A1 cap1 L ∧ Wrote L w1 w' :=
    fun w1 A1 cap1 L ho hn => markT_any gk gn gs gkids A1 cap1 1 L w1 ho hn (by omega) (by omega)
  have CHG := fun w1 A1 cap1 lo hi hk hh => heldT_any gk gn gs gkids A1 cap1 1 lo hi w1 hk hh (by omega) (by omega)
  have HT' := Lib.hid CT
  have HTB := Lib.hid CTB
  have HS := Lib.hid CS
  have HI := Lib.hid CI
  have HE := Lib.hid CE
  have HEB := Lib.hid CEB
  have HG := Lib.hid CEG
  have HM1 := Lib.hid CM1
  have HMB := Lib.hid CMB
  have HMG := Lib.hid CMG
  have HHG := Lib.hid CHG
  have tok : (ok != ok) = false := by cases ok <;> rfl
  have tq : ¬ (((1 + 3 * nodes gkids : Nat) : Int) < 0) := by omega
  have tm : (((1 + 3 * nodes gkids : Nat) : Int) != ((1 + 3 * nodes gkids : Nat) : Int)) = false := by simp
  generalize ((1 + 3 * nodes f : Nat) : Int) = k2 at *
  generalize ((1 + 3 * nodes gkids : Nat) : Int) = kg at *
  clear CT CTB CS CI CE CEB CEG CM1 CMB CMG CHG hr hq hw2 hwg hn2 hng hgn
  go_enter Tryd.func4, Tryd.ntmps4
  go_wp2_with fail
  refine (H0.out _ (HB1.out _)).mono ?_
  rintro e w2 ⟨rfl, hb⟩
  have hq := (Blk.new w 24 #[.int .i64 k, .int .i64 n, .string s, .slice A f.len cap]).below hb (by simp)
  have hb2 : Below w.heap.size w w2 := (HB1.out _).trans (hb.mono (by simp))
  have HQ := Lib.hid hq
  have HB2 := Lib.hid hb2
  clear hb hq hb2 H0
  go_wp2_with fail
  refine (H00.out _ HB2.out).mono ?_
  rintro e w2b ⟨rfl, hb⟩
  have hq := HQ.out.below hb HQ.out.lt
  have hb2 := HB2.out.trans (hb.mono HB2.out.size)
  obtain ⟨a0, a1, a2, a3⟩ := cells4 hq
  have HQ2 := Lib.hid hq
  have HB2b := Lib.hid hb2
  clear hb hq hb2 H00 HQ HB2
  go_wp2_with fail
  refine (HT'.out _ HB2b.out).mono ?_
  rintro e w3 ⟨A3, c3, rfl, hm⟩
  have hm3 := kids_of_made hm
  have hq3 := HQ2.out.below hm3.2 HQ2.out.lt
  have hb3 : Below w.heap.size w w3 := HB2b.out.trans (hm3.2.mono HB2b.out.size)
  have HM3 := Lib.hid hm3.1
  have HQ3 := Lib.hid hq3
  have HB3 := Lib.hid hb3
  clear hm hm3 hq3 hb3 HQ2 HB2b a0 a1 a2 a3
  go_wp2_with fail
  refine (HTB.out _ HB3.out).mono ?_
  rintro e w4 ⟨A4, rfl, hm⟩
  have hm4 := binds_of_made hm
  have hq4 := HQ3.out.below hm4.2 HQ3.out.lt
  have hb4 : Below w.heap.size w w4 := HB3.out.trans (hm4.2.mono HB3.out.size)
  have C4 := HS.out w4 A3 c3 _ _ (HM3.out.below hm4.2 (Nat.le_refl _)) hm4.2.size A4 _ _ hm4.1 (Nat.le_refl _)
  have HQ4 := Lib.hid hq4
  have HB4 := Lib.hid hb4
  have H4 := Lib.hid C4
  clear hm hm4 hq4 hb4 C4 HM3 HQ3 HB3 HS
  go_wp2_with fail
  refine H4.out.mono ?_
  rintro e w6 ⟨Aw, cw, rfl, hm⟩
  have hm6 := kids_of_made hm
  have hA0 := MlA.late (w := w) (H := w.heap.size) (cs3 := #[.int .i64 k, .int .i64 n, .string s, .slice A f.len cap]) (gk := gk) (gn := gn) (gs := gs) (HQ4.out.below hm6.2 HQ4.out.lt) hm6.1 (HB4.out.trans (hm6.2.mono HB4.out.size))
  have hs6 : w.heap.size < w6.heap.size := (HQ4.out.below hm6.2 HQ4.out.lt).lt
  obtain ⟨a0, a1, a2, a3⟩ := cells4 hA0.1
  have HA0 := Lib.hid hA0
  clear hm hm6 hA0 H4 HQ4 HB4
  go_wp2_with fail
  refine (HT'.out _ HA0.out.2.2.2.2).mono ?_
  rintro e v2 ⟨Ax1, cx1, rfl, hm⟩
  obtain ⟨L1, ho1, hn1, hl1, hb⟩ := hm
  have hA2 := HA0.out.below hb
  have hs2 := hb.size
  have hs20 : w6.heap.size + 1 ≤ v2.heap.size := by simpa using hs2
  have hbv : Below v2.heap.size v2 (v2.alloc (.cells #[.int .i64 k, .int .i64 n, .string s, .slice Ax1 f.len cx1] 29)) := (Below.refl _ _).alloc (Nat.le_refl _) _
  have HA2 := Lib.hid (hA2.below hbv)
  have HX := Lib.hid (Blk.new v2 29 #[.int .i64 k, .int .i64 n, .string s, .slice Ax1 f.len cx1])
  have HO1 := Lib.hid (And.intro (ho1.below hbv ho1.lt) (And.intro hn1 hl1))
  clear ho1 hn1 hl1 hb hA2 a0 a1 a2 a3 HA0 hs2 hbv
  go_wp2_with fail
  refine (HTB.out _ HA2.out.2.2.2.2).mono ?_
  rintro e v3 ⟨A0, rfl, hm⟩
  obtain ⟨L0, ho0, hn0, hl0, hb⟩ := hm
  have hs3 : v2.heap.size + 1 ≤ v3.heap.size := by have := hb.size; simpa using this
  have hx3 := HX.out.below hb (by simp)
  obtain ⟨x0, x1, x2, x3⟩ := cells4 hx3
  have hA3 := HA2.out.below hb
  have HO1b := Lib.hid (And.intro (HO1.out.1.below hb HO1.out.1.lt) HO1.out.2)
  have HO0 := Lib.hid (And.intro ho0 (And.intro hn0 hl0))
  have HA3 := Lib.hid hA3
  have HX3 := Lib.hid hx3
  clear ho0 hn0 hl0 hb hx3 hA3 HA2 HX HO1
  go_wp2_with fail
  refine (HI.out _ _ _ 0 v3.heap.size (own_kids HO1b.out.1) (Nat.le_refl _) _ 0 v3.heap.size (own_binds HO0.out.1) (Nat.le_refl _) (tab_below HT.out HA3.out.2.2.2.2 hlt)).mono ?_
  rintro e v4 ⟨Ag, cg, rfl, hm⟩
  obtain ⟨Lg, hog, hng, hlg, hb⟩ := hm
  have hba : Below v4.heap.size v4 (v4.alloc (.cells #[.int .i64 gk, .int .i64 gn, .string gs, .slice Ag gkids.len cg] 29)) := (Below.refl _ _).alloc (Nat.le_refl _) _
  have hs4 : v3.heap.size ≤ v4.heap.size := hb.size
  have hb34 := hb.trans (hba.mono hb.size)
  have hord : ApOrd w w.heap.size w6.heap.size v2.heap.size v4.heap.size (w6.heap.size + 1) v3.heap.size w6.heap.size L0 L1 Lg := by
    refine ⟨⟨Nat.le_refl _, by omega⟩, by omega, ⟨by omega, by omega⟩, hs20, by omega, hs4, fun x hx => ?_, fun x hx => ?_, fun x hx => ?_, HO1b.out.2.1, HO0.out.2.1, hng⟩
    · have h := HO1b.out.2.2 x hx
      simp at h
      omega
    · have h := HO0.out.2.2 x hx
      simp at h
      omega
    · exact hlg x hx
  have hst : Ap1 w w.heap.size w6.heap.size v2.heap.size v4.heap.size w6.heap.size #[.int .i64 k, .int .i64 n, .string s, .slice A f.len cap] k n gk gn s gs f gkids ns g A0 Ax1 Aw Ag g.len cx1 cw cg L0 L1 Lg (v4.alloc (.cells #[.int .i64 gk, .int .i64 gn, .string gs, .slice Ag gkids.len cg] 29)) :=
    ⟨⟨HA3.out.below hb34, Blk.new v4 _ _⟩, (HX3.out.below hb34 HX3.out.lt), HO1b.out.1.below hb34 HO1b.out.1.lt, HO0.out.1.below hb34 HO0.out.1.lt, hog.below hba hog.lt⟩
  have HORD := Lib.hid hord
  obtain ⟨g0, g1, g2, g3⟩ := cells4 hst.1.1.2.1
  have HST := Lib.hid hst
  clear hog hng hlg hb hba hb34 hord hst HO1b HO0 HA3 HX3 x0 x1 x2 x3
  go_wp2_with fail
  refine (HG.out _ _ _ 0 _ _ _ 0 _ (own_kids HST.out.2.2.2.2) (Nat.le_refl _) HST.out.1.1.2.2.1 HST.out.1.1.2.2.2.1).mono ?_
  rintro e v7 ⟨rfl, hb⟩
  have h7 := HST.out.below hb
  obtain ⟨a0, a1, a2, a3⟩ := cells4 h7.1.1.1
  obtain ⟨x0, x1, x2, x3⟩ := cells4 h7.2.1
  have hs7 := h7.1.1.1.lt
  have hs7' := h7.2.1.lt
  have HST7 := Lib.hid h7
  clear hb h7 HST g0 g1 g2 g3
  go_wp2_with fail
  go_region_held3 (fun w' => w'.cell? ⟨v2.heap.size, 0, none⟩ = some (.int .i64 k) ∧ w'.cell? ⟨v2.heap.size, 1, none⟩ = some (.int .i64 n) ∧ w'.cell? ⟨v2.heap.size, 2, none⟩ = some (.string s) ∧ w'.cell? ⟨v2.heap.size, 3, none⟩ = some (.slice Ax1 f.len cx1) ∧ w'.cell? ⟨w.heap.size, 0, none⟩ = some (.int .i64 k) ∧ w'.cell? ⟨w.heap.size, 1, none⟩ = some (.int .i64 n) ∧ w'.cell? ⟨w.heap.size, 2, none⟩ = some (.string s) ∧ w'.cell? ⟨w.heap.size, 3, none⟩ = some (.slice A f.len cap))
    (first | exact ⟨z0, z1, z2, z3, z4, z5, z6, z7⟩ | exact ⟨y0, y1, y2, y3, y4, y5, y6, y7⟩ | exact ⟨x0, x1, x2, x3, a0, a1, a2, a3⟩)
    (first
      | (go_at_call 10
         refine (HT'.out _ HST7.out.1.1.2.2.2.2.drew).mono ?_
         rintro e v8 ⟨A3, cap3, rfl, hm⟩
         have hm8 := kids_of_made hm
         have hd8 : Below v7.heap.size v7 v8 := (Below.refl v7.heap.size v7).drew.trans hm8.2
         have h8 := HST7.out.below hd8
         obtain ⟨y4, y5, y6, y7⟩ := cells4 h8.1.1.1
         obtain ⟨y0, y1, y2, y3⟩ := cells4 h8.2.1
         have HM8 := Lib.hid hm8
         have HST8 := Lib.hid h8
         clear hm hm8 h8 hd8)
      | (go_at_call 12
         refine (HE.out _ _ _ 0 _ _ _ _ _ (own_kids HST8.out.2.2.1) (Nat.le_refl _) HM8.out.1 (Nat.le_refl _)).mono ?_
         rintro e v9 ⟨rfl, hb9⟩
         have h9 := HST8.out.below hb9
         obtain ⟨z4, z5, z6, z7⟩ := cells4 h9.1.1.1
         obtain ⟨z0, z1, z2, z3⟩ := cells4 h9.2.1
         have HST9 := Lib.hid h9
         clear hb9 h9))
  clear a0 a1 a2 a3 x0 x1 x2 x3 y0 y1 y2 y3 y4 y5 y6 y7 z0 z1 z2 z3 z4 z5 z6 z7 HM8 HST8 HST7
  go_wp2_with fail
  refine (HTB.out _ HST9.out.1.1.2.2.2.2).mono ?_
  rintro e v9b ⟨A9, rfl, hm⟩
  have hm9 := binds_of_made hm
  have h9b := HST9.out.below hm9.2
  have HM9 := Lib.hid hm9.1
  have HST9b := Lib.hid h9b
  clear hm hm9 h9b HST9
  go_wp2_with fail
  refine (HEB.out _ _ 0 _ _ _ _ (own_binds HST9b.out.2.2.2.1) (Nat.le_refl _) HM9.out (Nat.le_refl _)).mono ?_
  rintro e v9c ⟨rfl, hb⟩
  have h9c := HST9b.out.below hb
  obtain ⟨x0, x1, x2, x3⟩ := cells4 h9c.2.1
  have HST9c := Lib.hid h9c
  clear hb h9c HST9b HM9
  go_wp2_with fail
  refine (HM1.out _ _ _ _ HST9c.out.2.2.1 HORD.out.2.2.2.2.2.2.2.2.2.1).mono ?_
  rintro e v11 ⟨rfl, _, hwr⟩
  have h11 := HST9c.out.mark HORD.out hwr
  have HST11 := Lib.hid h11
  clear hwr h11 HST9c x0 x1 x2 x3
  go_wp2_with fail
  refine (HMB.out _ _ _ HST11.out.2.1 HORD.out.2.2.2.2.2.2.2.2.2.2.1).mono ?_
  rintro e v11b ⟨⟨kb, rfl, hkb⟩, hwr⟩
  have h11b := HST11.out.mark HORD.out hwr
  have tk : ¬ ((kb : Int) < 0) := by omega
  obtain ⟨x0, x1, x2, x3⟩ := cells4 h11b.1.2
  obtain ⟨g0, g1, g2, g3⟩ := cells4 h11b.1.1.2.1
  have HST11b := Lib.hid h11b
  generalize (kb : Int) = kb2 at *
  clear hwr h11b hkb HST11
  go_wp2_with fail
  refine (HG.out _ _ _ 0 _ _ _ 0 _ (own_kids HST11b.out.2) (Nat.le_refl _) HST11b.out.1.1.2.2.1 HST11b.out.1.1.2.2.2.1).mono ?_
  rintro e v12 ⟨rfl, hb⟩
  have h12 := HST11b.out.below hb
  obtain ⟨x0, x1, x2, x3⟩ := cells4 h12.1.2
  have HST12 := Lib.hid h12
  clear hb h12 HST11b g0 g1 g2 g3
  go_wp2_with fail
  refine (HMG.out _ _ _ _ HST12.out.2 HORD.out.2.2.2.2.2.2.2.2.2.2.2).mono ?_
  rintro e v13 ⟨rfl, hom, hwr⟩
  have h13 := HST12.out.markA HORD.out hwr hom
  obtain ⟨x0, x1, x2, x3⟩ := cells4 h13.1.2
  have HST13 := Lib.hid h13
  clear hom hwr h13 HST12
  go_wp2_with fail
  refine (HHG.out _ _ _ _ _ HST13.out.2.1 HST13.out.2.2).mono ?_
  rintro e v14 ⟨rfl, hb⟩
  have h14 := HST13.out.below hb
  obtain ⟨a0, a1, a2, a3⟩ := cells4 h14.1.1.1
  have HST14 := Lib.hid h14
  clear hb h14 HST13 x0 x1 x2 x3
  go_wp2_with fail
  refine (HT'.out _ HST14.out.1.1.2.2.2.2).mono ?_
  rintro e y4 ⟨A4, cap4, rfl, hm⟩
  have hm4 := kids_of_made hm
  have h15 := HST14.out.below hm4.2
  have HM4 := Lib.hid hm4.1
  have HST15 := Lib.hid h15
  clear hm hm4 h15 HST14 a0 a1 a2 a3
  go_wp2_with fail
  refine (HTB.out _ HST15.out.1.1.2.2.2.2).mono ?_
  rintro e y5 ⟨A5, rfl, hm⟩
  have hm5 := binds_of_made hm
  have h15 := HST15.out.below hm5.2
  have C6 := HI.out y5 A4 cap4 _ _ (HM4.out.below hm5.2 (Nat.le_refl _)) hm5.2.size A5 _ _ hm5.1 (Nat.le_refl _) (tab_below HT.out h15.1.1.2.2.2.2 hlt)
  have HST15b := Lib.hid h15
  have H6 := Lib.hid C6
  clear hm hm5 h15 C6 HST15 HM4
  go_wp2_with fail
  refine H6.out.mono ?_
  rintro e y6 ⟨Ah, ch, rfl, hm⟩
  have hm6 := kids_of_made hm
  have hba : Below y6.heap.size y6 (y6.alloc (.cells #[.int .i64 gk, .int .i64 gn, .string gs, .slice Ah gkids.len ch] 29)) := (Below.refl _ _).alloc (Nat.le_refl _) _
  have h16 := (HST15b.out.below hm6.2).below hba
  have hk6 := hm6.1.below hba (Nat.le_refl _)
  obtain ⟨g0, g1, g2, g3⟩ := cells4 h16.1.1.2.1
  have HST16 := Lib.hid h16
  have HK6 := Lib.hid (And.intro hk6 hba.size)
  clear hm hm6 hba h16 hk6 HST15b H6
  go_wp2_with fail
  refine (HG.out _ _ _ _ _ _ _ 0 _ HK6.out.1 HK6.out.2 HST16.out.1.1.2.2.1 HST16.out.1.1.2.2.2.1).mono ?_
  rintro e v16 ⟨rfl, hb⟩
  have h17 := HST16.out.below hb
  obtain ⟨x0, x1, x2, x3⟩ := cells4 h17.1.2
  have HST17 := Lib.hid h17
  clear hb h17 HST16 HK6 g0 g1 g2 g3
  go_wp2_with fail
  refine (HHG.out _ _ _ _ _ HST17.out.2.1 HST17.out.2.2).mono ?_
  rintro e v17 ⟨rfl, hb⟩
  have HB17 := Lib.hid (HST17.out.below hb).1.1.2.2.2.2
  clear hb HST17 x0 x1 x2 x3
  go_wp2_with fail
  go_ret
  exact ⟨rfl, HB17.out⟩
end Go.Proofs.YtplledmhbbmgiaaDoor

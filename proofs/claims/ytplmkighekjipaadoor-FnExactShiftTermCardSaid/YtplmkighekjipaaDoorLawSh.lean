/- The law FnExactShiftTerm, walked. Condition: the argument lies in memory, the table of signs in its variable. -/
import Derived.Test.YtplmkighekjipaaDoorProg
import Derived.Test.YtplmkighekjipaaDoorShT
import Derived.Test.YtplmkighekjipaaDoorMl
import Derived.Deep.RegionHeld3
namespace Go.Proofs.YtplmkighekjipaaDoor
open Go.RowKit

theorem shR_nodes (V k n : Int) (s : ByteArray) (f : Fr) : nodes (shR V k n s f).f ≤ nodes f := by
  unfold shR
  split
  · show nodes (shF V f) ≤ nodes f
    rw [shF_nodes]; exact Nat.le_refl _
  · exact Nat.zero_le _

set_option maxRecDepth 100000 in
set_option maxHeartbeats 8000000 in
theorem lawSh_any (k n : Int) (s : ByteArray) (f : Fr) (A : Option Addr) (cap : Nat) (V : Int) (w : World) (hk : KidsAt w 0 w.heap.size f A cap) (hf : Fits k n s) (ht : nv.Tab w) :
    Calls Tryd.prog 3 #[.agg #[.int .i64 k, .int .i64 n, .string s, .slice A f.len cap], .int .i64 V] w fun e w' => e = .returned (.bool true) ∧ Below w.heap.size w w' := by
  have hlt := tab_lt ht
  have hr := szT_range s f 1048576 (by omega)
  have C0 := fun w1 (hb : Below w.heap.size w w1) => szT_any s f k n A cap 0 w.heap.size 1048576 w1 (hk.below hb (Nat.le_refl _)) hb.size hf (by omega) (by omega)
  generalize szT s f 1048576 = r at *
  have r1 := hr.1
  have r2 := hr.2.1
  have hb1 : ∀ o, Below w.heap.size w (w.alloc o) := fun o => (Below.refl _ _).alloc (Nat.le_refl _) _
  have H0 := Lib.hid C0
  have HK := Lib.hid hk
  have HT := Lib.hid ht
  have HF := Lib.hid hf
  have HB1 := Lib.hid hb1
  clear C0 hk ht hf hb1
  by_cases hneg : r < 0
  · clear hr
    go_enter Tryd.func3, Tryd.ntmps3
    go_wp2_with fail
    refine (H0.out _ (HB1.out _)).mono ?_
    rintro e w2 ⟨rfl, hb⟩
    have HB : Hid (Below w.heap.size w w2) := Lib.hid ((HB1.out _).trans (hb.mono (by simp)))
    clear hb
    go_wp2_with fail
    go_ret
    exact ⟨rfl, HB.out⟩
  · have hw2 : s.size + f.len + wt f ≤ 1048576 := by have := hr.2.2 (by omega); omega
    have hn2 : nodes f ≤ 1048576 := by have := nodes_le_wt f; omega
    have hgn : nodes (shR V k n s f).f ≤ 1048576 := Nat.le_trans (shR_nodes V k n s f) hn2
    have CT := fun w1 (hb : Below w.heap.size w w1) => toT_any k n s f A cap 0 w.heap.size w1 (HK.out.below hb (Nat.le_refl _)) hb.size (by omega)
    have CS := fun w1 A1 cap1 lo hi (hk : KidsAt w1 lo hi f A1 cap1) hh => specShift_any k n s f A1 cap1 V lo hi w1 hk hh HF.out hn2
    have CI := fun w1 A1 cap1 lo hi (hk : KidsAt w1 lo hi f A1 cap1) hh (ht : nv.Tab w1) => implShift_any k n s f A1 cap1 V lo hi w1 hk hh HF.out hn2 ht
    generalize shB V k n s f = ok at *
    generalize shR V k n s f = g at *
    obtain ⟨gk, gn, gs, gkids⟩ := g
    simp only at hgn
    have CE := fun w1 A1 cap1 lo hi A3 cap3 lo3 hi3 (hk : KidsAt w1 lo hi f A1 cap1) hh (hk3 : KidsAt w1 lo3 hi3 f A3 cap3) hh3 => eqT_any s f s f k n k n A1 A3 cap1 cap3 lo hi lo3 hi3 w1 hk hk3 hh hh3
    rw [eqT_refl] at CE
    have CEG := fun w1 A1 cap1 lo hi A3 cap3 lo3 hi3 (hk : KidsAt w1 lo hi gkids A1 cap1) hh (hk3 : KidsAt w1 lo3 hi3 gkids A3 cap3) hh3 => eqT_any gs gkids gs gkids gk gn gk gn A1 A3 cap1 cap3 lo hi lo3 hi3 w1 hk hk3 hh hh3
    rw [eqT_refl] at CEG
    have CM1 : ∀ (w1 : World) (A1 : Option Addr) (cap1 : Nat) (L : List Nat), OwnS w1 f A1 cap1 L → L.Nodup → Calls Tryd.prog 12 #[.agg #[.int .i64 k, .int .i64 n, .string s, .slice A1 f.len cap1], .int .i64 ((1 : Nat) : Int)] w1 fun e w' => e = .returned (.int .i64 ((1 + 3 * nodes f : Nat) : Int)) ∧ OwnS w' (markF f 1) A1 cap1 L ∧ Wrote L w1 w' :=
      fun w1 A1 cap1 L ho hn => markT_any k n s f A1 cap1 1 L w1 ho hn (by omega) (by omega)
    have CMG : ∀ (w1 : World) (A1 : Option Addr) (cap1 : Nat) (L : List Nat), OwnS w1 gkids A1 cap1 L → L.Nodup → Calls Tryd.prog 12 #[.agg #[.int .i64 gk, .int .i64 gn, .string gs, .slice A1 gkids.len cap1], .int .i64 ((1 : Nat) : Int)] w1 fun e w' => e = .returned (.int .i64 ((1 + 3 * nodes gkids : Nat) : Int)) ∧ OwnS w' (markF gkids 1) A1 cap1 L ∧ Wrote L w1 w' :=
      fun w1 A1 cap1 L ho hn => markT_any gk gn gs gkids A1 cap1 1 L w1 ho hn (by omega) (by omega)
    have CHG := fun w1 A1 cap1 lo hi hk hh => heldT_any gk gn gs gkids A1 cap1 1 lo hi w1 hk hh (by omega) (by omega)
    have HT' := Lib.hid CT
    have HS := Lib.hid CS
    have HI := Lib.hid CI
    have HE := Lib.hid CE
    have HG := Lib.hid CEG
    have HM1 := Lib.hid CM1
    have HMG := Lib.hid CMG
    have HHG := Lib.hid CHG
    have tok : (ok != ok) = false := by cases ok <;> rfl
    have tk : ¬ (((1 + 3 * nodes f : Nat) : Int) < 0) := by omega
    have tq : ¬ (((1 + 3 * nodes gkids : Nat) : Int) < 0) := by omega
    have tm : (((1 + 3 * nodes gkids : Nat) : Int) != ((1 + 3 * nodes gkids : Nat) : Int)) = false := by simp
    generalize ((1 + 3 * nodes f : Nat) : Int) = k2 at *
    generalize ((1 + 3 * nodes gkids : Nat) : Int) = kg at *
    clear CT CS CI CE CEG CM1 CMG CHG hr hw2 hn2 hgn
    go_enter Tryd.func3, Tryd.ntmps3
    go_wp2_with fail
    refine (H0.out _ (HB1.out _)).mono ?_
    rintro e w2 ⟨rfl, hb⟩
    have hq := (Blk.new w 24 #[.int .i64 k, .int .i64 n, .string s, .slice A f.len cap]).below hb (by simp)
    have hb2 : Below w.heap.size w w2 := (HB1.out _).trans (hb.mono (by simp))
    obtain ⟨a0, a1, a2, a3⟩ := cells4 hq
    have HQ := Lib.hid hq
    have HB2 := Lib.hid hb2
    clear hb hq hb2 H0
    go_wp2_with fail
    refine (HT'.out _ HB2.out).mono ?_
    rintro e w3 ⟨A3, c3, rfl, hm⟩
    have hm3 := kids_of_made hm
    have hq3 := HQ.out.below hm3.2 HQ.out.lt
    have hb3 : Below w.heap.size w w3 := HB2.out.trans (hm3.2.mono HB2.out.size)
    have C3 := HS.out w3 A3 c3 _ _ hm3.1 (Nat.le_refl _)
    have HQ3 := Lib.hid hq3
    have HB3 := Lib.hid hb3
    have H3 := Lib.hid C3
    clear hm hm3 hq3 hb3 C3 HQ HB2 HS a0 a1 a2 a3
    go_wp2_with fail
    refine H3.out.mono ?_
    rintro e w6 ⟨Aw, cw, rfl, hm⟩
    have hm6 := kids_of_made hm
    have hA0 := MlA.late (w := w) (H := w.heap.size) (cs3 := #[.int .i64 k, .int .i64 n, .string s, .slice A f.len cap]) (gk := gk) (gn := gn) (gs := gs) (HQ3.out.below hm6.2 HQ3.out.lt) hm6.1 (HB3.out.trans (hm6.2.mono HB3.out.size))
    have hs6 : w.heap.size < w6.heap.size := (HQ3.out.below hm6.2 HQ3.out.lt).lt
    obtain ⟨a0, a1, a2, a3⟩ := cells4 hA0.1
    have HA0 := Lib.hid hA0
    clear hm hm6 hA0 H3 HQ3 HB3
    go_wp2_with fail
    refine (HT'.out _ HA0.out.2.2.2.2).mono ?_
    rintro e v2 ⟨Ax1, cx1, rfl, hm⟩
    obtain ⟨L1, ho1, hn1, hl1, hb⟩ := hm
    have hA2 := HA0.out.below hb
    have hs2 := hb.size
    have HA2 := Lib.hid hA2
    have HO1 := Lib.hid (And.intro ho1 (And.intro hn1 hl1))
    have hbv : Below v2.heap.size v2 (v2.alloc (.cells #[.int .i64 k, .int .i64 n, .string s, .slice Ax1 f.len cx1] 28)) := (Below.refl _ _).alloc (Nat.le_refl _) _
    have hs20 : w6.heap.size + 1 ≤ v2.heap.size := by simpa using hs2
    have HBV := Lib.hid hbv
    clear ho1 hn1 hl1 hb hA2 a0 a1 a2 a3 hbv HA0 hs2
    go_wp2_with fail
    refine (HI.out _ _ _ 0 v2.heap.size ((own_kids HO1.out.1).below HBV.out (Nat.le_refl _)) HBV.out.size (tab_below HT.out (HA2.out.below HBV.out).2.2.2.2 hlt)).mono ?_
    rintro e v3 ⟨Ag, cg, rfl, hm⟩
    obtain ⟨Lg, hog, hng, hlg, hb⟩ := hm
    have hb23 : Below v2.heap.size v2 v3 := HBV.out.trans (hb.mono HBV.out.size)
    have hb34 : Below v3.heap.size v3 (v3.alloc (.cells #[.int .i64 gk, .int .i64 gn, .string gs, .slice Ag gkids.len cg] 28)) := (Below.refl _ _).alloc (Nat.le_refl _) _
    have hs3 : v2.heap.size < v3.heap.size := by have := hb.size; simp at this; omega
    have hb24 := hb23.trans (hb34.mono hb23.size)
    have hord : MlOrd w w.heap.size w6.heap.size v2.heap.size v3.heap.size (w6.heap.size + 1) (w6.heap.size + 1) w6.heap.size [] L1 Lg := by
      refine ⟨⟨Nat.le_refl _, by omega⟩, by omega, ⟨by omega, by omega⟩, ⟨Nat.le_refl _, by omega⟩, hs3, (fun x hx => nomatch hx), fun x hx => ?_, fun x hx => ?_, List.nodup_nil, HO1.out.2.1, hng⟩
      · have h := HO1.out.2.2 x hx
        simp at h
        omega
      · have h := hlg x hx
        simp at h
        omega
    have hst : Ml2 w w.heap.size w6.heap.size v2.heap.size v3.heap.size w6.heap.size #[.int .i64 k, .int .i64 n, .string s, .slice A f.len cap] k n gk gn s gs f gkids Ax1 Aw Ag cx1 cw cg L1 Lg (v3.alloc (.cells #[.int .i64 gk, .int .i64 gn, .string gs, .slice Ag gkids.len cg] 28)) :=
      ⟨⟨HA2.out.below hb24, Blk.new v3 _ _⟩, ((Blk.new v2 _ _).below hb (by simp)).alloc _, HO1.out.1.below hb24 HO1.out.1.lt, hog.below hb34 hog.lt⟩
    have HORD := Lib.hid hord
    obtain ⟨g0, g1, g2, g3⟩ := cells4 hst.1.1.2.1
    have HST := Lib.hid hst
    clear hog hng hlg hb hb23 hb34 hb24 hord hst HO1 HBV HA2
    go_wp2_with fail
    refine (HG.out _ _ _ 0 _ _ _ 0 _ (own_kids HST.out.2.2.2) (Nat.le_refl _) HST.out.1.1.2.2.1 HST.out.1.1.2.2.2.1).mono ?_
    rintro e v7 ⟨rfl, hb⟩
    have h7 := HST.out.below hb
    obtain ⟨a0, a1, a2, a3⟩ := cells4 h7.1.1.1
    obtain ⟨x0, x1, x2, x3⟩ := cells4 h7.2.1
    have hs7 := h7.1.1.1.lt
    have hs7' := h7.2.1.lt
    have HST7 := Lib.hid h7
    clear hb h7 HST g0 g1 g2 g3
    go_wp2_with fail
    go_region_held3 (fun w' => w'.cell? ⟨v2.heap.size, 0, none⟩ = some (.int .i64 k) ∧ w'.cell? ⟨v2.heap.size, 1, none⟩ = some (.int .i64 n) ∧ w'.cell? ⟨v2.heap.size, 2, none⟩ = some (.string s) ∧ w'.cell? ⟨v2.heap.size, 3, none⟩ = some (.slice Ax1 f.len cx1) ∧ w'.cell? ⟨w.heap.size, 0, none⟩ = some (.int .i64 k) ∧ w'.cell? ⟨w.heap.size, 1, none⟩ = some (.int .i64 n) ∧ w'.cell? ⟨w.heap.size, 2, none⟩ = some (.string s) ∧ w'.cell? ⟨w.heap.size, 3, none⟩ = some (.slice A f.len cap))
      (first | exact ⟨z0, z1, z2, z3, z4, z5, z6, z7⟩ | exact ⟨y0, y1, y2, y3, y4, y5, y6, y7⟩ | exact ⟨x0, x1, x2, x3, a0, a1, a2, a3⟩)
      (first
        | (go_at_call 9
           refine (HT'.out _ HST7.out.1.1.2.2.2.2.drew).mono ?_
           rintro e v8 ⟨A3, cap3, rfl, hm⟩
           have hm8 := kids_of_made hm
           have hd8 : Below v7.heap.size v7 v8 := (Below.refl v7.heap.size v7).drew.trans hm8.2
           have h8 := HST7.out.below hd8
           obtain ⟨y4, y5, y6, y7⟩ := cells4 h8.1.1.1
           obtain ⟨y0, y1, y2, y3⟩ := cells4 h8.2.1
           have HM8 := Lib.hid hm8
           have HST8 := Lib.hid h8
           clear hm hm8 h8 hd8)
        | (go_at_call 11
           refine (HE.out _ _ _ 0 _ _ _ _ _ (own_kids HST8.out.2.2.1) (Nat.le_refl _) HM8.out.1 (Nat.le_refl _)).mono ?_
           rintro e v9 ⟨rfl, hb9⟩
           have h9 := HST8.out.below hb9
           obtain ⟨z4, z5, z6, z7⟩ := cells4 h9.1.1.1
           obtain ⟨z0, z1, z2, z3⟩ := cells4 h9.2.1
           have HST9 := Lib.hid h9
           clear hb9 h9))
    clear a0 a1 a2 a3 x0 x1 x2 x3 y0 y1 y2 y3 y4 y5 y6 y7 z4 z5 z6 z7 HM8 HST8 HST7
    go_wp2_with fail
    refine (HM1.out _ _ _ _ HST9.out.2.2.1 HORD.out.2.2.2.2.2.2.2.2.2.1).mono ?_
    rintro e v11 ⟨rfl, hom, hwr⟩
    have h11 := HST9.out.mark HORD.out hwr
    obtain ⟨x0, x1, x2, x3⟩ := cells4 h11.1.2
    obtain ⟨g0, g1, g2, g3⟩ := cells4 h11.1.1.2.1
    have HST11 := Lib.hid h11
    clear hom hwr h11 HST9 z0 z1 z2 z3
    go_wp2_with fail
    refine (HG.out _ _ _ 0 _ _ _ 0 _ (own_kids HST11.out.2) (Nat.le_refl _) HST11.out.1.1.2.2.1 HST11.out.1.1.2.2.2.1).mono ?_
    rintro e v12 ⟨rfl, hb⟩
    have h12 := HST11.out.below hb
    obtain ⟨x0, x1, x2, x3⟩ := cells4 h12.1.2
    have HST12 := Lib.hid h12
    clear hb h12 HST11 g0 g1 g2 g3
    go_wp2_with fail
    refine (HMG.out _ _ _ _ HST12.out.2 HORD.out.2.2.2.2.2.2.2.2.2.2).mono ?_
    rintro e v13 ⟨rfl, hom, hwr⟩
    have h13 := HST12.out.mark HORD.out hwr hom
    obtain ⟨x0, x1, x2, x3⟩ := cells4 h13.1.2
    have HST13 := Lib.hid h13
    clear hom hwr h13 HST12
    go_wp2_with fail
    refine (HHG.out _ _ _ _ _ HST13.out.2.1 HST13.out.2.2).mono ?_
    rintro e v14 ⟨rfl, hb⟩
    have h14 := HST13.out.below hb
    obtain ⟨a0, a1, a2, a3⟩ := cells4 h14.1.1.1
    have HST14 := Lib.hid h14
    clear hb h14 HST13 x0 x1 x2 x3
    go_wp2_with fail
    refine (HT'.out _ HST14.out.1.1.2.2.2.2).mono ?_
    rintro e y4 ⟨A4, cap4, rfl, hm⟩
    have hm4 := kids_of_made hm
    have h15 := HST14.out.below hm4.2
    have C6 := HI.out y4 A4 cap4 _ _ hm4.1 (Nat.le_refl _) (tab_below HT.out h15.1.1.2.2.2.2 hlt)
    have HST15 := Lib.hid h15
    have H6 := Lib.hid C6
    clear hm hm4 h15 C6 HST14 a0 a1 a2 a3
    go_wp2_with fail
    refine H6.out.mono ?_
    rintro e y6 ⟨Ah, ch, rfl, hm⟩
    have hm6 := kids_of_made hm
    have hba : Below y6.heap.size y6 (y6.alloc (.cells #[.int .i64 gk, .int .i64 gn, .string gs, .slice Ah gkids.len ch] 28)) := (Below.refl _ _).alloc (Nat.le_refl _) _
    have h16 := (HST15.out.below hm6.2).below hba
    have hk6 := hm6.1.below hba (Nat.le_refl _)
    obtain ⟨g0, g1, g2, g3⟩ := cells4 h16.1.1.2.1
    have HST16 := Lib.hid h16
    have HK6 := Lib.hid (And.intro hk6 hba.size)
    clear hm hm6 hba h16 hk6 HST15 H6
    go_wp2_with fail
    refine (HG.out _ _ _ _ _ _ _ 0 _ HK6.out.1 HK6.out.2 HST16.out.1.1.2.2.1 HST16.out.1.1.2.2.2.1).mono ?_
    rintro e v16 ⟨rfl, hb⟩
    have h17 := HST16.out.below hb
    obtain ⟨x0, x1, x2, x3⟩ := cells4 h17.1.2
    have HST17 := Lib.hid h17
    clear hb h17 HST16 HK6 g0 g1 g2 g3
    go_wp2_with fail
    refine (HHG.out _ _ _ _ _ HST17.out.2.1 HST17.out.2.2).mono ?_
    rintro e v17 ⟨rfl, hb⟩
    have HB17 := Lib.hid (HST17.out.below hb).1.1.2.2.2.2
    clear hb HST17 x0 x1 x2 x3
    go_wp2_with fail
    go_ret
    exact ⟨rfl, HB17.out⟩
end Go.Proofs.YtplmkighekjipaaDoor

/- The law FnExactClauseSame, walked. Condition: both arguments lie in memory. -/
import Derived.Test.YtojilompidmfiaaProg
import Derived.Test.YtojilompidmfiaaCsI
import Derived.Test.YtojilompidmfiaaClE
import Derived.Test.YtojilompidmfiaaLawTS
import Derived.Deep.RegionHeld3
namespace Go.Proofs.Ytojilompidmfiaa
open Go.RowKit

/-- What stands throughout the law: nothing old is written, the two boxes are as they were. -/
def LC (w : World) (ca cb : Array Value) (w' : World) : Prop :=
  Below w.heap.size w w' ∧ Blk w' w.heap.size 27 ca ∧ Blk w' (w.heap.size + 1) 27 cb
theorem LC.start (w : World) (ca cb : Array Value) : LC w ca cb ((w.alloc (.cells ca 27)).alloc (.cells cb 27)) := by
  refine ⟨two_alloc w _ _, (Blk.new w _ ca).alloc _, ?_⟩
  have h := Blk.new (w.alloc (.cells ca 27)) 27 cb
  rwa [show (w.alloc (.cells ca 27)).heap.size = w.heap.size + 1 by simp] at h
theorem LC.next {w w1 w2 : World} {ca cb : Array Value} (h : LC w ca cb w1) (hb : Below w1.heap.size w1 w2) : LC w ca cb w2 :=
  ⟨h.1.trans (hb.mono h.1.size), h.2.1.below hb h.2.1.lt, h.2.2.below hb h.2.2.lt⟩
theorem LC.drew {w w1 : World} {ca cb : Array Value} (h : LC w ca cb w1) : LC w ca cb w1.drew := h.next (Below.refl _ _).drew
theorem two5 {w : World} {g g' : Nat} {t t' : TypeId} {a b c d x a' b' c' d' x' : Value} (h : Blk w g t #[a, b, c, d, x]) (h' : Blk w g' t' #[a', b', c', d', x']) :
    w.cell? ⟨g, 0, none⟩ = some a ∧ w.cell? ⟨g, 1, none⟩ = some b ∧ w.cell? ⟨g, 2, none⟩ = some c ∧ w.cell? ⟨g, 3, none⟩ = some d ∧ w.cell? ⟨g, 4, none⟩ = some x ∧ w.cell? ⟨g', 0, none⟩ = some a' ∧ w.cell? ⟨g', 1, none⟩ = some b' ∧ w.cell? ⟨g', 2, none⟩ = some c' ∧ w.cell? ⟨g', 3, none⟩ = some d' ∧ w.cell? ⟨g', 4, none⟩ = some x' :=
  ⟨h.cell 0, h.cell 1, h.cell 2, h.cell 3, h.cell 4, h'.cell 0, h'.cell 1, h'.cell 2, h'.cell 3, h'.cell 4⟩
theorem lc10 {w w' : World} {a b c d x a' b' c' d' x' : Value} (h : LC w #[a, b, c, d, x] #[a', b', c', d', x'] w') :
    w'.cell? ⟨w.heap.size, 0, none⟩ = some a ∧ w'.cell? ⟨w.heap.size, 1, none⟩ = some b ∧ w'.cell? ⟨w.heap.size, 2, none⟩ = some c ∧ w'.cell? ⟨w.heap.size, 3, none⟩ = some d ∧ w'.cell? ⟨w.heap.size, 4, none⟩ = some x ∧
      w'.cell? ⟨w.heap.size + 1, 0, none⟩ = some a' ∧ w'.cell? ⟨w.heap.size + 1, 1, none⟩ = some b' ∧ w'.cell? ⟨w.heap.size + 1, 2, none⟩ = some c' ∧ w'.cell? ⟨w.heap.size + 1, 3, none⟩ = some d' ∧ w'.cell? ⟨w.heap.size + 1, 4, none⟩ = some x' := two5 h.2.1 h.2.2
theorem wtC_nd (c : Cl) : nodes c.kids + nodes c.body ≤ wtC c := by
  have h1 := nodes_le_wt c.kids
  have h2 := nodes_le_wt c.body
  unfold wtC
  omega

set_option maxRecDepth 100000 in
set_option maxHeartbeats 8000000 in
theorem lawCS_any (c : Cl) (A : Option Addr) (cap : Nat) (B : Option Addr) (capB : Nat) (c' : Cl) (A' : Option Addr) (cap' : Nat) (B' : Option Addr) (capB' : Nat) (w : World)
    (hk : KidsAt w 0 w.heap.size c.kids A cap) (hkb : KidsAt w 0 w.heap.size c.body B capB) (hf : Fits c.k c.n c.s) (hk' : KidsAt w 0 w.heap.size c'.kids A' cap') (hkb' : KidsAt w 0 w.heap.size c'.body B' capB') (hf' : Fits c'.k c'.n c'.s) :
    Calls Try.prog 4 #[.agg #[.int .i64 c.k, .int .i64 c.n, .string c.s, .slice A c.kids.len cap, .slice B c.body.len capB], .agg #[.int .i64 c'.k, .int .i64 c'.n, .string c'.s, .slice A' c'.kids.len cap', .slice B' c'.body.len capB']] w fun e w' => e = .returned (.bool true) ∧ Below w.heap.size w w' := by
  have C1 := fun w1 (hb : Below w.heap.size w w1) => szC_any c A B cap capB 0 w.heap.size 1048576 w1 (hk.below hb (Nat.le_refl _)) (hkb.below hb (Nat.le_refl _)) hb.size hf (by omega) (by omega)
  have hr := szC_range c 1048576 (by omega)
  generalize szC c 1048576 = r at *
  have r1 := hr.1
  have r2 := hr.2.1
  have C2 := fun w1 (hb : Below w.heap.size w w1) (h0 : 0 ≤ r) => szC_any c' A' B' cap' capB' 0 w.heap.size r w1 (hk'.below hb (Nat.le_refl _)) (hkb'.below hb (Nat.le_refl _)) hb.size hf' h0 (by omega)
  have H1 := Lib.hid C1
  have H2 := Lib.hid C2
  have HK := Lib.hid hk
  have HKB := Lib.hid hkb
  have HK' := Lib.hid hk'
  have HKB' := Lib.hid hkb'
  have HF := Lib.hid hf
  have HF' := Lib.hid hf'
  have HR := Lib.hid hr.2.2
  have HL := Lib.hid (LC.start w #[.int .i64 c.k, .int .i64 c.n, .string c.s, .slice A c.kids.len cap, .slice B c.body.len capB] #[.int .i64 c'.k, .int .i64 c'.n, .string c'.s, .slice A' c'.kids.len cap', .slice B' c'.body.len capB'])
  clear C1 C2 hk hkb hk' hkb' hf hf' hr
  by_cases hneg : r < 0
  · obtain ⟨k, n, s, f, g⟩ := c
    obtain ⟨k', n', s', f', g'⟩ := c'
    simp only at *
    go_enter Try.func4, Try.ntmps4
    go_wp2_with fail
    refine (H1.out _ HL.out.1).mono ?_
    rintro e w2 ⟨rfl, hb⟩
    have HL2 := Lib.hid (HL.out.next hb)
    clear hb
    go_wp2_with fail
    go_ret
    exact ⟨rfl, HL2.out.1⟩
  · have hr' := szC_range c' r (by omega)
    generalize szC c' r = q at *
    have q1 := hr'.1
    have q2 := hr'.2.1
    have HR' := Lib.hid hr'.2.2
    clear hr'
    have CA := fun w1 (hb : Below w.heap.size w w1) (hwt : wtC c ≤ 1048576) => toC_any c A B cap capB 0 w.heap.size w1 (HK.out.below hb (Nat.le_refl _)) (HKB.out.below hb (Nat.le_refl _)) hb.size hwt
    have CB := fun w1 (hb : Below w.heap.size w w1) (hwt : wtC c' ≤ 1048576) => toC_any c' A' B' cap' capB' 0 w.heap.size w1 (HK'.out.below hb (Nat.le_refl _)) (HKB'.out.below hb (Nat.le_refl _)) hb.size hwt
    have CS := fun w1 A1 B1 c1 d1 A2 B2 c2 d2 l1 h1 l2 h2 (k1 : KidsAt w1 l1 h1 c.kids A1 c1) (k2 : KidsAt w1 l1 h1 c.body B1 d1) (k3 : KidsAt w1 l2 h2 c'.kids A2 c2) (k4 : KidsAt w1 l2 h2 c'.body B2 d2) hh hh' => specCS_any c c' A1 B1 A2 B2 c1 d1 c2 d2 l1 h1 l2 h2 w1 k1 k2 k3 k4 hh hh'
    have CI := fun w1 A1 B1 c1 d1 A2 B2 c2 d2 L1 L2 M1 M2 (o1 : OwnS w1 c.kids A1 c1 L1) (o2 : OwnS w1 c.body B1 d1 L2) (o3 : OwnS w1 c'.kids A2 c2 M1) (o4 : OwnS w1 c'.body B2 d2 M2) hn1 hn2 hd (hwt : wtC c ≤ 1048576) (hwt' : wtC c' ≤ 1048576) => implCS_any c c' A1 B1 A2 B2 c1 d1 c2 d2 L1 L2 M1 M2 w1 o1 o2 o3 o4 hn1 hn2 hd HF.out HF'.out (by have h : wtC c = c.s.size + c.kids.len + wt c.kids + c.body.len + wt c.body := rfl; omega) (by have h : wtC c' = c'.s.size + c'.kids.len + wt c'.kids + c'.body.len + wt c'.body := rfl; omega) (by have := wtC_nd c; omega)
    have CE := fun w1 A1 B1 c1 d1 lo hi A2 B2 c2 d2 lo2 hi2 (k1 : KidsAt w1 lo hi c.kids A1 c1) (k2 : KidsAt w1 lo hi c.body B1 d1) (k3 : KidsAt w1 lo2 hi2 c.kids A2 c2) (k4 : KidsAt w1 lo2 hi2 c.body B2 d2) hh hh2 => eqC_any c A1 B1 A2 B2 c1 d1 c2 d2 lo hi lo2 hi2 w1 k1 k2 k3 k4 hh hh2
    have CE' := fun w1 A1 B1 c1 d1 lo hi A2 B2 c2 d2 lo2 hi2 (k1 : KidsAt w1 lo hi c'.kids A1 c1) (k2 : KidsAt w1 lo hi c'.body B1 d1) (k3 : KidsAt w1 lo2 hi2 c'.kids A2 c2) (k4 : KidsAt w1 lo2 hi2 c'.body B2 d2) hh hh2 => eqC_any c' A1 B1 A2 B2 c1 d1 c2 d2 lo hi lo2 hi2 w1 k1 k2 k3 k4 hh hh2
    have hmd : ∀ w1 A1 c1 B1 d1 w2, MadeCl w1 c A1 c1 B1 d1 w2 → KidsAt w2 w1.heap.size w2.heap.size c.kids A1 c1 ∧ KidsAt w2 w1.heap.size w2.heap.size c.body B1 d1 ∧ Below w1.heap.size w1 w2 := fun _ _ _ _ _ _ h => h.at_
    have hmd' : ∀ w1 A1 c1 B1 d1 w2, MadeCl w1 c' A1 c1 B1 d1 w2 → KidsAt w2 w1.heap.size w2.heap.size c'.kids A1 c1 ∧ KidsAt w2 w1.heap.size w2.heap.size c'.body B1 d1 ∧ Below w1.heap.size w1 w2 := fun _ _ _ _ _ _ h => h.at_
    have how : ∀ w1 A1 c1 B1 d1 w2, MadeCl w1 c A1 c1 B1 d1 w2 → ∃ L1 L2, OwnS w2 c.kids A1 c1 L1 ∧ OwnS w2 c.body B1 d1 L2 ∧ (L1 ++ L2).Nodup ∧ (∀ x ∈ L1 ++ L2, w1.heap.size ≤ x ∧ x < w2.heap.size) := fun _ _ _ _ _ _ h => by
      obtain ⟨L1, L2, a, b, d, e, _⟩ := h
      exact ⟨L1, L2, a, b, d, e⟩
    have how' : ∀ w1 A1 c1 B1 d1 w2, MadeCl w1 c' A1 c1 B1 d1 w2 → ∃ L1 L2, OwnS w2 c'.kids A1 c1 L1 ∧ OwnS w2 c'.body B1 d1 L2 ∧ (L1 ++ L2).Nodup ∧ (∀ x ∈ L1 ++ L2, w1.heap.size ≤ x ∧ x < w2.heap.size) := fun _ _ _ _ _ _ h => by
      obtain ⟨L1, L2, a, b, d, e, _⟩ := h
      exact ⟨L1, L2, a, b, d, e⟩
    generalize sameC c c' = v at *
    have tv : (v != v) = false := by cases v <;> rfl
    have XA := Lib.hid CA
    have XB := Lib.hid CB
    have XS := Lib.hid CS
    have XI := Lib.hid CI
    have XE := Lib.hid CE
    have XE' := Lib.hid CE'
    have XM := Lib.hid hmd
    have XM' := Lib.hid hmd'
    have XO := Lib.hid how
    have XO' := Lib.hid how'
    clear CA CB CS CI CE CE' hmd hmd' how how'
    have hwt1 : ¬ r < 0 → wtC c ≤ 1048576 := fun h => by have := HR.out (by omega); omega
    have hwt2 : ¬ q < 0 → wtC c' ≤ 1048576 := fun h => by have := HR'.out (by omega); omega
    have HW1 := Lib.hid (hwt1 hneg)
    have HW2 := Lib.hid hwt2
    clear hwt1 hwt2
    obtain ⟨k, n, s, f, g⟩ := c
    obtain ⟨k', n', s', f', g'⟩ := c'
    simp only at *
    go_enter Try.func4, Try.ntmps4
    go_wp2_with fail
    refine (H1.out _ HL.out.1).mono ?_
    rintro e w2 ⟨rfl, hb⟩
    have hl2 := HL.out.next hb
    obtain ⟨a0, a1, a2, a3, a4, b0, b1, b2, b3, b4⟩ := lc10 hl2
    have HL2 := Lib.hid hl2
    clear hb hl2
    go_wp2_with fail
    refine (H2.out _ HL2.out.1 (by omega)).mono ?_
    rintro e w3 ⟨rfl, hb⟩
    have hl3 := HL2.out.next hb
    have HL3 := Lib.hid hl3
    clear a0 a1 a2 a3 a4 b0 b1 b2 b3 b4
    by_cases hneg2 : q < 0
    · clear hb hl3
      go_wp2_with fail
      go_ret
      exact ⟨rfl, HL3.out.1⟩
    · obtain ⟨a0, a1, a2, a3, a4, b0, b1, b2, b3, b4⟩ := lc10 hl3
      have HWB := Lib.hid (HW2.out (by omega))
      clear hb hl3 HW2
      go_wp2_with fail
      go_region_held3 (fun w' => w'.cell? ⟨w.heap.size, 0, none⟩ = some (.int .i64 k) ∧ w'.cell? ⟨w.heap.size, 1, none⟩ = some (.int .i64 n) ∧ w'.cell? ⟨w.heap.size, 2, none⟩ = some (.string s) ∧ w'.cell? ⟨w.heap.size, 3, none⟩ = some (.slice A f.len cap) ∧ w'.cell? ⟨w.heap.size, 4, none⟩ = some (.slice B g.len capB) ∧
          w'.cell? ⟨w.heap.size + 1, 0, none⟩ = some (.int .i64 k') ∧ w'.cell? ⟨w.heap.size + 1, 1, none⟩ = some (.int .i64 n') ∧ w'.cell? ⟨w.heap.size + 1, 2, none⟩ = some (.string s') ∧ w'.cell? ⟨w.heap.size + 1, 3, none⟩ = some (.slice A' f'.len cap') ∧ w'.cell? ⟨w.heap.size + 1, 4, none⟩ = some (.slice B' g'.len capB'))
        (first | exact lc10 HL6.out | exact lc10 HL5.out | exact lc10 HL4.out | exact lc10 HL3.out | exact lc10 HL3.out.drew)
        (first
          | (go_at_call_of 10 k
             refine (XA.out _ HL3.out.drew.1 HW1.out).mono ?_
             rintro e w4 ⟨A1, c1, B1, d1, rfl, hm⟩
             have hm4 := XM.out _ _ _ _ _ _ hm
             have HL4 := Lib.hid (HL3.out.drew.next hm4.2.2)
             have KA4 := Lib.hid hm4.1
             have KB4 := Lib.hid hm4.2.1
             clear hm hm4)
          | (go_at_call_of 10 k'
             refine (XB.out _ HL4.out.1 HWB.out).mono ?_
             rintro e w5 ⟨A2, c2, B2, d2, rfl, hm⟩
             have hm5 := XM'.out _ _ _ _ _ _ hm
             have HL5 := Lib.hid (HL4.out.next hm5.2.2)
             have KA5 := Lib.hid (KA4.out.below hm5.2.2 (Nat.le_refl _))
             have KB5 := Lib.hid (KB4.out.below hm5.2.2 (Nat.le_refl _))
             have KC5 := Lib.hid hm5.1
             have KD5 := Lib.hid hm5.2.1
             have hle5 := hm5.2.2.size
             clear hm hm5)
          | (go_at_call 9
             refine (XS.out _ _ _ _ _ _ _ _ _ _ _ _ _ KA5.out KB5.out KC5.out KD5.out hle5 (Nat.le_refl _)).mono ?_
             rintro e w6 ⟨rfl, hb6⟩
             have HL6 := Lib.hid (HL5.out.next hb6)
             clear hb6))
      clear a0 a1 a2 a3 a4 b0 b1 b2 b3 b4 KA4 KB4 KA5 KB5 KC5 KD5 hle5
      obtain ⟨a0, a1, a2, a3, a4, b0, b1, b2, b3, b4⟩ := lc10 HL6.out
      go_wp2_with fail
      refine (XA.out _ HL6.out.1 HW1.out).mono ?_
      rintro e w7 ⟨A3, c3, B3, d3, rfl, hm⟩
      have hm7 := XM.out _ _ _ _ _ _ hm
      have HL7 := Lib.hid (HL6.out.next hm7.2.2)
      have KX7 := Lib.hid hm7.1
      have KY7 := Lib.hid hm7.2.1
      obtain ⟨L1, L2, o1, o2, hnL, hlL⟩ := XO.out _ _ _ _ _ _ hm
      have HO1 := Lib.hid o1
      have HO2 := Lib.hid o2
      have HNL := Lib.hid hnL
      have HLL := Lib.hid hlL
      have hsz7 : w.heap.size + 1 < w7.heap.size := HL7.out.2.2.lt
      clear hm hm7 o1 o2 hnL hlL a0 a1 a2 a3 a4 b0 b1 b2 b3 b4
      obtain ⟨p0, p1, p2, p3, p4, p5, p6, p7, p8, p9⟩ := lc10 HL7.out
      go_wp2_with fail
      refine (XB.out _ (HL7.out.next ((Below.refl _ _).alloc (Nat.le_refl _) _)).1 HWB.out).mono ?_
      rintro e w9 ⟨A4, c4, B4, d4, rfl, hm⟩
      have hm9 := XM'.out _ _ _ _ _ _ hm
      have hx := Blk.new w7 34 #[.int .i64 k, .int .i64 n, .string s, .slice A3 f.len c3, .slice B3 g.len d3]
      have hb79 : Below w7.heap.size w7 w9 := ((Below.refl _ _).alloc (Nat.le_refl _) _).trans (hm9.2.2.mono (by simp))
      have hx9 := hx.below hm9.2.2 hx.lt
      have HX9 := Lib.hid hx9
      have HL9 := Lib.hid (HL7.out.next hb79)
      have KX9 := Lib.hid (KX7.out.below hb79 (Nat.le_refl _))
      have KY9 := Lib.hid (KY7.out.below hb79 (Nat.le_refl _))
      have KU9 := Lib.hid hm9.1
      have KV9 := Lib.hid hm9.2.1
      obtain ⟨M1, M2, o3, o4, hnM, hlM⟩ := XO'.out _ _ _ _ _ _ hm
      have hlM' : ∀ y ∈ M1 ++ M2, w7.heap.size < y ∧ y < w9.heap.size := fun y hy => by have h := hlM y hy; simp at h; omega
      have HO3 := Lib.hid o3
      have HO4 := Lib.hid o4
      have HNM := Lib.hid hnM
      have HLM := Lib.hid hlM'
      have HO19 := Lib.hid (HO1.out.below hb79 fun y hy => (HLL.out y (by simp [hy])).2)
      have HO29 := Lib.hid (HO2.out.below hb79 fun y hy => (HLL.out y (by simp [hy])).2)
      have hle79 := hb79.size
      have hsz9 : w7.heap.size < w9.heap.size := hx9.lt
      obtain ⟨x0, x1, x2, x3, x4⟩ := ccells5 hx9
      clear hm hm9 o3 o4 hnM hlM hlM' hx hb79 hx9 p0 p1 p2 p3 p4 p5 p6 p7 p8 p9 HO1 HO2 KX7 KY7
      go_wp2_with fail
      have ha10 : Below w9.heap.size w9 (w9.alloc (.cells #[.int .i64 k', .int .i64 n', .string s', .slice A4 f'.len c4, .slice B4 g'.len d4] 34)) := (Below.refl _ _).alloc (Nat.le_refl _) _
      have hy := Blk.new w9 34 #[.int .i64 k', .int .i64 n', .string s', .slice A4 f'.len c4, .slice B4 g'.len d4]
      refine (XI.out _ _ _ _ _ _ _ _ _ _ _ _ _ (HO19.out.below ha10 HO19.out.lt) (HO29.out.below ha10 HO29.out.lt) (HO3.out.below ha10 HO3.out.lt) (HO4.out.below ha10 HO4.out.lt) HNL.out HNM.out (fun x hx hx' => by
        have := (HLL.out x hx).2
        have := (HLM.out x hx').1
        omega) HW1.out HWB.out).mono ?_
      rintro e w11 ⟨rfl, hb⟩
      have h911 : Below w9.heap.size w9 w11 := ha10.trans (hb.mono (by simp))
      have HX11 := Lib.hid (HX9.out.below h911 HX9.out.lt)
      have HY11 := Lib.hid (hy.below hb hy.lt)
      have HL11 := Lib.hid (HL9.out.next h911)
      have KX11 := Lib.hid (KX9.out.below h911 hle79)
      have KY11 := Lib.hid (KY9.out.below h911 hle79)
      have KU11 := Lib.hid (KU9.out.below h911 (Nat.le_refl _))
      have KV11 := Lib.hid (KV9.out.below h911 (Nat.le_refl _))
      have hle11 : w9.heap.size ≤ w11.heap.size := h911.size
      obtain ⟨x0', x1', x2', x3', x4', x5', x6', x7', x8', x9'⟩ := two5 HX11.out HL11.out.2.1
      clear ha10 hy hb h911 x0 x1 x2 x3 x4 HO19 HO29 HO3 HO4 HNL HNM HLL HLM KX9 KY9 KU9 KV9 HX9 HL9
      go_wp2_with fail
      go_region_held3 (fun w' => w'.cell? ⟨w7.heap.size, 0, none⟩ = some (.int .i64 k) ∧ w'.cell? ⟨w7.heap.size, 1, none⟩ = some (.int .i64 n) ∧ w'.cell? ⟨w7.heap.size, 2, none⟩ = some (.string s) ∧ w'.cell? ⟨w7.heap.size, 3, none⟩ = some (.slice A3 f.len c3) ∧ w'.cell? ⟨w7.heap.size, 4, none⟩ = some (.slice B3 g.len d3) ∧
          w'.cell? ⟨w.heap.size, 0, none⟩ = some (.int .i64 k) ∧ w'.cell? ⟨w.heap.size, 1, none⟩ = some (.int .i64 n) ∧ w'.cell? ⟨w.heap.size, 2, none⟩ = some (.string s) ∧ w'.cell? ⟨w.heap.size, 3, none⟩ = some (.slice A f.len cap) ∧ w'.cell? ⟨w.heap.size, 4, none⟩ = some (.slice B g.len capB))
        (first | exact two5 HQe.out HLe.out.2.1 | exact two5 HQt.out HLt.out.2.1 | exact two5 HX11.out HL11.out.2.1)
        (first
          | (go_at_call 10
             refine (XA.out _ HL11.out.drew.1 HW1.out).mono ?_
             rintro e wt1 ⟨A9, c9, B9, d9, rfl, hm⟩
             have hm9 := XM.out _ _ _ _ _ _ hm
             have hd : Below w11.heap.size w11 wt1 := (Below.refl w11.heap.size w11).drew.trans hm9.2.2
             have HLt := Lib.hid (HL11.out.next hd)
             have HQt := Lib.hid (HX11.out.below hd HX11.out.lt)
             have HOt := Lib.hid (HY11.out.below hd HY11.out.lt)
             have KXt := Lib.hid (KX11.out.below hd (by omega))
             have KYt := Lib.hid (KY11.out.below hd (by omega))
             have KUt := Lib.hid (KU11.out.below hd hle11)
             have KVt := Lib.hid (KV11.out.below hd hle11)
             have K9 := Lib.hid hm9.1
             have K9b := Lib.hid hm9.2.1
             have hle9 := hd.size
             clear hm hm9 hd)
          | (go_at_call 12
             refine (XE.out _ _ _ _ _ _ _ _ _ _ _ _ _ KXt.out KYt.out K9.out K9b.out (by omega) (Nat.le_refl _)).mono ?_
             rintro e we ⟨rfl, hbe⟩
             have HLe := Lib.hid (HLt.out.next hbe)
             have HQe := Lib.hid (HQt.out.below hbe HQt.out.lt)
             have HOe := Lib.hid (HOt.out.below hbe HOt.out.lt)
             have KUe := Lib.hid (KUt.out.below hbe (by omega))
             have KVe := Lib.hid (KVt.out.below hbe (by omega))
             have hlee := hbe.size
             clear hbe))
      have hwe : w9.heap.size < we.heap.size := HOe.out.lt
      clear x0' x1' x2' x3' x4' x5' x6' x7' x8' x9' KXt KYt KUt KVt K9 K9b HLt HQt HOt KX11 KY11 KU11 KV11 HX11 HY11 HL11
      obtain ⟨y0, y1, y2, y3, y4, y5, y6, y7, y8, y9⟩ := two5 HOe.out HLe.out.2.2
      go_wp2_with fail
      go_region_held3 (fun w' => w'.cell? ⟨w9.heap.size, 0, none⟩ = some (.int .i64 k') ∧ w'.cell? ⟨w9.heap.size, 1, none⟩ = some (.int .i64 n') ∧ w'.cell? ⟨w9.heap.size, 2, none⟩ = some (.string s') ∧ w'.cell? ⟨w9.heap.size, 3, none⟩ = some (.slice A4 f'.len c4) ∧ w'.cell? ⟨w9.heap.size, 4, none⟩ = some (.slice B4 g'.len d4) ∧
          w'.cell? ⟨w.heap.size + 1, 0, none⟩ = some (.int .i64 k') ∧ w'.cell? ⟨w.heap.size + 1, 1, none⟩ = some (.int .i64 n') ∧ w'.cell? ⟨w.heap.size + 1, 2, none⟩ = some (.string s') ∧ w'.cell? ⟨w.heap.size + 1, 3, none⟩ = some (.slice A' f'.len cap') ∧ w'.cell? ⟨w.heap.size + 1, 4, none⟩ = some (.slice B' g'.len capB'))
        (first | exact two5 HQ16.out HL16.out.2.2 | exact two5 HQ15.out HL15.out.2.2 | exact two5 HOe.out HLe.out.2.2)
        (first
          | (go_at_call 10
             refine (XB.out _ HLe.out.drew.1 HWB.out).mono ?_
             rintro e w15 ⟨A9, c9, B9, d9, rfl, hm⟩
             have hm9 := XM'.out _ _ _ _ _ _ hm
             have hd : Below we.heap.size we w15 := (Below.refl we.heap.size we).drew.trans hm9.2.2
             have HL15 := Lib.hid (HLe.out.next hd)
             have HQ15 := Lib.hid (HOe.out.below hd HOe.out.lt)
             have KU15 := Lib.hid (KUe.out.below hd (by omega))
             have KV15 := Lib.hid (KVe.out.below hd (by omega))
             have K15 := Lib.hid hm9.1
             have K15b := Lib.hid hm9.2.1
             have hle15 := hd.size
             clear hm hm9 hd)
          | (go_at_call 12
             refine (XE'.out _ _ _ _ _ _ _ _ _ _ _ _ _ KU15.out KV15.out K15.out K15b.out (by omega) (Nat.le_refl _)).mono ?_
             rintro e w16 ⟨rfl, hbe⟩
             have HL16 := Lib.hid (HL15.out.next hbe)
             have HQ16 := Lib.hid (HQ15.out.below hbe HQ15.out.lt)
             clear hbe))
      go_wp2_with fail
      go_ret
      exact ⟨rfl, HL16.out.1⟩
end Go.Proofs.Ytojilompidmfiaa

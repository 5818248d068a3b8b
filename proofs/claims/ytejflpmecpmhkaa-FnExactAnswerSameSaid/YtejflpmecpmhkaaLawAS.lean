/- The law FnExactAnswerSame, walked. Condition: both arguments lie in memory. -/
import Derived.Test.YtejflpmecpmhkaaProg
import Derived.Test.YtejflpmecpmhkaaLawTV0
import Derived.Test.YtejflpmecpmhkaaAnS
import Derived.Test.YtejflpmecpmhkaaAn
import Derived.Test.YtejflpmecpmhkaaLawTS
import Derived.Deep.RegionHeld3
namespace Go.Proofs.Ytejflpmecpmhkaa
open Go.RowKit

/-- What stands throughout the law: nothing old is written, the two boxes are as they were. -/
def LA (w : World) (ca cb : Array Value) (w' : World) : Prop :=
  Below w.heap.size w w' ∧ Blk w' w.heap.size 24 ca ∧ Blk w' (w.heap.size + 1) 24 cb
theorem LA.start (w : World) (ca cb : Array Value) : LA w ca cb ((w.alloc (.cells ca 24)).alloc (.cells cb 24)) := by
  refine ⟨two_alloc w _ _, (Blk.new w _ ca).alloc _, ?_⟩
  have h := Blk.new (w.alloc (.cells ca 24)) 24 cb
  rwa [show (w.alloc (.cells ca 24)).heap.size = w.heap.size + 1 by simp] at h
theorem LA.next {w w1 w2 : World} {ca cb : Array Value} (h : LA w ca cb w1) (hb : Below w1.heap.size w1 w2) : LA w ca cb w2 :=
  ⟨h.1.trans (hb.mono h.1.size), h.2.1.below hb h.2.1.lt, h.2.2.below hb h.2.2.lt⟩
theorem LA.drew {w w1 : World} {ca cb : Array Value} (h : LA w ca cb w1) : LA w ca cb w1.drew := h.next (Below.refl _ _).drew
theorem two1 {w : World} {g g' : Nat} {t t' : TypeId} {a a' : Value} (h : Blk w g t #[a]) (h' : Blk w g' t' #[a']) : w.cell? ⟨g, 0, none⟩ = some a ∧ w.cell? ⟨g', 0, none⟩ = some a' := ⟨h.cell 0, h'.cell 0⟩
theorem la2 {w w' : World} {a a' : Value} (h : LA w #[a] #[a'] w') : w'.cell? ⟨w.heap.size, 0, none⟩ = some a ∧ w'.cell? ⟨w.heap.size + 1, 0, none⟩ = some a' := two1 h.2.1 h.2.2

set_option maxRecDepth 100000 in
set_option maxHeartbeats 8000000 in
theorem lawAS_any (f : Fr) (A : Option Addr) (cap : Nat) (f' : Fr) (A' : Option Addr) (cap' : Nat) (w : World)
    (hk : KidsAt w 0 w.heap.size f A cap) (hk' : KidsAt w 0 w.heap.size f' A' cap') :
    Calls Try.prog 3 #[.agg #[.slice A f.len cap], .agg #[.slice A' f'.len cap']] w fun e w' => e = .returned (.bool true) ∧ Below w.heap.size w w' := by
  have C1 := fun w1 (hb : Below w.heap.size w w1) => szAn_any f A cap 0 w.heap.size 1048576 w1 (hk.below hb (Nat.le_refl _)) hb.size (by omega) (by omega)
  have hr := szS_range f 1048576 (by omega)
  generalize szS f 1048576 = r at *
  have r1 := hr.1
  have r2 := hr.2.1
  have C2 := fun w1 (hb : Below w.heap.size w w1) (h0 : 0 ≤ r) => szAn_any f' A' cap' 0 w.heap.size r w1 (hk'.below hb (Nat.le_refl _)) hb.size h0 (by omega)
  have H1 := Lib.hid C1
  have H2 := Lib.hid C2
  have HK := Lib.hid hk
  have HK' := Lib.hid hk'
  have HR := Lib.hid hr.2.2
  have HL := Lib.hid (LA.start w #[.slice A f.len cap] #[.slice A' f'.len cap'])
  clear C1 C2 hk hk' hr
  by_cases hneg : r < 0
  · obtain ⟨a0, b0⟩ := la2 HL.out
    go_enter Try.func3, Try.ntmps3
    go_wp2_with fail
    refine (H1.out _ HL.out.1).mono ?_
    rintro e w2 ⟨rfl, hb⟩
    have HL2 := Lib.hid (HL.out.next hb)
    clear hb
    go_wp2_with fail
    go_ret
    exact ⟨rfl, HL2.out.1⟩
  · have hr' := szS_range f' r (by omega)
    generalize szS f' r = q at *
    have q1 := hr'.1
    have q2 := hr'.2.1
    have HR' := Lib.hid hr'.2.2
    clear hr'
    have CA := fun w1 (hb : Below w.heap.size w w1) (hwt : f.len + wt f ≤ 1048576) => toAn_any f A cap 0 w.heap.size w1 (HK.out.below hb (Nat.le_refl _)) hb.size hwt
    have CB := fun w1 (hb : Below w.heap.size w w1) (hwt : f'.len + wt f' ≤ 1048576) => toAn_any f' A' cap' 0 w.heap.size w1 (HK'.out.below hb (Nat.le_refl _)) hb.size hwt
    have CS := fun w1 A1 c1 A2 c2 l1 h1 l2 h2 (k1 : KidsAt w1 l1 h1 f A1 c1) (k3 : KidsAt w1 l2 h2 f' A2 c2) hh hh' => specAS_any f f' A1 A2 c1 c2 l1 h1 l2 h2 w1 k1 k3 hh hh'
    have CI := fun w1 A1 c1 A2 c2 L1 M1 (o1 : OwnS w1 f A1 c1 L1) (o3 : OwnS w1 f' A2 c2 M1) hn1 (hwt : f.len + wt f ≤ 1048576) => implAS_any f f' A1 A2 c1 c2 L1 M1 w1 o1 o3 hn1 (by have := nodes_le_wt f; omega)
    have CE := fun w1 A1 c1 lo hi A2 c2 lo2 hi2 (k1 : KidsAt w1 lo hi f A1 c1) (k3 : KidsAt w1 lo2 hi2 f A2 c2) hh hh2 => eqAn_any f f A1 A2 c1 c2 lo hi lo2 hi2 w1 k1 k3 hh hh2
    have CE' := fun w1 A1 c1 lo hi A2 c2 lo2 hi2 (k1 : KidsAt w1 lo hi f' A1 c1) (k3 : KidsAt w1 lo2 hi2 f' A2 c2) hh hh2 => eqAn_any f' f' A1 A2 c1 c2 lo hi lo2 hi2 w1 k1 k3 hh hh2
    rw [eqF_refl] at CE CE'
    generalize eqF f f' = v at *
    have tv : (v != v) = false := by cases v <;> rfl
    have XA := Lib.hid CA
    have XB := Lib.hid CB
    have XS := Lib.hid CS
    have XI := Lib.hid CI
    have XE := Lib.hid CE
    have XE' := Lib.hid CE'
    clear CA CB CS CI CE CE'
    have hwt1 : ¬ r < 0 → f.len + wt f ≤ 1048576 := fun h => by have := HR.out (by omega); omega
    have hwt2 : ¬ q < 0 → f'.len + wt f' ≤ 1048576 := fun h => by have := HR'.out (by omega); omega
    have HW1 := Lib.hid (hwt1 hneg)
    have HW2 := Lib.hid hwt2
    clear hwt1 hwt2
    obtain ⟨a0, b0⟩ := la2 HL.out
    go_enter Try.func3, Try.ntmps3
    go_wp2_with fail
    refine (H1.out _ HL.out.1).mono ?_
    rintro e w2 ⟨rfl, hb⟩
    have hl2 := HL.out.next hb
    clear a0 b0
    obtain ⟨a0, b0⟩ := la2 hl2
    have HL2 := Lib.hid hl2
    clear hb hl2
    go_wp2_with fail
    refine (H2.out _ HL2.out.1 (by omega)).mono ?_
    rintro e w3 ⟨rfl, hb⟩
    have hl3 := HL2.out.next hb
    have HL3 := Lib.hid hl3
    clear a0 b0
    by_cases hneg2 : q < 0
    · clear hb hl3
      go_wp2_with fail
      go_ret
      exact ⟨rfl, HL3.out.1⟩
    · obtain ⟨a0, b0⟩ := la2 hl3
      have HWB := Lib.hid (HW2.out (by omega))
      clear hb hl3 HW2
      go_wp2_with fail
      go_region_held3 (fun w' => w'.cell? ⟨w.heap.size, 0, none⟩ = some (.slice A f.len cap) ∧ w'.cell? ⟨w.heap.size + 1, 0, none⟩ = some (.slice A' f'.len cap'))
        (first | exact la2 HL6.out | exact la2 HL5.out | exact la2 HL4.out | exact la2 HL3.out | exact la2 HL3.out.drew)
        (first
          | (go_at_call_of 6 A
             refine (XA.out _ HL3.out.drew.1 HW1.out).mono ?_
             rintro e w4 ⟨A1, c1, rfl, hm⟩
             have hm4 := kids_of_made hm
             have HL4 := Lib.hid (HL3.out.drew.next hm4.2)
             have KA4 := Lib.hid hm4.1
             clear hm hm4)
          | (go_at_call_of 6 A'
             refine (XB.out _ HL4.out.1 HWB.out).mono ?_
             rintro e w5 ⟨A2, c2, rfl, hm⟩
             have hm5 := kids_of_made hm
             have HL5 := Lib.hid (HL4.out.next hm5.2)
             have KA5 := Lib.hid (KA4.out.below hm5.2 (Nat.le_refl _))
             have KC5 := Lib.hid hm5.1
             have hle5 := hm5.2.size
             clear hm hm5)
          | (go_at_call 5
             refine (XS.out _ _ _ _ _ _ _ _ _ KA5.out KC5.out hle5 (Nat.le_refl _)).mono ?_
             rintro e w6 ⟨rfl, hb6⟩
             have HL6 := Lib.hid (HL5.out.next hb6)
             clear hb6))
      clear a0 b0 KA4 KA5 KC5 hle5
      obtain ⟨a0, b0⟩ := la2 HL6.out
      go_wp2_with fail
      refine (XA.out _ HL6.out.1 HW1.out).mono ?_
      rintro e w7 ⟨A3, c3, rfl, hm⟩
      have hm7 := kids_of_made hm
      have HL7 := Lib.hid (HL6.out.next hm7.2)
      have KX7 := Lib.hid hm7.1
      obtain ⟨L1, o1, hnL, hlL, _⟩ := hm
      have HO1 := Lib.hid o1
      have HNL := Lib.hid hnL
      have HLL := Lib.hid hlL
      have hsz7 : w.heap.size + 1 < w7.heap.size := HL7.out.2.2.lt
      clear hm7 o1 hnL hlL a0 b0
      obtain ⟨p0, p1⟩ := la2 HL7.out
      go_wp2_with fail
      refine (XB.out _ (HL7.out.next ((Below.refl _ _).alloc (Nat.le_refl _) _)).1 HWB.out).mono ?_
      rintro e w9 ⟨A4, c4, rfl, hm⟩
      have hm9 := kids_of_made hm
      have hx := Blk.new w7 29 #[.slice A3 f.len c3]
      have hb79 : Below w7.heap.size w7 w9 := ((Below.refl _ _).alloc (Nat.le_refl _) _).trans (hm9.2.mono (by simp))
      have hx9 := hx.below hm9.2 hx.lt
      have HX9 := Lib.hid hx9
      have HL9 := Lib.hid (HL7.out.next hb79)
      have KX9 := Lib.hid (KX7.out.below hb79 (Nat.le_refl _))
      have KU9 := Lib.hid hm9.1
      obtain ⟨M1, o3, hnM, hlM, _⟩ := hm
      have hlM' : ∀ y ∈ M1, w7.heap.size < y ∧ y < w9.heap.size := fun y hy => by have h := hlM y hy; simp at h; omega
      have HO3 := Lib.hid o3
      have HNM := Lib.hid hnM
      have HLM := Lib.hid hlM'
      have HO19 := Lib.hid (HO1.out.below hb79 fun y hy => (HLL.out y hy).2)
      have hle79 := hb79.size
      have hsz9 : w7.heap.size < w9.heap.size := hx9.lt
      have x0 := hx9.cell 0
      simp only [List.getElem?_toArray, List.getElem?_cons_zero] at x0
      clear hm9 o3 hnM hlM hlM' hx hb79 hx9 p0 p1 HO1 KX7
      go_wp2_with fail
      have ha10 : Below w9.heap.size w9 (w9.alloc (.cells #[.slice A4 f'.len c4] 29)) := (Below.refl _ _).alloc (Nat.le_refl _) _
      have hy := Blk.new w9 29 #[.slice A4 f'.len c4]
      refine (XI.out _ _ _ _ _ _ _ (HO19.out.below ha10 HO19.out.lt) (HO3.out.below ha10 HO3.out.lt) (List.nodup_append.2 ⟨HNL.out, HNM.out, fun a ha b hb e => by
        have := (HLL.out a ha).2
        have := (HLM.out b hb).1
        omega⟩) HW1.out).mono ?_
      rintro e w11 ⟨rfl, hb⟩
      have h911 : Below w9.heap.size w9 w11 := ha10.trans (hb.mono (by simp))
      have HX11 := Lib.hid (HX9.out.below h911 HX9.out.lt)
      have HY11 := Lib.hid (hy.below hb hy.lt)
      have HL11 := Lib.hid (HL9.out.next h911)
      have KX11 := Lib.hid (KX9.out.below h911 hle79)
      have KU11 := Lib.hid (KU9.out.below h911 (Nat.le_refl _))
      have hle11 : w9.heap.size ≤ w11.heap.size := h911.size
      obtain ⟨x0', x1'⟩ := two1 HX11.out HL11.out.2.1
      clear ha10 hy hb h911 x0 HO19 HO3 HNL HNM HLL HLM KX9 KU9 HX9 HL9
      go_wp2_with fail
      go_region_held3 (fun w' => w'.cell? ⟨w7.heap.size, 0, none⟩ = some (.slice A3 f.len c3) ∧ w'.cell? ⟨w.heap.size, 0, none⟩ = some (.slice A f.len cap))
        (first | exact two1 HQe.out HLe.out.2.1 | exact two1 HQt.out HLt.out.2.1 | exact two1 HX11.out HL11.out.2.1)
        (first
          | (go_at_call 6
             refine (XA.out _ HL11.out.drew.1 HW1.out).mono ?_
             rintro e wt1 ⟨A9, c9, rfl, hm⟩
             have hm9 := kids_of_made hm
             have hd : Below w11.heap.size w11 wt1 := (Below.refl w11.heap.size w11).drew.trans hm9.2
             have HLt := Lib.hid (HL11.out.next hd)
             have HQt := Lib.hid (HX11.out.below hd HX11.out.lt)
             have HOt := Lib.hid (HY11.out.below hd HY11.out.lt)
             have KXt := Lib.hid (KX11.out.below hd (by omega))
             have KUt := Lib.hid (KU11.out.below hd hle11)
             have K9 := Lib.hid hm9.1
             have hle9 := hd.size
             clear hm hm9 hd)
          | (go_at_call 8
             refine (XE.out _ _ _ _ _ _ _ _ _ KXt.out K9.out (by omega) (Nat.le_refl _)).mono ?_
             rintro e we ⟨rfl, hbe⟩
             have HLe := Lib.hid (HLt.out.next hbe)
             have HQe := Lib.hid (HQt.out.below hbe HQt.out.lt)
             have HOe := Lib.hid (HOt.out.below hbe HOt.out.lt)
             have KUe := Lib.hid (KUt.out.below hbe (by omega))
             have hlee := hbe.size
             clear hbe))
      have hwe : w9.heap.size < we.heap.size := HOe.out.lt
      clear x0' x1' KXt KUt K9 HLt HQt HOt KX11 KU11 HX11 HY11 HL11
      obtain ⟨y0, y1⟩ := two1 HOe.out HLe.out.2.2
      go_wp2_with fail
      go_region_held3 (fun w' => w'.cell? ⟨w9.heap.size, 0, none⟩ = some (.slice A4 f'.len c4) ∧ w'.cell? ⟨w.heap.size + 1, 0, none⟩ = some (.slice A' f'.len cap'))
        (first | exact two1 HQ16.out HL16.out.2.2 | exact two1 HQ15.out HL15.out.2.2 | exact two1 HOe.out HLe.out.2.2)
        (first
          | (go_at_call 6
             refine (XB.out _ HLe.out.drew.1 HWB.out).mono ?_
             rintro e w15 ⟨A9, c9, rfl, hm⟩
             have hm9 := kids_of_made hm
             have hd : Below we.heap.size we w15 := (Below.refl we.heap.size we).drew.trans hm9.2
             have HL15 := Lib.hid (HLe.out.next hd)
             have HQ15 := Lib.hid (HOe.out.below hd HOe.out.lt)
             have KU15 := Lib.hid (KUe.out.below hd (by omega))
             have K15 := Lib.hid hm9.1
             have hle15 := hd.size
             clear hm hm9 hd)
          | (go_at_call 8
             refine (XE'.out _ _ _ _ _ _ _ _ _ KU15.out K15.out (by omega) (Nat.le_refl _)).mono ?_
             rintro e w16 ⟨rfl, hbe⟩
             have HL16 := Lib.hid (HL15.out.next hbe)
             have HQ16 := Lib.hid (HQ15.out.below hbe HQ15.out.lt)
             clear hbe))
      go_wp2_with fail
      go_ret
      exact ⟨rfl, HL16.out.1⟩
end Go.Proofs.Ytejflpmecpmhkaa

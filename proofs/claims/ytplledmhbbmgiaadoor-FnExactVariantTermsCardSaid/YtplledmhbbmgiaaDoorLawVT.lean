/- The law FnExactVariantTerms, walked. Condition: both arguments lie in memory, the table of signs in its variable. -/
import Derived.Test.YtplledmhbbmgiaaDoorProg
import Derived.Test.YtplledmhbbmgiaaDoorVarJ
namespace Go.Proofs.YtplledmhbbmgiaaDoor
open Go.RowKit

/-- What stands throughout the law: nothing old is written, the two boxes are as they were. -/
def LW (w : World) (ca cb : Array Value) (w' : World) : Prop :=
  Below w.heap.size w w' ∧ Blk w' w.heap.size 24 ca ∧ Blk w' (w.heap.size + 1) 24 cb
theorem LW.start (w : World) (ca cb : Array Value) : LW w ca cb ((w.alloc (.cells ca 24)).alloc (.cells cb 24)) := by
  refine ⟨two_alloc w _ _, (Blk.new w _ ca).alloc _, ?_⟩
  have h := Blk.new (w.alloc (.cells ca 24)) 24 cb
  rwa [show (w.alloc (.cells ca 24)).heap.size = w.heap.size + 1 by simp] at h
theorem LW.next {w w1 w2 : World} {ca cb : Array Value} (h : LW w ca cb w1) (hb : Below w1.heap.size w1 w2) : LW w ca cb w2 :=
  ⟨h.1.trans (hb.mono h.1.size), h.2.1.below hb h.2.1.lt, h.2.2.below hb h.2.2.lt⟩
theorem LW.drew {w w1 : World} {ca cb : Array Value} (h : LW w ca cb w1) : LW w ca cb w1.drew := h.next (Below.refl _ _).drew

theorem two4 {w : World} {g g' : Nat} {t t' : TypeId} {a b c d a' b' c' d' : Value} (h : Blk w g t #[a, b, c, d]) (h' : Blk w g' t' #[a', b', c', d']) :
    w.cell? ⟨g, 0, none⟩ = some a ∧ w.cell? ⟨g, 1, none⟩ = some b ∧ w.cell? ⟨g, 2, none⟩ = some c ∧ w.cell? ⟨g, 3, none⟩ = some d ∧ w.cell? ⟨g', 0, none⟩ = some a' ∧ w.cell? ⟨g', 1, none⟩ = some b' ∧ w.cell? ⟨g', 2, none⟩ = some c' ∧ w.cell? ⟨g', 3, none⟩ = some d' :=
  ⟨h.cell 0, h.cell 1, h.cell 2, h.cell 3, h'.cell 0, h'.cell 1, h'.cell 2, h'.cell 3⟩
theorem lw8 {w w' : World} {a b c d a' b' c' d' : Value} (h : LW w #[a, b, c, d] #[a', b', c', d'] w') :
    w'.cell? ⟨w.heap.size, 0, none⟩ = some a ∧ w'.cell? ⟨w.heap.size, 1, none⟩ = some b ∧ w'.cell? ⟨w.heap.size, 2, none⟩ = some c ∧ w'.cell? ⟨w.heap.size, 3, none⟩ = some d ∧
      w'.cell? ⟨w.heap.size + 1, 0, none⟩ = some a' ∧ w'.cell? ⟨w.heap.size + 1, 1, none⟩ = some b' ∧ w'.cell? ⟨w.heap.size + 1, 2, none⟩ = some c' ∧ w'.cell? ⟨w.heap.size + 1, 3, none⟩ = some d' := by
  have h1 := cells4 h.2.1
  have h2 := cells4 h.2.2
  exact ⟨h1.1, h1.2.1, h1.2.2.1, h1.2.2.2, h2.1, h2.2.1, h2.2.2.1, h2.2.2.2⟩

set_option maxRecDepth 100000 in
set_option maxHeartbeats 8000000 in
theorem lawVT_any (k n : Int) (s : ByteArray) (f : Fr) (A : Option Addr) (cap : Nat) (k' n' : Int) (s' : ByteArray) (g : Fr) (B : Option Addr) (cap' : Nat) (w : World)
    (hk : KidsAt w 0 w.heap.size f A cap) (hf : Fits k n s) (hk' : KidsAt w 0 w.heap.size g B cap') (hf' : Fits k' n' s') (ht : nv.Tab w) :
    Calls Tryd.prog 5 #[.agg #[.int .i64 k, .int .i64 n, .string s, .slice A f.len cap], .agg #[.int .i64 k', .int .i64 n', .string s', .slice B g.len cap']] w fun e w' => e = .returned (.bool true) ∧ Below w.heap.size w w' := by
  have hlt := tab_lt ht
  have C1 := fun w1 (hb : Below w.heap.size w w1) => szT_any s f k n A cap 0 w.heap.size 1048576 w1 (hk.below hb (Nat.le_refl _)) hb.size hf (by omega) (by omega)
  have hr := szT_range s f 1048576 (by omega)
  generalize szT s f 1048576 = r at *
  have H1 := Lib.hid C1
  have HK := Lib.hid hk
  have HK' := Lib.hid hk'
  have HT := Lib.hid ht
  have HF := Lib.hid hf
  have HF' := Lib.hid hf'
  have r1 := hr.1
  have r2 := hr.2.1
  have HR := Lib.hid hr.2.2
  clear C1 hk hk' ht hf hf' hr
  have HL := Lib.hid (LW.start w #[.int .i64 k, .int .i64 n, .string s, .slice A f.len cap] #[.int .i64 k', .int .i64 n', .string s', .slice B g.len cap'])
  by_cases hneg : r < 0
  · go_enter Tryd.func5, Tryd.ntmps5
    go_wp2_with fail
    refine (H1.out _ HL.out.1).mono ?_
    rintro e w2 ⟨rfl, hb⟩
    have HL2 := Lib.hid (HL.out.next hb)
    clear hb
    go_wp2_with fail
    go_ret
    exact ⟨rfl, HL2.out.1⟩
  · have C2 := fun w1 (hb : Below w.heap.size w w1) => szT_any s' g k' n' B cap' 0 w.heap.size r w1 (HK'.out.below hb (Nat.le_refl _)) hb.size HF'.out (by omega) (by omega)
    have hr' := szT_range s' g r (by omega)
    generalize szT s' g r = q at *
    have H2 := Lib.hid C2
    have q1 := hr'.1
    have q2 := hr'.2.1
    have HR' := Lib.hid hr'.2.2
    clear C2 hr'
    go_enter Tryd.func5, Tryd.ntmps5
    go_wp2_with fail
    refine (H1.out _ HL.out.1).mono ?_
    rintro e w2 ⟨rfl, hb⟩
    have hl2 := HL.out.next hb
    obtain ⟨a0, a1, a2, a3⟩ := cells4 hl2.2.1
    obtain ⟨b0, b1, b2, b3⟩ := cells4 hl2.2.2
    have HL2 := Lib.hid hl2
    clear hb hl2
    go_wp2_with fail
    refine (H2.out _ HL2.out.1).mono ?_
    rintro e w3 ⟨rfl, hb⟩
    have hl3 := HL2.out.next hb
    have HL3 := Lib.hid hl3
    clear a0 a1 a2 a3 b0 b1 b2 b3
    by_cases hneg2 : q < 0
    · clear hb hl3
      go_wp2_with fail
      go_ret
      exact ⟨rfl, HL3.out.1⟩
    · obtain ⟨a0, a1, a2, a3⟩ := cells4 hl3.2.1
      obtain ⟨b0, b1, b2, b3⟩ := cells4 hl3.2.2
      clear hb hl3
      have hwt : s.size + f.len + wt f ≤ 1048576 := by have := HR.out (by omega); omega
      have hwt' : s'.size + g.len + wt g ≤ 1048576 := by have := HR'.out (by omega); omega
      have hnd : nodes f ≤ 1048576 := by have := nodes_le_wt f; omega
      have hnd' : nodes g ≤ 1048576 := by have := nodes_le_wt g; omega
      have CA := fun w1 (hb : Below w.heap.size w w1) => toT_any k n s f A cap 0 w.heap.size w1 (HK.out.below hb (Nat.le_refl _)) hb.size (by omega)
      have CB := fun w1 (hb : Below w.heap.size w w1) => toT_any k' n' s' g B cap' 0 w.heap.size w1 (HK'.out.below hb (Nat.le_refl _)) hb.size (by omega)
      have CS := fun w1 A1 B1 c1 c2 l1 h1 l2 h2 (hk : KidsAt w1 l1 h1 f A1 c1) (hk' : KidsAt w1 l2 h2 g B1 c2) hh hh' => specVar_any k n s f k' n' s' g A1 B1 c1 c2 l1 h1 l2 h2 w1 hk hk' hh hh' HF.out HF'.out hnd hnd'
      have CI := fun w1 A1 B1 c1 c2 l1 h1 l2 h2 (hk : KidsAt w1 l1 h1 f A1 c1) (hk' : KidsAt w1 l2 h2 g B1 c2) hh hh' (ht : nv.Tab w1) => implVar_any k n s f k' n' s' g A1 B1 c1 c2 l1 h1 l2 h2 w1 hk hk' hh hh' HF.out HF'.out hnd hnd' ht
      have CE := fun w1 A1 cap1 lo hi A2 cap2 lo2 hi2 (hk : KidsAt w1 lo hi f A1 cap1) (hk2 : KidsAt w1 lo2 hi2 f A2 cap2) hh hh2 => eqT_any s f s f k n k n A1 A2 cap1 cap2 lo hi lo2 hi2 w1 hk hk2 hh hh2
      have CE' := fun w1 A1 cap1 lo hi A2 cap2 lo2 hi2 (hk : KidsAt w1 lo hi g A1 cap1) (hk2 : KidsAt w1 lo2 hi2 g A2 cap2) hh hh2 => eqT_any s' g s' g k' n' k' n' A1 A2 cap1 cap2 lo hi lo2 hi2 w1 hk hk2 hh hh2
      rw [eqT_refl] at CE CE'
      generalize vrB k n s f k' n' s' g = v at *
      have XA := Lib.hid CA
      have XB := Lib.hid CB
      have XS := Lib.hid CS
      have XI := Lib.hid CI
      have XE := Lib.hid CE
      have XE' := Lib.hid CE'
      clear CA CB CS CI CE CE' hwt hwt' hnd hnd'
      have tv : (v != v) = false := by cases v <;> rfl
      go_wp2_with fail
      go_region_held3 (fun w' => w'.cell? ⟨w.heap.size, 0, none⟩ = some (.int .i64 k) ∧ w'.cell? ⟨w.heap.size, 1, none⟩ = some (.int .i64 n) ∧ w'.cell? ⟨w.heap.size, 2, none⟩ = some (.string s) ∧ w'.cell? ⟨w.heap.size, 3, none⟩ = some (.slice A f.len cap) ∧
          w'.cell? ⟨w.heap.size + 1, 0, none⟩ = some (.int .i64 k') ∧ w'.cell? ⟨w.heap.size + 1, 1, none⟩ = some (.int .i64 n') ∧ w'.cell? ⟨w.heap.size + 1, 2, none⟩ = some (.string s') ∧ w'.cell? ⟨w.heap.size + 1, 3, none⟩ = some (.slice B g.len cap'))
        (first | exact lw8 HL6.out | exact lw8 HLab.out | exact lw8 HLba.out | exact lw8 HLa.out | exact lw8 HLb.out | exact lw8 HL3.out | exact lw8 HL3.out.drew)
        (first
          | (go_at_call_of 10 k; (first | (refine (XA.out _ HLb.out.1).mono ?_; rintro e w5 ⟨A1, c1, rfl, hm⟩; have hm5 := kids_of_made hm; have HLba := Lib.hid (HLb.out.next hm5.2); have KA := Lib.hid hm5.1; have KB := Lib.hid (KBb.out.below hm5.2 (Nat.le_refl _)); have hle := hm5.2.size; clear hm hm5) | (refine (XA.out _ HL3.out.drew.1).mono ?_; rintro e w4 ⟨A1, c1, rfl, hm⟩; have hm4 := kids_of_made hm; have HLa := Lib.hid (HL3.out.drew.next hm4.2); have KAa := Lib.hid hm4.1; clear hm hm4)))
          | (go_at_call_of 10 k'; (first | (refine (XB.out _ HLa.out.1).mono ?_; rintro e w5 ⟨B1, c2, rfl, hm⟩; have hm5 := kids_of_made hm; have HLab := Lib.hid (HLa.out.next hm5.2); have KB := Lib.hid hm5.1; have KA := Lib.hid (KAa.out.below hm5.2 (Nat.le_refl _)); have hle := hm5.2.size; clear hm hm5) | (refine (XB.out _ HL3.out.drew.1).mono ?_; rintro e w4 ⟨B1, c2, rfl, hm⟩; have hm4 := kids_of_made hm; have HLb := Lib.hid (HL3.out.drew.next hm4.2); have KBb := Lib.hid hm4.1; clear hm hm4)))
          | (go_at_call 21; refine (XS.out _ _ _ _ _ _ _ _ _ KA.out KB.out (by omega) (by omega)).mono ?_; rintro e w6 ⟨rfl, hb6⟩; have HL6 := Lib.hid (by first | exact HLab.out.next hb6 | exact HLba.out.next hb6); clear hb6))
      obtain ⟨a0', a1', a2', a3', b0', b1', b2', b3'⟩ := lw8 HL6.out
      clear a0 a1 a2 a3 b0 b1 b2 b3
      go_wp2_with fail
      refine (XA.out _ HL6.out.1).mono ?_
      rintro e w7 ⟨A2, c3, rfl, hm⟩
      have hm7 := kids_of_made hm
      have HL7 := Lib.hid (HL6.out.next hm7.2)
      have KX7 := Lib.hid hm7.1
      have hsz7 : w.heap.size + 1 < w7.heap.size := HL7.out.2.2.lt
      obtain ⟨p0, p1, p2, p3, p4, p5, p6, p7⟩ := lw8 HL7.out
      clear hm hm7 a0' a1' a2' a3' b0' b1' b2' b3'
      go_wp2_with fail
      refine (XB.out _ (HL7.out.next ((Below.refl _ _).alloc (Nat.le_refl _) _)).1).mono ?_
      rintro e w9 ⟨B2, c4, rfl, hm⟩
      have hm9 := kids_of_made hm
      have hx := Blk.new w7 29 #[.int .i64 k, .int .i64 n, .string s, .slice A2 f.len c3]
      have hb79 : Below w7.heap.size w7 w9 := ((Below.refl _ _).alloc (Nat.le_refl _) _).trans (hm9.2.mono (by simp))
      have hx9 := hx.below hm9.2 hx.lt
      have HX9 := Lib.hid hx9
      have HL9 := Lib.hid (HL7.out.next hb79)
      have KX9 := Lib.hid (KX7.out.below hb79 (Nat.le_refl _))
      have KY9 := Lib.hid hm9.1
      have hle79 := hb79.size
      have hsz9 : w7.heap.size < w9.heap.size := hx9.lt
      obtain ⟨x0, x1, x2, x3⟩ := cells4 hx9
      clear hm hm9 hx hb79 hx9 p0 p1 p2 p3 p4 p5 p6 p7
      go_wp2_with fail
      have ha10 : Below w9.heap.size w9 (w9.alloc (.cells #[.int .i64 k', .int .i64 n', .string s', .slice B2 g.len c4] 29)) := (Below.refl _ _).alloc (Nat.le_refl _) _
      have hy := Blk.new w9 29 #[.int .i64 k', .int .i64 n', .string s', .slice B2 g.len c4]
      refine (XI.out _ _ _ _ _ _ _ _ _ (KX9.out.below ha10 (by omega)) (KY9.out.below ha10 (Nat.le_refl _)) (by simp; omega) (by simp) (tab_below HT.out (HL9.out.next ha10).1 hlt)).mono ?_
      rintro e w11 ⟨rfl, hb⟩
      have h911 : Below w9.heap.size w9 w11 := ha10.trans (hb.mono (by simp))
      have HX11 := Lib.hid (HX9.out.below h911 HX9.out.lt)
      have HY11 := Lib.hid (hy.below hb hy.lt)
      have HL11 := Lib.hid (HL9.out.next h911)
      have KX11 := Lib.hid (KX9.out.below h911 hle79)
      have KY11 := Lib.hid (KY9.out.below h911 (Nat.le_refl _))
      have hle11 : w9.heap.size ≤ w11.heap.size := h911.size
      obtain ⟨x0', x1', x2', x3', x4', x5', x6', x7'⟩ := two4 HX11.out HL11.out.2.1
      clear ha10 hy hb h911 x0 x1 x2 x3
      go_wp2_with fail
      go_region_held3 (fun w' => w'.cell? ⟨w7.heap.size, 0, none⟩ = some (.int .i64 k) ∧ w'.cell? ⟨w7.heap.size, 1, none⟩ = some (.int .i64 n) ∧ w'.cell? ⟨w7.heap.size, 2, none⟩ = some (.string s) ∧ w'.cell? ⟨w7.heap.size, 3, none⟩ = some (.slice A2 f.len c3) ∧
          w'.cell? ⟨w.heap.size, 0, none⟩ = some (.int .i64 k) ∧ w'.cell? ⟨w.heap.size, 1, none⟩ = some (.int .i64 n) ∧ w'.cell? ⟨w.heap.size, 2, none⟩ = some (.string s) ∧ w'.cell? ⟨w.heap.size, 3, none⟩ = some (.slice A f.len cap))
        (first | exact two4 HQe.out HLe.out.2.1 | exact two4 HQt.out HLt.out.2.1 | exact two4 HX11.out HL11.out.2.1)
        (first
          | (go_at_call 10; refine (XA.out _ HL11.out.drew.1).mono ?_; rintro e wt1 ⟨A9, c9, rfl, hm⟩; have hm9 := kids_of_made hm; have hd : Below w11.heap.size w11 wt1 := (Below.refl w11.heap.size w11).drew.trans hm9.2; have HLt := Lib.hid (HL11.out.next hd); have HQt := Lib.hid (HX11.out.below hd HX11.out.lt); have HOt := Lib.hid (HY11.out.below hd HY11.out.lt); have KXt := Lib.hid (KX11.out.below hd (by omega)); have KYt := Lib.hid (KY11.out.below hd hle11); have K9 := Lib.hid hm9.1; have hle9 := hd.size; clear hm hm9 hd)
          | (go_at_call 12; refine (XE.out _ _ _ _ _ _ _ _ _ KXt.out K9.out (by omega) (Nat.le_refl _)).mono ?_; rintro e we ⟨rfl, hbe⟩; have HLe := Lib.hid (HLt.out.next hbe); have HQe := Lib.hid (HQt.out.below hbe HQt.out.lt); have HOe := Lib.hid (HOt.out.below hbe HOt.out.lt); have KYe := Lib.hid (KYt.out.below hbe (by omega)); have hlee := hbe.size; clear hbe))
      obtain ⟨y0, y1, y2, y3, y4, y5, y6, y7⟩ := two4 HOe.out HLe.out.2.2
      have hwe : w9.heap.size < we.heap.size := HOe.out.lt
      clear x0' x1' x2' x3' x4' x5' x6' x7'
      go_wp2_with fail
      go_region_held3 (fun w' => w'.cell? ⟨w9.heap.size, 0, none⟩ = some (.int .i64 k') ∧ w'.cell? ⟨w9.heap.size, 1, none⟩ = some (.int .i64 n') ∧ w'.cell? ⟨w9.heap.size, 2, none⟩ = some (.string s') ∧ w'.cell? ⟨w9.heap.size, 3, none⟩ = some (.slice B2 g.len c4) ∧
          w'.cell? ⟨w.heap.size + 1, 0, none⟩ = some (.int .i64 k') ∧ w'.cell? ⟨w.heap.size + 1, 1, none⟩ = some (.int .i64 n') ∧ w'.cell? ⟨w.heap.size + 1, 2, none⟩ = some (.string s') ∧ w'.cell? ⟨w.heap.size + 1, 3, none⟩ = some (.slice B g.len cap'))
        (first | exact two4 HQ16.out HL16.out.2.2 | exact two4 HQ15.out HL15.out.2.2 | exact two4 HOe.out HLe.out.2.2)
        (first
          | (go_at_call 10; refine (XB.out _ HLe.out.drew.1).mono ?_; rintro e w15 ⟨A9, c9, rfl, hm⟩; have hm9 := kids_of_made hm; have hd : Below we.heap.size we w15 := (Below.refl we.heap.size we).drew.trans hm9.2; have HL15 := Lib.hid (HLe.out.next hd); have HQ15 := Lib.hid (HOe.out.below hd HOe.out.lt); have KY15 := Lib.hid (KYe.out.below hd (by omega)); have K15 := Lib.hid hm9.1; have hle15 := hd.size; clear hm hm9 hd)
          | (go_at_call 12; refine (XE'.out _ _ _ _ _ _ _ _ _ KY15.out K15.out (by omega) (Nat.le_refl _)).mono ?_; rintro e w16 ⟨rfl, hbe⟩; have HL16 := Lib.hid (HL15.out.next hbe); have HQ16 := Lib.hid (HQ15.out.below hbe HQ15.out.lt); clear hbe))
      go_wp2_with fail
      go_ret
      exact ⟨rfl, HL16.out.1⟩
end Go.Proofs.YtplledmhbbmgiaaDoor

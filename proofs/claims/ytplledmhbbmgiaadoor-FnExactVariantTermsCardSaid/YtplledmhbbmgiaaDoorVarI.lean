/- spec.VariantTerms, impl.VariantTerms. Condition: the terms lie in memory, the table of signs in its variable. -/
import Derived.Test.YtplledmhbbmgiaaDoorProg
import Derived.Test.YtplledmhbbmgiaaDoorCanon
import Derived.Test.YtplledmhbbmgiaaDoorSameS
import Derived.Test.YtplledmhbbmgiaaDoorCmpJ
import Derived.Test.YtplledmhbbmgiaaDoorCmpZ
import Derived.Test.YtplledmhbbmgiaaDoorBoth
import Derived.Test.YtplledmhbbmgiaaDoorNumP
import Derived.Test.YtplledmhbbmgiaaDoorLawTV0
import Derived.Deep.RegionHeld3
namespace Go.Proofs.YtplledmhbbmgiaaDoor
open Go.RowKit

/-- What both VariantTerms answer. -/
def vrC (k n : Int) (s : ByteArray) (f : Fr) (k' n' : Int) (s' : ByteArray) (g : Fr) : Bool := eqT k (renN (canV k n f) k n) s (renF (canV k n f) f) k' (renN (canV k' n' g) k' n') s' (renF (canV k' n' g) g)
def vrB (k n : Int) (s : ByteArray) (f : Fr) (k' n' : Int) (s' : ByteArray) (g : Fr) : Bool := validT k n s f && (validT k' n' s' g && vrC k n s f k' n' s' g)
/-- Both boxes lie there. -/
def VB (w : World) (a b : Array Value) (wk : World) : Prop := Below w.heap.size w wk ∧ Blk wk w.heap.size 29 a ∧ Blk wk (w.heap.size + 1) 29 b
theorem VB.next {w wk wl : World} {a b : Array Value} (h : VB w a b wk) (hb : Below wk.heap.size wk wl) : VB w a b wl := ⟨h.1.trans (hb.mono h.1.size), h.2.1.below hb h.2.1.lt, h.2.2.below hb h.2.2.lt⟩
theorem VB.drew {w wk : World} {a b : Array Value} (h : VB w a b wk) : VB w a b wk.drew := h.next (Below.refl _ _).drew
theorem VB.made (w : World) (a b : Array Value) : VB w a b ((w.alloc (.cells a 29)).alloc (.cells b 29)) := by
  refine ⟨two_alloc w _ _, (Blk.new w _ _).alloc _, ?_⟩
  have h := Blk.new (w.alloc (.cells a 29)) 29 b
  simpa using h
theorem VB.cells {w wk : World} {x0 x1 x2 x3 y0 y1 y2 y3 : Value} (h : VB w #[x0, x1, x2, x3] #[y0, y1, y2, y3] wk) : wk.cell? ⟨w.heap.size, 0, none⟩ = some x0 ∧ wk.cell? ⟨w.heap.size, 1, none⟩ = some x1 ∧ wk.cell? ⟨w.heap.size, 2, none⟩ = some x2 ∧ wk.cell? ⟨w.heap.size, 3, none⟩ = some x3 ∧
    wk.cell? ⟨w.heap.size + 1, 0, none⟩ = some y0 ∧ wk.cell? ⟨w.heap.size + 1, 1, none⟩ = some y1 ∧ wk.cell? ⟨w.heap.size + 1, 2, none⟩ = some y2 ∧ wk.cell? ⟨w.heap.size + 1, 3, none⟩ = some y3 := by
  obtain ⟨a0, a1, a2, a3⟩ := cells4i h.2.1
  obtain ⟨b0, b1, b2, b3⟩ := cells4i h.2.2
  exact ⟨a0, a1, a2, a3, b0, b1, b2, b3⟩

set_option maxRecDepth 100000 in
set_option maxHeartbeats 4000000 in
/-- spec.VariantTerms. -/
theorem specVar_any (k n : Int) (s : ByteArray) (f : Fr) (k' n' : Int) (s' : ByteArray) (g : Fr) (A B : Option Addr) (cap cap' lo hi lo' hi' : Nat) (w : World)
    (hk : KidsAt w lo hi f A cap) (hk' : KidsAt w lo' hi' g B cap') (hh : hi ≤ w.heap.size) (hh' : hi' ≤ w.heap.size) (hf : Fits k n s) (hf' : Fits k' n' s') (hnd : nodes f ≤ 1048576) (hnd' : nodes g ≤ 1048576) :
    Calls Tryd.prog 21 #[.agg #[.int .i64 k, .int .i64 n, .string s, .slice A f.len cap], .agg #[.int .i64 k', .int .i64 n', .string s', .slice B g.len cap']] w fun e w' => e = .returned (.bool (vrB k n s f k' n' s' g)) ∧ Below w.heap.size w w' := by
  have CA := fun w1 (hb : Below w.heap.size w w1) => specValid_any k n s f A cap lo hi w1 (hk.below hb hh) (Nat.le_trans hh hb.size) hf hnd
  have CB := fun w1 (hb : Below w.heap.size w w1) => specValid_any k' n' s' g B cap' lo' hi' w1 (hk'.below hb hh') (Nat.le_trans hh' hb.size) hf' hnd'
  have CC := fun w1 (hb : Below w.heap.size w w1) => canon_any k n s f A cap lo hi w1 (hk.below hb hh) (Nat.le_trans hh hb.size) hf hnd
  have CD := fun w1 (hb : Below w.heap.size w w1) => canon_any k' n' s' g B cap' lo' hi' w1 (hk'.below hb hh') (Nat.le_trans hh' hb.size) hf' hnd'
  have CE := fun w1 A1 B1 c1 c2 l1 h1 l2 h2 (hk : KidsAt w1 l1 h1 (renF (canV k n f) f) A1 c1) (hk' : KidsAt w1 l2 h2 (renF (canV k' n' g) g) B1 c2) hh hh' => sa_all _ s (renF (canV k n f) f) (Nat.le_refl _) s' (renF (canV k' n' g) g) k (renN (canV k n f) k n) k' (renN (canV k' n' g) k' n') A1 B1 c1 c2 l1 h1 l2 h2 w1 hk hk' hh hh'
  unfold MadeT at CC CD
  rw [renF_len] at CC CD CE
  rw [renF_len] at CE
  have HV : Hid (vrB k n s f k' n' s' g = (validT k n s f && (validT k' n' s' g && eqT k (renN (canV k n f) k n) s (renF (canV k n f) f) k' (renN (canV k' n' g) k' n') s' (renF (canV k' n' g) g)))) := Lib.hid rfl
  generalize vrB k n s f k' n' s' g = r at *
  generalize eqT k (renN (canV k n f) k n) s (renF (canV k n f) f) k' (renN (canV k' n' g) k' n') s' (renF (canV k' n' g) g) = ev at *
  generalize renN (canV k n f) k n = m at *
  generalize renN (canV k' n' g) k' n' = m' at *
  have HQ := Lib.hid (VB.made w #[.int .i64 k, .int .i64 n, .string s, .slice A f.len cap] #[.int .i64 k', .int .i64 n', .string s', .slice B g.len cap'])
  have HA := Lib.hid CA
  have HB := Lib.hid CB
  have HC := Lib.hid CC
  have HD := Lib.hid CD
  have HE := Lib.hid CE
  generalize validT k n s f = va at *
  generalize validT k' n' s' g = vb at *
  clear CA CB CC CD CE hk hk' hh hh' hf hf' hnd hnd'
  go_enter Tryd.func21, Tryd.ntmps21
  go_wp2_with fail
  generalize (w.alloc (.cells #[.int .i64 k, .int .i64 n, .string s, .slice A f.len cap] 29)).alloc (.cells #[.int .i64 k', .int .i64 n', .string s', .slice B g.len cap'] 29) = w1 at *
  obtain ⟨a0, a1, a2, a3, b0, b1, b2, b3⟩ := HQ.out.cells
  cases va
  · go_region_with (first | (go_at_call_of 28 k; refine (HA.out _ HQ.out.drew.1).mono ?_; rintro e w2 ⟨rfl, hb⟩; have HQ2 := Lib.hid (HQ.out.drew.next hb); obtain ⟨x0, x1, x2, x3, y0, y1, y2, y3⟩ := HQ2.out.cells; clear hb))
    all_goals
      go_wp2_with fail
      go_ret
      rw [HV.out]
      exact ⟨rfl, HQ2.out.1.trans ⟨rfl, rfl, rfl, Nat.le_refl _, fun _ _ => rfl⟩⟩
  · cases vb
    · go_region_with (first | (go_at_call_of 28 k; refine (HA.out _ HQ.out.drew.1).mono ?_; rintro e w2 ⟨rfl, hb⟩; have HQ2 := Lib.hid (HQ.out.drew.next hb); obtain ⟨x0, x1, x2, x3, y0, y1, y2, y3⟩ := HQ2.out.cells; clear hb) | (go_at_call_of 28 k'; refine (HB.out _ HQ2.out.1).mono ?_; rintro e w3 ⟨rfl, hb⟩; have HQ3 := Lib.hid (HQ2.out.next hb); obtain ⟨u0, u1, u2, u3, v0, v1, v2, v3⟩ := HQ3.out.cells; clear hb))
      all_goals
        go_wp2_with fail
        go_ret
        rw [HV.out]
        exact ⟨rfl, HQ3.out.1.trans ⟨rfl, rfl, rfl, Nat.le_refl _, fun _ _ => rfl⟩⟩
    · go_region_with (first | (go_at_call_of 28 k; refine (HA.out _ HQ.out.drew.1).mono ?_; rintro e w2 ⟨rfl, hb⟩; have HQ2 := Lib.hid (HQ.out.drew.next hb); obtain ⟨x0, x1, x2, x3, y0, y1, y2, y3⟩ := HQ2.out.cells; clear hb) | (go_at_call_of 28 k'; refine (HB.out _ HQ2.out.1).mono ?_; rintro e w3 ⟨rfl, hb⟩; have HQ3 := Lib.hid (HQ2.out.next hb); obtain ⟨u0, u1, u2, u3, v0, v1, v2, v3⟩ := HQ3.out.cells; clear hb) | (go_at_call_of 45 k; refine (HC.out _ HQ3.out.1).mono ?_; rintro e w4 ⟨A4, c4, rfl, hm⟩; have HQ4 := Lib.hid (HQ3.out.next (made_below hm)); have HM4 := Lib.hid (kids_of_made hm).1; obtain ⟨p0, p1, p2, p3, q0, q1, q2, q3⟩ := HQ4.out.cells; clear hm) | (go_at_call_of 45 k'; refine (HD.out _ HQ4.out.1).mono ?_; rintro e w5 ⟨A5, c5, rfl, hm⟩; have HQ5 := Lib.hid (HQ4.out.next (made_below hm)); have HM5 := Lib.hid (And.intro (kids_of_made hm).1 (HM4.out.below (made_below hm) (Nat.le_refl _))); have hs45 := (made_below hm).size; clear hm) | (go_at_call 44; refine (HE.out _ _ _ _ _ _ _ _ _ HM5.out.2 HM5.out.1 hs45 (Nat.le_refl _)).mono ?_; rintro e w6 ⟨rfl, hb⟩; have HQ6 := Lib.hid (HQ5.out.next hb); clear hb))
      all_goals
        go_wp2_with fail
        go_ret
        rw [HV.out]
        exact ⟨rfl, HQ6.out.1.trans ⟨rfl, rfl, rfl, Nat.le_refl _, fun _ _ => rfl⟩⟩
end Go.Proofs.YtplledmhbbmgiaaDoor

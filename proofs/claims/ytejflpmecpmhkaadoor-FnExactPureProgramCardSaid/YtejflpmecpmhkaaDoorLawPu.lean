/- The law FnExactPureProgram, walked. Condition: the argument lies in memory, both tables in their variables. -/
import Derived.Test.YtejflpmecpmhkaaDoorProg
import Derived.Test.YtejflpmecpmhkaaDoorPuI
import Derived.Test.YtejflpmecpmhkaaDoorClE
namespace Go.Proofs.YtejflpmecpmhkaaDoor
open Go.RowKit

set_option maxRecDepth 100000 in
set_option maxHeartbeats 4000000 in
theorem lawPu_any (cs : List Cl) (A : Option Addr) (cap : Nat) (w : World) (hk : ClS w 0 w.heap.size cs A cap) (ht : nv.Tab w) (ho : op.OpTab w) :
    Calls Tryd.prog 5 #[.slice A cs.length cap] w fun e w' => e = .returned (.bool true) ∧ Below w.heap.size w w' := by
  have hr := szCS_range cs 1048576 (by omega)
  have C1 := szCS_any cs A cap 0 w.heap.size 1048576 w hk (Nat.le_refl _) (by omega) (by omega)
  generalize szCS cs 1048576 = r at *
  have H1 := Lib.hid C1
  have HK := Lib.hid hk
  have HT := Lib.hid ht
  have HO := Lib.hid ho
  have r1 := hr.1
  have r2 := hr.2.1
  clear C1 hk ht ho
  by_cases hneg : r < 0
  · clear hr
    go_enter Tryd.func5, Tryd.ntmps5
    go_wp2_with fail
    refine H1.out.mono ?_
    rintro e w2 ⟨rfl, hb⟩
    have HB := Lib.hid hb
    clear hb
    go_wp2_with fail
    go_ret
    exact ⟨rfl, HB.out⟩
  · have hwt : cs.length + wtCs cs ≤ 1048576 := by have := hr.2.2 (by omega); omega
    have CT := fun w1 (hb : Below w.heap.size w w1) => toCS_any cs A cap 0 w.heap.size w1 (HK.out.below hb (Nat.le_refl _)) hb.size hwt
    have CS := fun w1 A1 lo hi (hk : ClS w1 lo hi cs A1 cs.length) hh => specPu_any cs A1 cs.length lo hi w1 hk hh hwt
    have CI := fun w1 A1 lo hi (hk : ClS w1 lo hi cs A1 cs.length) hh (hb : Below w.heap.size w w1) => implPu_any cs A1 cs.length lo hi w1 hk hh hwt (HT.out.below hb) (HO.out.below hb)
    have CE := fun w1 A1 lo hi A2 lo2 hi2 (hk : ClS w1 lo hi cs A1 cs.length) hh (hk2 : ClS w1 lo2 hi2 cs A2 cs.length) hh2 => eqCS_any cs A1 A2 cs.length cs.length lo hi lo2 hi2 w1 hk hk2 hh hh2
    have hmd : ∀ w1 A1 w2, MadeC w1 cs A1 cs.length w2 → ClS w2 w1.heap.size w2.heap.size cs A1 cs.length ∧ Below w1.heap.size w1 w2 := fun _ _ _ h => clauses_of_made h
    generalize hv : pureP cs = v at *
    have tv : (v != v) = false := by cases v <;> rfl
    have HT' := Lib.hid CT
    have HS := Lib.hid CS
    have HI := Lib.hid CI
    have HE := Lib.hid CE
    have HMD := Lib.hid hmd
    clear CT CS CI CE hr hwt hv hmd
    go_enter Tryd.func5, Tryd.ntmps5
    go_wp2_with fail
    refine H1.out.mono ?_
    rintro e w2 ⟨rfl, hb⟩
    have HB2 := Lib.hid hb
    clear hb H1
    go_wp2_with fail
    refine (HT'.out _ HB2.out).mono ?_
    rintro e w3 ⟨A1, rfl, hm⟩
    have HM1 := Lib.hid (HMD.out _ _ _ hm)
    clear hm
    go_wp2_with fail
    refine (HS.out _ _ _ _ HM1.out.1 (Nat.le_refl _)).mono ?_
    rintro e w4 ⟨rfl, hb4⟩
    have HB4 := Lib.hid ((HB2.out.trans (HM1.out.2.mono HB2.out.size)).trans (hb4.mono (Nat.le_trans HB2.out.size HM1.out.2.size)))
    clear hb4 HM1 HB2
    go_wp2_with fail
    refine (HT'.out _ HB4.out).mono ?_
    rintro e w5 ⟨A2, rfl, hm⟩
    have hm2 := HMD.out _ _ _ hm
    have HK5 := Lib.hid hm2.1
    have HB5 := Lib.hid (HB4.out.trans (hm2.2.mono HB4.out.size))
    clear hm hm2 HB4
    go_wp2_with fail
    refine (HI.out _ _ _ _ HK5.out (Nat.le_refl _) HB5.out).mono ?_
    rintro e w6 ⟨rfl, hb6⟩
    have HK6 := Lib.hid (HK5.out.below hb6 (Nat.le_refl _))
    have HS6 := Lib.hid hb6.size
    have HB6 := Lib.hid (HB5.out.trans (hb6.mono HB5.out.size))
    clear hb6 HK5 HB5
    go_wp2_with fail
    refine (HT'.out _ HB6.out).mono ?_
    rintro e w7 ⟨A3, rfl, hm⟩
    have hm7 := HMD.out _ _ _ hm
    have HK7 := Lib.hid (HK6.out.below hm7.2 HS6.out)
    have HS7 := Lib.hid (Nat.le_trans HS6.out hm7.2.size)
    have HM7 := Lib.hid hm7.1
    have HB7 := Lib.hid (HB6.out.trans (hm7.2.mono HB6.out.size))
    clear hm hm7 HB6 HK6
    go_wp2_with fail
    refine (HE.out _ _ _ _ _ _ _ HK7.out HS7.out HM7.out (Nat.le_refl _)).mono ?_
    rintro e w8 ⟨rfl, hb8⟩
    have HB8 := Lib.hid (HB7.out.trans (hb8.mono HB7.out.size))
    clear hb8
    go_wp2_with fail
    go_ret
    exact ⟨rfl, HB8.out⟩
end Go.Proofs.YtejflpmecpmhkaaDoor

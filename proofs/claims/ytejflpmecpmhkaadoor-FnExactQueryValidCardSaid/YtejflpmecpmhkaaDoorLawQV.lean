/- impl.QueryValid; the law FnExactQueryValid, walked. Condition: the argument lies in memory, both tables in their variables. -/
import Derived.Test.YtejflpmecpmhkaaDoorProg
import Derived.Test.YtejflpmecpmhkaaDoorQvI
import Derived.Test.YtejflpmecpmhkaaDoorHeld
import Derived.Test.YtejflpmecpmhkaaDoorLawTV0
namespace Go.Proofs.YtejflpmecpmhkaaDoor
open Go.RowKit

set_option maxRecDepth 100000 in
/-- impl.QueryValid. -/
theorem implQV_any (f : Fr) (A : Option Addr) (cap lo hi : Nat) (w : World) (hk : KidsAt w lo hi f A cap) (hh : hi ≤ w.heap.size) (hnd : nodes f ≤ 1048576) (ht : nv.Tab w) (ho : op.OpTab w) :
    Calls Tryd.prog 10 #[.slice A f.len cap] w fun e w' => e = .returned (.bool (goalsV f)) ∧ Below w.heap.size w w' := by
  have C1 := questionOf_any f A cap lo hi w hk hh hnd ht ho
  have H1 := Lib.hid C1
  clear C1 hk hnd ht ho
  generalize f.len = len at *
  go_enter Tryd.func10, Tryd.ntmps10
  go_wp2_with fail
  refine H1.out.mono ?_
  rintro e w2 ⟨hb, hr⟩
  have HB2 := Lib.hid hb
  rcases hr with ⟨hok, rfl⟩ | ⟨hok, R, M, vo, hi2, rfl, _, _, hoi⟩
  · have HOK := Lib.hid hok
    clear hb hok
    go_wp2_with fail
    go_ret
    rw [HOK.out]; exact ⟨rfl, HB2.out.alloc HB2.out.size _⟩
  · have HOK := Lib.hid hok
    obtain ⟨A3, cap3, rfl, _⟩ := hoi.read
    clear hb hok hoi
    go_wp2_with fail
    go_ret
    rw [HOK.out]; exact ⟨rfl, HB2.out.alloc HB2.out.size _⟩

set_option maxRecDepth 100000 in
set_option maxHeartbeats 4000000 in
theorem lawQV_any (f : Fr) (A : Option Addr) (cap : Nat) (w : World) (hk : KidsAt w 0 w.heap.size f A cap) (ht : nv.Tab w) (ho : op.OpTab w) :
    Calls Tryd.prog 3 #[.slice A f.len cap] w fun e w' => e = .returned (.bool true) ∧ Below w.heap.size w w' := by
  have hr := szS_range f 1048576 (by omega)
  have C1 := szS_any f A cap 0 w.heap.size 1048576 w hk (Nat.le_refl _) (by omega) (by omega)
  generalize szS f 1048576 = r at *
  have H1 := Lib.hid C1
  have HK := Lib.hid hk
  have HT := Lib.hid ht
  have HO := Lib.hid ho
  have r1 := hr.1
  have r2 := hr.2.1
  clear C1 hk ht ho
  by_cases hneg : r < 0
  · clear hr
    go_enter Tryd.func3, Tryd.ntmps3
    go_wp2_with fail
    refine H1.out.mono ?_
    rintro e w2 ⟨rfl, hb⟩
    have HB := Lib.hid hb
    clear hb
    go_wp2_with fail
    go_ret
    exact ⟨rfl, HB.out⟩
  · have hwt : f.len + wt f ≤ 1048576 := by have := hr.2.2 (by omega); omega
    have hnd : nodes f ≤ 1048576 := by have := nodes_le_wt f; omega
    have CT := fun w1 (hb : Below w.heap.size w w1) => toS_any f A cap 0 w.heap.size w1 (HK.out.below hb (Nat.le_refl _)) hb.size hwt
    have CS := fun w1 A1 cap1 lo hi (hk : KidsAt w1 lo hi f A1 cap1) hh => specQV_any f A1 cap1 lo hi w1 hk hh hnd
    have CI := fun w1 A1 cap1 lo hi (hk : KidsAt w1 lo hi f A1 cap1) hh (hb : Below w.heap.size w w1) => implQV_any f A1 cap1 lo hi w1 hk hh hnd (HT.out.below hb) (HO.out.below hb)
    have CE := fun w1 A1 cap1 lo hi A2 cap2 lo2 hi2 (hk : KidsAt w1 lo hi f A1 cap1) hh (hk2 : KidsAt w1 lo2 hi2 f A2 cap2) hh2 => eqS_any f f A1 A2 cap1 cap2 lo hi lo2 hi2 w1 hk hk2 hh hh2
    rw [eqF_refl] at CE
    generalize hv : goalsV f = v at *
    have tv : (v != v) = false := by cases v <;> rfl
    have HT' := Lib.hid CT
    have HS := Lib.hid CS
    have HI := Lib.hid CI
    have HE := Lib.hid CE
    clear CT CS CI CE hr hwt hv hnd
    go_enter Tryd.func3, Tryd.ntmps3
    go_wp2_with fail
    refine H1.out.mono ?_
    rintro e w2 ⟨rfl, hb⟩
    have HB2 := Lib.hid hb
    clear hb H1
    go_wp2_with fail
    refine (HT'.out _ HB2.out).mono ?_
    rintro e w3 ⟨A1, cap1, rfl, hm⟩
    have HM1 := Lib.hid (kids_of_made hm)
    clear hm
    go_wp2_with fail
    refine (HS.out _ _ _ _ _ HM1.out.1 (Nat.le_refl _)).mono ?_
    rintro e w4 ⟨rfl, hb4⟩
    have HB4 := Lib.hid ((HB2.out.trans (HM1.out.2.mono HB2.out.size)).trans (hb4.mono (Nat.le_trans HB2.out.size HM1.out.2.size)))
    clear hb4 HM1 HB2
    go_wp2_with fail
    refine (HT'.out _ HB4.out).mono ?_
    rintro e w5 ⟨A2, cap2, rfl, hm⟩
    have hm2 := kids_of_made hm
    have HK5 := Lib.hid hm2.1
    have HB5 := Lib.hid (HB4.out.trans (hm2.2.mono HB4.out.size))
    clear hm hm2 HB4
    go_wp2_with fail
    refine (HI.out _ _ _ _ _ HK5.out (Nat.le_refl _) HB5.out).mono ?_
    rintro e w6 ⟨rfl, hb6⟩
    have HK6 := Lib.hid (HK5.out.below hb6 (Nat.le_refl _))
    have HS6 := Lib.hid hb6.size
    have HB6 := Lib.hid (HB5.out.trans (hb6.mono HB5.out.size))
    clear hb6 HK5 HB5
    go_wp2_with fail
    refine (HT'.out _ HB6.out).mono ?_
    rintro e w7 ⟨A3, cap3, rfl, hm⟩
    have hm7 := kids_of_made hm
    have HK7 := Lib.hid (HK6.out.below hm7.2 HS6.out)
    have HS7 := Lib.hid (Nat.le_trans HS6.out hm7.2.size)
    have HM7 := Lib.hid hm7.1
    have HB7 := Lib.hid (HB6.out.trans (hm7.2.mono HB6.out.size))
    clear hm hm7 HB6 HK6
    go_wp2_with fail
    refine (HE.out _ _ _ _ _ _ _ _ _ HK7.out HS7.out HM7.out (Nat.le_refl _)).mono ?_
    rintro e w8 ⟨rfl, hb8⟩
    have HB8 := Lib.hid (HB7.out.trans (hb8.mono HB7.out.size))
    clear hb8
    go_wp2_with fail
    go_ret
    exact ⟨rfl, HB8.out⟩
end Go.Proofs.YtejflpmecpmhkaaDoor

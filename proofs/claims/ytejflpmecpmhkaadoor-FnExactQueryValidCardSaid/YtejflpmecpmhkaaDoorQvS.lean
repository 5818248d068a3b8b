/- Queries: the model's QueryValid, l6Vars, QueryVars. Condition: the terms lie in memory. -/
import Derived.Test.YtejflpmecpmhkaaDoorProg
import Derived.Test.YtejflpmecpmhkaaDoorCvS
import Derived.Test.YtejflpmecpmhkaaDoorVars
namespace Go.Proofs.YtejflpmecpmhkaaDoor
open Go.RowKit

set_option maxRecDepth 100000 in
set_option maxHeartbeats 2000000 in
/-- spec.QueryValid. -/
theorem specQV_any (f : Fr) (A : Option Addr) (cap lo hi : Nat) (w : World) (hk : KidsAt w lo hi f A cap) (hh : hi ≤ w.heap.size) (hnd : nodes f ≤ 1048576) :
    Calls Tryd.prog 8 #[.slice A f.len cap] w fun e w' => e = .returned (.bool (goalsV f)) ∧ Below w.heap.size w w' := by
  have hl : f.len ≤ 1048576 := by have := len_le_nodes f; omega
  have HE : Hid (goalsV f = (decide (f.len ≤ 6) && allG f)) := Lib.hid rfl
  have HKB := Lib.hid hk
  have HHI := Lib.hid hh
  have HND := Lib.hid hnd
  clear hk hh hnd
  generalize hn : f.len = len at *
  have HN := Lib.hid hn
  clear hn
  go_enter Tryd.func8, Tryd.ntmps8
  go_wp2_with fail
  go_loopw [3] (fun i wr => ∃ (j : Nat), j ≤ len ∧ j ≤ 7 ∧ i = .int .i64 j ∧ allG (f.drop j) = allG f ∧ Below w.heap.size w wr) (fun i _ => 8 - (intOf i).toNat)
  case atStart => exact ⟨0, Nat.zero_le _, by omega, rfl, rfl, Below.refl _ _⟩
  case round =>
    obtain ⟨j, hj, hj7, rfl, hall, hbw⟩ := hrel
    have HBW := Lib.hid hbw
    have HA := Lib.hid hall
    clear hall
    by_cases hlt : j < len
    · by_cases h6 : j ≤ 6
      · obtain ⟨kk, nn, s', kids', hd⟩ := Fr.drop_cons j f (by rw [HN.out]; exact hlt)
        obtain ⟨b, o, rfl, hlb, hbb, hrow⟩ := HKB.out.2.2 (by rw [HN.out]; omega)
        obtain ⟨hfit, A', cp, c0, c1, c2, c3, hkid⟩ := hrow.elem hd
        have hlo : (⟨b, o, none⟩ : Addr).block < w.heap.size := Nat.lt_of_lt_of_le hbb HHI.out
        have k0 := (hbw.cell (p := ⟨b, o + j * 4, none⟩) hlo).trans c0
        have k1 := (hbw.cell (p := ⟨b, o + j * 4 + 1, none⟩) hlo).trans c1
        have k2 := (hbw.cell (p := ⟨b, o + j * 4 + 2, none⟩) hlo).trans c2
        have k3 := (hbw.cell (p := ⟨b, o + j * 4 + 3, none⟩) hlo).trans c3
        have C3 := specGoal_any kk nn s' kids' A' cp lo hi wr (hkid.below hbw HHI.out) (Nat.le_trans HHI.out hbw.size) hfit (Nat.le_trans (nodes_drop_elem j f hd) HND.out)
        have hA2 := HA.out
        rw [hd] at hA2
        have hA3 : (goalV kk nn s' kids' && allG (f.drop (j + 1))) = allG f := hA2
        generalize goalV kk nn s' kids' = v at *
        have HA3 := Lib.hid hA3
        have H3 := Lib.hid C3
        clear C3 c0 c1 c2 c3 hkid hrow hfit hd hlo hA2 hA3 hbw
        cases v
        · have HV : Hid (goalsV f = false) := Lib.hid (by rw [HE.out, ← HA3.out]; simp)
          go_wp2_with fail
          refine H3.out.mono ?_
          rintro e w3 ⟨rfl, hb3⟩
          have HB3 := Lib.hid (HBW.out.trans (hb3.mono HBW.out.size))
          clear hb3
          go_wp2_with fail
          go_ret
          rw [HV.out]; exact ⟨rfl, HB3.out⟩
        · have HA4 : Hid (allG (f.drop (j + 1)) = allG f) := Lib.hid (by rw [← HA3.out]; simp)
          go_wp2_with fail
          refine H3.out.mono ?_
          rintro e w3 ⟨rfl, hb3⟩
          have HB3 := Lib.hid (HBW.out.trans (hb3.mono HBW.out.size))
          clear hb3
          go_wp2_with fail
          go_roundw
          case rel => exact ⟨j + 1, by omega, by omega, by go_num, HA4.out, HB3.out⟩
          case measure => simp [intOf]; omega
      · have hlen6 : 6 < len := by omega
        have HV : Hid (goalsV f = false) := Lib.hid (by rw [HE.out, decide_eq_false (by omega)]; simp)
        have d6 : decide ((len : Int) ≤ 6) = false := decide_eq_false (by omega)
        have e6 : decide ((j : Int) ≤ 6) = false := decide_eq_false (by omega)
        clear hbw
        go_wp2_with fail
        go_ret
        rw [HV.out]; exact ⟨rfl, HBW.out⟩
    · obtain rfl : j = len := by omega
      clear hbw
      have HAL : Hid (allG f = true) := Lib.hid (by
        have h1 := Fr.drop_len f
        rw [HN.out] at h1
        rw [← HA.out, h1]; rfl)
      by_cases h6 : j ≤ 6
      · have HV : Hid (goalsV f = true) := Lib.hid (by rw [HE.out, HAL.out, decide_eq_true h6]; rfl)
        have d6 : decide ((j : Int) ≤ 6) = true := decide_eq_true (by omega)
        go_wp2_with fail
        go_ret
        rw [HV.out]; exact ⟨rfl, HBW.out⟩
      · have HV : Hid (goalsV f = false) := Lib.hid (by rw [HE.out, decide_eq_false h6]; rfl)
        have d6 : decide ((j : Int) ≤ 6) = false := decide_eq_false (by omega)
        go_wp2_with fail
        go_ret
        rw [HV.out]; exact ⟨rfl, HBW.out⟩

/-- The variables of a query's goals. -/
def qvF (f : Fr) : List Int := if goalsV f = true then varsF [] f else []
theorem varsF_drop {f rest : Fr} {j : Nat} {k n : Int} {s : ByteArray} {kids : Fr} (hd : f.drop j = .cons k n s kids rest) (acc : List Int) : varsF acc (f.drop j) = varsF (varsT acc k n kids) rest := by
  rw [hd]
  rfl

set_option maxRecDepth 100000 in
set_option maxHeartbeats 2000000 in
/-- spec.l6Vars. -/
theorem l6Vars_any (f : Fr) (A : Option Addr) (cap lo hi : Nat) (w : World) (hk : KidsAt w lo hi f A cap) (hh : hi ≤ w.heap.size) (hnd : nodes f ≤ 1048576) :
    Calls Tryd.prog 35 #[.slice A f.len cap] w fun e w' => ∃ v, e = .returned v ∧ OwnI w' w.heap.size v (varsF [] f) ∧ Below w.heap.size w w' := by
  have hl : f.len ≤ 1048576 := by have := len_le_nodes f; omega
  have HKB := Lib.hid hk
  have HHI := Lib.hid hh
  have HND := Lib.hid hnd
  have hst : OwnI (w.alloc (.cells #[] 3)) w.heap.size (.slice (some ⟨w.heap.size, 0, none⟩) 0 0) [] ∧ Below w.heap.size w (w.alloc (.cells #[] 3)) := ⟨OwnI.empty w (Nat.le_refl _), (Below.refl _ _).alloc (Nat.le_refl _) _⟩
  have HST := Lib.hid hst
  clear hk hh hnd hst
  generalize hn : f.len = len at *
  have HN := Lib.hid hn
  clear hn
  go_enter Tryd.func35, Tryd.ntmps35
  go_wp2_with fail
  go_loopw [3, 4] (fun o i wr => ∃ (j : Nat) (acc : List Int), j ≤ len ∧ i = .int .i64 j ∧ OwnI wr w.heap.size o acc ∧ acc.length + nodes (f.drop j) ≤ nodes f ∧ varsF acc (f.drop j) = varsF [] f ∧ Below w.heap.size w wr) (fun _ i _ => len - (intOf i).toNat)
  case atStart => exact ⟨0, [], Nat.zero_le _, rfl, HST.out.1, by simp [Fr.drop], rfl, HST.out.2⟩
  case round =>
    obtain ⟨j, acc, hj, rfl, ho, hna, hva, hbw⟩ := hrel
    have HBW := Lib.hid hbw
    have HO := Lib.hid ho
    have HNA := Lib.hid hna
    have HVA := Lib.hid hva
    obtain ⟨A0, cap0, hform, hc0, hm0, _⟩ := ho.read
    subst hform
    clear hna hva ho
    by_cases hlt : j < len
    · obtain ⟨kk, nn, s', kids', hd⟩ := Fr.drop_cons j f (by rw [HN.out]; exact hlt)
      obtain ⟨b, o, rfl, hlb, hbb, hrow⟩ := HKB.out.2.2 (by rw [HN.out]; omega)
      obtain ⟨hfit, A', cp, c0, c1, c2, c3, hkid⟩ := hrow.elem hd
      have hlo : (⟨b, o, none⟩ : Addr).block < w.heap.size := Nat.lt_of_lt_of_le hbb HHI.out
      have k0 := (hbw.cell (p := ⟨b, o + j * 4, none⟩) hlo).trans c0
      have k1 := (hbw.cell (p := ⟨b, o + j * 4 + 1, none⟩) hlo).trans c1
      have k2 := (hbw.cell (p := ⟨b, o + j * 4 + 2, none⟩) hlo).trans c2
      have k3 := (hbw.cell (p := ⟨b, o + j * 4 + 3, none⟩) hlo).trans c3
      have hnd2 : acc.length + nodes kids' ≤ 2097152 ∧ (varsT acc kk nn kids').length + nodes (f.drop (j + 1)) ≤ nodes f := by
        have h1 := HNA.out
        have h2 := HND.out
        rw [hd] at h1
        have h4 := varsT_len acc kk nn kids'
        simp only [nodes] at h1
        omega
      have C3 := va_all kids'.size s' kids' (Nat.le_refl _) kk nn A' cp lo hi w.heap.size acc (.slice A0 acc.length cap0) wr (hkid.below hbw HHI.out) HHI.out hbw.size HO.out hnd2.1
      have HV2 : Hid (varsF (varsT acc kk nn kids') (f.drop (j + 1)) = varsF [] f) := Lib.hid (by rw [← varsF_drop hd]; exact HVA.out)
      have hlo2 := HO.out.lt
      have HLO := Lib.hid hlo2
      have HN2 := Lib.hid hnd2.2
      have H3 := Lib.hid C3
      clear C3 c0 c1 c2 c3 hkid hrow hfit hd hlo hnd2 hbw hlo2
      go_wp2_with fail
      refine H3.out.mono ?_
      rintro e w3 ⟨v', rfl, ho3, hw3, hn3⟩
      have hb3 : Below w.heap.size w w3 := HBW.out.trans (hw3.below HBW.out.size fun x hx => (HLO.out x hx).1)
      have HB3 := Lib.hid hb3
      have HO3 := Lib.hid ho3
      obtain ⟨A3, cap3, hform, _⟩ := ho3.read
      subst hform
      clear hb3 ho3 hw3 hn3
      go_wp2_with fail
      go_roundw
      case rel => exact ⟨j + 1, _, by omega, by go_num, HO3.out, HN2.out, HV2.out, HB3.out⟩
      case measure => simp [intOf]; omega
    · obtain rfl : j = len := by omega
      have HAL : Hid (acc = varsF [] f) := Lib.hid (by
        have h1 := Fr.drop_len f
        rw [HN.out] at h1
        rw [← HVA.out, h1]; rfl)
      clear hbw
      go_wp2_with fail
      go_ret
      refine ⟨_, rfl, ?_, HBW.out⟩
      rw [← HAL.out]
      exact HO.out

set_option maxRecDepth 100000 in
set_option maxHeartbeats 2000000 in
/-- spec.QueryVars. -/
theorem specQVars_any (f : Fr) (A : Option Addr) (cap lo hi : Nat) (w : World) (hk : KidsAt w lo hi f A cap) (hh : hi ≤ w.heap.size) (hnd : nodes f ≤ 1048576) :
    Calls Tryd.prog 12 #[.slice A f.len cap] w fun e w' => ∃ v, e = .returned v ∧ OwnI w' w.heap.size v (qvF f) ∧ Below w.heap.size w w' := by
  have C1 := specQV_any f A cap lo hi w hk hh hnd
  have C2 := fun w1 (hb : Below w.heap.size w w1) => l6Vars_any f A cap lo hi w1 (hk.below hb hh) (Nat.le_trans hh hb.size) hnd
  have HE : Hid (qvF f = if goalsV f = true then varsF [] f else []) := Lib.hid rfl
  generalize goalsV f = v at *
  have H1 := Lib.hid C1
  have H2 := Lib.hid C2
  clear C1 C2 hk hh hnd
  generalize f.len = len at *
  cases v
  · have HV : Hid (qvF f = []) := Lib.hid (by rw [HE.out]; rfl)
    go_enter Tryd.func12, Tryd.ntmps12
    go_wp2_with fail
    refine H1.out.mono ?_
    rintro e w2 ⟨rfl, hb2⟩
    have HF : Hid (OwnI (w2.alloc (.cells #[] 3)) w.heap.size (.slice (some ⟨w2.heap.size, 0, none⟩) 0 0) [] ∧ Below w.heap.size w (w2.alloc (.cells #[] 3))) := Lib.hid ⟨OwnI.empty w2 hb2.size, hb2.alloc hb2.size _⟩
    clear hb2
    go_wp2_with fail
    go_ret
    rw [HV.out]
    exact ⟨_, rfl, HF.out⟩
  · have HV : Hid (qvF f = varsF [] f) := Lib.hid (by rw [HE.out]; rfl)
    go_enter Tryd.func12, Tryd.ntmps12
    go_wp2_with fail
    refine H1.out.mono ?_
    rintro e w2 ⟨rfl, hb2⟩
    have HB2 := Lib.hid hb2
    clear hb2
    go_wp2_with fail
    refine (H2.out w2 HB2.out).mono ?_
    rintro e w3 ⟨v, rfl, ho, hb3⟩
    have HF : Hid (OwnI w3 w.heap.size v (varsF [] f) ∧ Below w.heap.size w w3) := Lib.hid ⟨ho.mono HB2.out.size, HB2.out.trans (hb3.mono HB2.out.size)⟩
    obtain ⟨A3, cap3, hform, _⟩ := ho.read
    subst hform
    clear ho hb3
    go_wp2_with fail
    go_ret
    rw [HV.out]
    exact ⟨_, rfl, HF.out⟩
end Go.Proofs.YtejflpmecpmhkaaDoor

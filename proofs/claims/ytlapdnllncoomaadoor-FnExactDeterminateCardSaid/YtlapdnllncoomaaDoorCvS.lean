/- Clauses and programs: what is valid, and the model's ClauseValid, ProgramValid. Condition: the clauses lie in memory. -/
import Derived.Test.YtlapdnllncoomaaDoorProg
import Derived.Test.YtlapdnllncoomaaDoorGoI
import Derived.Test.YtlapdnllncoomaaDoorAll
import Derived.Test.YtlapdnllncoomaaDoorClZ
namespace Go.Proofs.YtlapdnllncoomaaDoor
open Go.RowKit

theorem nodes_wt_le (f : Fr) : nodes f ≤ f.len + wt f := by
  induction f with
  | nil => exact Nat.le_refl _
  | cons k n s kids rest h1 h2 => simp only [nodes, Fr.len, wt]; omega
def allG : Fr → Bool
  | .nil => true
  | .cons k n s kids rest => goalV k n s kids && allG rest
def goalsV (f : Fr) : Bool := decide (f.len ≤ 6) && allG f
def clauseV (c : Cl) : Bool := plainV c.k c.n c.s c.kids && goalsV c.body
def allC : List Cl → Bool
  | [] => true
  | c :: cs => clauseV c && allC cs
def progV (cs : List Cl) : Bool := decide (cs.length ≤ 20) && allC cs

theorem wtC_nodes (c : Cl) : nodes c.kids + nodes c.body ≤ wtC c := by
  have h1 := nodes_wt_le c.kids
  have h2 := nodes_wt_le c.body
  unfold wtC
  omega

set_option maxRecDepth 100000 in
set_option maxHeartbeats 2000000 in
/-- spec.ClauseValid. -/
theorem specCV_any (c : Cl) (A B : Option Addr) (cap capB lo hi : Nat) (w : World) (hk : KidsAt w lo hi c.kids A cap) (hkb : KidsAt w lo hi c.body B capB) (hh : hi ≤ w.heap.size) (hf : Fits c.k c.n c.s) (hnd : nodes c.kids ≤ 1048576) (hndb : nodes c.body ≤ 1048576) :
    Calls Tryd.prog 60 #[.agg #[.int .i64 c.k, .int .i64 c.n, .string c.s, .slice A c.kids.len cap, .slice B c.body.len capB]] w fun e w' => e = .returned (.bool (clauseV c)) ∧ Below w.heap.size w w' := by
  obtain ⟨k, n, s, kids, f⟩ := c
  simp only at *
  have hl : f.len ≤ 1048576 := by have := len_le_nodes f; omega
  have hb0 : Below w.heap.size w (w.alloc (.cells #[.int .i64 k, .int .i64 n, .string s, .slice A kids.len cap, .slice B f.len capB] 68)) := (Below.refl _ _).alloc (Nat.le_refl _) _
  have hq0 := Blk.new w 68 #[.int .i64 k, .int .i64 n, .string s, .slice A kids.len cap, .slice B f.len capB]
  have C1 := fun w1 (hb : Below w.heap.size w w1) => specValid_any k n s kids A cap lo hi w1 (hk.below hb hh) (Nat.le_trans hh hb.size) hf hnd
  have C2 := fun w1 => plain_any k n s A kids.len cap w1 hf.2.2
  have HE : Hid (clauseV ⟨k, n, s, kids, f⟩ = ((validT k n s kids && plainK k s kids.len) && (decide (f.len ≤ 6) && allG f))) := Lib.hid rfl
  generalize validT k n s kids = v1 at *
  generalize plainK k s kids.len = v2 at *
  have HKB := Lib.hid hkb
  have HHI := Lib.hid hh
  have HND := Lib.hid hndb
  have H1 := Lib.hid C1
  have H2 := Lib.hid C2
  have HB0 := Lib.hid hb0
  have HQ0 := Lib.hid hq0
  clear C1 C2 hk hkb hh hf hnd hndb hb0 hq0
  generalize kids.len = kl at *
  generalize hn : f.len = len at *
  have HN := Lib.hid hn
  clear hn
  go_enter Tryd.func60, Tryd.ntmps60
  go_wp2_with fail
  go_loopw [3] (fun i wr => ∃ (j : Nat), j ≤ len ∧ j ≤ 7 ∧ i = .int .i64 j ∧ allG (f.drop j) = allG f ∧ Below (w.alloc (.cells #[.int .i64 k, .int .i64 n, .string s, .slice A kl cap, .slice B len capB] 68)).heap.size (w.alloc (.cells #[.int .i64 k, .int .i64 n, .string s, .slice A kl cap, .slice B len capB] 68)) wr) (fun i _ => 8 - (intOf i).toNat)
  case atStart => exact ⟨0, Nat.zero_le _, by omega, rfl, rfl, Below.refl _ _⟩
  case round =>
    obtain ⟨j, hj, hj7, rfl, hall, hb⟩ := hrel
    have hq := HQ0.out.below hb HQ0.out.lt
    have a0 := hq.cell 0
    have a1 := hq.cell 1
    have a2 := hq.cell 2
    have a3 := hq.cell 3
    have a4 := hq.cell 4
    simp only [List.getElem?_toArray, List.getElem?_cons_zero, List.getElem?_cons_succ] at a0 a1 a2 a3 a4
    have hbw := HB0.out.trans (hb.mono HB0.out.size)
    have HB := Lib.hid hb
    have HBW := Lib.hid hbw
    have HA := Lib.hid hall
    have HQ := Lib.hid hq
    clear hb hall hq
    by_cases hlt : j < len
    · by_cases h6 : j ≤ 6
      · obtain ⟨kk, nn, s', kids', hd⟩ := Fr.drop_cons j f (by rw [HN.out]; exact hlt)
        obtain ⟨b, o, rfl, hlb, hbb, hrow⟩ := HKB.out.2.2 (by rw [HN.out]; omega)
        obtain ⟨hfit, A', cp, c0, c1, c2, c3, hkid⟩ := hrow.elem hd
        have hlo : (⟨b, o, none⟩ : Addr).block < w.heap.size := Nat.lt_of_lt_of_le hbb HHI.out
        have k0 := (hbw.cell (p := ⟨b, o + j * 4, none⟩) hlo).trans c0
        have k1 := (hbw.cell (p := ⟨b, o + j * 4 + 1, none⟩) hlo).trans c1
        have k2 := (hbw.cell (p := ⟨b, o + j * 4 + 2, none⟩) hlo).trans c2
        have k3 := (hbw.cell (p := ⟨b, o + j * 4 + 3, none⟩) hlo).trans c3
        have C3 := specGoal_any kk nn s' kids' A' cp lo hi wr (hkid.below hbw HHI.out) (Nat.le_trans HHI.out hbw.size) hfit (Nat.le_trans (nodes_drop_elem j f hd) HND.out)
        have hA2 := HA.out
        rw [hd] at hA2
        have hA3 : (goalV kk nn s' kids' && allG (f.drop (j + 1))) = allG f := hA2
        generalize goalV kk nn s' kids' = v at *
        have HA3 := Lib.hid hA3
        have H3 := Lib.hid C3
        clear C3 c0 c1 c2 c3 hkid hrow hfit hd hlo hA2 hA3 hbw
        cases v
        · have HV : Hid (clauseV ⟨k, n, s, kids, f⟩ = false) := Lib.hid (by rw [HE.out, ← HA3.out]; simp)
          go_wp2_with fail
          refine H3.out.mono ?_
          rintro e w3 ⟨rfl, hb3⟩
          have HB3 := Lib.hid (HBW.out.trans (hb3.mono HBW.out.size))
          clear hb3
          go_wp2_with fail
          go_ret
          rw [HV.out]; exact ⟨rfl, HB3.out⟩
        · have HA4 : Hid (allG (f.drop (j + 1)) = allG f) := Lib.hid (by rw [← HA3.out]; simp)
          go_wp2_with fail
          refine H3.out.mono ?_
          rintro e w3 ⟨rfl, hb3⟩
          have HB3 := Lib.hid (HB.out.trans (hb3.mono HB.out.size))
          clear hb3
          go_wp2_with fail
          go_roundw
          case rel => exact ⟨j + 1, by omega, by omega, by go_num, HA4.out, HB3.out⟩
          case measure => simp [intOf]; omega
      · have hlen6 : 6 < len := by omega
        have HV : Hid (clauseV ⟨k, n, s, kids, f⟩ = false) := Lib.hid (by rw [HE.out, decide_eq_false (by omega)]; simp)
        have d6 : decide ((len : Int) ≤ 6) = false := decide_eq_false (by omega)
        have e6 : decide ((j : Int) ≤ 6) = false := decide_eq_false (by omega)
        clear hbw
        go_wp2_with fail
        go_ret
        rw [HV.out]; exact ⟨rfl, HBW.out⟩
    · obtain rfl : j = len := by omega
      clear hbw
      by_cases h6 : j ≤ 6
      · have HAL : Hid (allG f = true) := Lib.hid (by
          have h1 := Fr.drop_len f
          rw [HN.out] at h1
          rw [← HA.out, h1]; rfl)
        have d6 : decide ((j : Int) ≤ 6) = true := decide_eq_true (by omega)
        cases v1
        · have HV : Hid (clauseV ⟨k, n, s, kids, f⟩ = false) := Lib.hid (by rw [HE.out]; rfl)
          go_wp2_with fail
          refine (H1.out _ HBW.out).mono ?_
          rintro e w3 ⟨rfl, hb3⟩
          have HB3 := Lib.hid (HBW.out.trans (hb3.mono HBW.out.size))
          clear hb3
          go_wp2_with fail
          go_ret
          rw [HV.out]; exact ⟨rfl, HB3.out⟩
        · have HV : Hid (clauseV ⟨k, n, s, kids, f⟩ = v2) := Lib.hid (by rw [HE.out, HAL.out, decide_eq_true h6]; simp)
          go_wp2_with fail
          refine (H1.out _ HBW.out).mono ?_
          rintro e w3 ⟨rfl, hb3⟩
          have hq3 := HQ.out.below hb3 HQ.out.lt
          have HB3 := Lib.hid (HBW.out.trans (hb3.mono HBW.out.size))
          clear hb3 a0 a1 a2 a3 a4
          have a0 := hq3.cell 0
          have a1 := hq3.cell 1
          have a2 := hq3.cell 2
          have a3 := hq3.cell 3
          simp only [List.getElem?_toArray, List.getElem?_cons_zero, List.getElem?_cons_succ] at a0 a1 a2 a3
          clear hq3
          go_wp2_with fail
          refine (H2.out _).mono ?_
          rintro e w4 ⟨rfl, hb4⟩
          have HB4 := Lib.hid (HB3.out.trans (hb4.mono HB3.out.size))
          clear hb4
          go_wp2_with fail
          go_ret
          rw [HV.out]; exact ⟨rfl, HB4.out⟩
      · have HV : Hid (clauseV ⟨k, n, s, kids, f⟩ = false) := Lib.hid (by rw [HE.out, decide_eq_false h6]; simp)
        have d6 : decide ((j : Int) ≤ 6) = false := decide_eq_false (by omega)
        go_wp2_with fail
        go_ret
        rw [HV.out]; exact ⟨rfl, HBW.out⟩

set_option maxRecDepth 100000 in
set_option maxHeartbeats 2000000 in
/-- spec.ProgramValid. -/
theorem specPV_any (cs : List Cl) (A : Option Addr) (cap lo hi : Nat) (w : World) (hk : ClS w lo hi cs A cap) (hh : hi ≤ w.heap.size) (hnd : cs.length + wtCs cs ≤ 1048576) :
    Calls Tryd.prog 39 #[.slice A cs.length cap] w fun e w' => e = .returned (.bool (progV cs)) ∧ Below w.heap.size w w' := by
  have hl : cs.length ≤ 1048576 := by omega
  have HE : Hid (progV cs = (decide (cs.length ≤ 20) && allC cs)) := Lib.hid rfl
  have HK := Lib.hid hk
  have HHI := Lib.hid hh
  have HND := Lib.hid hnd
  clear hk hh hnd
  generalize hn : cs.length = len at *
  have HN := Lib.hid hn
  clear hn
  go_enter Tryd.func39, Tryd.ntmps39
  go_wp2_with fail
  go_loopw [3] (fun i wr => ∃ (j : Nat), j ≤ len ∧ j ≤ 21 ∧ i = .int .i64 j ∧ allC (cs.drop j) = allC cs ∧ Below w.heap.size w wr) (fun i _ => 22 - (intOf i).toNat)
  case atStart => exact ⟨0, Nat.zero_le _, by omega, rfl, rfl, Below.refl _ _⟩
  case round =>
    obtain ⟨j, hj, hj7, rfl, hall, hbw⟩ := hrel
    have HBW := Lib.hid hbw
    have HA := Lib.hid hall
    clear hall
    by_cases hlt : j < len
    · by_cases h6 : j ≤ 20
      · obtain ⟨c, hd⟩ := drop_cl cs j (by rw [HN.out]; exact hlt)
        obtain ⟨b, o, rfl, hlb, hbb, hrow⟩ := HK.out.2.2 (by rw [HN.out]; omega)
        obtain ⟨hfit, A', cap', B', capB', c0, c1, c2, c3, c4, hkid, hbd⟩ := ClAt.elem j cs b o hrow hd
        have hlo : (⟨b, o, none⟩ : Addr).block < w.heap.size := Nat.lt_of_lt_of_le hbb HHI.out
        have k0 := (hbw.cell (p := ⟨b, o + j * 5, none⟩) hlo).trans c0
        have k1 := (hbw.cell (p := ⟨b, o + j * 5 + 1, none⟩) hlo).trans c1
        have k2 := (hbw.cell (p := ⟨b, o + j * 5 + 2, none⟩) hlo).trans c2
        have k3 := (hbw.cell (p := ⟨b, o + j * 5 + 3, none⟩) hlo).trans c3
        have k4 := (hbw.cell (p := ⟨b, o + j * 5 + 4, none⟩) hlo).trans c4
        have hwe := wtC_le cs j hd
        have hw1 := wtC_nodes c
        have C3 := specCV_any c A' B' cap' capB' lo hi wr (hkid.below hbw HHI.out) (hbd.below hbw HHI.out) (Nat.le_trans HHI.out hbw.size) hfit (by have := HND.out; omega) (by have := HND.out; omega)
        have hA2 := HA.out
        rw [hd] at hA2
        have hA3 : (clauseV c && allC (cs.drop (j + 1))) = allC cs := hA2
        generalize clauseV c = v at *
        have HA3 := Lib.hid hA3
        have H3 := Lib.hid C3
        clear C3 c0 c1 c2 c3 c4 hkid hbd hrow hfit hd hlo hA2 hA3 hbw hwe hw1
        obtain ⟨ck, cn, csx, ckids, cbody⟩ := c
        simp only at *
        cases v
        · have HV : Hid (progV cs = false) := Lib.hid (by rw [HE.out, ← HA3.out]; simp)
          go_wp2_with fail
          refine H3.out.mono ?_
          rintro e w3 ⟨rfl, hb3⟩
          have HB3 := Lib.hid (HBW.out.trans (hb3.mono HBW.out.size))
          clear hb3
          go_wp2_with fail
          go_ret
          rw [HV.out]; exact ⟨rfl, HB3.out⟩
        · have HA4 : Hid (allC (cs.drop (j + 1)) = allC cs) := Lib.hid (by rw [← HA3.out]; simp)
          go_wp2_with fail
          refine H3.out.mono ?_
          rintro e w3 ⟨rfl, hb3⟩
          have HB3 := Lib.hid (HBW.out.trans (hb3.mono HBW.out.size))
          clear hb3
          go_wp2_with fail
          go_roundw
          case rel => exact ⟨j + 1, by omega, by omega, by go_num, HA4.out, HB3.out⟩
          case measure => simp [intOf]; omega
      · have HV : Hid (progV cs = false) := Lib.hid (by rw [HE.out, decide_eq_false (by omega)]; simp)
        have d6 : decide ((len : Int) ≤ 20) = false := decide_eq_false (by omega)
        have e6 : decide ((j : Int) ≤ 20) = false := decide_eq_false (by omega)
        clear hbw
        go_wp2_with fail
        go_ret
        rw [HV.out]; exact ⟨rfl, HBW.out⟩
    · obtain rfl : j = len := by omega
      clear hbw
      have HAL : Hid (allC cs = true) := Lib.hid (by
        rw [← HA.out, List.drop_eq_nil_of_le (by rw [HN.out]; exact Nat.le_refl _)]; rfl)
      by_cases h6 : j ≤ 20
      · have HV : Hid (progV cs = true) := Lib.hid (by rw [HE.out, HAL.out, decide_eq_true h6]; rfl)
        have d6 : decide ((j : Int) ≤ 20) = true := decide_eq_true (by omega)
        go_wp2_with fail
        go_ret
        rw [HV.out]; exact ⟨rfl, HBW.out⟩
      · have HV : Hid (progV cs = false) := Lib.hid (by rw [HE.out, decide_eq_false h6]; rfl)
        have d6 : decide ((j : Int) ≤ 20) = false := decide_eq_false (by omega)
        go_wp2_with fail
        go_ret
        rw [HV.out]; exact ⟨rfl, HBW.out⟩
end Go.Proofs.YtlapdnllncoomaaDoor

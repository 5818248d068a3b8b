/- spec.DecodeAll, DecoderValid, FeedDecoder. Condition: the bytes lie in memory. -/
import Derived.Test.YtdpmjpjbcpdgnaaDoorProg
import Derived.Test.YtdpmjpjbcpdgnaaDoorFzT
namespace Go.Proofs.YtdpmjpjbcpdgnaaDoor
open Go.RowKit

set_option maxRecDepth 100000 in
set_option maxHeartbeats 2000000 in
/-- spec.DecodeAll. -/
theorem specDA_any (A : Option Addr) (cap : Nat) (l : List UInt8) (w : World) (ha : AtU w w.heap.size A l) (hc : l.length ≤ cap) (hm : cap ≤ maxLen) (hn : A = none → l.length = 0 ∧ cap = 0) (hz : l.length ≤ 10000000) :
    Calls Tryd.prog 18 #[.slice A l.length cap] w fun e w' => DaR l w e w' := by
  have CT := take_any A cap l w ha hc hm hn (by omega)
  have HCT := Lib.hid CT
  clear CT ha hc hm hn hz
  have HDF : Hid (daF l = if daB l then (fz.tk l).1 else []) := Lib.hid rfl
  have HDB : Hid (daB l = (!(fz.tk l).2.2 && (fz.tk l).2.1.isEmpty)) := Lib.hid rfl
  go_enter Tryd.func18, Tryd.ntmps18
  go_wp2_with fail
  refine HCT.out.mono ?_
  rintro e w2 ⟨v, A', cap', rfl, how, hat, hc1, hc2, _, hb2⟩
  have HO := Lib.hid how
  have HB2 := Lib.hid hb2
  have HNEW := Lib.hid (ownG_empty w2)
  have hc3 : cap' ≤ 9223372036854775807 := hc2
  clear how hat hb2 hc2
  cases hbr : (fz.tk l).2.2 with
  | true =>
    have HV : Hid (daB l = false) := Lib.hid (by rw [HDB.out, hbr]; rfl)
    clear hbr
    go_wp2_with fail
    go_ret2
    unfold DaR
    rw [HDF.out, HV.out]
    exact ⟨_, rfl, own_mono HNEW.out HB2.out.size, HB2.out.alloc HB2.out.size _⟩
  | false =>
    cases hr : (fz.tk l).2.1 with
    | nil =>
      have HV : Hid (daB l = true) := Lib.hid (by rw [HDB.out, hbr, hr]; rfl)
      rw [hr] at hc1
      clear hbr hr
      go_wp2_with fail
      go_ret2
      unfold DaR
      rw [HDF.out, HV.out]
      exact ⟨_, rfl, HO.out, HB2.out⟩
    | cons a t =>
      have HV : Hid (daB l = false) := Lib.hid (by rw [HDB.out, hbr, hr]; rfl)
      rw [hr] at hc1
      have t0 : (0 : Int) < (t.length : Int) + 1 := by omega
      have t1 : (t.length : Int) + 1 > 0 := by omega
      clear hbr hr
      go_wp2_with fail
      go_ret2
      unfold DaR
      rw [HDF.out, HV.out]
      exact ⟨_, rfl, own_mono HNEW.out HB2.out.size, HB2.out.alloc HB2.out.size _⟩

set_option maxRecDepth 100000 in
set_option maxHeartbeats 2000000 in
/-- spec.DecoderValid. -/
theorem specDV_any (A : Option Addr) (cap : Nat) (l : List UInt8) (br : Bool) (w : World) (ha : AtU w w.heap.size A l) (hc : l.length ≤ cap) (hm : cap ≤ maxLen) (hz : l.length ≤ 10000000) :
    Calls Tryd.prog 32 #[.agg #[.slice A l.length cap, .bool br]] w fun e w' => e = .returned (.bool (dvB l br)) ∧ Below w.heap.size w w' := by
  have hb1 := (Below.refl w.heap.size w).alloc (Nat.le_refl _) (.cells #[.slice A l.length cap, .bool br] 38)
  have hq1 := Blk.new w 38 #[.slice A l.length cap, .bool br]
  have HB1 := Lib.hid hb1
  cases br with
  | true =>
    have HV : Hid (dvB l true = ((l.length : Int) == 0)) := Lib.hid (by
      unfold dvB
      cases l with
      | nil => rfl
      | cons a t => simp; omega)
    clear hb1 hq1 ha hm hz
    go_enter Tryd.func32, Tryd.ntmps32
    go_wp2_with fail
    go_ret
    exact ⟨by rw [HV.out]; rfl, HB1.out⟩
  | false =>
    have CN := next_any A cap l (w.alloc (.cells #[.slice A l.length cap, .bool false] 38)) ((ha.below hb1 (Nat.le_refl _)).more hb1.size) hc hm (by omega)
    have hv : dvB l false = (match fz.nx l with | .need => true | _ => false) := rfl
    clear hb1 hq1 ha hm hz
    cases hnx : fz.nx l with
    | need =>
      rw [hnx] at CN hv
      simp only [nxV] at CN
      have HCN := Lib.hid CN
      have HV := Lib.hid hv
      clear CN hnx hv
      go_enter Tryd.func32, Tryd.ntmps32
      go_wp2_with fail
      refine HCN.out.mono ?_
      rintro e w2 ⟨rfl, hb2⟩
      have HB2 := Lib.hid (HB1.out.trans (hb2.mono HB1.out.size))
      clear hb2
      go_wp2_with fail
      go_ret
      exact ⟨by rw [HV.out]; rfl, HB2.out.alloc HB2.out.size _⟩
    | bad =>
      rw [hnx] at CN hv
      simp only [nxV] at CN
      have HCN := Lib.hid CN
      have HV := Lib.hid hv
      clear CN hnx hv
      go_enter Tryd.func32, Tryd.ntmps32
      go_wp2_with fail
      refine HCN.out.mono ?_
      rintro e w2 ⟨rfl, hb2⟩
      have HB2 := Lib.hid (HB1.out.trans (hb2.mono HB1.out.size))
      clear hb2
      go_wp2_with fail
      go_ret
      exact ⟨by rw [HV.out]; rfl, HB2.out.alloc HB2.out.size _⟩
    | got f n =>
      have hn3 := (fz.nx_got_facts hnx).2.1
      rw [hnx] at CN hv
      simp only [nxV] at CN
      have HCN := Lib.hid CN
      have HV := Lib.hid hv
      have t0 : ((n : Int) == 0) = false := by rw [beq_eq_false_iff_ne]; omega
      clear CN hnx hv hn3
      obtain ⟨ft, fss⟩ := f
      go_enter Tryd.func32, Tryd.ntmps32
      go_wp2_with fail
      refine HCN.out.mono ?_
      rintro e w2 ⟨rfl, hb2⟩
      have HB2 := Lib.hid (HB1.out.trans (hb2.mono HB1.out.size))
      clear hb2
      go_wp2_with fail
      go_ret
      exact ⟨by rw [HV.out]; rfl, HB2.out.alloc HB2.out.size _⟩
end Go.Proofs.YtdpmjpjbcpdgnaaDoor

/- impl: decodingOf of a decoder that is not broken, DecodeAll, DecoderValid. Condition: the bytes and the errors lie in memory. -/
import Derived.Test.YtdpmjpjbcpdgnaaDoorProg
import Derived.Test.YtdpmjpjbcpdgnaaDoorFzH
namespace Go.Proofs.YtdpmjpjbcpdgnaaDoor
open Go.RowKit

/-! decoding.broken -/
set_option maxRecDepth 100000 in
theorem brokenQ_nil (xb : Nat) (w : World) (eB eP : Addr) (h7 : w.cell? ⟨xb, 2007, none⟩ = some .nilIface) (he : Er w eB eP) :
    Calls Tryd.prog 50 #[.pointer (some ⟨xb, 0, none⟩)] w fun e w' => e = .returned (.bool false) ∧ ∃ m, w' = w.drewN m := by
  have v0 := he.vB
  clear he
  go_enter Tryd.func50, Tryd.ntmps50
  go_wp2_with fail
  go_quiet ((go_at_call 70; exact Calls.quiet_of_same (is_nil _ _)))
  go_wp2_with fail
  go_ret
  exact ⟨rfl, _, rfl⟩
set_option maxRecDepth 100000 in
theorem brokenQ_part (xb : Nat) (w : World) (eB eP : Addr) (h7 : w.cell? ⟨xb, 2007, none⟩ = some (esV eP)) (he : Er w eB eP) :
    Calls Tryd.prog 50 #[.pointer (some ⟨xb, 0, none⟩)] w fun e w' => e = .returned (.bool false) ∧ ∃ m, w' = w.drewN m := by
  have v0 := he.vB
  have h7' : w.cell? ⟨xb, 2007, none⟩ = some (.iface 116 (.pointer (some eP))) := h7
  obtain ⟨c1, t1, hB⟩ := he.hB
  obtain ⟨c2, t2, hP⟩ := he.hP
  have C1 := fun nq => is_other eP eB c2 c1 t2 t1 (w.drewN nq) he.ne.symm hP hB
  have H1 := Lib.hid C1
  clear he h7 hB hP C1
  go_enter Tryd.func50, Tryd.ntmps50
  go_wp2_with fail
  go_quiet ((go_at_call 70; exact Calls.quiet_of_same (H1.out _)))
  go_wp2_with fail
  go_ret
  exact ⟨rfl, _, rfl⟩
set_option maxRecDepth 100000 in
theorem brokenQ_yes (xb : Nat) (w : World) (eB eP : Addr) (h7 : w.cell? ⟨xb, 2007, none⟩ = some (esV eB)) (he : Er w eB eP) :
    Calls Tryd.prog 50 #[.pointer (some ⟨xb, 0, none⟩)] w fun e w' => e = .returned (.bool true) ∧ ∃ m, w' = w.drewN m := by
  have v0 := he.vB
  have h7' : w.cell? ⟨xb, 2007, none⟩ = some (.iface 116 (.pointer (some eB))) := h7
  clear he h7
  go_enter Tryd.func50, Tryd.ntmps50
  go_wp2_with fail
  go_quiet ((go_at_call 70; exact Calls.quiet_of_same (is_same _ _)))
  go_wp2_with fail
  go_ret
  exact ⟨rfl, _, rfl⟩
theorem bl_d (w : World) (m : Nat) : Below w.heap.size w (w.drewN m) := ⟨rfl, rfl, rfl, Nat.le_refl _, fun _ _ => rfl⟩
theorem brokenQ_any {xb : Nat} {q : List UInt8} {fs : List fz.F} {br : Bool} {eB eP : Addr} (w : World) (n : Nat) (h : Dk w xb q fs br eB eP) (he : Er w eB eP) :
    Calls Tryd.prog 50 #[.pointer (some ⟨xb, 0, none⟩)] (w.drewN n) fun e w' => e = .returned (.bool br) ∧ ∃ m, w' = (w.drewN n).drewN m := by
  obtain ⟨cur, qq, s, st, fv, er, hd, h1, h2⟩ := h.below (bl_d w n)
  have he' := he.below (bl_d w n)
  have c7 : (w.drewN n).cell? ⟨xb, 2007, none⟩ = some er := by rw [hd.cell]; exact hd.c7
  cases br with
  | true =>
    rw [(h1 rfl).1] at c7
    exact brokenQ_yes xb _ eB eP c7 he'
  | false =>
    rcases (h2 rfl).2.1 with rfl | rfl
    · exact brokenQ_nil xb _ eB eP c7 he'
    · exact brokenQ_part xb _ eB eP c7 he'
/-- How many frames there are. -/
theorem Dk.frames {w : World} {xb : Nat} {q : List UInt8} {fs : List fz.F} {br : Bool} {eB eP : Addr} (h : Dk w xb q fs br eB eP) : ∃ v A cap, w.cell? ⟨xb, 2006, none⟩ = some v ∧ v = .slice A fs.length cap ∧ fs.length ≤ cap ∧ cap ≤ maxLen ∧ OwnG w (xb + 1) v fs := by
  obtain ⟨cur, qq, s, st, fv, er, hd, _, _⟩ := h
  obtain ⟨A, cap, e, h1, h2, _⟩ := hd.own.read
  exact ⟨fv, A, cap, (hd.cell 2006).trans hd.c6, e, h1, h2, hd.own⟩

set_option maxRecDepth 100000 in
set_option maxHeartbeats 2000000 in
/-- decodingOf of a decoder that is not broken. -/
theorem dofN_any (A : Option Addr) (cap : Nat) (l : List UInt8) (w : World) (eB eP : Addr) (he : Er w eB eP) (ha : AtU w w.heap.size A l) (hc : l.length ≤ cap) (hm : cap ≤ maxLen) (hz : l.length ≤ 10000000) :
    Calls Tryd.prog 57 #[.agg #[.slice A l.length cap, .bool false]] w fun e w' => DoR w l false eB eP e w' := by
  have hq1 := Blk.new w 38 #[.slice A l.length cap, .bool false]
  have hb1 := (Below.refl w.heap.size w).alloc (Nat.le_refl _) (.cells #[.slice A l.length cap, .bool false] 38)
  have HE := Lib.hid he
  have HA := Lib.hid ha
  have HC := Lib.hid hc
  have HM := Lib.hid hm
  have HZ := Lib.hid hz
  have HDV := Lib.hid (dvB_tk l)
  clear he ha hc hm hz
  go_enter Tryd.func57, Tryd.ntmps57
  go_wp2_with fail
  generalize (w.alloc (.cells #[.slice A l.length cap, .bool false] 38)) = w1 at *
  have HQ1 := Lib.hid hq1
  have HB1 := Lib.hid hb1
  have hs1 : w.heap.size < w1.heap.size := hq1.lt
  clear hq1 hb1
  refine (newDec_any w1).mono ?_
  rintro e w2 ⟨rfl, hw2⟩
  have hdk := dk_new w1 eB eP
  have hb2 := (Below.refl w1.heap.size w1).alloc (Nat.le_refl _) (.cells (Tryd.zeroCells71.setIfInBounds 2005 aLv) 71)
  rw [← hw2] at hdk hb2
  have hq2 := HQ1.out.below hb2 hs1
  have x0 : w2.cell? ⟨w.heap.size, 0, none⟩ = some (.slice A l.length cap) := hq2.cell 0
  have x1 : w2.cell? ⟨w.heap.size, 1, none⟩ = some (.bool false) := hq2.cell 1
  have hbw := HB1.out.trans (hb2.mono (Nat.le_of_lt hs1))
  have hE2 := HE.out.keep w.heap.size HE.out.lt hbw
  have hlt := HE.out.lt
  have CF := feed_any w1.heap.size [] l [] A cap w2 eB eP false hdk ((HA.out.below hbw (Nat.le_refl _)).more (Nat.le_of_lt hs1)) HC.out HM.out (by simp; have := HZ.out; omega) hE2 ⟨by omega, by omega, by omega, by omega⟩ rfl
  have HF := Lib.hid CF
  have HBW := Lib.hid hbw
  have HX2 := Lib.hid hdk.lt
  clear CF hdk hb2 hq2 hbw hE2 hw2 hlt
  go_wp2_with fail
  refine HF.out.mono ?_
  rintro e w3 ⟨rfl, hfe⟩
  unfold FdE at hfe
  simp only [List.nil_append] at hfe
  obtain ⟨hdk3, hb3⟩ := hfe
  have hbw3 := HBW.out.trans (hb3.mono (Nat.le_of_lt hs1))
  have hE3 := HE.out.keep w.heap.size HE.out.lt hbw3
  obtain ⟨v, A3, cap3, c6, rfl, hl3, hm3, _⟩ := hdk3.frames
  have CB := fun n => brokenQ_any w3 n hdk3 hE3
  have HB := Lib.hid CB
  have HDK := Lib.hid hdk3
  have HB3 := Lib.hid hbw3
  unfold maxLen at hm3
  clear CB hdk3 hbw3 hE3 hb3 x0 x1
  cases hbr : (fz.tk l).2.2 with
  | true =>
    have HBR := Lib.hid hbr
    have HV : Hid (dvB l false = false) := Lib.hid (by rw [HDV.out, hbr]; rfl)
    rw [hbr] at HB
    clear hbr
    go_wp2_with fail
    go_quiet ((go_at_call 50; exact Calls.quiet_of (HB.out _)))
    go_wp2_with fail
    go_ret2
    exact ⟨w1.heap.size, by rw [HV.out]; rfl, Nat.le_of_lt hs1, fun h => (by rw [HV.out] at h; cases h), bl_dn HB3.out _⟩
  | false =>
    have HBR := Lib.hid hbr
    rw [hbr] at HB
    cases hfs : (fz.tk l).1 with
    | nil =>
      have HV : Hid (dvB l false = true) := Lib.hid (by rw [HDV.out, hbr, hfs]; rfl)
      have HFS := Lib.hid hfs
      have e0 : (fz.tk l).1.length = 0 := by rw [hfs]; rfl
      rw [e0] at c6
      have HDK2 : Hid (Dk w3 w1.heap.size l [] false eB eP) := Lib.hid (by
        have h := HDK.out
        rw [hbr, hfs] at h
        have e : (fz.tk l).2.1 = l := by
          have := fz.tk_back l hbr
          rw [hfs] at this
          simpa [fz.encs] using this.symm
        rwa [e] at h)
      clear hbr hfs e0
      go_wp2_with fail
      go_quiet ((go_at_call 50; exact Calls.quiet_of (HB.out _)))
      go_wp2_with fail
      go_ret2
      exact ⟨w1.heap.size, by rw [HV.out]; rfl, Nat.le_of_lt hs1, fun _ => HDK2.out.below (bl_d _ _), bl_dn HB3.out _⟩
    | cons f fs' =>
      have HV : Hid (dvB l false = false) := Lib.hid (by rw [HDV.out, hbr, hfs]; rfl)
      have e0 : (fz.tk l).1.length = fs'.length + 1 := by rw [hfs]; rfl
      rw [e0] at c6 hl3
      have t0 : (((fs'.length + 1 : Nat) : Int) == 0) = false := by rw [beq_eq_false_iff_ne]; omega
      have t1 : ((fs'.length : Int) + 1 == 0) = false := by rw [beq_eq_false_iff_ne]; omega
      clear hbr hfs e0
      go_wp2_with fail
      go_quiet ((go_at_call 50; exact Calls.quiet_of (HB.out _)))
      go_wp2_with fail
      go_ret2
      exact ⟨w1.heap.size, by rw [HV.out]; rfl, Nat.le_of_lt hs1, fun h => (by rw [HV.out] at h; cases h), bl_dn HB3.out _⟩

theorem dof_any (A : Option Addr) (cap : Nat) (l : List UInt8) (br : Bool) (w : World) (eB eP : Addr) (he : Er w eB eP) (ha : AtU w w.heap.size A l) (hc : l.length ≤ cap) (hm : cap ≤ maxLen) (hz : l.length ≤ 10000000) :
    Calls Tryd.prog 57 #[.agg #[.slice A l.length cap, .bool br]] w fun e w' => DoR w l br eB eP e w' := by
  cases br with
  | true => exact dofB_any A cap l w eB eP he
  | false => exact dofN_any A cap l w eB eP he ha hc hm hz
set_option maxRecDepth 100000 in
/-- impl.DecoderValid. -/
theorem implDV_any (A : Option Addr) (cap : Nat) (l : List UInt8) (br : Bool) (w : World) (eB eP : Addr) (he : Er w eB eP) (ha : AtU w w.heap.size A l) (hc : l.length ≤ cap) (hm : cap ≤ maxLen) (hz : l.length ≤ 10000000) :
    Calls Tryd.prog 31 #[.agg #[.slice A l.length cap, .bool br]] w fun e w' => e = .returned (.bool (dvB l br)) ∧ Below w.heap.size w w' := by
  have hb1 := (Below.refl w.heap.size w).alloc (Nat.le_refl _) (.cells #[.slice A l.length cap, .bool br] 38)
  have C1 := dof_any A cap l br (w.alloc (.cells #[.slice A l.length cap, .bool br] 38)) eB eP (he.below hb1) ((ha.below hb1 (Nat.le_refl _)).more hb1.size) hc hm hz
  have H1 := Lib.hid C1
  have HB1 := Lib.hid hb1
  clear C1 hb1 he ha hc hm hz
  generalize l.length = n at *
  go_enter Tryd.func31, Tryd.ntmps31
  go_wp2_with fail
  refine H1.out.mono ?_
  rintro e w2 ⟨xb, rfl, _, _, hb2⟩
  have HB2 := Lib.hid (HB1.out.trans (hb2.mono HB1.out.size))
  clear hb2
  go_wp2_with fail
  go_ret
  exact ⟨rfl, HB2.out⟩
end Go.Proofs.YtdpmjpjbcpdgnaaDoor

/- impl: feed, rest, decodingOf. Condition: the decoding, the bytes and the errors lie in memory. -/
import Derived.Test.YtdpmjpjbcpdgnaaDoorProg
import Derived.Test.YtdpmjpjbcpdgnaaDoorFzC
namespace Go.Proofs.YtdpmjpjbcpdgnaaDoor
open Go.RowKit

set_option maxRecDepth 100000 in
set_option maxHeartbeats 2000000 in
/-- decoding.feed. -/
theorem feed_any (xb : Nat) (q0 l0 : List UInt8) (fs0 : List fz.F) (A0 : Option Addr) (cap0 : Nat) (w : World) (eB eP : Addr) (br0 : Bool) (hd : Dk w xb q0 fs0 br0 eB eP) (ha : AtU w xb A0 l0) (hc : l0.length ≤ cap0) (hm : cap0 ≤ maxLen) (hn : fs0.length + q0.length + l0.length ≤ 90000000) (he : Er w eB eP)
    (hg : 0 < xb ∧ 1 < xb ∧ eB.block < xb ∧ eP.block < xb) (hbr : br0 = false) :
    Calls Tryd.prog 49 #[.pointer (some ⟨xb, 0, none⟩), .slice A0 l0.length cap0] w fun e w' => e = .returned (.tuple #[]) ∧ FdE w xb q0 l0 fs0 eB eP w' := by
  subst hbr
  have H0 : Hid (FdR w xb q0 l0 fs0 eB eP l0.length q0 l0 fs0 false A0 cap0 w) := Lib.hid ⟨hd, .refl _ _, ha, hc, hm, Nat.le_refl _, hn, fun _ => ⟨rfl, rfl⟩, fun h => by cases h⟩
  have HE := Lib.hid he
  have HG := Lib.hid hg
  clear hd ha hc hm hn he hg
  go_enter Tryd.func49, Tryd.ntmps49
  go_wp2_with fail
  go_loopg [1] l0.length (fun gk bv wr => ∃ q1 l1 fs1 br1 A cap, bv = .slice A l1.length cap ∧ FdR w xb q0 l0 fs0 eB eP gk q1 l1 fs1 br1 A cap wr)
  case atStart => exact ⟨q0, l0, fs0, false, A0, cap0, rfl, H0.out⟩
  case round =>
    obtain ⟨q1, l1, fs1, br1, A, cap, rfl, hr⟩ := hrel
    have HR := Lib.hid hr
    have hEr := HE.out.keep xb HG.out hr.2.1
    have HER := Lib.hid hEr
    have hcap := hr.2.2.2.1
    have hcm := hr.2.2.2.2.1
    unfold maxLen at hcm
    clear hr hEr
    by_cases hl : 0 < l1.length
    · have tl : (l1.length : Int) > 0 := by omega
      have CB := broken_any wr HR.out.1 HER.out
      have HB := Lib.hid CB
      have HL := Lib.hid hl
      clear CB hl
      cases br1 with
      | true =>
        go_wp2_with fail
        refine HB.out.mono ?_
        rintro e w2 ⟨rfl, hb2⟩
        have HF : Hid (FdE w xb q0 l0 fs0 eB eP w2) := Lib.hid (by
          have h := HR.out.end_ (.inr rfl)
          exact ⟨h.1.below hb2, h.2.trans (hb2.mono (Nat.le_of_lt HR.out.1.lt))⟩)
        clear hb2
        go_wp2_with fail
        go_end0
        exact ⟨rfl, HF.out⟩
      | false =>
        go_wp2_with fail
        refine HB.out.mono ?_
        rintro e w2 ⟨rfl, hb2⟩
        obtain ⟨cur, qq, s, st, fv, er, hdc, h1, h2⟩ := HR.out.1
        obtain ⟨rfl, her, hst, hnx⟩ := h2 rfl
        have hq2 := fz.nx_need_len hnx
        have hdc2 := hdc.below hb2
        have hx2 := hdc2.blk.lt
        have hbx : Below xb wr w2 := hb2.mono (Nat.le_of_lt hdc.blk.lt)
        have CP := put_any xb s cur qq l1 A cap w2 hdc2.blk hdc2.rg hq2 (HR.out.2.2.1.below hbx (Nat.le_refl _)) HL.out HR.out.2.2.2.1 HR.out.2.2.2.2.1
        have HP := Lib.hid CP
        have HD2 := Lib.hid hdc2
        have HST := Lib.hid hst
        have HQ := Lib.hid hq2
        have HBX := Lib.hid hbx
        have HE2 := Lib.hid (HER.out.below hb2)
        clear CP hdc hdc2 h1 h2 her hst hnx hq2 hbx hb2
        go_wp2_with fail
        refine HP.out.mono ?_
        rintro e w3 ⟨⟨A', cap', rfl, hat', hc1, hc2⟩, hbl, hw3⟩
        have hdc3 := dc_put HD2.out HQ.out hbl hw3
        have hx3 := hdc3.blk.lt
        have hb3 : Below xb w2 w3 := hw3.below (Nat.le_of_lt hx2) (fun x hx => by simp at hx; omega)
        have hE3 : Er w3 eB eP := HE2.out.keep xb HG.out hb3
        have hlen : fs1.length + (qq ++ l1.take (mput qq.length l1.length)).length ≤ 100000000 := by
          have := HR.out.2.2.2.2.2.2.1
          rw [List.length_append, List.length_take]
          omega
        have CA := adv_any xb _ _ s st fs1 fv er w3 eB eP hdc3 (st_more HST.out _) hlen hE3 HG.out
        have HA := Lib.hid CA
        have HB3 := Lib.hid hb3
        have HAT := Lib.hid hat'
        have HC1 := Lib.hid hc1
        have HC2 := Lib.hid hc2
        clear CA hdc3 hb3 hE3 hlen hbl hw3 hat' hc1 hc2
        go_wp2_with fail
        refine HA.out.mono ?_
        rintro e w4 hadv
        have hat2 : AtU wr xb A' (l1.drop (mput qq.length l1.length)) := fun hp => by
          obtain ⟨b, o, e1, e2, e3⟩ := HAT.out hp
          exact ⟨b, o, e1, e2, fun i hi => (HBX.out.cell (p := ⟨b, o + i, none⟩) e2).symm.trans (e3 i hi)⟩
        obtain ⟨a, q2, fs2, br2, rfl, hfd, hk, ⟨z, hz⟩, hzf⟩ := HR.out.step HL.out (HBX.out.trans HB3.out) hadv hat2 HC1.out HC2.out HQ.out
        have HFD := Lib.hid hfd
        have HK := Lib.hid hk
        clear hadv hat2 hfd hk
        go_wp2_with fail
        go_roundg (gk - 1)
        case measure => exact HK.out
        case rel => exact ⟨_, _, _, _, _, _, by rw [List.length_drop], HFD.out⟩
    · have tl : ¬ (l1.length : Int) > 0 := by omega
      have HF : Hid (FdE w xb q0 l0 fs0 eB eP wr) := Lib.hid (HR.out.end_ (.inl (List.eq_nil_of_length_eq_zero (by omega))))
      clear hl
      go_wp2_with fail
      go_end0
      exact ⟨rfl, HF.out⟩
/-- .. of a decoding that is broken: nothing happens. -/
theorem feed_broken (xb : Nat) (l0 : List UInt8) (fs0 : List fz.F) (A0 : Option Addr) (cap0 : Nat) (w : World) (eB eP : Addr) (hd : Dk w xb [] fs0 true eB eP) (he : Er w eB eP) :
    Calls Tryd.prog 49 #[.pointer (some ⟨xb, 0, none⟩), .slice A0 l0.length cap0] w fun e w' => e = .returned (.tuple #[]) ∧ Below w.heap.size w w' := by
  have HB := Lib.hid (broken_any w hd he)
  clear hd he
  generalize l0.length = n at *
  go_enter Tryd.func49, Tryd.ntmps49
  go_wp2_with fail
  go_loopg [1] 0 (fun _ bv wr => bv = .slice A0 n cap0 ∧ wr = w)
  case atStart => exact ⟨rfl, rfl⟩
  case round =>
    obtain ⟨rfl, hwr⟩ := hrel
    rw [hwr]
    clear hwr
    by_cases hl : 0 < n
    · have tl : (n : Int) > 0 := by omega
      clear hl
      go_wp2_with fail
      refine HB.out.mono ?_
      rintro e w2 ⟨rfl, hb2⟩
      have HB2 := Lib.hid hb2
      clear hb2
      go_wp2_with fail
      go_end0
      exact ⟨rfl, HB2.out⟩
    · have tl : ¬ (n : Int) > 0 := by omega
      have HB2 := Lib.hid (Below.refl w.heap.size w)
      clear hl
      go_wp2_with fail
      go_end0
      exact ⟨rfl, HB2.out⟩

set_option maxRecDepth 100000 in
set_option maxHeartbeats 1000000 in
/-- decoding.rest. -/
theorem rest_any (xb : Nat) (q : List UInt8) (fs : List fz.F) (br : Bool) (w : World) (eB eP : Addr) (hd : Dk w xb q fs br eB eP) (he : Er w eB eP) :
    Calls Tryd.prog 59 #[.pointer (some ⟨xb, 0, none⟩)] w fun e w' => (∃ v, e = .returned v ∧ OwnU w' w.heap.size v q) ∧ Below w.heap.size w w' := by
  have HB := Lib.hid (broken_any w hd he)
  have HD := Lib.hid hd
  clear hd he
  cases br with
  | true =>
    have HQ : Hid (q = []) := Lib.hid (by obtain ⟨_, _, _, _, _, _, _, h, _⟩ := HD.out; exact (h rfl).2)
    have HO : Hid (OwnU w w.heap.size (.slice none 0 0) []) := Lib.hid (World.ownsRow_nil _ _ _ _)
    go_enter Tryd.func59, Tryd.ntmps59
    go_wp2_with fail
    refine HB.out.mono ?_
    rintro e w2 ⟨rfl, hb2⟩
    have HO2 : Hid (OwnU w2 w.heap.size (.slice none 0 0) []) := Lib.hid (own_below HO.out hb2)
    have HB2 := Lib.hid hb2
    clear hb2
    go_wp2_with fail
    go_ret
    rw [HQ.out]
    exact ⟨⟨_, rfl, HO2.out⟩, HB2.out⟩
  | false =>
    go_enter Tryd.func59, Tryd.ntmps59
    go_wp2_with fail
    refine HB.out.mono ?_
    rintro e w2 ⟨rfl, hb2⟩
    obtain ⟨cur, qq, s, st, fv, er, hdc, h1, h2⟩ := HD.out
    obtain ⟨rfl, her, hst, hnx⟩ := h2 rfl
    have hdc2 := hdc.below hb2
    have c4 : w2.cell? ⟨xb, 2004, none⟩ = some (.int .i64 (qq.length : Int)) := by rw [hdc2.cell]; exact hdc2.rg.cn
    have CF := fun w1 (hb : Below w2.heap.size w2 w1) => first_any xb s cur qq qq.length w1 (hdc2.blk.below hb hdc2.blk.lt) hdc2.rg (Nat.le_refl _)
    have hql := hdc2.rg.ql
    have HF := Lib.hid CF
    have HB2 := Lib.hid hb2
    have HQL := Lib.hid hql
    clear CF hdc hdc2 h1 h2 her hst hnx hb2 hql
    go_wp2_with fail
    go_cut [3] (fun u wx => ∃ a cap, u = .slice (some a) qq.length cap ∧ AtU wx wx.heap.size (some a) qq ∧ Below w2.heap.size w2 wx)
    case first =>
      go_region_law
        (go_simp
         go_at_call 72
         refine (HF.out _ ((Below.refl w2.heap.size w2).drew)).mono ?_
         rintro e w3 ⟨a, cap, rfl, hat, _, _, hb3⟩
         rw [List.take_length] at hat
         have HAT := Lib.hid hat
         have HB3 : Hid (Below w2.heap.size w2 w3) := Lib.hid (((Below.refl w2.heap.size w2).drew).trans hb3)
         clear hat hb3)
      go_wp2_with fail
      go_meet
      exact ⟨_, _, rfl, HAT.out, HB3.out⟩
    case rest =>
      obtain ⟨a, cap, rfl, hat, hb3⟩ := hcut
      generalize wc = w3 at *
      have CC := clone_any (some a) cap qq w3 hat (fun h => by cases h) (by have := HQL.out; omega)
      have HCC := Lib.hid CC
      have HB3 := Lib.hid (HB2.out.trans (hb3.mono HB2.out.size))
      clear CC hat hb3 c4
      go_wp2_with fail
      refine HCC.out.mono ?_
      rintro e w4 ⟨⟨v, rfl, how⟩, hb4⟩
      have HO4 := Lib.hid (own_mono how HB3.out.size)
      have HB4 := Lib.hid (HB3.out.trans (hb4.mono HB3.out.size))
      clear how hb4
      go_wp2_with fail
      go_ret
      exact ⟨⟨_, rfl, HO4.out⟩, HB4.out⟩

/-- What decodingOf says of a decoder. -/
def dvB (l : List UInt8) (br : Bool) : Bool := if br then l.isEmpty else match fz.nx l with | .need => true | _ => false
theorem dvB_tk (l : List UInt8) : dvB l false = (!(fz.tk l).2.2 && (fz.tk l).1.isEmpty) := by
  unfold dvB
  cases h : fz.nx l with
  | need => rw [fz.tk_need h]; rfl
  | bad => rw [fz.tk_bad h]; rfl
  | got f n => rw [fz.tk_got h]; cases (fz.tk (l.drop n)).2.2 <;> simp
/-- What decodingOf leaves. -/
def DoR (w : World) (l : List UInt8) (br : Bool) (eB eP : Addr) (e : Ending) (w' : World) : Prop :=
  ∃ xb, e = .returned (.tuple #[.pointer (some ⟨xb, 0, none⟩), .bool (dvB l br)]) ∧ w.heap.size ≤ xb ∧ (dvB l br = true → Dk w' xb l [] br eB eP) ∧ Below w.heap.size w w'

set_option maxRecDepth 100000 in
set_option maxHeartbeats 2000000 in
/-- decodingOf of a decoder that is broken. -/
theorem dofB_any (A : Option Addr) (cap : Nat) (l : List UInt8) (w : World) (eB eP : Addr) (he : Er w eB eP) :
    Calls Tryd.prog 57 #[.agg #[.slice A l.length cap, .bool true]] w fun e w' => DoR w l true eB eP e w' := by
  have hq1 := Blk.new w 38 #[.slice A l.length cap, .bool true]
  have hb1 := (Below.refl w.heap.size w).alloc (Nat.le_refl _) (.cells #[.slice A l.length cap, .bool true] 38)
  have HE := Lib.hid he
  have HDV : Hid (dvB l true = ((l.length : Int) == 0)) := Lib.hid (by
    unfold dvB
    cases l with
    | nil => rfl
    | cons a t => simp; omega)
  have HL : Hid (dvB l true = true → l = []) := Lib.hid (by unfold dvB; simp)
  clear he
  go_enter Tryd.func57, Tryd.ntmps57
  go_wp2_with fail
  generalize (w.alloc (.cells #[.slice A l.length cap, .bool true] 38)) = w1 at *
  have HQ1 := Lib.hid hq1
  have HB1 := Lib.hid hb1
  have hs1 : w.heap.size < w1.heap.size := hq1.lt
  clear hq1 hb1
  refine (newDec_any w1).mono ?_
  rintro e w2 ⟨rfl, hw2⟩
  have hdc := dc_new w1
  have hb2 := (Below.refl w1.heap.size w1).alloc (Nat.le_refl _) (.cells (Tryd.zeroCells71.setIfInBounds 2005 aLv) 71)
  rw [← hw2] at hdc hb2
  have hq2 := HQ1.out.below hb2 hs1
  have x0 : w2.cell? ⟨w.heap.size, 0, none⟩ = some (.slice A l.length cap) := hq2.cell 0
  have x1 : w2.cell? ⟨w.heap.size, 1, none⟩ = some (.bool true) := hq2.cell 1
  have hE2 := HE.out.keep w.heap.size HE.out.lt (HB1.out.trans (hb2.mono (Nat.le_of_lt hs1)))
  have vB := hE2.vB
  have z7 : w2.cell? ⟨w1.heap.size, 2007, none⟩ = some .nilIface := (hdc.cell 2007).trans hdc.c7
  have zf := hdc.blk.frozen 2007
  have HD := Lib.hid (dc_err hdc (.iface 116 (.pointer (some eB))))
  have HB2 : Hid (Below w.heap.size w (w2.setCell ⟨w1.heap.size, 2007, none⟩ (.iface 116 (.pointer (some eB))))) := Lib.hid ((HB1.out.trans (hb2.mono (Nat.le_of_lt hs1))).setCell (Nat.le_of_lt hs1) _)
  have hn1 : w.heap.size ≠ w1.heap.size := by omega
  have hx0 : (w2.setCell ⟨w1.heap.size, 2007, none⟩ (.iface 116 (.pointer (some eB)))).cell? ⟨w.heap.size, 0, none⟩ = some (.slice A l.length cap) := (World.cell?_of_block (heap_setCell_other _ _ _ _ (show w.heap.size ≠ w1.heap.size from hn1))).trans x0
  clear hdc hb2 hq2 hE2 hw2
  go_wp2_with fail
  go_quiet (fail)
  go_wp2_with fail
  go_ret2
  refine ⟨w1.heap.size, by rw [HDV.out]; rfl, Nat.le_of_lt hs1, fun h => ?_, bl_dn HB2.out _⟩
  have hl := HL.out h
  exact ⟨_, _, _, _, _, _, HD.out.below (⟨rfl, rfl, rfl, Nat.le_refl _, fun _ _ => rfl⟩), fun _ => ⟨rfl, hl⟩, fun h => by cases h⟩
end Go.Proofs.YtdpmjpjbcpdgnaaDoor

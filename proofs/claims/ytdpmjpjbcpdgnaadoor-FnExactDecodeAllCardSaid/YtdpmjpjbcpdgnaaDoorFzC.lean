/- impl.decoding.feed; bytes.Clone. Condition: the decoding, the bytes and the errors lie in memory. -/
import Derived.Test.YtdpmjpjbcpdgnaaDoorProg
import Derived.Test.YtdpmjpjbcpdgnaaDoorFzB
import Derived.Test.YtdpmjpjbcpdgnaaDoorApL
import Derived.Lib.SliceRun
namespace Go.Proofs.YtdpmjpjbcpdgnaaDoor
open Go.RowKit

set_option maxRecDepth 100000 in
/-- Bytes are appended to a row that the call owns and that is not nil. -/
theorem app_u {w : World} {base g0 c1 cap : Nat} {l1 l2 : List UInt8} {A : Option Addr} (ho : OwnU w base (.slice (some ⟨g0, 0, none⟩) l1.length c1) l1) (ha : AtU w w.heap.size A l2) (hn : A = none → l2.length = 0 ∧ cap = 0) (hb : base ≤ w.heap.size) (hz : l1.length + l2.length ≤ 1000000000000) :
    ∃ g cap' w', (Builtin.append_ #[22, 22] 22 #[.slice (some ⟨g0, 0, none⟩) l1.length c1, .slice A l2.length cap]).run Tryd.prog w = .ok (.slice (some ⟨g, 0, none⟩) (l1.length + l2.length) cap') w' ∧ OwnU w' base (.slice (some ⟨g, 0, none⟩) (l1.length + l2.length) cap') (l1 ++ l2) ∧ w.grownBy w' (some g0) ∧ (g = g0 ∨ g = w.heap.size) := by
  obtain ⟨i, hi, hs, hby, hzz⟩ := i_u8
  obtain ⟨g, cap', w', h1, h2, h3, h4⟩ := run_append_any (P := Tryd.prog) w base 22 22 5 i (.int .u8 0) 1 1 u8_u2 hi hzz hs hby rfl (by omega) g0 l1.length c1 (Lib.byteCells l1) ho (.slice A l2.length cap) l2.length (Lib.byteCells l2) (by rw [bcs_len]; omega) (by
    cases A with
    | none => obtain ⟨e1, e2⟩ := hn rfl; right; rw [e1, e2]; exact ⟨rfl, rfl⟩
    | some a =>
      left
      refine ⟨a, cap, rfl, fun j u hj => ?_⟩
      rcases Nat.eq_zero_or_pos l2.length with h0 | h0
      · have := List.eq_nil_of_length_eq_zero h0
        subst this
        simp [Lib.byteCells] at hj
      · obtain ⟨b, o, e, _, hc⟩ := ha h0
        injection e with e
        subst e
        have := src_at (w := w) (b := b) (o := o) (l := l2) 0 l2.length (fun i hi => hc i hi) j u (by rw [List.drop_zero, List.take_length]; exact hj)
        rwa [Nat.add_zero] at this) (bcs_one _) (by unfold maxLen; omega) (by omega) hb
  refine ⟨g, cap', w', h1, ?_, h3, h4⟩
  unfold OwnU
  rw [List.length_append, bcs_app]
  exact h2

theorem ownU_empty (w : World) : OwnU (w.alloc (.cells #[] 5)) w.heap.size (.slice (some ⟨w.heap.size, 0, none⟩) ([] : List UInt8).length 0) [] :=
  ⟨rfl, .inr ⟨w.heap.size, 0, #[], rfl, Nat.le_refl _, (Blk.new w _ _), Nat.le_refl _, Nat.zero_le _, rfl, rfl⟩⟩

set_option maxRecDepth 100000 in
set_option maxHeartbeats 1000000 in
/-- bytes.Clone. -/
theorem clone_any (A : Option Addr) (cap : Nat) (l : List UInt8) (w : World) (ha : AtU w w.heap.size A l) (hn : A = none → l.length = 0 ∧ cap = 0) (hz : l.length ≤ 1000000000) :
    Calls Tryd.prog 58 #[.slice A l.length cap] w fun e w' => (∃ v, e = .returned v ∧ OwnU w' w.heap.size v l) ∧ Below w.heap.size w w' := by
  have q22 : ∀ (w : World) (a : Option Addr) (n c n' c' : Nat), (binOp .eql 22 (.slice a n c) (.slice none n' c')).run Tryd.prog w = .ok (.bool a.isNone) w := fun w a n c n' c' => Lib.run_eql_slice_nil w _ _ a n c n' c' u8_u2
  cases A with
  | none =>
    obtain ⟨e1, e2⟩ := hn rfl
    have e3 : l = [] := List.eq_nil_of_length_eq_zero e1
    subst e3
    subst e2
    have HO : Hid (OwnU w w.heap.size (.slice none 0 0) []) := Lib.hid (World.ownsRow_nil _ _ _ _)
    clear ha hn hz e1
    go_enter Tryd.func58, Tryd.ntmps58
    go_wp2_with fail
    go_ret
    exact ⟨⟨_, rfl, HO.out⟩, .refl _ _⟩
  | some a =>
    have hb1 := (Below.refl w.heap.size w).alloc (Nat.le_refl _) (.cells #[] 5)
    have hap := app_u (w := w.alloc (.cells #[] 5)) (base := w.heap.size) (l1 := []) (l2 := l) (cap := cap) (ownU_empty w) (A := some a) ((ha.below hb1 (Nat.le_refl _)).more hb1.size) (fun h => by cases h) hb1.size (by simp; omega)
    simp only [List.length_nil, Nat.zero_add, List.nil_append] at hap
    obtain ⟨g, cap', w', hrun, how, hgr, _⟩ := hap
    have HR := Lib.hid hrun
    have HO := Lib.hid how
    have HB : Hid (Below w.heap.size w w') := Lib.hid (hb1.grown hgr hb1.size fun k hk => by cases hk; exact Nat.le_refl _)
    clear ha hn hz hrun how hgr hb1
    generalize l.length = n at *
    go_enter Tryd.func58, Tryd.ntmps58
    go_wp2_with (refine wpList_app_run _ rfl _ _ _ _ rfl _ _ rfl rfl HR.out ?_)
    go_ret
    exact ⟨⟨_, rfl, HO.out⟩, HB.out⟩

/-- What a decoding has come to: the bytes of a frame that is not complete, the frames, whether it is broken. -/
def Dk (w : World) (xb : Nat) (q : List UInt8) (fs : List fz.F) (br : Bool) (eB eP : Addr) : Prop :=
  ∃ cur qq s st fv er, Dc w xb cur qq s st fs fv er ∧ (br = true → er = esV eB ∧ q = []) ∧ (br = false → qq = q ∧ (er = .nilIface ∨ er = esV eP) ∧ St st q ∧ fz.nx q = .need)
theorem Dk.below {w w' : World} {xb : Nat} {q : List UInt8} {fs : List fz.F} {br : Bool} {eB eP : Addr} (h : Dk w xb q fs br eB eP) (hb : Below w.heap.size w w') : Dk w' xb q fs br eB eP := by
  obtain ⟨cur, qq, s, st, fv, er, h1, h2⟩ := h
  exact ⟨cur, qq, s, st, fv, er, h1.below hb, h2⟩
theorem Dk.lt {w : World} {xb : Nat} {q : List UInt8} {fs : List fz.F} {br : Bool} {eB eP : Addr} (h : Dk w xb q fs br eB eP) : xb < w.heap.size := by
  obtain ⟨cur, qq, s, st, fv, er, h1, _⟩ := h
  exact h1.blk.lt
theorem dk_new (w : World) (eB eP : Addr) : Dk (w.alloc (.cells (Tryd.zeroCells71.setIfInBounds 2005 aLv) 71)) w.heap.size [] [] false eB eP :=
  ⟨_, _, _, _, _, _, dc_new w, fun h => (by cases h), fun _ => ⟨rfl, .inl rfl, .inl rfl, fz.nx_short (by simp)⟩⟩
/-- decoding.broken. -/
theorem broken_any {xb : Nat} {q : List UInt8} {fs : List fz.F} {br : Bool} {eB eP : Addr} (w : World) (h : Dk w xb q fs br eB eP) (he : Er w eB eP) :
    Calls Tryd.prog 50 #[.pointer (some ⟨xb, 0, none⟩)] w fun e w' => e = .returned (.bool br) ∧ Below w.heap.size w w' := by
  obtain ⟨cur, qq, s, st, fv, er, hd, h1, h2⟩ := h
  have c7 : w.cell? ⟨xb, 2007, none⟩ = some er := by rw [hd.cell]; exact hd.c7
  cases br with
  | true =>
    rw [(h1 rfl).1] at c7
    exact broken_yes xb w eB eP c7 he
  | false =>
    rcases (h2 rfl).2.1 with rfl | rfl
    · exact broken_nil xb w eB eP c7 he
    · exact broken_part xb w eB eP c7 he
theorem dc_err {w : World} {xb s : Nat} {cur : List Value} {q : List UInt8} {st fv er : Value} {fs : List fz.F} (h : Dc w xb cur q s st fs fv er) (v : Value) :
    Dc (w.setCell ⟨xb, 2007, none⟩ v) xb (cur.set 2007 v) q s st fs fv v := by
  obtain ⟨r1, r2, r3, r4, r5, r6⟩ := h.rg
  refine ⟨?_, ⟨by rw [List.length_set]; exact r1, r2, r3, ?_, ?_, fun i hi => ?_⟩, ?_, ?_, ?_, ?_⟩
  · have := h.blk.set_ 2007 v
    rw [list_set_arr] at this
    exact this
  · rw [List.getElem?_set_ne (by omega)]; exact r4
  · rw [List.getElem?_set_ne (by omega)]; exact r5
  · have hx : (s + i) % 2003 < 2003 := Nat.mod_lt _ (by omega)
    rw [List.getElem?_set_ne (by omega)]; exact r6 i hi
  · rw [List.getElem?_set_ne (by omega)]; exact h.c5
  · rw [List.getElem?_set_ne (by omega)]; exact h.c6
  · rw [List.getElem?_set_self (by omega)]
  · refine own_keep h.own ((Wrote.refl [xb] w).set_ (.inl (by simp)) _) fun x hx => ?_
    have := (own_lt h.own x hx).1
    simp; omega
theorem dc_put {w w' : World} {xb s : Nat} {cur : List Value} {q l : List UInt8} {st fv er : Value} {fs : List fz.F} (h : Dc w xb cur q s st fs fv er) (hq : q.length ≤ 2002)
    (hb : Blk w' xb 71 (curP cur q l s).toArray) (hw : Wrote [xb] w w') : Dc w' xb (curP cur q l s) (q ++ l.take (mput q.length l.length)) s st fs fv er := by
  obtain ⟨h1, h2⟩ := rg_put (b := l) (m := mput q.length l.length) h.rg (by unfold mput; omega) (by unfold mput; omega)
  refine ⟨hb, h1, (h2 2005 (by omega)).trans h.c5, (h2 2006 (by omega)).trans h.c6, (h2 2007 (by omega)).trans h.c7, own_keep h.own hw fun x hx => ?_⟩
  have := (own_lt h.own x hx).1
  simp; omega
theorem st_more {st : Value} {q : List UInt8} (h : St st q) (l : List UInt8) : St st (q ++ l) := by
  rcases h with h | ⟨h, h2, h1, h3⟩
  · exact .inl h
  · refine .inr ⟨by rw [fz.lenOf_app l h2]; exact h, by simp; omega, by rw [fz.lenOf_app l h2]; exact h1, by rw [fz.lenOf_app l h2]; exact h3⟩
/-- The loop's relation. -/
def FdR (w0 : World) (xb : Nat) (q0 l0 : List UInt8) (fs0 : List fz.F) (eB eP : Addr) (k : Nat) (q1 l1 : List UInt8) (fs1 : List fz.F) (br1 : Bool) (A : Option Addr) (cap : Nat) (wr : World) : Prop :=
  Dk wr xb q1 fs1 br1 eB eP ∧ Below xb w0 wr ∧ AtU wr xb A l1 ∧ l1.length ≤ cap ∧ cap ≤ maxLen ∧ l1.length ≤ k ∧ fs1.length + q1.length + l1.length ≤ 90000000 ∧
    (br1 = false → fs0 ++ (fz.tk (q0 ++ l0)).1 = fs1 ++ (fz.tk (q1 ++ l1)).1 ∧ (fz.tk (q0 ++ l0)).2 = (fz.tk (q1 ++ l1)).2) ∧ (br1 = true → fs0 ++ (fz.tk (q0 ++ l0)).1 = fs1 ∧ (fz.tk (q0 ++ l0)).2 = ([], true))
/-- What feed leaves. -/
def FdE (w0 : World) (xb : Nat) (q0 l0 : List UInt8) (fs0 : List fz.F) (eB eP : Addr) (w' : World) : Prop :=
  Dk w' xb (fz.tk (q0 ++ l0)).2.1 (fs0 ++ (fz.tk (q0 ++ l0)).1) (fz.tk (q0 ++ l0)).2.2 eB eP ∧ Below xb w0 w'
theorem FdR.end_ {w0 wr : World} {xb k cap : Nat} {q0 l0 q1 l1 : List UInt8} {fs0 fs1 : List fz.F} {br1 : Bool} {eB eP : Addr} {A : Option Addr} (h : FdR w0 xb q0 l0 fs0 eB eP k q1 l1 fs1 br1 A cap wr) (he : l1 = [] ∨ br1 = true) : FdE w0 xb q0 l0 fs0 eB eP wr := by
  obtain ⟨hd, hb, _, _, _, _, _, h0, h1⟩ := h
  cases br1 with
  | true =>
    obtain ⟨e1, e2⟩ := h1 rfl
    unfold FdE
    rw [e1, e2]
    obtain ⟨cur, qq, s, st, fv, er, d1, d2, d3⟩ := hd
    exact ⟨⟨cur, qq, s, st, fv, er, d1, fun _ => ⟨(d2 rfl).1, rfl⟩, fun h => by cases h⟩, hb⟩
  | false =>
    have hl : l1 = [] := by rcases he with h | h; exact h; cases h
    subst hl
    obtain ⟨e1, e2⟩ := h0 rfl
    obtain ⟨cur, qq, s, st, fv, er, d1, d2, d3⟩ := hd
    have hn := (d3 rfl).2.2.2
    rw [List.append_nil, fz.tk_need hn] at e1 e2
    unfold FdE
    rw [e1, e2]
    exact ⟨⟨cur, qq, s, st, fv, er, by simpa using d1, d2, d3⟩, hb⟩
/-- A round. -/
theorem FdR.step {w0 wr w2 w3 : World} {xb k cap cap' : Nat} {q0 l0 q1 l1 : List UInt8} {fs0 fs1 : List fz.F} {eB eP : Addr} {A A' : Option Addr} {e : Ending} {er1 : Value} (h : FdR w0 xb q0 l0 fs0 eB eP k q1 l1 fs1 false A cap wr) (hl : 0 < l1.length)
    (hw2 : Below xb wr w2) (hadv : AdvR w2 xb (q1 ++ l1.take (mput q1.length l1.length)) fs1 er1 eB eP e w3) (ha : AtU wr xb A' (l1.drop (mput q1.length l1.length))) (hc1 : (l1.drop (mput q1.length l1.length)).length ≤ cap') (hc2 : cap' ≤ maxLen) (hq : q1.length ≤ 2002) :
    ∃ a q2 fs2 br2, e = .returned (.iface 116 (.pointer (some a))) ∧ FdR w0 xb q0 l0 fs0 eB eP (k - 1) q2 (l1.drop (mput q1.length l1.length)) fs2 br2 A' cap' (w3.setCell ⟨xb, 2007, none⟩ (.iface 116 (.pointer (some a)))) ∧ k - 1 < k ∧ (∃ z, w3.cell? ⟨xb, 2007, none⟩ = some z) ∧ w3.frozen? ⟨xb, 2007, none⟩ = false := by
  obtain ⟨hd, hb, hat, _, _, hk, hn, h0, _⟩ := h
  obtain ⟨e1, e2⟩ := h0 rfl
  have hm : 1 ≤ mput q1.length l1.length := by unfold mput; omega
  have hml : mput q1.length l1.length ≤ l1.length := by unfold mput; omega
  generalize mput q1.length l1.length = m at *
  have hsplit : q1 ++ l1 = (q1 ++ l1.take m) ++ l1.drop m := by rw [List.append_assoc, List.take_append_drop]
  obtain ⟨cur', qq, s', st', fv', hdc, hbel, hp, hbk⟩ := hadv
  have hB : Below xb w0 w3 := (hb.trans hw2).trans hbel
  have hcell : ∃ z, w3.cell? ⟨xb, 2007, none⟩ = some z := ⟨_, (hdc.cell 2007).trans hdc.c7⟩
  have hfz := hdc.blk.frozen 2007
  have hat2 : ∀ v, AtU (w3.setCell ⟨xb, 2007, none⟩ v) xb A' (l1.drop m) := fun v => (ha.below (hw2.trans hbel) (Nat.le_refl _)).below ((Below.refl xb w3).setCell (Nat.le_refl _) _) (Nat.le_refl _)
  have htl := fz.tk_len (q1 ++ l1.take m)
  rw [List.length_append, List.length_take] at htl
  have hdl : (l1.drop m).length = l1.length - m := List.length_drop
  cases hbr : (fz.tk (q1 ++ l1.take m)).2.2 with
  | false =>
    obtain ⟨rfl, rfl, hst⟩ := hp hbr
    have hmore := fz.tk_app_more (l1.drop m) _ hbr
    rw [← hsplit] at hmore
    have htn := fz.tk_cnt (q1 ++ l1.take m)
    rw [List.length_append, List.length_take] at htn
    refine ⟨eP, _, _, false, rfl, ⟨⟨_, _, _, _, _, _, dc_err hdc _, fun h => (by cases h), fun _ => ⟨rfl, .inr rfl, hst, fz.tk_rest _ hbr⟩⟩, hB.setCell (Nat.le_refl _) _, hat2 _, hc1, hc2, by omega, ?_, fun _ => ⟨?_, ?_⟩, fun h => by cases h⟩, by omega, hcell, hfz⟩
    · rw [List.length_append]; omega
    · rw [e1, hmore]; simp
    · rw [e2, hmore]
  | true =>
    have hev := hbk hbr
    subst hev
    have hall := fz.tk_app_bad (l1.drop m) _ hbr
    rw [← hsplit] at hall
    have hemp := fz.tk_brk _ hbr
    refine ⟨eB, [], _, true, rfl, ⟨⟨_, _, _, _, _, _, dc_err hdc _, fun _ => ⟨rfl, rfl⟩, fun h => (by cases h)⟩, hB.setCell (Nat.le_refl _) _, hat2 _, hc1, hc2, by omega, ?_, fun h => (by cases h), fun _ => ⟨?_, ?_⟩⟩, by omega, hcell, hfz⟩
    · rw [List.length_append]; simp; omega
    · rw [e1, hall]
    · rw [e2, hall]
      exact Prod.ext hemp hbr
end Go.Proofs.YtdpmjpjbcpdgnaaDoor

/- impl's states of a decoder: needs, look. Condition: the decoding, the bytes and the errors lie in memory. -/
import Derived.Test.YtdpmjpjbcpdgnaaDoorProg
import Derived.Test.YtdpmjpjbcpdgnaaDoorFzF
import Derived.Test.YtdpmjpjbcpdgnaaDoorFzV
import Derived.Deep.AppendLies
import Derived.StillTailTactics
namespace Go.Proofs.YtdpmjpjbcpdgnaaDoor
open Go.RowKit

theorem bl_dn {B : Nat} {w w' : World} (h : Below B w w') (n : Nat) : Below B w (w'.drewN n) := h.trans ⟨rfl, rfl, rfl, Nat.le_refl _, fun _ _ => rfl⟩
theorem or_i64 (a b : Nat) (ha : a < 256) (hb : b < 256) : bits .or .i64 ((a : Int) * 256) (b : Int) = (((a * 256 + b : Nat)) : Int) := by
  have hx : (a * 256) ||| b = a * 256 + b := by
    have := Nat.two_pow_add_eq_or_of_lt (i := 8) (b := b) (by omega) a
    rw [show 2 ^ 8 * a = a * 256 by omega] at this
    exact this.symm
  have e1 : ((a : Int) * 256) = ((a * 256 : Nat) : Int) := by omega
  have h1 : (BitVec.ofInt 64 ((a * 256 : Nat) : Int)).toNat = a * 256 := by
    rw [BitVec.ofInt_natCast, BitVec.toNat_ofNat]; exact Nat.mod_eq_of_lt (by omega)
  have h2 : (BitVec.ofInt 64 (b : Int)).toNat = b := by
    rw [BitVec.ofInt_natCast, BitVec.toNat_ofNat]; exact Nat.mod_eq_of_lt (by omega)
  rw [e1]
  show IntKind.i64.wrap ((BitVec.ofInt 64 ((a * 256 : Nat) : Int) ||| BitVec.ofInt 64 (b : Int)).toNat : Int) = _
  rw [BitVec.toNat_or, h1, h2, hx]
  simp [IntKind.wrap, IntKind.bits, IntKind.signed]
  omega

theorem needsL_any (w : World) : Calls Tryd.prog 93 #[.agg #[]] w fun e w' => e = .returned (.int .i64 2) ∧ Below w.heap.size w w' := by
  have HB := Lib.hid ((Below.refl w.heap.size w).alloc (Nat.le_refl _) (.cells #[] 91))
  go_enter Tryd.func93, Tryd.ntmps93
  go_wp2_with fail
  go_ret
  exact ⟨rfl, HB.out⟩
theorem needsF_any (n : Int) (w : World) : Calls Tryd.prog 110 #[.agg #[.int .i64 n]] w fun e w' => e = .returned (.int .i64 n) ∧ Below w.heap.size w w' := by
  have HB := Lib.hid ((Below.refl w.heap.size w).alloc (Nat.le_refl _) (.cells #[.int .i64 n] 134))
  go_enter Tryd.func110, Tryd.ntmps110
  go_wp2_with fail
  go_ret
  exact ⟨rfl, HB.out⟩

/-- What awaitsLength.look answers. -/
def lkL (eB : Addr) (n : Nat) : Value := if n < 1 ∨ 2001 < n then .tuple #[.nilIface, esV eB] else .tuple #[aFv ((2 : Int) + (n : Int)), .nilIface]

set_option maxRecDepth 100000 in
set_option maxHeartbeats 1000000 in
theorem lookL_any (xb : Nat) (A : Option Addr) (cap : Nat) (l : List UInt8) (w : World) (eB eP : Addr) (ha : AtU w w.heap.size A l) (hl : l.length = 2) (he : Er w eB eP) :
    Calls Tryd.prog 92 #[.agg #[], .pointer (some ⟨xb, 0, none⟩), .slice A 2 cap] w fun e w' => e = .returned (lkL eB (fz.lenOf l)) ∧ Below w.heap.size w w' := by
  obtain ⟨b, o, rfl, hb, hcell⟩ := ha (by omega)
  have hbel := (Below.refl w.heap.size w).alloc (Nat.le_refl _) (.cells #[] 91)
  have c0 := (hbel.cell (p := ⟨b, o + 0, none⟩) hb).trans (hcell 0 (by omega))
  have c1 := (hbel.cell (p := ⟨b, o + 1, none⟩) hb).trans (hcell 1 (by omega))
  have vB := (he.below hbel).vB
  have x0 := (l.getD 0 0).toNat_lt
  have x1 := (l.getD 1 0).toNat_lt
  have hL : fz.lenOf l = (l.getD 0 0).toNat * 256 + (l.getD 1 0).toNat := rfl
  have HBL := Lib.hid hbel
  clear he hcell hbel ha
  rw [Nat.add_zero] at c0
  generalize (l.getD 0 0).toNat = a at *
  generalize (l.getD 1 0).toNat = d at *
  generalize fz.lenOf l = n at *
  have ho := or_i64 a d (by omega) (by omega)
  rw [← hL] at ho
  have HN : Hid (n < 65536) := Lib.hid (by omega)
  clear hL hl
  by_cases h1 : n < 1
  · have t1 : (n : Int) < 1 := by omega
    have HV : Hid (lkL eB n = .tuple #[.nilIface, .iface 116 (.pointer (some eB))]) := Lib.hid (by unfold lkL; rw [if_pos (.inl h1)]; rfl)
    clear h1
    go_enter Tryd.func92, Tryd.ntmps92
    go_wp2_with fail
    go_quiet (fail)
    have HB2 := Lib.hid (bl_dn HBL.out nq)
    go_wp2_with fail
    go_region
    all_goals
      go_wp2_with fail
      go_ret2
      exact ⟨by rw [HV.out]; rfl, HB2.out.drew⟩
  · by_cases h2 : 2001 < n
    · have t1 : ¬ (n : Int) < 1 := by omega
      have t2 : (2001 : Int) < (n : Int) := by omega
      have HV : Hid (lkL eB n = .tuple #[.nilIface, .iface 116 (.pointer (some eB))]) := Lib.hid (by unfold lkL; rw [if_pos (.inr h2)]; rfl)
      clear h1 h2
      go_enter Tryd.func92, Tryd.ntmps92
      go_wp2_with fail
      go_quiet (fail)
      have HB2 := Lib.hid (bl_dn HBL.out nq)
      go_wp2_with fail
      go_region
      all_goals
        go_wp2_with fail
        go_ret2
        exact ⟨by rw [HV.out]; rfl, HB2.out.drew⟩
    · have t1 : ¬ (n : Int) < 1 := by omega
      have t2 : ¬ (2001 : Int) < (n : Int) := by omega
      have t3 : (n : Int) ≤ 2001 := by omega
      have HV : Hid (lkL eB n = .tuple #[.iface 134 (.agg #[.int .i64 ((2 : Int) + (n : Int))]), .nilIface]) := Lib.hid (by unfold lkL; rw [if_neg (by omega)]; rfl)
      clear h1 h2
      go_enter Tryd.func92, Tryd.ntmps92
      go_wp2_with fail
      go_quiet (fail)
      have HB2 := Lib.hid (bl_dn HBL.out nq)
      go_wp2_with fail
      go_ret2
      exact ⟨by rw [HV.out]; rfl, HB2.out⟩

/-- 's[lo:]', with its address. -/
theorem sb_l2 (b o len cap lo : Nat) (h1 : lo ≤ len) (h2 : len ≤ cap) : ∃ o' : Nat, (∀ w, (Instr.sliceAt 22 (.slice (some ⟨b, o, none⟩) len cap) (some (.int .i64 (lo : Int))) none none).run Tryd.prog w = .ok (.slice (some ⟨b, o', none⟩) (len - lo) (cap - lo)) w) ∧
    (∀ w, (Instr.slice 22 (.slice (some ⟨b, o, none⟩) len cap) (some (.int .i64 (lo : Int))) none none).run Tryd.prog w = .ok (.slice (some ⟨b, o', none⟩) (len - lo) (cap - lo)) w) ∧ (lo < len → o' = o + lo) := by
  have k : ∀ w, (Instr.slice 22 (.slice (some ⟨b, o, none⟩) len cap) (some (.int .i64 (lo : Int))) none none).run Tryd.prog w = .ok (.slice (some ⟨b, if cap = lo then o else o + lo, none⟩) (len - lo) (cap - lo)) w := fun w => by
    rw [run_slice_l w _ _ _ _ u8_u .i64 (lo : Int) (by omega) (by omega), u8_s]
    simp only [Result.andThen_ok, sliced, Int.toNat_natCast, Nat.mul_one]
    have ha : (⟨b, o, none⟩ : Addr).add lo = ⟨b, o + lo, none⟩ := by unfold Addr.add; split <;> simp_all
    by_cases hc : cap = lo <;> simp [ha, hc]
  refine ⟨_, fun w => ?_, k, fun h => if_neg (by omega)⟩
  rw [run_sliceAt_slice w _ _ _ _ _ u8_u]
  exact k w
/-- A part of bytes, made a string. -/
theorem conv_tail {w : World} {b o o' cap lo : Nat} {l : List UInt8} (hlo : lo ≤ l.length) (ho : lo < l.length → o' = o + lo) (hc : ∀ i, i < l.length → w.cell? ⟨b, o + i, none⟩ = some (.int .u8 ((l.getD i 0).toNat : Int))) :
    (convert 22 9 (.slice (some ⟨b, o', none⟩) (l.length - lo) cap)).run Tryd.prog w = .ok (.string ⟨(l.drop lo).toArray⟩) w := by
  have hl : (l.drop lo).length = l.length - lo := List.length_drop
  have h := run_convert_bytes_back (P := Tryd.prog) w 22 9 5 ⟨b, o', none⟩ cap (l.drop lo) Tryd.underlying22 Tryd.underlying5 Tryd.underlying9 (fun j hj => by
    rw [hl] at hj
    have hadd : (⟨b, o', none⟩ : Addr).add j = ⟨b, o + (lo + j), none⟩ := by
      rw [ho (by omega)]
      unfold Addr.add; split <;> simp_all [Nat.add_assoc]
    rw [hadd, hc (lo + j) (by omega)]
    simp only [List.getD, List.getElem?_eq_getElem (show lo + j < l.length by omega), Option.getD_some, List.getElem_drop])
  rw [hl] at h
  exact h
theorem i_fr : ∃ i : TypeInfo, Tryd.prog.info? 28 = some i ∧ i.size = 2 ∧ i.bytes = 24 ∧ i.zero = some (.agg #[.int .i64 0, .string ⟨#[]⟩]) := by
  obtain ⟨i, hi, h⟩ := Option.map_eq_some_iff.1 (show (Tryd.prog.info? 28).map (fun i => (i.zero, i.size, i.bytes)) = some (some (.agg #[.int .i64 0, .string ⟨#[]⟩]), 2, 24) by kernel_rfl)
  simp only [Prod.mk.injEq] at h
  exact ⟨i, hi, h.2.1, h.2.2, h.1⟩
/-- A frame more in a decoding. -/
theorem dc_frame {w w1 w4 : World} {xb s g cap : Nat} {cur : List Value} {q : List UInt8} {st fv er : Value} {fs : List fz.F} (f : fz.F) (h : Dc w xb cur q s st fs fv er) (h1 : Below w.heap.size w w1) (hg : w1.grownBy w4 fv.ownBlock)
    (ho : w4.ownsRow (xb + 1) 28 2 (.slice (some ⟨g, 0, none⟩) (fs.length + 1) cap) (fs.length + 1) (fcs fs ++ [.int .i64 f.t, .string f.s])) :
    w4.cell? ⟨xb, 2006, none⟩ = some fv ∧ w4.frozen? ⟨xb, 2006, none⟩ = false ∧
    Dc (w4.setCell ⟨xb, 2006, none⟩ (.slice (some ⟨g, 0, none⟩) (fs.length + 1) cap)) xb (cur.set 2006 (.slice (some ⟨g, 0, none⟩) (fs.length + 1) cap)) q s st (fs ++ [f]) (.slice (some ⟨g, 0, none⟩) (fs.length + 1) cap) er ∧
    Below xb w (w4.setCell ⟨xb, 2006, none⟩ (.slice (some ⟨g, 0, none⟩) (fs.length + 1) cap)) := by
  have hlt := h.blk.lt
  have hne : some xb ≠ fv.ownBlock := fun e => by have := (World.ownsRow.lt h.own xb e.symm).1; omega
  have hb4 : Blk w4 xb 71 cur.toArray := (h.blk.below h1 hlt).keep (hg.block xb (Nat.lt_of_lt_of_le hlt h1.size) hne)
  obtain ⟨r1, r2, r3, r4, r5, r6⟩ := h.rg
  refine ⟨by rw [hb4.cell]; simpa using h.c6, hb4.frozen _, ⟨?_, ⟨by rw [List.length_set]; exact r1, r2, r3, ?_, ?_, fun i hi => ?_⟩, ?_, ?_, ?_, ?_⟩, ?_⟩
  · have := hb4.set_ 2006 (.slice (some ⟨g, 0, none⟩) (fs.length + 1) cap)
    rw [list_set_arr] at this
    exact this
  · rw [List.getElem?_set_ne (by omega)]; exact r4
  · rw [List.getElem?_set_ne (by omega)]; exact r5
  · have hx : (s + i) % 2003 < 2003 := Nat.mod_lt _ (by omega)
    rw [List.getElem?_set_ne (by omega)]; exact r6 i hi
  · rw [List.getElem?_set_ne (by omega)]; exact h.c5
  · rw [List.getElem?_set_self (by omega)]
  · rw [List.getElem?_set_ne (by omega)]; exact h.c7
  · have e1 : (fs ++ [f]).length = fs.length + 1 := by simp
    have e2 : fcs (fs ++ [f]) = fcs fs ++ [.int .i64 f.t, .string f.s] := fcs_app fs [f]
    unfold OwnG
    rw [e1, e2]
    refine own_keep ho ((Wrote.refl [xb] w4).set_ (.inl (by simp)) _) fun x hx => ?_
    have := (own_lt ho x hx).1
    simp; omega
  · exact (((h1.mono (Nat.le_of_lt hlt)).grown hg (Nat.le_trans (Nat.le_of_lt hlt) h1.size) fun k hk => by have := (World.ownsRow.lt h.own k hk).1; omega)).setCell (Nat.le_refl _) _
theorem dc_drop {w w' : World} {xb s n : Nat} {cur : List Value} {q : List UInt8} {st fv er : Value} {fs : List fz.F} (h : Dc w xb cur q s st fs fv er) (hn : n ≤ q.length)
    (hb : Blk w' xb 71 ((cur.set 2003 (.int .i64 (((s + n) % 2003 : Nat) : Int))).set 2004 (.int .i64 ((q.length : Int) - (n : Int)))).toArray) (hw : Wrote [xb] w w') :
    Dc w' xb ((cur.set 2003 (.int .i64 (((s + n) % 2003 : Nat) : Int))).set 2004 (.int .i64 ((q.length : Int) - (n : Int)))) (q.drop n) ((s + n) % 2003) st fs fv er := by
  obtain ⟨h1, h2⟩ := rg_drop h.rg hn
  refine ⟨hb, h1, (h2 2005 (by omega)).trans h.c5, (h2 2006 (by omega)).trans h.c6, (h2 2007 (by omega)).trans h.c7, own_keep h.own hw fun x hx => ?_⟩
  have := (own_lt h.own x hx).1
  simp; omega

theorem box_new (w1 : World) (t : TypeId) (cs : Array Value) : Blk (w1.alloc (.cells cs t)).drew w1.heap.size t cs ∧ Below w1.heap.size w1 (w1.alloc (.cells cs t)).drew :=
  ⟨(Blk.new w1 t cs).keep rfl, ((Below.refl w1.heap.size w1).alloc (Nat.le_refl _) _).drew⟩
/-- What awaitsFrame.look leaves where the frame is valid. -/
def LkF (xb : Nat) (q : List UInt8) (n : Nat) (st : Value) (fs : List fz.F) (er : Value) (f : fz.F) (w : World) (e : Ending) (w' : World) : Prop :=
  e = .returned (.tuple #[aLv, .nilIface]) ∧ (∃ cur' s' fv', Dc w' xb cur' (q.drop n) s' st (fs ++ [f]) fv' er) ∧ Below xb w w'
set_option maxRecDepth 100000 in
set_option maxHeartbeats 1000000 in
theorem lookF_no (xb n : Nat) (A : Option Addr) (cap : Nat) (l : List UInt8) (w : World) (eB eP : Addr) (ha : AtU w w.heap.size A l) (hl : l.length = n) (hn3 : 3 ≤ n) (hn : n ≤ 2003) (hc : n ≤ cap) (he : Er w eB eP)
    (hv : fz.okF ⟨((l.getD 2 0).toNat : Int), ⟨(l.drop 3).toArray⟩⟩ = false) :
    Calls Tryd.prog 109 #[.agg #[.int .i64 (n : Int)], .pointer (some ⟨xb, 0, none⟩), .slice A n cap] w fun e w' => e = .returned (.tuple #[.nilIface, esV eB]) ∧ Below w.heap.size w w' := by
  subst hl
  obtain ⟨b, o, rfl, hb, hcell⟩ := ha (by omega)
  obtain ⟨o', ks1, ks2, ho'⟩ := sb_l2 b o l.length cap 3 hn3 hc
  have hbel := (Below.refl w.heap.size w).alloc (Nat.le_refl _) (.cells #[.int .i64 (l.length : Int)] 134)
  have kc : ∀ wd, Below w.heap.size w wd → (convert 22 9 (.slice (some ⟨b, o', none⟩) (l.length - 3) (cap - 3))).run Tryd.prog wd = .ok (.string ⟨(l.drop 3).toArray⟩) wd := fun wd hd => conv_tail hn3 ho' fun i hi => (hd.cell (p := ⟨b, o + i, none⟩) hb).trans (hcell i hi)
  have kd : ∀ wd, Below w.heap.size w wd → wd.cell? ⟨b, o + 2, none⟩ = some (.int .u8 ((l.getD 2 0).toNat : Int)) := fun wd hd => (hd.cell (p := ⟨b, o + 2, none⟩) hb).trans (hcell 2 (by omega))
  have hs3 : (⟨(l.drop 3).toArray⟩ : ByteArray).size ≤ maxLen := by
    have : (⟨(l.drop 3).toArray⟩ : ByteArray).size = (l.drop 3).length := by simp [ByteArray.size]
    rw [this, List.length_drop]; unfold maxLen; omega
  have CV := fun w => implFV_any ((l.getD 2 0).toNat : Int) ⟨(l.drop 3).toArray⟩ w hs3
  rw [hv] at CV
  have HE := Lib.hid he
  have HBL := Lib.hid hbel
  have HKC := Lib.hid kc
  have HKD := Lib.hid kd
  have HCV := Lib.hid CV
  clear hcell ho' hbel kc kd he ha hv CV hs3
  have ht0 : (0 : Int) ≤ ((l.getD 2 0).toNat : Int) := by omega
  have ht1 : ((l.getD 2 0).toNat : Int) ≤ 255 := by have := (l.getD 2 0).toNat_lt; omega
  generalize (⟨(l.drop 3).toArray⟩ : ByteArray) = s at *
  generalize ((l.getD 2 0).toNat : Int) = t at *
  generalize l.length = n at *
  have ks3 : ∀ w, (Instr.sliceAt 22 (.slice (some ⟨b, o, none⟩) n cap) (some (.int .i64 3)) none none).run Tryd.prog w = .ok (.slice (some ⟨b, o', none⟩) (n - 3) (cap - 3)) w := ks1
  have ks4 : ∀ w, (Instr.slice 22 (.slice (some ⟨b, o, none⟩) n cap) (some (.int .i64 3)) none none).run Tryd.prog w = .ok (.slice (some ⟨b, o', none⟩) (n - 3) (cap - 3)) w := ks2
  clear ks1 ks2
  have hn2 : (2 : Int) < (n : Int) := by omega
  go_enter Tryd.func109, Tryd.ntmps109
  go_wp2_with fail
  have hq1 := Blk.new w 134 #[.int .i64 (n : Int)]
  have HB1 := HBL
  generalize (w.alloc (.cells #[.int .i64 (n : Int)] 134)) = w1 at *
  have HQ1 := Lib.hid hq1
  have hb1 : b < w1.heap.size := Nat.lt_of_lt_of_le hb HB1.out.size
  clear hq1
  go_cut [8] (fun u wx => ∃ H : Nat, u = .pointer (some ⟨H, 0, none⟩) ∧ Blk wx H 28 #[.int .i64 t, .string s] ∧ Below w1.heap.size w1 wx)
  case first =>
    have kc1 := HKC.out w1.drew HB1.out.drew
    have kc2 : ∀ o, (convert 22 9 (.slice (some ⟨b, o', none⟩) (n - 3) (cap - 3))).run Tryd.prog (w1.alloc o).drew = .ok (.string s) (w1.alloc o).drew := fun ob => HKC.out _ ((HB1.out.alloc HB1.out.size ob).drew)
    have kd1 := HKD.out w1.drew HB1.out.drew
    have kd2 : ∀ ob, (w1.alloc ob).drew.cell? ⟨b, o + 2, none⟩ = some (.int .u8 t) := fun ob => HKD.out _ ((HB1.out.alloc HB1.out.size ob).drew)
    go_region
    all_goals
      go_wp2_with fail
      go_meet
    all_goals exact ⟨_, rfl, (box_new w1 _ _).1, (box_new w1 _ _).2⟩
  case rest =>
    obtain ⟨H, rfl, bq, hb2⟩ := hcut
    generalize wc = w2 at *
    have p0 := bq.cell 0
    have p1 := bq.cell 1
    have p0' : w2.cell? ⟨H, 0, none⟩ = some (.int .i64 t) := p0
    have p1' : w2.cell? ⟨H, 1, none⟩ = some (.string s) := p1
    have HB2 := Lib.hid (HB1.out.trans (hb2.mono HB1.out.size))
    clear p0 p1 bq hb2
    go_wp2_with fail
    refine (HCV.out _).mono ?_
    rintro e w3 ⟨rfl, hb3⟩
    have HB3 := Lib.hid (HB2.out.trans (hb3.mono HB2.out.size))
    have vB := (HE.out.below HB3.out).vB
    have HV := Lib.hid (show esV eB = .iface 116 (.pointer (some eB)) from rfl)
    clear hb3 p0' p1'
    go_wp2_with fail
    go_region
    all_goals
      go_wp2_with fail
      go_ret2
      exact ⟨by rw [HV.out]; rfl, HB3.out.drew⟩
set_option maxRecDepth 100000 in
set_option maxHeartbeats 1000000 in
theorem lookF_yes (xb n s' : Nat) (cur : List Value) (q : List UInt8) (st fv er : Value) (fs : List fz.F) (A : Option Addr) (cap : Nat) (l : List UInt8) (w : World) (ha : AtU w w.heap.size A l) (hl : l.length = n) (hn3 : 3 ≤ n) (hn : n ≤ 2003) (hc : n ≤ cap)
    (hd : Dc w xb cur q s' st fs fv er) (hq : n ≤ q.length) (hfs : fs.length ≤ 100000000)
    (hv : fz.okF ⟨((l.getD 2 0).toNat : Int), ⟨(l.drop 3).toArray⟩⟩ = true) :
    Calls Tryd.prog 109 #[.agg #[.int .i64 (n : Int)], .pointer (some ⟨xb, 0, none⟩), .slice A n cap] w fun e w' => LkF xb q n st fs er ⟨((l.getD 2 0).toNat : Int), ⟨(l.drop 3).toArray⟩⟩ w e w' := by
  subst hl
  obtain ⟨b, o, rfl, hb, hcell⟩ := ha (by omega)
  obtain ⟨o', ks1, ks2, ho'⟩ := sb_l2 b o l.length cap 3 hn3 hc
  have hbel := (Below.refl w.heap.size w).alloc (Nat.le_refl _) (.cells #[.int .i64 (l.length : Int)] 134)
  have kc : ∀ wd, Below w.heap.size w wd → (convert 22 9 (.slice (some ⟨b, o', none⟩) (l.length - 3) (cap - 3))).run Tryd.prog wd = .ok (.string ⟨(l.drop 3).toArray⟩) wd := fun wd hd => conv_tail hn3 ho' fun i hi => (hd.cell (p := ⟨b, o + i, none⟩) hb).trans (hcell i hi)
  have kd : ∀ wd, Below w.heap.size w wd → wd.cell? ⟨b, o + 2, none⟩ = some (.int .u8 ((l.getD 2 0).toNat : Int)) := fun wd hd => (hd.cell (p := ⟨b, o + 2, none⟩) hb).trans (hcell 2 (by omega))
  have hs3 : (⟨(l.drop 3).toArray⟩ : ByteArray).size ≤ maxLen := by
    have : (⟨(l.drop 3).toArray⟩ : ByteArray).size = (l.drop 3).length := by simp [ByteArray.size]
    rw [this, List.length_drop]; unfold maxLen; omega
  have CV := fun w => implFV_any ((l.getD 2 0).toNat : Int) ⟨(l.drop 3).toArray⟩ w hs3
  rw [hv] at CV
  have HD := Lib.hid hd
  have HBL := Lib.hid hbel
  have HKC := Lib.hid kc
  have HKD := Lib.hid kd
  have HCV := Lib.hid CV
  clear hcell ho' hbel kc kd hd ha hv CV hs3
  have ht0 : (0 : Int) ≤ ((l.getD 2 0).toNat : Int) := by omega
  have ht1 : ((l.getD 2 0).toNat : Int) ≤ 255 := by have := (l.getD 2 0).toNat_lt; omega
  generalize (⟨(l.drop 3).toArray⟩ : ByteArray) = s at *
  generalize ((l.getD 2 0).toNat : Int) = t at *
  generalize l.length = n at *
  have ks3 : ∀ w, (Instr.sliceAt 22 (.slice (some ⟨b, o, none⟩) n cap) (some (.int .i64 3)) none none).run Tryd.prog w = .ok (.slice (some ⟨b, o', none⟩) (n - 3) (cap - 3)) w := ks1
  have ks4 : ∀ w, (Instr.slice 22 (.slice (some ⟨b, o, none⟩) n cap) (some (.int .i64 3)) none none).run Tryd.prog w = .ok (.slice (some ⟨b, o', none⟩) (n - 3) (cap - 3)) w := ks2
  clear ks1 ks2
  have HQL := Lib.hid hq
  clear hq
  have hn2 : (2 : Int) < (n : Int) := by omega
  go_enter Tryd.func109, Tryd.ntmps109
  go_wp2_with fail
  have hq1 := Blk.new w 134 #[.int .i64 (n : Int)]
  have HB1 := HBL
  generalize (w.alloc (.cells #[.int .i64 (n : Int)] 134)) = w1 at *
  have HQ1 := Lib.hid hq1
  have hb1 : b < w1.heap.size := Nat.lt_of_lt_of_le hb HB1.out.size
  clear hq1
  go_cut [8] (fun u wx => ∃ H : Nat, u = .pointer (some ⟨H, 0, none⟩) ∧ Blk wx H 28 #[.int .i64 t, .string s] ∧ Below w1.heap.size w1 wx)
  case first =>
    have kc1 := HKC.out w1.drew HB1.out.drew
    have kc2 : ∀ o, (convert 22 9 (.slice (some ⟨b, o', none⟩) (n - 3) (cap - 3))).run Tryd.prog (w1.alloc o).drew = .ok (.string s) (w1.alloc o).drew := fun ob => HKC.out _ ((HB1.out.alloc HB1.out.size ob).drew)
    have kd1 := HKD.out w1.drew HB1.out.drew
    have kd2 : ∀ ob, (w1.alloc ob).drew.cell? ⟨b, o + 2, none⟩ = some (.int .u8 t) := fun ob => HKD.out _ ((HB1.out.alloc HB1.out.size ob).drew)
    go_region
    all_goals
      go_wp2_with fail
      go_meet
    all_goals exact ⟨_, rfl, (box_new w1 _ _).1, (box_new w1 _ _).2⟩
  case rest =>
    obtain ⟨H, rfl, bq, hb2⟩ := hcut
    generalize wc = w2 at *
    have p0 := bq.cell 0
    have p1 := bq.cell 1
    have p0' : w2.cell? ⟨H, 0, none⟩ = some (.int .i64 t) := p0
    have p1' : w2.cell? ⟨H, 1, none⟩ = some (.string s) := p1
    have HB2 := Lib.hid (HB1.out.trans (hb2.mono HB1.out.size))
    have hb2' := Lib.hid hb2
    have HH := Lib.hid bq.lt
    clear p0 p1 bq hb2
    go_wp2_with fail
    refine (HCV.out _).mono ?_
    rintro e w3 ⟨rfl, hb3⟩
    have HB3 := Lib.hid (HB2.out.trans (hb3.mono HB2.out.size))
    have HX := Lib.hid HD.out.blk.lt
    have hd3 := HD.out.below HB3.out
    have hq3 := (HQ1.out.below (B := w1.heap.size) (hb2'.out.trans (hb3.mono hb2'.out.size)) HQ1.out.lt)
    have r0 : w3.cell? ⟨H, 0, none⟩ = some (.int .i64 t) := (hb3.cell (p := ⟨H, 0, none⟩) HH.out).trans p0'
    have r1 : w3.cell? ⟨H, 1, none⟩ = some (.string s) := (hb3.cell (p := ⟨H, 1, none⟩) HH.out).trans p1'
    have hH3 : H < w3.heap.size := Nat.lt_of_lt_of_le HH.out hb3.size
    have c6 : w3.cell? ⟨xb, 2006, none⟩ = some fv := by rw [hd3.cell]; exact hd3.c6
    have hx3 := hd3.blk.lt
    have HD3 := Lib.hid hd3
    have HQ3 := Lib.hid hq3
    clear hb3 p0' p1' hd3 hq3
    obtain ⟨i, hi, hsz, hby, hz⟩ := i_fr
    go_wp2_with fail
    go_cut [28] (fun u wx => ∃ (g cap4 : Nat) (w4 : World), wx = w4.setCell ⟨xb, 2006, none⟩ (.slice (some ⟨g, 0, none⟩) (fs.length + 1) cap4) ∧ (∃ w3', Below w3.heap.size w3 w3' ∧ w3'.grownBy w4 fv.ownBlock) ∧ w4.ownsRow (xb + 1) 28 2 (.slice (some ⟨g, 0, none⟩) (fs.length + 1) cap4) (fs.length + 1) (fcs fs ++ [.int .i64 t, .string s]))
    case first =>
      have HOWN : Hid (∀ ob, ((w3.alloc ob).drew).ownsRow (xb + 1) 28 2 fv fs.length (fcs fs) ∧ (w3.drew.alloc ob).ownsRow (xb + 1) 28 2 fv fs.length (fcs fs)) := Lib.hid fun ob => ⟨own_below HD3.out.own (((Below.refl w3.heap.size w3).alloc (Nat.le_refl _) ob).drew), own_below HD3.out.own ((Below.refl w3.heap.size w3).drew.alloc (Nat.le_refl _) ob)⟩
      have HNEW : Hid (∀ j u, (#[Value.int .i64 t, Value.string s] : Array Value).toList[j]? = some u → ((w3.alloc (.cells #[.int .i64 t, .string s] 28)).drew).cell? ((⟨w3.heap.size, 0, none⟩ : Addr).add j) = some u) := Lib.hid (World.news_of_block (box_new w3 _ _).1)
      go_region_law
        (refine step_append_lies _ (by rfl) (.tmp 25) (.tmp 27) _ (by rfl) (xb + 1) 28 i _ 2 24 (by kernel_rfl) hi hz hsz hby rfl (by omega) fv fs.length (fcs fs) (by go_simp)
            (by first | exact (HOWN.out _).1 | exact (HOWN.out _).2) ⟨w3.heap.size, 0, none⟩ 1 1 [.int .i64 t, .string s] (by go_simp) rfl HNEW.out (by simp [Value.oneCell']) (by omega) (by unfold maxLen; omega) (by omega) (by simp; omega) _ rfl ?_
         intro g cap4 w4 hown hgrow hat hlt
         have hwb : Below w3.heap.size w3 ((w3.alloc (.cells #[.int .i64 t, .string s] 28)).drew) := (box_new w3 _ _).2
         have hdc := dc_frame ⟨t, s⟩ HD3.out hwb hgrow hown
         have d6 := hdc.1
         have f6 := hdc.2.1
         have HOW4 := Lib.hid hown
         have HGR4 := Lib.hid hgrow
         clear hdc hown hgrow hat hlt)
      all_goals
        go_wp2_with fail
        go_meet
      all_goals exact ⟨g, cap4, w4, rfl, ⟨_, (box_new w3 _ _).2, HGR4.out⟩, HOW4.out⟩
    case rest =>
      obtain ⟨g, cap4, w4, hwx, ⟨w3', hw3, hgr⟩, how⟩ := hcut
      have hdc := dc_frame ⟨t, s⟩ HD3.out hw3 hgr how
      rw [hwx]
      have hq5 : Blk w4 w.heap.size 134 #[.int .i64 (n : Int)] := (HQ3.out.below hw3 HQ3.out.lt).keep (hgr.block _ (Nat.lt_of_lt_of_le HQ3.out.lt hw3.size) fun e => by have := (World.ownsRow.lt HD.out.own w.heap.size e.symm).2; omega)
      have hq6 : Blk (w4.setCell ⟨xb, 2006, none⟩ (.slice (some ⟨g, 0, none⟩) (fs.length + 1) cap4)) w.heap.size 134 #[.int .i64 (n : Int)] := hq5.far (by have := HX.out; simp; omega) _
      obtain ⟨_, _, hd5, hb5⟩ := hdc
      clear hwx how hgr hw3 hq5
      generalize (w4.setCell ⟨xb, 2006, none⟩ (.slice (some ⟨g, 0, none⟩) (fs.length + 1) cap4)) = w5 at *
      have x0 : w5.cell? ⟨w.heap.size, 0, none⟩ = some (.int .i64 (n : Int)) := hq6.cell 0
      have HBW5 : Hid (Below xb w w5) := Lib.hid ((HB3.out.mono (Nat.le_of_lt HX.out)).trans hb5)
      have HD5 := Lib.hid (hd5.below (Below.refl w5.heap.size w5).drew)
      have HAL := Lib.hid (show aLv = .iface 91 (.agg #[]) from rfl)
      clear hd5 hb5 hq6 c6 r0 r1
      go_wp2_with fail
      go_still_tail 5, (by kernel_rfl)
      change wpList _ _ _ _ _ w5.drew
      have HBD := Lib.hid (HBW5.out.drew)
      generalize w5.drew = w6 at *
      go_wp2_with fail
      refine (drop_any xb _ n _ q w6 HD5.out.blk HD5.out.rg HQL.out).mono ?_
      rintro e w7 ⟨rfl, hb7, hw7⟩
      have HDF := Lib.hid (dc_drop HD5.out HQL.out hb7 hw7)
      have HBF := Lib.hid (HBD.out.trans (hw7.below (Nat.le_trans (Nat.le_of_lt HX.out) HBD.out.size) (fun x hx => by simp at hx; omega)))
      clear hb7 hw7 x0
      go_wp2_with fail
      go_ret2
      exact ⟨by rw [HAL.out]; rfl, ⟨_, _, _, HDF.out⟩, HBF.out⟩
end Go.Proofs.YtdpmjpjbcpdgnaaDoor

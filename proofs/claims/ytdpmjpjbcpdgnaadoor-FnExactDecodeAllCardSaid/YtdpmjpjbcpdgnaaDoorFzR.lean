/- impl.byteRing: place, drop, put, first. Condition: the decoding lies in memory. -/
import Derived.Test.YtdpmjpjbcpdgnaaDoorProg
import Derived.Test.YtdpmjpjbcpdgnaaDoorFzN
import Derived.Deep.RegionLaw
import Derived.Deep.RegionHeld3
import Derived.Deep.QuietTactic
import Derived.BigQuiet
import Derived.IntWalk
import Derived.Deep.AppendSrc
import Derived.Deep.Upon
import Derived.Deep.DeepCutAuto
namespace Go.Proofs.YtdpmjpjbcpdgnaaDoor
open Go.RowKit

section
variable {w : World} {xb s : Nat} {cur : List Value} {q : List UInt8} {st fv er : Value} {fs : List fz.F}
/-- byteRing.place. -/
theorem place_any (o : Nat) (ho : o ≤ 4000) (hs : s < 2003) (h : w.cell? ⟨xb, 2003, none⟩ = some (.int .i64 (s : Int))) :
    Calls Tryd.prog 73 #[.pointer (some ⟨xb, 0, none⟩), .int .i64 (o : Int)] w fun e w' => e = .returned (.int .i64 (((s + o) % 2003 : Nat) : Int)) ∧ w = w' := by
  have HV : Hid ((((s + o) % 2003 : Nat) : Int) = ((s : Int) + (o : Int)) % 2003) := Lib.hid (by omega)
  go_enter Tryd.func73, Tryd.ntmps73
  go_wp2_with fail
  go_ret
  rw [HV.out]
  exact ⟨rfl, rfl⟩
end
theorem list_set_arr (cur : List Value) (i : Nat) (v : Value) : cur.toArray.setIfInBounds i v = (cur.set i v).toArray := by simp

set_option maxHeartbeats 1000000 in
/-- byteRing.drop. -/
theorem drop_any (xb s n : Nat) (cur : List Value) (q : List UInt8) (w : World) (hb : Blk w xb 71 cur.toArray) (hr : Rg cur q s) (hn : n ≤ q.length) :
    Calls Tryd.prog 94 #[.pointer (some ⟨xb, 0, none⟩), .int .i64 (n : Int)] w fun e w' => e = .returned (.tuple #[]) ∧
      Blk w' xb 71 ((cur.set 2003 (.int .i64 (((s + n) % 2003 : Nat) : Int))).set 2004 (.int .i64 ((q.length : Int) - (n : Int)))).toArray ∧ Wrote [xb] w w' := by
  have c3 : w.cell? ⟨xb, 2003, none⟩ = some (.int .i64 (s : Int)) := by rw [hb.cell]; simpa using hr.cs
  have c4 : w.cell? ⟨xb, 2004, none⟩ = some (.int .i64 (q.length : Int)) := by rw [hb.cell]; simpa using hr.cn
  have f3 := hb.frozen 2003
  have f4 := hb.frozen 2004
  have hsl := hr.sl
  have hql := hr.ql
  have hlt := hb.lt
  have C1 := place_any (w := w) (xb := xb) (s := s) n (by omega) hsl c3
  have HB1 := Lib.hid ((hb.set_ 2003 (.int .i64 (((s + n) % 2003 : Nat) : Int))).set_ 2004 (.int .i64 ((q.length : Int) - (n : Int))))
  rw [list_set_arr, list_set_arr] at HB1
  have HW := Lib.hid (((Wrote.refl [xb] w).set_ (p := ⟨xb, 2003, none⟩) (.inl (by simp)) (.int .i64 (((s + n) % 2003 : Nat) : Int))).set_ (p := ⟨xb, 2004, none⟩) (.inl (by simp)) (.int .i64 ((q.length : Int) - (n : Int))))
  have hne : (⟨xb, 2003, none⟩ : Addr) ≠ ⟨xb, 2004, none⟩ := fun e => by injection e with _ e _; omega
  generalize (((s + n) % 2003 : Nat) : Int) = pl at *
  have H1 := Lib.hid C1
  clear C1 hb hr
  generalize q.length = ql at *
  go_enter Tryd.func94, Tryd.ntmps94
  go_wp2_with (go_at_call 73; refine H1.out.mono ?_; rintro e w' ⟨rfl, rfl⟩)
  go_end0
  exact ⟨rfl, HB1.out, HW.out⟩
/-! put -/
/-! Slices of the ring's memory. -/
theorem arr_u : Tryd.prog.underlying 63 = some (.array (Tryd.prog.arrayLen 63) (Tryd.prog.elem 63)) := by kernel_rfl
theorem arr_n : Tryd.prog.arrayLen 63 = 2003 := by kernel_rfl
theorem arr_s (w : World) : (sizeOf (Tryd.prog.elem 63)).run Tryd.prog w = .ok 1 w := by kernel_rfl
theorem add_to (b n : Nat) : (⟨b, 0, none⟩ : Addr).add n = ⟨b, n, none⟩ := by
  unfold Addr.add; split <;> simp_all
theorem sl_l (xb p : Nat) (hp : p < 2003) (w : World) : (Instr.sliceAt 63 (.pointer (some ⟨xb, 0, none⟩)) (some (.int .i64 (p : Int))) none none).run Tryd.prog w = .ok (.slice (some ⟨xb, p, none⟩) (2003 - p) (2003 - p)) w := by
  rw [run_sliceAt_array_l w _ _ arr_u .i64 (p : Int) (by omega) (by rw [arr_n]; omega), arr_s, arr_n]
  simp only [Result.andThen_ok, slicedAt, Int.toNat_natCast, Nat.mul_one, add_to]
  rw [if_neg (by omega)]
theorem sl_all (xb : Nat) (w : World) : (Instr.sliceAt 63 (.pointer (some ⟨xb, 0, none⟩)) none none none).run Tryd.prog w = .ok (.slice (some ⟨xb, 0, none⟩) 2003 2003) w := by
  rw [run_sliceAt_array_all w _ _ arr_u, arr_s, arr_n]
  simp only [Result.andThen_ok, slicedAt, Nat.mul_one, add_to]
  rfl
theorem sl_h (xb p : Nat) (hp : p ≤ 2003) (w : World) : (Instr.sliceAt 63 (.pointer (some ⟨xb, 0, none⟩)) none (some (.int .i64 (p : Int))) none).run Tryd.prog w = .ok (.slice (some ⟨xb, 0, none⟩) p 2003) w := by
  rw [run_sliceAt_array_h w _ _ arr_u .i64 (p : Int) (by omega) (by rw [arr_n]; omega), arr_s, arr_n]
  simp only [Result.andThen_ok, slicedAt, Int.toNat_natCast, Nat.mul_one, add_to]
  rw [if_neg (by omega)]
  rfl
theorem sl_lhm (xb p e : Nat) (hp : p < e) (he : e ≤ 2003) (w : World) : (Instr.sliceAt 63 (.pointer (some ⟨xb, 0, none⟩)) (some (.int .i64 (p : Int))) (some (.int .i64 (e : Int))) (some (.int .i64 (e : Int)))).run Tryd.prog w = .ok (.slice (some ⟨xb, p, none⟩) (e - p) (e - p)) w := by
  rw [run_sliceAt_array_lhm w _ _ arr_u .i64 .i64 .i64 (p : Int) (e : Int) (e : Int) (by omega) (by omega) (by omega) (by rw [arr_n]; omega), arr_s]
  simp only [Result.andThen_ok, slicedAt, Int.toNat_natCast, Nat.mul_one, add_to]
  rw [if_neg (by omega)]
theorem sl_lhm0 (xb p : Nat) (he : p ≤ 2003) (w : World) : (Instr.sliceAt 63 (.pointer (some ⟨xb, 0, none⟩)) (some (.int .i64 (p : Int))) (some (.int .i64 (p : Int))) (some (.int .i64 (p : Int)))).run Tryd.prog w = .ok (.slice (some ⟨xb, 0, none⟩) 0 0) w := by
  rw [run_sliceAt_array_lhm w _ _ arr_u .i64 .i64 .i64 (p : Int) (p : Int) (p : Int) (by omega) (by omega) (by omega) (by rw [arr_n]; omega), arr_s]
  simp only [Result.andThen_ok, slicedAt, Int.toNat_natCast, Nat.mul_one, add_to]
  rw [if_pos trivial, Nat.sub_self]
/-! Parts of bytes. -/
theorem u8_u : Tryd.prog.underlying 22 = some (.slice (Tryd.prog.elem 22)) := by kernel_rfl
theorem u8_s (w : World) : (sizeOf (Tryd.prog.elem 22)).run Tryd.prog w = .ok 1 w := by kernel_rfl
/-- 's[lo:hi]': where it lies, only if it holds something. -/
theorem sb_lh (b o len cap lo hi : Nat) (h1 : lo ≤ hi) (h2 : hi ≤ cap) : ∃ A' : Option Addr, (∀ w, (Instr.sliceAt 22 (.slice (some ⟨b, o, none⟩) len cap) (some (.int .i64 (lo : Int))) (some (.int .i64 (hi : Int))) none).run Tryd.prog w = .ok (.slice A' (hi - lo) (cap - lo)) w) ∧
    (∀ w, (Instr.slice 22 (.slice (some ⟨b, o, none⟩) len cap) (some (.int .i64 (lo : Int))) (some (.int .i64 (hi : Int))) none).run Tryd.prog w = .ok (.slice A' (hi - lo) (cap - lo)) w) ∧ (lo < hi → A' = some ⟨b, o + lo, none⟩) := by
  have k : ∀ w, (Instr.slice 22 (.slice (some ⟨b, o, none⟩) len cap) (some (.int .i64 (lo : Int))) (some (.int .i64 (hi : Int))) none).run Tryd.prog w = .ok (.slice (if cap = lo then some ⟨b, o, none⟩ else some ⟨b, o + lo, none⟩) (hi - lo) (cap - lo)) w := fun w => by
    rw [run_slice_lh w _ _ _ _ u8_u .i64 .i64 (lo : Int) (hi : Int) (by omega) (by omega) (by omega), u8_s]
    simp only [Result.andThen_ok, sliced, Int.toNat_natCast, Nat.mul_one]
    have ha : (⟨b, o, none⟩ : Addr).add lo = ⟨b, o + lo, none⟩ := by unfold Addr.add; split <;> simp_all
    simp [ha]
  refine ⟨_, fun w => ?_, k, fun h => if_neg (by omega)⟩
  rw [run_sliceAt_slice w _ _ _ _ _ u8_u]
  exact k w
theorem sb_l (b o len cap lo : Nat) (h1 : lo ≤ len) (h2 : len ≤ cap) : ∃ A' : Option Addr, (∀ w, (Instr.sliceAt 22 (.slice (some ⟨b, o, none⟩) len cap) (some (.int .i64 (lo : Int))) none none).run Tryd.prog w = .ok (.slice A' (len - lo) (cap - lo)) w) ∧
    (∀ w, (Instr.slice 22 (.slice (some ⟨b, o, none⟩) len cap) (some (.int .i64 (lo : Int))) none none).run Tryd.prog w = .ok (.slice A' (len - lo) (cap - lo)) w) ∧ (lo < len → A' = some ⟨b, o + lo, none⟩) := by
  have k : ∀ w, (Instr.slice 22 (.slice (some ⟨b, o, none⟩) len cap) (some (.int .i64 (lo : Int))) none none).run Tryd.prog w = .ok (.slice (if cap = lo then some ⟨b, o, none⟩ else some ⟨b, o + lo, none⟩) (len - lo) (cap - lo)) w := fun w => by
    rw [run_slice_l w _ _ _ _ u8_u .i64 (lo : Int) (by omega) (by omega), u8_s]
    simp only [Result.andThen_ok, sliced, Int.toNat_natCast, Nat.mul_one]
    have ha : (⟨b, o, none⟩ : Addr).add lo = ⟨b, o + lo, none⟩ := by unfold Addr.add; split <;> simp_all
    simp [ha]
  refine ⟨_, fun w => ?_, k, fun h => if_neg (by omega)⟩
  rw [run_sliceAt_slice w _ _ _ _ _ u8_u]
  exact k w
theorem wrote_setRow (w : World) (g : Nat) (cs : Array Value) : Wrote [g] w (w.setRow g cs) :=
  ⟨rfl, rfl, rfl, by simp [World.setRow], fun k _ hk => setRow_other w g k cs (by simpa using hk)⟩
/-- 'copy' into a block that is known whole, as one step of a region that draws its order. -/
theorem step_copy_w {P : Program} {ops : Array Oper} {o : Oper} {a : Act} {w : World} {K : Act → World → Prop} {Q : Exit → Act → World → Prop} {E : Prop} (hgd : o.guard = none) (d s : Operand) (dT sT : TypeId)
    (ho : o.op = .call { callee := .builtin .copy, args := #[d, s], argTypes := #[dT, sT] }) (elem : TypeId) (hu : P.underlying dT = some (.slice elem)) (hsz : (P.info? elem).map (·.size) = some 1)
    (dp sp : Option Addr) (dLen dCap sLen sCap : Nat) (hd : a.eval d = .slice dp dLen dCap) (hs : a.eval s = .slice sp sLen sCap)
    (g off : Nat) (cur : List Value) (t : TypeId) (hg : Blk w g t cur.toArray) (cs : List Value) (hn : cs.length = Nat.min sLen dLen)
    (hpos : 0 < cs.length → dp = some ⟨g, off, none⟩ ∧ ∃ ad, sp = some ad ∧ ∀ j v, cs[j]? = some v → w.cell? (ad.add j) = some v)
    (hfit : off + cs.length ≤ cur.length) (h1 : ∀ v ∈ cs, v.oneCell' = true)
    (h : ∀ w', Hid (Blk w' g t (splice cur off cs).toArray) → Wrote [g] w w' → K (a.put o.dst (goInt cs.length)) w') :
    if Region.wanted o (yielded ops a.tmps) = true then Oper.wp P o a w K Q else E := by
  have hw : Region.wanted o (yielded ops a.tmps) = true := by simp [Region.wanted, hgd]
  rw [if_pos hw]
  have hg' : w.heap[g]? = some (.cells cur.toArray t (0, 0)) := hg
  by_cases h0 : cs.length = 0
  · obtain rfl : cs = [] := List.eq_nil_of_length_eq_zero h0
    have hrun := run_copy_none (P := P) w dT sT o.type elem dp sp dLen dCap sLen sCap hu hsz (by simpa using hn.symm)
    unfold Oper.wp
    simp [execOp, ho, resolve, invoke, builtin, hd, hs, hrun, Result.andThen]
    exact h w (show _ = _ by simpa [splice] using hg') (.refl _ _)
  · obtain ⟨rfl, ad, rfl, hsrc⟩ := hpos (by omega)
    have hrun := run_copy_row (P := P) w dT sT o.type elem g off dLen dCap ad sLen sCap cur.toArray t cs hu hsz hg' hn hsrc (by simpa using hfit) h1
    unfold Oper.wp
    simp [execOp, ho, resolve, invoke, builtin, hd, hs, hrun, Result.andThen]
    exact h _ (show _ = _ by simpa [splice] using setRow_heap w g _ _ t _ hg') (wrote_setRow _ _ _)

theorem bcs_one (l : List UInt8) : ∀ v ∈ Lib.byteCells l, v.oneCell' = true := fun v hv => by
  unfold Lib.byteCells at hv
  obtain ⟨x, _, rfl⟩ := List.mem_map.1 hv
  rfl
/-- The cells of a part of bytes that lie in memory. -/
theorem src_at {w : World} {b o : Nat} {l : List UInt8} (k n : Nat) (hc : ∀ i, i < l.length → w.cell? ⟨b, o + i, none⟩ = some (.int .u8 ((l.getD i 0).toNat : Int))) :
    ∀ j v, (Lib.byteCells ((l.drop k).take n))[j]? = some v → w.cell? ((⟨b, o + k, none⟩ : Addr).add j) = some v := fun j v hj => by
  have hjl : j < ((l.drop k).take n).length := by
    have := (List.getElem?_eq_some_iff.1 hj).1
    rwa [bcs_len] at this
  rw [bcs_at _ j hjl] at hj
  have hadd : (⟨b, o + k, none⟩ : Addr).add j = ⟨b, o + (k + j), none⟩ := by unfold Addr.add; split <;> simp_all [Nat.add_assoc]
  rw [List.length_take, List.length_drop] at hjl
  rw [hadd, hc (k + j) (by omega), ← hj]
  have e : ((l.drop k).take n).getD j 0 = l.getD (k + j) 0 := by
    simp only [List.getD, List.getElem?_take, List.getElem?_drop]
    rw [if_pos (by omega)]
  rw [e]
/-- How many bytes are put. -/
def mput (ql len : Nat) : Nat := min len (2003 - ql)
/-- The cells behind it. -/
def curP (cur : List Value) (q l : List UInt8) (s : Nat) : List Value :=
  (splice (splice cur ((s + q.length) % 2003) (Lib.byteCells ((l.take (mput q.length l.length)).take (n1 s q.length (mput q.length l.length))))) 0 (Lib.byteCells ((l.take (mput q.length l.length)).drop (n1 s q.length (mput q.length l.length))))).set 2004 (.int .i64 ((q.length : Int) + ((mput q.length l.length : Nat) : Int)))

set_option maxRecDepth 100000 in
set_option maxHeartbeats 2000000 in
/-- byteRing.put. -/
theorem put_any (xb s : Nat) (cur : List Value) (q l : List UInt8) (A : Option Addr) (cap : Nat) (w : World) (hb : Blk w xb 71 cur.toArray) (hr : Rg cur q s) (hq : q.length ≤ 2002)
    (ha : AtU w xb A l) (hl : 0 < l.length) (hlc : l.length ≤ cap) (hcm : cap ≤ maxLen) :
    Calls Tryd.prog 68 #[.pointer (some ⟨xb, 0, none⟩), .slice A l.length cap] w fun e w' =>
      (∃ A' cap', e = .returned (.slice A' (l.drop (mput q.length l.length)).length cap') ∧ AtU w xb A' (l.drop (mput q.length l.length)) ∧ (l.drop (mput q.length l.length)).length ≤ cap' ∧ cap' ≤ maxLen) ∧
      Blk w' xb 71 (curP cur q l s).toArray ∧ Wrote [xb] w w' := by
  obtain ⟨b, o, rfl, hbx, hc⟩ := ha hl
  have hsl := hr.sl
  have hcl : cur.length = 2008 := hr.sz
  have hlt := hb.lt
  have c3 : ∀ wd, Below w.heap.size w wd → wd.cell? ⟨xb, 2003, none⟩ = some (.int .i64 (s : Int)) := fun wd hd => by rw [(hb.below hd hb.lt).cell]; simpa using hr.cs
  have c4 : w.cell? ⟨xb, 2004, none⟩ = some (.int .i64 (q.length : Int)) := by rw [hb.cell]; simpa using hr.cn
  have m0 : 1 ≤ mput q.length l.length := by unfold mput; omega
  have m1 : mput q.length l.length ≤ l.length := by unfold mput; omega
  have m2 : q.length + mput q.length l.length ≤ 2003 := by unfold mput; omega
  have HM : Hid (((mput q.length l.length : Nat) : Int) = min (l.length : Int) (2003 - (q.length : Int))) := Lib.hid (by unfold mput; omega)
  have HRES : Hid (AtU w xb (some ⟨b, o + mput q.length l.length, none⟩) (l.drop (mput q.length l.length))) := Lib.hid fun hp => ⟨b, o + mput q.length l.length, rfl, hbx, fun i hi => by
    rw [List.length_drop] at hi
    have := hc (mput q.length l.length + i) (by omega)
    rw [Nat.add_assoc, this]
    simp [List.getD, List.getElem?_drop]⟩
  have HLD : Hid ((l.drop (mput q.length l.length)).length = l.length - mput q.length l.length) := Lib.hid (by rw [List.length_drop])
  have HC := Lib.hid hc
  have HBK := Lib.hid hb
  have H3 := Lib.hid c3
  unfold maxLen at hcm
  clear hc c3 hb hr ha
  go_enter Tryd.func68, Tryd.ntmps68
  go_upto_region 1 with fail
  go_cut [5] (fun n wx => n = .int .i64 ((mput q.length l.length : Nat) : Int) ∧ wx = w)
  case first =>
    go_wp2_with fail
    all_goals go_meet
    all_goals exact ⟨by rw [HM.out]; first | (rw [Int.min_eq_left (by omega)]) | (rw [Int.min_eq_right (by omega)]), rfl⟩
  case rest =>
    obtain ⟨rfl, hw⟩ := hcut
    rw [hw]
    clear hw
    have HT : Hid (n1 s q.length (mput q.length l.length) ≤ mput q.length l.length ∧ (s + q.length) % 2003 + n1 s q.length (mput q.length l.length) ≤ 2003 ∧ n1 s q.length (mput q.length l.length) = Nat.min (mput q.length l.length) (2003 - (s + q.length) % 2003)) := Lib.hid (by
      unfold n1
      refine ⟨by omega, by omega, ?_⟩
      show min _ _ = min _ _
      omega)
    have C1 := fun wd hd => place_any (w := wd) (xb := xb) (s := s) q.length (by omega) hsl (H3.out wd hd)
    have H1 := Lib.hid C1
    have HP : Hid ((s + q.length) % 2003 < 2003) := Lib.hid (Nat.mod_lt _ (by omega))
    clear C1
    generalize hp : (s + q.length) % 2003 = p at *
    have hp3 := HP.out
    have HPE := Lib.hid hp
    clear hp
    generalize hm : mput q.length l.length = m at *
    have HME := Lib.hid hm
    clear hm
    have ksl := sl_l xb p hp3
    have ksa := sl_all xb
    have hmc : m ≤ cap := by omega
    have ht1 := HT.out.1
    have ht2 := HT.out.2.1
    have HS1 : Hid (∀ wd, Below w.heap.size w wd → (Lib.byteCells ((l.take m).take (n1 s q.length m))).length = Nat.min m (2003 - p) ∧
        (0 < (Lib.byteCells ((l.take m).take (n1 s q.length m))).length → ∃ ad, some (⟨b, o, none⟩ : Addr) = some ad ∧ ∀ j v, (Lib.byteCells ((l.take m).take (n1 s q.length m)))[j]? = some v → wd.cell? (ad.add j) = some v) ∧
        p + (Lib.byteCells ((l.take m).take (n1 s q.length m))).length ≤ cur.length) := Lib.hid fun wd hd => by
      have hl1 : (Lib.byteCells ((l.take m).take (n1 s q.length m))).length = n1 s q.length m := by rw [bcs_len, List.length_take, List.length_take]; omega
      refine ⟨by rw [hl1]; exact HT.out.2.2, fun _ => ⟨_, rfl, fun j v hj => ?_⟩, by rw [hl1]; omega⟩
      rw [List.take_take] at hj
      have := src_at (w := w) (b := b) (o := o) (l := l) 0 (min (n1 s q.length m) m) HC.out j v (by rw [List.drop_zero]; exact hj)
      have hc2 : ((⟨b, o + 0, none⟩ : Addr).add j).block = b := by unfold Addr.add; split <;> rfl
      rw [Nat.add_zero] at this hc2
      exact (hd.cell (by rw [hc2]; omega)).trans this
    go_wp2_with fail
    go_cut [6] (fun c wx => c = .int .i64 ((n1 s q.length m : Nat) : Int) ∧ Blk wx xb 71 (splice cur p (Lib.byteCells ((l.take m).take (n1 s q.length m)))).toArray ∧ Wrote [xb] w wx)
    case first =>
      have hl1 : Hid ((Lib.byteCells ((l.take m).take (n1 s q.length m))).length = n1 s q.length m) := Lib.hid (by rw [bcs_len, List.length_take, List.length_take]; omega)
      go_region_law
        (first
          | (go_simp
             go_at_call 73
             refine (H1.out _ (by repeat (first | exact Below.refl _ _ | apply Below.drew))).mono ?_
             rintro e w4 ⟨rfl, rfl⟩)
          | (refine step_copy_w rfl (.tmp 24) (.tmp 27) 22 22 rfl 5 (by kernel_rfl) (by kernel_rfl) _ _ _ _ _ _ rfl rfl xb p cur 71 (HBK.out.below ((Below.refl _ _).drew) HBK.out.lt) (Lib.byteCells ((l.take m).take (n1 s q.length m))) (HS1.out _ (Below.refl _ _).drew).1 (fun hz => ⟨rfl, (HS1.out _ (Below.refl _ _).drew).2.1 hz⟩) (HS1.out _ (Below.refl _ _).drew).2.2 (bcs_one _) ?_
             intro w5 hb5 hw5))
      go_wp2_with fail
      go_meet
      exact ⟨by rw [hl1.out], hb5.out, (Wrote.of_below (Below.refl _ _).drew _).trans hw5⟩
    case rest =>
    obtain ⟨rfl, hb5, hw5'⟩ := hcut
    generalize wc = w5 at *
    have hl1 : (Lib.byteCells ((l.take m).take (n1 s q.length m))).length = n1 s q.length m := by rw [bcs_len, List.length_take, List.length_take]; omega
    have hz1 : (splice cur p (Lib.byteCells ((l.take m).take (n1 s q.length m)))).length = 2008 := by rw [splice_len _ _ _ (by rw [hl1]; omega)]; exact hcl
    have hc25 : ∀ k, 2003 ≤ k → (splice cur p (Lib.byteCells ((l.take m).take (n1 s q.length m))))[k]? = cur[k]? := fun k hk => by
      rw [splice_get _ _ _ (by rw [hl1]; omega), if_neg (by omega)]
    have HS2 : Hid (∀ wd, Below w5.heap.size w5 wd → (Lib.byteCells ((l.take m).drop (n1 s q.length m))).length = Nat.min (m - n1 s q.length m) 2003 ∧
        (0 < (Lib.byteCells ((l.take m).drop (n1 s q.length m))).length → ∃ ad, some (⟨b, o + n1 s q.length m, none⟩ : Addr) = some ad ∧ ∀ j v, (Lib.byteCells ((l.take m).drop (n1 s q.length m)))[j]? = some v → wd.cell? (ad.add j) = some v) ∧
        0 + (Lib.byteCells ((l.take m).drop (n1 s q.length m))).length ≤ (splice cur p (Lib.byteCells ((l.take m).take (n1 s q.length m)))).length) := Lib.hid fun wd hd => by
      have hl2 : (Lib.byteCells ((l.take m).drop (n1 s q.length m))).length = m - n1 s q.length m := by rw [bcs_len, List.length_drop, List.length_take]; omega
      refine ⟨by rw [hl2]; show _ = min _ _; omega, fun _ => ⟨_, rfl, fun j v hj => ?_⟩, by rw [hl2, hz1]; omega⟩
      have e : (l.take m).drop (n1 s q.length m) = (l.drop (n1 s q.length m)).take (m - n1 s q.length m) := by rw [List.drop_take]
      rw [e] at hj
      have := src_at (w := w) (b := b) (o := o) (l := l) (n1 s q.length m) (m - n1 s q.length m) HC.out j v hj
      have hc2 : ((⟨b, o + n1 s q.length m, none⟩ : Addr).add j).block = b := by unfold Addr.add; split <;> rfl
      exact ((hd.cell (by rw [hc2]; have := hw5'.size; omega)).trans (hw5'.cell (by rw [hc2]; omega) (by rw [hc2]; simp; omega))).trans this
    have HW5 := Lib.hid hw5'
    have HB5 : Hid (Blk w5 xb 71 (splice cur p (Lib.byteCells ((l.take m).take (n1 s q.length m)))).toArray) := hb5
    have HC25 := Lib.hid hc25
    have HE1 : Hid (curP cur q l s = (splice (splice cur p (Lib.byteCells ((l.take m).take (n1 s q.length m)))) 0 (Lib.byteCells ((l.take m).drop (n1 s q.length m)))).set 2004 (.int .i64 ((q.length : Int) + (m : Int)))) := Lib.hid (by unfold curP; rw [HPE.out, HME.out])
    have h4 : (splice cur p (Lib.byteCells ((l.take m).take (n1 s q.length m))))[2004]? = some (.int .i64 (q.length : Int)) := by
      rw [hc25 2004 (by omega)]
      have := HBK.out.cell 2004
      rw [c4] at this
      simpa using this.symm
    have HE4 := Lib.hid h4
    have HZ1 := Lib.hid hz1
    generalize splice cur p (Lib.byteCells ((l.take m).take (n1 s q.length m))) = c1 at *
    generalize hn : n1 s q.length m = n at *
    have HNE := Lib.hid hn
    clear hn hc25 h4 hz1 hw5' hb5 hl1
    have hnc : n ≤ cap := by omega
    have hln : (n : Int) ≤ (m : Int) := by omega
    have hl2 : (Lib.byteCells ((l.take m).drop n)).length = m - n := by rw [bcs_len, List.length_drop, List.length_take]; omega
    have HL2 := Lib.hid hl2
    clear hl2
    have HO2 : Hid (∀ v ∈ Lib.byteCells ((l.take m).drop n), v.oneCell' = true) := Lib.hid (bcs_one _)
    generalize (Lib.byteCells ((l.take m).drop n)) = c2 at *
    have HFIN : Hid (∀ w6, Blk w6 xb 71 (splice c1 0 c2).toArray → Wrote [xb] w5.drew w6 →
        w6.cell? ⟨xb, 2004, none⟩ = some (.int .i64 (q.length : Int)) ∧ w6.frozen? ⟨xb, 2004, none⟩ = false ∧
        Blk (w6.setCell ⟨xb, 2004, none⟩ (.int .i64 ((q.length : Int) + (m : Int)))) xb 71 (curP cur q l s).toArray ∧ Wrote [xb] w (w6.setCell ⟨xb, 2004, none⟩ (.int .i64 ((q.length : Int) + (m : Int))))) := Lib.hid fun w6 hb hw => by
      have hz := (HS2.out _ (Below.refl _ _)).2.2
      refine ⟨?_, hb.frozen _, ?_, ((HW5.out.trans (.of_below (Below.refl _ _).drew _)).trans hw).set_ (.inl (by simp)) _⟩
      · rw [hb.cell]
        have := splice_get c1 0 c2 hz 2004
        rw [if_neg (by have := HL2.out; omega), HE4.out] at this
        simpa using this
      · have := hb.set_ 2004 (.int .i64 ((q.length : Int) + (m : Int)))
        rw [list_set_arr] at this
        rw [HE1.out]
        exact this
    have HR2 : Hid (l.length - m = (l.drop m).length ∧ AtU w xb (some ⟨b, o + m, none⟩) (l.drop m) ∧ m ≤ l.length) := Lib.hid ⟨by rw [List.length_drop], HRES.out, by omega⟩
    clear HT HNE HRES
    obtain ⟨A2, ks1, ks2, hA2⟩ := sb_lh b o l.length cap n m (by omega) (by omega)
    obtain ⟨A3, ks3, ks4, hA3⟩ := sb_l b o l.length cap m (by omega) hlc
    have HA2 := Lib.hid hA2
    have HA3 := Lib.hid hA3
    clear hA2 hA3
    have HPOS : Hid (∀ wd, Below w5.heap.size w5 wd → 0 < c2.length → ∃ ad, A2 = some ad ∧ ∀ j v, c2[j]? = some v → wd.cell? (ad.add j) = some v) := Lib.hid fun wd hd hz => by
      have hz2 := HL2.out
      rw [HA2.out (by omega)]
      exact (HS2.out wd hd).2.1 hz
    go_wp2_with fail
    go_cut [37] (fun _ wx => Blk wx xb 71 (splice c1 0 c2).toArray ∧ Wrote [xb] w5.drew wx)
    case first =>
      go_region_law
        (refine step_copy_w rfl (.tmp 32) (.tmp 36) 22 22 rfl 5 (by kernel_rfl) (by kernel_rfl) (some ⟨xb, 0, none⟩) A2 2003 2003 (m - n) (cap - n) (by go_simp) (by go_simp) xb 0 c1 71 (HB5.out.below ((Below.refl _ _).drew) HB5.out.lt) c2 (HS2.out _ (Below.refl _ _).drew).1 (fun hz => ⟨rfl, HPOS.out _ (Below.refl _ _).drew hz⟩) (HS2.out _ (Below.refl _ _).drew).2.2 HO2.out ?_
         intro w6 hb6 hw6)
      go_wp2_with fail
      go_meet
      exact ⟨hb6.out, hw6⟩
    case rest =>
    obtain ⟨hb6, hw6⟩ := hcut
    generalize wc = w6 at *
    obtain ⟨d4, e4, hbf, hwf⟩ := HFIN.out w6 hb6 hw6
    have HBF := Lib.hid hbf
    have HWF := Lib.hid hwf
    clear hbf hwf hb6 hw6
    have hqm : (q.length : Int) + (m : Int) ≤ 2003 := by omega
    go_wp2_with fail
    go_ret
    rw [HME.out]
    have hret : Ending.returned (.slice A3 (l.length - m) (cap - m)) = .returned (.slice A3 (l.drop m).length (cap - m)) := by rw [List.length_drop]
    exact ⟨⟨A3, cap - m, hret, fun hp => by rw [HA3.out (by have := HR2.out.1; omega)]; exact HR2.out.2.1 hp, by rw [← HR2.out.1]; omega, by unfold maxLen; omega⟩, HBF.out, HWF.out⟩
end Go.Proofs.YtdpmjpjbcpdgnaaDoor

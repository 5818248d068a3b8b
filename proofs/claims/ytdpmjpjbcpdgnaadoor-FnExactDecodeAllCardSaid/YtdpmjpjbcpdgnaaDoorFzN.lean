/- impl.newDecoding; a decoding's cells: its ring of bytes, its state, its frames, its error. No condition. -/
import Derived.Test.YtdpmjpjbcpdgnaaDoorProg
import Derived.Test.YtdpmjpjbcpdgnaaDoorFzW
import Derived.Laws.CopyOwn
namespace Go.Proofs.YtdpmjpjbcpdgnaaDoor
open Go.RowKit

/-- The state in which no length is known; the state in which a frame of n bytes is waited for. -/
def aLv : Value := .iface 91 (.agg #[])
def aFv (n : Int) : Value := .iface 134 (.agg #[.int .i64 n])
set_option maxRecDepth 100000 in
theorem newDec_any (w : World) :
    Calls Tryd.prog 48 #[] w fun e w' => e = .returned (.pointer (some ⟨w.heap.size, 0, none⟩)) ∧ w' = w.alloc (.cells (Tryd.zeroCells71.setIfInBounds 2005 aLv) 71) := by
  go_enter Tryd.func48, Tryd.ntmps48
  go_wp2_with fail
  go_ret
  exact ⟨rfl, rfl⟩

/-- The ring: the bytes q lie from place s on; behind its last place comes its first. -/
structure Rg (cur : List Value) (q : List UInt8) (s : Nat) : Prop where
  sz : cur.length = 2008
  sl : s < 2003
  ql : q.length ≤ 2003
  cs : cur[2003]? = some (.int .i64 (s : Int))
  cn : cur[2004]? = some (.int .i64 (q.length : Int))
  cq : ∀ i, i < q.length → cur[(s + i) % 2003]? = some (.int .u8 ((q.getD i 0).toNat : Int))

theorem splice_get (L : List Value) (off : Nat) (cs : List Value) (h : off + cs.length ≤ L.length) (i : Nat) : (splice L off cs)[i]? = if off ≤ i ∧ i < off + cs.length then cs[i - off]? else L[i]? := by
  unfold splice
  have hl : (L.take off).length = off := by rw [List.length_take]; omega
  by_cases h1 : i < off
  · rw [if_neg (by omega), List.getElem?_append_left (by omega), List.getElem?_take, if_pos h1]
  · rw [List.getElem?_append_right (by omega), hl]
    by_cases h2 : i < off + cs.length
    · rw [if_pos (by omega), List.getElem?_append_left (by omega)]
    · rw [if_neg (by omega), List.getElem?_append_right (by omega), List.getElem?_drop]
      congr 1
      omega
theorem splice_len (L : List Value) (off : Nat) (cs : List Value) (h : off + cs.length ≤ L.length) : (splice L off cs).length = L.length := length_splice L off cs h
/-- How many bytes the first copy takes. -/
def n1 (s q m : Nat) : Nat := min (2003 - (s + q) % 2003) m
theorem rg_put {cur : List Value} {q b : List UInt8} {s m : Nat} (h : Rg cur q s) (hm : q.length + m ≤ 2003) (hb : m ≤ b.length) :
    Rg ((splice (splice cur ((s + q.length) % 2003) (Lib.byteCells ((b.take m).take (n1 s q.length m)))) 0 (Lib.byteCells ((b.take m).drop (n1 s q.length m)))).set 2004 (.int .i64 ((q.length : Int) + (m : Int)))) (q ++ b.take m) s ∧
    ∀ k, 2005 ≤ k → ((splice (splice cur ((s + q.length) % 2003) (Lib.byteCells ((b.take m).take (n1 s q.length m)))) 0 (Lib.byteCells ((b.take m).drop (n1 s q.length m)))).set 2004 (.int .i64 ((q.length : Int) + (m : Int))))[k]? = cur[k]? := by
  obtain ⟨hsz, hsl, hql, hcs, hcn, hcq⟩ := h
  have hbl : (b.take m).length = m := by rw [List.length_take]; omega
  have hn1 : n1 s q.length m = min (2003 - (s + q.length) % 2003) m := rfl
  generalize hnn : n1 s q.length m = n at *
  have l1 : (Lib.byteCells ((b.take m).take n)).length = n := by rw [bcs_len, List.length_take]; omega
  have l2 : (Lib.byteCells ((b.take m).drop n)).length = m - n := by rw [bcs_len, List.length_drop]; omega
  have f1 : (s + q.length) % 2003 + (Lib.byteCells ((b.take m).take n)).length ≤ cur.length := by rw [l1]; omega
  have z1 := splice_len cur _ _ f1
  have f2 : 0 + (Lib.byteCells ((b.take m).drop n)).length ≤ (splice cur ((s + q.length) % 2003) (Lib.byteCells ((b.take m).take n))).length := by rw [l2, z1]; omega
  have g1 := splice_get cur _ _ f1
  have g2 := splice_get _ _ _ f2
  have z2 := splice_len _ _ _ f2
  rw [l1] at g1
  rw [l2] at g2
  generalize splice (splice cur ((s + q.length) % 2003) (Lib.byteCells ((b.take m).take n))) 0 (Lib.byteCells ((b.take m).drop n)) = c2 at *
  generalize splice cur ((s + q.length) % 2003) (Lib.byteCells ((b.take m).take n)) = c1 at *
  have hi : ∀ k, 2003 ≤ k → k ≠ 2004 → (c2.set 2004 (.int .i64 ((q.length : Int) + (m : Int))))[k]? = cur[k]? := fun k hk h4 => by
    rw [List.getElem?_set_ne (by omega), g2, if_neg (by omega), g1, if_neg (by omega)]
  refine ⟨⟨by rw [List.length_set]; omega, hsl, by rw [List.length_append, hbl]; omega, by rw [hi 2003 (by omega) (by omega)]; exact hcs, ?_, fun i hlt => ?_⟩, fun k hk => hi k (by omega) (by omega)⟩
  · rw [List.getElem?_set_self (by omega), List.length_append, hbl]
    simp
  · rw [List.length_append, hbl] at hlt
    have hx : (s + i) % 2003 < 2003 := Nat.mod_lt _ (by omega)
    rw [List.getElem?_set_ne (by omega), g2]
    by_cases hq : i < q.length
    · rw [if_neg (by omega), g1, if_neg (by omega), hcq i hq]
      simp [List.getD, List.getElem?_append_left hq]
    · have hlen : (b.take m).length = m := hbl
      have e : (q ++ b.take m).getD i 0 = (b.take m).getD (i - q.length) 0 := by simp [List.getD, List.getElem?_append_right (Nat.le_of_not_lt hq)]
      rw [e]
      by_cases h1 : i - q.length < n
      · rw [if_neg (by omega), g1, if_pos (by omega)]
        have ex : (s + i) % 2003 - (s + q.length) % 2003 = i - q.length := by omega
        rw [ex, bcs_at _ _ (by rw [List.length_take]; omega)]
        simp [List.getD, List.getElem?_take, h1]
      · rw [if_pos (by omega)]
        have ex : (s + i) % 2003 - 0 = i - q.length - n := by omega
        rw [ex, bcs_at _ _ (by rw [List.length_drop]; omega)]
        have e2 : ((b.take m).drop n).getD (i - q.length - n) 0 = (b.take m).getD (i - q.length) 0 := by
          simp only [List.getD, List.getElem?_drop]
          congr 2
          omega
        rw [e2]
theorem rg_drop {cur : List Value} {q : List UInt8} {s n : Nat} (h : Rg cur q s) (hn : n ≤ q.length) :
    Rg ((cur.set 2003 (.int .i64 (((s + n) % 2003 : Nat) : Int))).set 2004 (.int .i64 ((q.length : Int) - (n : Int)))) (q.drop n) ((s + n) % 2003) ∧
    ∀ k, 2005 ≤ k → ((cur.set 2003 (.int .i64 (((s + n) % 2003 : Nat) : Int))).set 2004 (.int .i64 ((q.length : Int) - (n : Int))))[k]? = cur[k]? := by
  obtain ⟨hsz, hsl, hql, hcs, hcn, hcq⟩ := h
  refine ⟨⟨by simp; omega, Nat.mod_lt _ (by omega), by rw [List.length_drop]; omega, ?_, ?_, fun i hi => ?_⟩, fun k hk => ?_⟩
  · rw [List.getElem?_set_ne (by omega), List.getElem?_set_self (by omega)]
  · rw [List.getElem?_set_self (by simp; omega), List.length_drop]
    have : (q.length : Int) - (n : Int) = ((q.length - n : Nat) : Int) := by omega
    rw [this]
  · rw [List.length_drop] at hi
    have hx : ((s + n) % 2003 + i) % 2003 < 2003 := Nat.mod_lt _ (by omega)
    rw [List.getElem?_set_ne (by omega), List.getElem?_set_ne (by omega)]
    have e : ((s + n) % 2003 + i) % 2003 = (s + (n + i)) % 2003 := by omega
    rw [e, hcq (n + i) (by omega)]
    simp [List.getD, List.getElem?_drop]
  · rw [List.getElem?_set_ne (by omega), List.getElem?_set_ne (by omega)]
/-- A decoding in block xb. -/
structure Dc (w : World) (xb : Nat) (cur : List Value) (q : List UInt8) (s : Nat) (st : Value) (fs : List fz.F) (fv er : Value) : Prop where
  blk : Blk w xb 71 cur.toArray
  rg : Rg cur q s
  c5 : cur[2005]? = some st
  c6 : cur[2006]? = some fv
  c7 : cur[2007]? = some er
  own : OwnG w (xb + 1) fv fs
set_option maxRecDepth 100000 in
theorem zc_facts : Tryd.zeroCells71.toList.length = 2008 ∧ Tryd.zeroCells71.toList[2003]? = some (.int .i64 0) ∧ Tryd.zeroCells71.toList[2004]? = some (.int .i64 0) ∧
    Tryd.zeroCells71.toList[2006]? = some (.slice none 0 0) ∧ Tryd.zeroCells71.toList[2007]? = some .nilIface := ⟨by kernel_rfl, by kernel_rfl, by kernel_rfl, by kernel_rfl, by kernel_rfl⟩
theorem dc_new (w : World) : Dc (w.alloc (.cells (Tryd.zeroCells71.setIfInBounds 2005 aLv) 71)) w.heap.size (Tryd.zeroCells71.toList.set 2005 aLv) [] 0 aLv [] (.slice none 0 0) .nilIface := by
  obtain ⟨h0, h1, h2, h3, h4⟩ := zc_facts
  generalize hz : Tryd.zeroCells71 = z at *
  have e : z.setIfInBounds 2005 aLv = (z.toList.set 2005 aLv).toArray := by
    rw [← Array.toList_setIfInBounds]
  refine ⟨?_, ⟨by rw [List.length_set]; exact h0, by omega, by simp, ?_, ?_, fun i hi => by simp at hi⟩, ?_, ?_, ?_, World.ownsRow_nil _ _ _ _⟩
  · rw [← e]; exact Blk.new _ _ _
  · rw [List.getElem?_set_ne (by omega)]; exact h1
  · rw [List.getElem?_set_ne (by omega)]; exact h2
  · rw [List.getElem?_set_self (by omega)]
  · rw [List.getElem?_set_ne (by omega)]; exact h3
  · rw [List.getElem?_set_ne (by omega)]; exact h4
theorem Dc.below {w w' : World} {xb s : Nat} {cur : List Value} {q : List UInt8} {st fv er : Value} {fs : List fz.F} (h : Dc w xb cur q s st fs fv er) (hb : Below w.heap.size w w') : Dc w' xb cur q s st fs fv er :=
  ⟨h.blk.below hb h.blk.lt, h.rg, h.c5, h.c6, h.c7, own_below h.own hb⟩
theorem Dc.cell {w : World} {xb s : Nat} {cur : List Value} {q : List UInt8} {st fv er : Value} {fs : List fz.F} (h : Dc w xb cur q s st fs fv er) (i : Nat) : w.cell? ⟨xb, i, none⟩ = cur[i]? := by
  rw [h.blk.cell i]; simp
end Go.Proofs.YtdpmjpjbcpdgnaaDoor

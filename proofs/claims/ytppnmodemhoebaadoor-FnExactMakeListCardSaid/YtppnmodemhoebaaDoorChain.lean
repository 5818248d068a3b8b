/- impl.joinList: the list of some nodes with a tail. Condition: the nodes lie in memory. -/
import Derived.Test.YtppnmodemhoebaaDoorProg
import Derived.Test.YtppnmodemhoebaaDoorAll
import Derived.Test.YtppnmodemhoebaaDoorPair
import Derived.Test.YtppnmodemhoebaaDoorTermOf
namespace Go.Proofs.YtppnmodemhoebaaDoor
open Go.RowKit

def dot : ByteArray := ⟨#[46]⟩
/-- The list of the terms f, with the term t in the place of the list behind the last one. -/
def chain : Fr → Fr → Fr
  | .nil, t => t
  | .cons k n s kids rest, t => .cons 3 0 dot (.cons k n s kids (chain rest t)) .nil
theorem chain_one (f : Fr) (k n : Int) (s : ByteArray) (kids : Fr) : ∃ k' n' s' f', chain f (.cons k n s kids .nil) = .cons k' n' s' f' .nil := by
  cases f with
  | nil => exact ⟨_, _, _, _, rfl⟩
  | cons k' n' s' kids' rest => exact ⟨_, _, _, _, rfl⟩
theorem nodes_chain (f t : Fr) : nodes (chain f t) = nodes f + f.len + nodes t := by
  induction f with
  | nil => simp [chain, nodes, Fr.len]
  | cons k n s kids rest _ ih => simp only [chain, nodes, Fr.len, ih]; omega
theorem shape_chain (f : Fr) (k n : Int) (s : ByteArray) (kids : Fr) (hf : allV f = true) (ht : validT k n s kids = true) : shapeF (chain f (.cons k n s kids .nil)) (30 + f.len) = true := by
  induction f with
  | nil =>
    have h : shapeT k n s kids 30 = true := by
      unfold validT at ht
      rw [Bool.and_eq_true] at ht
      exact ht.1
    simp only [chain, Fr.len]
    rw [shapeF_cons, show (30 + ((0 : Nat) : Int)) = 30 by omega, h]
    rfl
  | cons k' n' s' kids' rest _ ih =>
    simp only [allV, Bool.and_eq_true] at hf
    have h1 : shapeT k' n' s' kids' 30 = true := by
      have h := hf.1
      unfold validT at h
      rw [Bool.and_eq_true] at h
      exact h.1
    have h2 := ih hf.2
    obtain ⟨k2, n2, s2, f2, hc⟩ := chain_one rest k n s kids
    have hl : (chain rest (.cons k n s kids .nil)).len = 1 := by rw [hc]; rfl
    simp only [chain, Fr.len]
    rw [shapeF_cons]
    have h3 : shapeF (.cons k' n' s' kids' (chain rest (.cons k n s kids .nil))) (30 + ((rest.len + 1 : Nat) : Int) - 1) = true := by
      rw [shapeF_cons, Bool.and_eq_true]
      have e : (30 + ((rest.len + 1 : Nat) : Int) - 1) = 30 + (rest.len : Int) := by omega
      rw [e]
      refine ⟨?_, h2⟩
      have h4 : shapeF (.cons k' n' s' kids' .nil) 30 = true := by rw [shapeF_cons, h1]; rfl
      have h5 := shapeF_mono _ 30 (30 + (rest.len : Int)) (by omega) h4
      rw [shapeF_cons, Bool.and_eq_true] at h5
      exact h5.1
    have h6 : shapeT 3 0 dot (.cons k' n' s' kids' (chain rest (.cons k n s kids .nil))) (30 + ((rest.len + 1 : Nat) : Int)) = true := by
      unfold shapeT ownB
      rw [h3, Fr.len, hl]
      have h7 : nv.nameB dot.data.toList = true := by decide
      rw [h7, decide_eq_true (show (1 : Int) ≤ 30 + ((rest.len + 1 : Nat) : Int) by omega)]
      rfl
    rw [h6]
    rfl

/-- v is the node of the one term of f. -/
def NdOne (w : World) (lo hi : Nat) (f : Fr) (v : Value) : Prop := ∃ k n s kids, f = .cons k n s kids .nil ∧ NdV w lo hi k n s kids v
theorem NdOne.iface {w : World} {lo hi : Nat} {f : Fr} {v : Value} (h : NdOne w lo hi f v) : ∃ T x, v = .iface T x := by
  obtain ⟨k, n, s, kids, _, h⟩ := h
  exact h.iface
theorem NdOne.below {w w' : World} {lo hi lo' hi' : Nat} {f : Fr} {v : Value} (h : NdOne w lo hi f v) (hb : Below w.heap.size w w') (hh : hi ≤ w.heap.size) (hL : lo' ≤ lo) (hH : hi ≤ hi') : NdOne w' lo' hi' f v := by
  obtain ⟨k, n, s, kids, e, h⟩ := h
  exact ⟨k, n, s, kids, e, h.keep (fun p _ hp => hb.cell (by omega)) hL hH⟩
/-- One element more in front. -/
theorem NdOne.pair {w w' : World} {g : Nat} {k n : Int} {s : ByteArray} {kids t : Fr} {v x : Value} (hv : NdV w 0 w.heap.size k n s kids v) (ht : NdOne w 0 w.heap.size t x) (hb : Below w.heap.size w w') (hg : Blk w' g 56 #[v, x]) :
    NdOne w' 0 w'.heap.size (.cons 3 0 dot (.cons k n s kids t) .nil) (.iface 91 (.agg #[.string dot, .slice (some ⟨g, 0, none⟩) 2 2])) := by
  obtain ⟨k2, n2, s2, kids2, rfl, hx⟩ := ht
  have keep : ∀ p : Addr, 0 ≤ p.block → p.block < w.heap.size → w'.cell? p = w.cell? p := fun p _ hp => hb.cell hp
  have h1 := hv.keep keep (Nat.le_refl 0) hb.size
  have h2 := hx.keep keep (Nat.le_refl 0) hb.size
  refine ⟨3, 0, dot, _, rfl, .inr (.inr ⟨rfl, some ⟨g, 0, none⟩, 2, rfl, Nat.le_refl _, by unfold maxLen; omega, fun _ => ⟨g, rfl, Nat.zero_le _, hg.lt, ?_⟩⟩)⟩
  have r0 : NdRow w' 0 w'.heap.size .nil g 0 := trivial
  have r1 := NdRow.snoc .nil h1 g 0 r0 (hg.cell 0)
  exact NdRow.snoc _ h2 g 0 r1 (hg.cell 1)

set_option maxRecDepth 100000 in
set_option maxHeartbeats 2000000 in
/-- impl.joinList. -/
theorem join_any (f t : Fr) (A : Option Addr) (cap : Nat) (x : Value) (w : World) (hk : NdS w 0 w.heap.size f A cap) (ht : NdOne w 0 w.heap.size t x) (hl : f.len ≤ 1048576) :
    Calls Tryd.prog 49 #[.slice A f.len cap, x] w fun e w' => ∃ v, e = .returned v ∧ NdOne w' 0 w'.heap.size (chain f t) v ∧ Below w.heap.size w w' := by
  have HK := Lib.hid hk
  have hst : NdOne w 0 w.heap.size (chain (f.drop f.len) t) x := by rw [Fr.drop_len]; exact ht
  clear hk
  obtain ⟨T0, x0, rfl⟩ := ht.iface
  clear ht
  generalize hn : f.len = len at *
  have HN := Lib.hid hn
  have HST := Lib.hid hst
  clear hn hst
  go_enter Tryd.func49, Tryd.ntmps49
  go_wp2_with fail
  go_loopw [5, 1] (fun i y wr => ∃ (j : Nat) (x' : Value), j ≤ len ∧ i = .int .i64 ((j : Int) - 1) ∧ x' = y ∧ NdOne wr 0 wr.heap.size (chain (f.drop j) t) x' ∧ Below w.heap.size w wr) (fun i _ _ => (intOf i + 1).toNat)
  case atStart => exact ⟨len, _, Nat.le_refl _, rfl, rfl, HST.out, Below.refl _ _⟩
  case round =>
    obtain ⟨j, x', hj, rfl, rfl, hx, hb⟩ := hrel
    cases j with
    | zero =>
      have HV : Hid (NdOne wr 0 wr.heap.size (chain f t) x') := Lib.hid hx
      have HB := Lib.hid hb
      clear hx hb
      go_wp2_with fail
      go_ret
      exact ⟨_, rfl, HV.out, HB.out⟩
    | succ m =>
      obtain ⟨kk, nn, s, kids, hd⟩ := Fr.drop_cons m f (by rw [HN.out]; omega)
      obtain ⟨b, rfl, hlb, hbb, hrow⟩ := HK.out.2.2 (by rw [HN.out]; omega)
      obtain ⟨v, hcell, hnv⟩ := hrow.elem hd
      rw [Nat.zero_add] at hcell
      have hb' := hb.size
      have c0 := (hb.cell (p := ⟨b, m, none⟩) hbb).trans hcell
      have hv' := hnv.keep (w' := wr) (lo' := 0) (hi' := wr.heap.size) (fun p _ hp => hb.cell hp) (Nat.le_refl _) hb.size
      obtain ⟨T1, z1, rfl⟩ := hnv.iface
      obtain ⟨T2, z2, rfl⟩ := hx.iface
      have hstep := NdOne.pair (g := wr.heap.size) hv' hx ((Below.refl _ _).alloc (Nat.le_refl _) (.cells #[.iface T1 z1, .iface T2 z2] 56)) (Blk.new wr _ _)
      have hch : chain (f.drop m) t = .cons 3 0 dot (.cons kk nn s kids (chain (f.drop (m + 1)) t)) .nil := by rw [hd]; rfl
      rw [← hch] at hstep
      have HSTEP := Lib.hid hstep
      have HB : Hid (Below w.heap.size w (wr.alloc (.cells #[.iface T1 z1, .iface T2 z2] 56))) := Lib.hid (hb.alloc hb.size _)
      have e0 : (((m + 1 : Nat) : Int) - 1) = (m : Int) := by omega
      rw [e0]
      clear hx hb hcell hnv hv' hrow hd hch hstep e0
      go_wp2_with fail
      go_roundw
      case rel => exact ⟨m, _, by omega, by go_num, rfl, HSTEP.out, HB.out⟩
      case measure => simp [intOf]
end Go.Proofs.YtppnmodemhoebaaDoor

/- impl.joinList: the list of some nodes with a tail. Condition: the nodes lie in memory. -/
import Derived.Test.YtihmgodiiohdnaaGreatDoorProg
import Derived.Test.YtihmgodiiohdnaaGreatDoorAll
import Derived.Test.YtihmgodiiohdnaaGreatDoorPair
import Derived.Test.YtihmgodiiohdnaaGreatDoorTermOf
namespace Go.Proofs.YtihmgodiiohdnaaGreatDoor
open Go.RowKit

def dot : ByteArray := ⟨#[46]⟩
/-- The list of the terms f, with the term t in the place of the list behind the last one. -/
def chain : Fr → Fr → Fr
  | .nil, t => t
  | .cons k n s kids rest, t => .cons 3 0 dot (.cons k n s kids (chain rest t)) .nil
theorem chain_one (f : Fr) (k n : Int) (s : ByteArray) (kids : Fr) : ∃ k' n' s' f', chain f (.cons k n s kids .nil) = .cons k' n' s' f' .nil := by
  cases f with
  | nil => exact ⟨_, _, _, _, rfl⟩
  | cons k' n' s' kids' rest => exact ⟨_, _, _, _, rfl⟩
theorem nodes_chain (f t : Fr) : nodes (chain f t) = nodes f + f.len + nodes t := by
  induction f with
  | nil => simp [chain, nodes, Fr.len]
  | cons k n s kids rest _ ih => simp only [chain, nodes, Fr.len, ih]; omega
theorem shape_chain (f : Fr) (k n : Int) (s : ByteArray) (kids : Fr) (hf : allV f = true) (ht : validT k n s kids = true) : shapeF (chain f (.cons k n s kids .nil)) (30 + f.len) = true := by
  induction f with
  | nil =>
    have h : shapeT k n s kids 30 = true := by
      unfold validT at ht
      rw [Bool.and_eq_true] at ht
      exact ht.1
    simp only [chain, Fr.len]
    rw [shapeF_cons, show (30 + ((0 : Nat) : Int)) = 30 by omega, h]
    rfl
  | cons k' n' s' kids' rest _ ih =>
    simp only [allV, Bool.and_eq_true] at hf
    have h1 : shapeT k' n' s' kids' 30 = true := by
      have h := hf.1
      unfold validT at h
      rw [Bool.and_eq_true] at h
      exact h.1
    have h2 := ih hf.2
    obtain ⟨k2, n2, s2, f2, hc⟩ := chain_one rest k n s kids
    have hl : (chain rest (.cons k n s kids .nil)).len = 1 := by rw [hc]; rfl
    simp only [chain, Fr.len]
    rw [shapeF_cons]
    have h3 : shapeF (.cons k' n' s' kids' (chain rest (.cons k n s kids .nil))) (30 + ((rest.len + 1 : Nat) : Int) - 1) = true := by
      rw [shapeF_cons, Bool.and_eq_true]
      have e : (30 + ((rest.len + 1 : Nat) : Int) - 1) = 30 + (rest.len : Int) := by omega
      rw [e]
      refine ⟨?_, h2⟩
      have h4 : shapeF (.cons k' n' s' kids' .nil) 30 = true := by rw [shapeF_cons, h1]; rfl
      have h5 := shapeF_mono _ 30 (30 + (rest.len : Int)) (by omega) h4
      rw [shapeF_cons, Bool.and_eq_true] at h5
      exact h5.1
    have h6 : shapeT 3 0 dot (.cons k' n' s' kids' (chain rest (.cons k n s kids .nil))) (30 + ((rest.len + 1 : Nat) : Int)) = true := by
      unfold shapeT ownB
      rw [h3, Fr.len, hl]
      have h7 : nv.nameB dot.data.toList = true := by decide
      rw [h7, decide_eq_true (show (1 : Int) ≤ 30 + ((rest.len + 1 : Nat) : Int) by omega)]
      rfl
    rw [h6]
    rfl

/-- v is the node of the one term of f. -/
def NdOne (w : World) (lo hi : Nat) (f : Fr) (v : Value) : Prop := ∃ k n s kids, f = .cons k n s kids .nil ∧ NdV w lo hi k n s kids v
theorem NdOne.iface {w : World} {lo hi : Nat} {f : Fr} {v : Value} (h : NdOne w lo hi f v) : ∃ T x, v = .iface T x := by
  obtain ⟨k, n, s, kids, _, h⟩ := h
  exact h.iface
theorem NdOne.below {w w' : World} {lo hi lo' hi' : Nat} {f : Fr} {v : Value} (h : NdOne w lo hi f v) (hb : Below w.heap.size w w') (hh : hi ≤ w.heap.size) (hL : lo' ≤ lo) (hH : hi ≤ hi') : NdOne w' lo' hi' f v := by
  obtain ⟨k, n, s, kids, e, h⟩ := h
  exact ⟨k, n, s, kids, e, h.keep (fun p _ hp => hb.cell (by omega)) hL hH⟩
/-- One element more in front. -/
theorem NdOne.pair {w w' : World} {g : Nat} {k n : Int} {s : ByteArray} {kids t : Fr} {v x : Value} (hv : NdV w 0 w.heap.size k n s kids v) (ht : NdOne w 0 w.heap.size t x) (hb : Below w.heap.size w w') (hg : Blk w' g 115 #[v, x]) :
    NdOne w' 0 w'.heap.size (.cons 3 0 dot (.cons k n s kids t) .nil) (.iface 84 (.agg #[.string dot, .slice (some ⟨g, 0, none⟩) 2 2])) := by
  obtain ⟨k2, n2, s2, kids2, rfl, hx⟩ := ht
  have keep : ∀ p : Addr, 0 ≤ p.block → p.block < w.heap.size → w'.cell? p = w.cell? p := fun p _ hp => hb.cell hp
  have h1 := hv.keep keep (Nat.le_refl 0) hb.size
  have h2 := hx.keep keep (Nat.le_refl 0) hb.size
  refine ⟨3, 0, dot, _, rfl, .inr (.inr ⟨rfl, some ⟨g, 0, none⟩, 2, rfl, Nat.le_refl _, by unfold maxLen; omega, fun _ => ⟨g, rfl, Nat.zero_le _, hg.lt, ?_⟩⟩)⟩
  have r0 : NdRow w' 0 w'.heap.size .nil g 0 := trivial
  have r1 := NdRow.snoc .nil h1 g 0 r0 (hg.cell 0)
  exact NdRow.snoc _ h2 g 0 r1 (hg.cell 1)

end Go.Proofs.YtihmgodiiohdnaaGreatDoor

/- Rows of terms that the call itself made: each row is a block of its own, none frozen. No condition. -/
import Derived.Test.YtfdgmdijjifmiaaFr
import Derived.Laws.Rows
namespace Go.Proofs.Ytfdgmdijjifmiaa
open Go.RowKit

namespace Fr
def app : Fr → Fr → Fr
  | .nil, g => g
  | .cons k n s kids rest, g => .cons k n s kids (rest.app g)
def take : Nat → Fr → Fr
  | 0, _ => .nil
  | _ + 1, .nil => .nil
  | i + 1, .cons k n s kids rest => .cons k n s kids (take i rest)
theorem len_take (i : Nat) (f : Fr) (h : i ≤ f.len) : (take i f).len = i := by
  induction i generalizing f with
  | zero => rfl
  | succ i ih =>
    cases f with
    | nil => simp [len] at h
    | cons k n s kids rest => simp only [take, len]; rw [ih rest (by simp only [len] at h; omega)]
theorem take_len (f : Fr) : take f.len f = f := by
  induction f with
  | nil => rfl
  | cons k n s kids rest _ ih => simp only [len, take, ih]
theorem take_succ (i : Nat) (f : Fr) {k n : Int} {s : ByteArray} {kids rest : Fr} (h : drop i f = .cons k n s kids rest) : take (i + 1) f = (take i f).app (.cons k n s kids .nil) := by
  induction i generalizing f with
  | zero =>
    cases f with
    | nil => cases h
    | cons k' n' s' kids' rest' =>
      injection h with h1 h2 h3 h4 h5
      subst h1 h2 h3 h4
      rfl
  | succ i ih =>
    cases f with
    | nil => cases h
    | cons k' n' s' kids' rest' =>
      show Fr.cons k' n' s' kids' (take (i + 1) rest') = _
      rw [ih rest' h]; rfl
end Fr

/-- Block g is just these cells, of element type t, none frozen. -/
def Blk (w : World) (g : Nat) (t : TypeId) (cs : Array Value) : Prop := w.heap[g]? = some (.cells cs t (0, 0))
section
variable {w w' : World} {g : Nat} {t : TypeId} {cs : Array Value}
theorem Blk.lt (h : Blk w g t cs) : g < w.heap.size := (Array.getElem?_eq_some_iff.1 h).1
theorem Blk.cell (h : Blk w g t cs) (i : Nat) : w.cell? ⟨g, i, none⟩ = cs[i]? := cell_of_row w g i cs t (0, 0) h
theorem Blk.frozen (h : Blk w g t cs) (i : Nat) : w.frozen? ⟨g, i, none⟩ = false := frozen_of_row w g i cs t h
theorem Blk.new (w : World) (t : TypeId) (cs : Array Value) : Blk (w.alloc (.cells cs t)) w.heap.size t cs := heap_alloc_new w _
theorem Blk.alloc (h : Blk w g t cs) (o : Obj) : Blk (w.alloc o) g t cs := (heap_alloc_old w o g h.lt).trans h
theorem Blk.keep (h : Blk w g t cs) (hk : w'.heap[g]? = w.heap[g]?) : Blk w' g t cs := hk.trans h
theorem Blk.below {B : Nat} (h : Blk w g t cs) (hb : Below B w w') (hg : g < B) : Blk w' g t cs := (hb.block g hg).trans h
theorem Blk.set_ (h : Blk w g t cs) (i : Nat) (u : Value) : Blk (w.setCell ⟨g, i, none⟩ u) g t (cs.setIfInBounds i u) := heap_setCell_same w g i cs t u h
theorem Blk.far (h : Blk w g t cs) {p : Addr} (hp : g ≠ p.block) (u : Value) : Blk (w.setCell p u) g t cs := (heap_setCell_other w p g u hp).trans h
end

section
variable {w w' : World}
end

end Go.Proofs.Ytfdgmdijjifmiaa

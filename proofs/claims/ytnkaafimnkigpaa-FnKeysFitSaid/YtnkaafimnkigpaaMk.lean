/- Marked rows of terms as plain data, and worlds in which only some blocks were written. No condition. -/
import Derived.Test.YtnkaafimnkigpaaOwn
import Derived.Test.YtnkaafimnkigpaaValid
namespace Go.Proofs.Ytnkaafimnkigpaa
open Go.RowKit

/-- The decimal digits of k in front of out, at most fu of them. -/
def digs : Nat → Nat → List UInt8 → List UInt8
  | 0, _, out => out
  | fu + 1, k, out => if k = 0 then out else digs fu (k / 10) (UInt8.ofNat (48 + k % 10) :: out)
/-- The text of a mark. -/
def mtext (k : Nat) : ByteArray := ⟨(109 :: digs k k []).toArray⟩
theorem digs_len (fu : Nat) : ∀ (k : Nat) (out : List UInt8), (digs fu k out).length ≤ out.length + k := by
  induction fu with
  | zero => intro k out; simp only [digs]; omega
  | succ fu ih =>
    intro k out
    simp only [digs]
    split
    · omega
    · have := ih (k / 10) (UInt8.ofNat (48 + k % 10) :: out)
      simp only [List.length_cons] at this
      omega
theorem mtext_size (k : Nat) : (mtext k).size ≤ k + 1 := by
  have := digs_len k k []
  simp only [List.length_nil] at this
  have e : (mtext k).size = (digs k k []).length + 1 := by simp [mtext, ByteArray.size]
  omega

/-- The row f marked from k on. -/
def markF : Fr → Nat → Fr
  | .nil, _ => .nil
  | .cons _ _ _ kids rest, k => .cons (k : Int) ((k : Int) + 1) (mtext (k + 2)) (markF kids (k + 3)) (markF rest (k + 3 + 3 * nodes kids))
theorem markF_len (f : Fr) : ∀ k, (markF f k).len = f.len := by
  induction f with
  | nil => intro k; rfl
  | cons _ _ _ _ _ _ ih => intro k; simp only [markF, Fr.len, ih]
theorem nodes_markF (f : Fr) : ∀ k, nodes (markF f k) = nodes f := by
  induction f with
  | nil => intro k; rfl
  | cons _ _ _ _ _ h1 h2 => intro k; simp only [markF, nodes, h1, h2]
theorem nodes_app (f g : Fr) : nodes (f.app g) = nodes f + nodes g := by
  induction f with
  | nil => simp [Fr.app, nodes]
  | cons _ _ _ _ _ _ ih => simp only [Fr.app, nodes, ih]; omega
theorem markF_app (f g : Fr) : ∀ k, markF (f.app g) k = (markF f k).app (markF g (k + 3 * nodes f)) := by
  induction f with
  | nil => intro k; simp [Fr.app, markF, nodes]
  | cons _ _ _ kids rest _ ih =>
    intro k
    simp only [Fr.app, markF, ih, nodes]
    rw [show k + 3 + 3 * nodes kids + 3 * nodes rest = k + 3 * (1 + nodes kids + nodes rest) from by omega]
theorem markF_drop (i : Nat) : ∀ (f : Fr) (k : Nat), (markF f k).drop i = markF (f.drop i) (k + 3 * nodes (f.take i)) := by
  induction i with
  | zero => intro f k; simp [Fr.drop, Fr.take, nodes]
  | succ i ih =>
    intro f k
    cases f with
    | nil => rfl
    | cons _ _ _ kids rest =>
      simp only [markF, Fr.drop, ih, Fr.take, nodes]
      rw [show k + 3 + 3 * nodes kids + 3 * nodes (Fr.take i rest) = k + 3 * (1 + nodes kids + nodes (Fr.take i rest)) from by omega]
theorem nodes_take (i : Nat) (f : Fr) {k n : Int} {s : ByteArray} {kids rest : Fr} (h : f.drop i = .cons k n s kids rest) : nodes (f.take (i + 1)) = nodes (f.take i) + 1 + nodes kids := by
  rw [Fr.take_succ i f h, nodes_app]; simp only [nodes]; omega
theorem nodes_split (i : Nat) : ∀ f : Fr, nodes (f.take i) + nodes (f.drop i) = nodes f := by
  induction i with
  | zero => intro f; simp [Fr.take, Fr.drop, nodes]
  | succ i ih =>
    intro f
    cases f with
    | nil => rfl
    | cons _ _ _ kids rest => simp only [Fr.take, Fr.drop, nodes]; have := ih rest; omega

/-- Of the blocks that were there, only those of L were written. -/
structure Wrote (L : List Nat) (w w' : World) : Prop where
  os : w'.os = w.os
  tape : w'.tape = w.tape
  output : w'.output = w.output
  size : w.heap.size ≤ w'.heap.size
  block : ∀ x, x < w.heap.size → x ∉ L → w'.heap[x]? = w.heap[x]?
section
variable {w w' w'' : World} {L L' : List Nat}
theorem Wrote.refl (L : List Nat) (w : World) : Wrote L w w := ⟨rfl, rfl, rfl, Nat.le_refl _, fun _ _ _ => rfl⟩
theorem Wrote.trans (h : Wrote L w w') (k : Wrote L w' w'') : Wrote L w w'' :=
  ⟨k.os.trans h.os, k.tape.trans h.tape, k.output.trans h.output, Nat.le_trans h.size k.size, fun x hx hn => (k.block x (Nat.lt_of_lt_of_le hx h.size) hn).trans (h.block x hx hn)⟩
theorem Wrote.more (h : Wrote L w w') (hL : ∀ x ∈ L, x ∈ L') : Wrote L' w w' := ⟨h.os, h.tape, h.output, h.size, fun x hx hn => h.block x hx fun e => hn (hL x e)⟩
theorem Wrote.of_below (h : Below w.heap.size w w') (L : List Nat) : Wrote L w w' := ⟨h.os, h.tape, h.output, h.size, fun x hx _ => h.block x hx⟩
theorem Wrote.set_ (h : Wrote L w w') {p : Addr} (hp : p.block ∈ L ∨ w.heap.size ≤ p.block) (u : Value) : Wrote L w (w'.setCell p u) :=
  ⟨h.os, h.tape, h.output, by simpa [World.setCell] using h.size, fun x hx hn => by
    rw [heap_setCell_other w' p x u (fun e => by
      rcases hp with hp | hp
      · exact hn (e ▸ hp)
      · omega)]
    exact h.block x hx hn⟩
theorem Wrote.alloc (h : Wrote L w w') (o : Obj) : Wrote L w (w'.alloc o) := h.trans (.of_below ((Below.refl _ _).alloc (Nat.le_refl _) _) L)
theorem Wrote.drew (h : Wrote L w w') : Wrote L w w'.drew := h.trans (.of_below (Below.refl _ _).drew L)
theorem Wrote.below {B : Nat} (h : Wrote L w w') (hB : B ≤ w.heap.size) (hL : ∀ x ∈ L, B ≤ x) : Below B w w' :=
  ⟨h.os, h.tape, h.output, h.size, fun x hx => h.block x (by omega) fun e => by have := hL x e; omega⟩
theorem Wrote.cell (h : Wrote L w w') {p : Addr} (hp : p.block < w.heap.size) (hn : p.block ∉ L) : w'.cell? p = w.cell? p := World.cell?_of_block (h.block p.block hp hn)
theorem Wrote.blk {g : Nat} {t : TypeId} {cs : Array Value} (h : Wrote L w w') (hb : Blk w g t cs) (hn : g ∉ L) : Blk w' g t cs := hb.keep (h.block g hb.lt hn)
theorem KidsAt.wrote {f : Fr} {A : Option Addr} {cap lo hi : Nat} (h : KidsAt w lo hi f A cap) (hw : Wrote L w w') (hh : hi ≤ w.heap.size) (hn : ∀ x ∈ L, x < lo ∨ hi ≤ x) : KidsAt w' lo hi f A cap :=
  h.keep fun p hl hp => hw.cell (by omega) fun e => by have := hn _ e; omega
end

/-! Made rows. -/
theorem far4 {w : World} {g : Nat} {p : Addr} (hp : p.block ≠ g) (a b c d : Value) : ((((w.setCell ⟨g, 0, none⟩ a).setCell ⟨g, 1, none⟩ b).setCell ⟨g, 2, none⟩ c).setCell ⟨g, 3, none⟩ d).cell? p = w.cell? p :=
  World.cell?_of_block (by
    rw [heap_setCell_other _ _ _ _ (show p.block ≠ g from hp), heap_setCell_other _ _ _ _ (show p.block ≠ g from hp), heap_setCell_other _ _ _ _ (show p.block ≠ g from hp), heap_setCell_other _ _ _ _ (show p.block ≠ g from hp)])

end Go.Proofs.Ytnkaafimnkigpaa

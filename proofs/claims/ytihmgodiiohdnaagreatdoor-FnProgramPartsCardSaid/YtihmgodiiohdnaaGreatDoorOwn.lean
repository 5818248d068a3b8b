/- Rows of terms that the call itself made: each row is a block of its own, none frozen. No condition. -/
import Derived.Test.YtihmgodiiohdnaaGreatDoorFr
import Derived.Laws.Rows
namespace Go.Proofs.YtihmgodiiohdnaaGreatDoor
open Go.RowKit

namespace Fr
def app : Fr → Fr → Fr
  | .nil, g => g
  | .cons k n s kids rest, g => .cons k n s kids (rest.app g)
def take : Nat → Fr → Fr
  | 0, _ => .nil
  | _ + 1, .nil => .nil
  | i + 1, .cons k n s kids rest => .cons k n s kids (take i rest)
theorem len_take (i : Nat) (f : Fr) (h : i ≤ f.len) : (take i f).len = i := by
  induction i generalizing f with
  | zero => rfl
  | succ i ih =>
    cases f with
    | nil => simp [len] at h
    | cons k n s kids rest => simp only [take, len]; rw [ih rest (by simp only [len] at h; omega)]
theorem take_len (f : Fr) : take f.len f = f := by
  induction f with
  | nil => rfl
  | cons k n s kids rest _ ih => simp only [len, take, ih]
theorem take_succ (i : Nat) (f : Fr) {k n : Int} {s : ByteArray} {kids rest : Fr} (h : drop i f = .cons k n s kids rest) : take (i + 1) f = (take i f).app (.cons k n s kids .nil) := by
  induction i generalizing f with
  | zero =>
    cases f with
    | nil => cases h
    | cons k' n' s' kids' rest' =>
      injection h with h1 h2 h3 h4 h5
      subst h1 h2 h3 h4
      rfl
  | succ i ih =>
    cases f with
    | nil => cases h
    | cons k' n' s' kids' rest' =>
      show Fr.cons k' n' s' kids' (take (i + 1) rest') = _
      rw [ih rest' h]; rfl
end Fr

/-- Block g is just these cells, of element type t, none frozen. -/
def Blk (w : World) (g : Nat) (t : TypeId) (cs : Array Value) : Prop := w.heap[g]? = some (.cells cs t (0, 0))
section
variable {w w' : World} {g : Nat} {t : TypeId} {cs : Array Value}
theorem Blk.lt (h : Blk w g t cs) : g < w.heap.size := (Array.getElem?_eq_some_iff.1 h).1
theorem Blk.cell (h : Blk w g t cs) (i : Nat) : w.cell? ⟨g, i, none⟩ = cs[i]? := cell_of_row w g i cs t (0, 0) h
theorem Blk.frozen (h : Blk w g t cs) (i : Nat) : w.frozen? ⟨g, i, none⟩ = false := frozen_of_row w g i cs t h
theorem Blk.new (w : World) (t : TypeId) (cs : Array Value) : Blk (w.alloc (.cells cs t)) w.heap.size t cs := heap_alloc_new w _
theorem Blk.alloc (h : Blk w g t cs) (o : Obj) : Blk (w.alloc o) g t cs := (heap_alloc_old w o g h.lt).trans h
theorem Blk.keep (h : Blk w g t cs) (hk : w'.heap[g]? = w.heap[g]?) : Blk w' g t cs := hk.trans h
theorem Blk.below {B : Nat} (h : Blk w g t cs) (hb : Below B w w') (hg : g < B) : Blk w' g t cs := (hb.block g hg).trans h
theorem Blk.set_ (h : Blk w g t cs) (i : Nat) (u : Value) : Blk (w.setCell ⟨g, i, none⟩ u) g t (cs.setIfInBounds i u) := heap_setCell_same w g i cs t u h
theorem Blk.far (h : Blk w g t cs) {p : Addr} (hp : g ≠ p.block) (u : Value) : Blk (w.setCell p u) g t cs := (heap_setCell_other w p g u hp).trans h
end

/-- The row f lies in block b from cell o on; what it leads to lies in just the blocks L, in this order. -/
def OwnAt (w : World) : Fr → Nat → Nat → List Nat → Prop
  | .nil, _, _, L => L = []
  | .cons k n s kids rest, b, o, L => ∃ (A : Option Addr) (cap : Nat) (L1 L2 : List Nat), L = L1 ++ L2 ∧ Fits k n s ∧
      (w.cell? ⟨b, o, none⟩ = some (.int .i64 k) ∧ w.cell? ⟨b, o + 1, none⟩ = some (.int .i64 n) ∧ w.cell? ⟨b, o + 2, none⟩ = some (.string s) ∧ w.cell? ⟨b, o + 3, none⟩ = some (.slice A kids.len cap)) ∧
      kids.len ≤ cap ∧ cap ≤ maxLen ∧
      ((kids.len = 0 ∧ L1 = []) ∨ ∃ b' L' cs, A = some ⟨b', 0, none⟩ ∧ L1 = b' :: L' ∧ Blk w b' 30 cs ∧ cs.size = cap * 4 ∧ OwnAt w kids b' 0 L') ∧
      OwnAt w rest b (o + 4) L2

/-- The slice value with address A and capacity cap owns the row f, in the blocks L. -/
def OwnS (w : World) (f : Fr) (A : Option Addr) (cap : Nat) (L : List Nat) : Prop :=
  f.len ≤ cap ∧ cap ≤ maxLen ∧ ((f.len = 0 ∧ L = []) ∨ ∃ b L' cs, A = some ⟨b, 0, none⟩ ∧ L = b :: L' ∧ Blk w b 30 cs ∧ cs.size = cap * 4 ∧ OwnAt w f b 0 L')

section
variable {w w' : World}
theorem OwnAt.keep (f : Fr) : ∀ b o L, OwnAt w f b o L → (∀ j, j < f.len * 4 → w'.cell? ⟨b, o + j, none⟩ = w.cell? ⟨b, o + j, none⟩) → (∀ x ∈ L, w'.heap[x]? = w.heap[x]?) → OwnAt w' f b o L := by
  induction f with
  | nil => intro b o L h _ _; exact h
  | cons k n s kids rest ihk ihr =>
    rintro b o L ⟨A, cap, L1, L2, rfl, hf, ⟨c0, c1, c2, c3⟩, h1, h2, h3, hr⟩ hc hL
    simp only [Fr.len] at hc
    refine ⟨A, cap, L1, L2, rfl, hf, ⟨(hc 0 (by omega)).trans c0, (hc 1 (by omega)).trans c1, (hc 2 (by omega)).trans c2, (hc 3 (by omega)).trans c3⟩, h1, h2, ?_, ihr b (o + 4) L2 hr (fun j hj => ?_) fun x hx => hL x (by simp [hx])⟩
    · rcases h3 with h | ⟨b', L', cs, rfl, rfl, hb, hs, ho⟩
      · exact .inl h
      · have hblk : w'.heap[b']? = w.heap[b']? := hL b' (by simp)
        exact .inr ⟨b', L', cs, rfl, rfl, hb.keep hblk, hs, ihk b' 0 L' ho (fun j _ => World.cell?_of_block (a := ⟨b', 0 + j, none⟩) hblk) fun x hx => hL x (by simp [hx])⟩
    · have := hc (4 + j) (by omega)
      rwa [← Nat.add_assoc] at this
theorem OwnS.keep {f : Fr} {A : Option Addr} {cap : Nat} {L : List Nat} (h : OwnS w f A cap L) (hL : ∀ x ∈ L, w'.heap[x]? = w.heap[x]?) : OwnS w' f A cap L := by
  refine ⟨h.1, h.2.1, ?_⟩
  rcases h.2.2 with h | ⟨b, L', cs, rfl, rfl, hb, hs, ho⟩
  · exact .inl h
  · have hblk : w'.heap[b]? = w.heap[b]? := hL b (by simp)
    exact .inr ⟨b, L', cs, rfl, rfl, hb.keep hblk, hs, OwnAt.keep f b 0 L' ho (fun j _ => World.cell?_of_block (a := ⟨b, 0 + j, none⟩) hblk) fun x hx => hL x (by simp [hx])⟩
theorem OwnS.below {f : Fr} {A : Option Addr} {cap B : Nat} {L : List Nat} (h : OwnS w f A cap L) (hb : Below B w w') (hL : ∀ x ∈ L, x < B) : OwnS w' f A cap L :=
  h.keep fun x hx => hb.block x (hL x hx)
/-- A row, and one term more behind it. -/
theorem OwnAt.snoc (f : Fr) {k n : Int} {s : ByteArray} {kids : Fr} {A : Option Addr} {cap : Nat} {L' : List Nat} (hf : Fits k n s) (hs : OwnS w kids A cap L') :
    ∀ b o L, OwnAt w f b o L → w.cell? ⟨b, o + f.len * 4, none⟩ = some (.int .i64 k) → w.cell? ⟨b, o + f.len * 4 + 1, none⟩ = some (.int .i64 n) → w.cell? ⟨b, o + f.len * 4 + 2, none⟩ = some (.string s) → w.cell? ⟨b, o + f.len * 4 + 3, none⟩ = some (.slice A kids.len cap) →
      OwnAt w (f.app (.cons k n s kids .nil)) b o (L ++ L') := by
  induction f with
  | nil =>
    rintro b o L rfl c0 c1 c2 c3
    exact ⟨A, cap, L', [], by simp, hf, ⟨c0, c1, c2, c3⟩, hs.1, hs.2.1, hs.2.2, rfl⟩
  | cons k' n' s' kids' rest' _ ihr =>
    rintro b o L ⟨A', cap', L1, L2, rfl, hf', hc', h1, h2, h3, hr⟩ c0 c1 c2 c3
    have e : o + (Fr.cons k' n' s' kids' rest').len * 4 = o + 4 + rest'.len * 4 := by simp only [Fr.len]; omega
    rw [e] at c0 c1 c2 c3
    exact ⟨A', cap', L1, L2 ++ L', by simp, hf', hc', h1, h2, h3, ihr b (o + 4) L2 hr c0 c1 c2 c3⟩
/-- What is owned lies there. -/
theorem OwnAt.row {lo hi : Nat} (f : Fr) : ∀ b o L, OwnAt w f b o L → (∀ x ∈ L, lo ≤ x ∧ x < hi) → RowAt w lo hi f b o := by
  induction f with
  | nil => intro b o L _ _; trivial
  | cons k n s kids rest ihk ihr =>
    rintro b o L ⟨A, cap, L1, L2, rfl, hf, hc, h1, h2, h3, hr⟩ hL
    refine ⟨hf, ⟨A, cap, hc, h1, h2, fun hp => ?_⟩, ihr b (o + 4) L2 hr fun x hx => hL x (by simp [hx])⟩
    rcases h3 with ⟨h, _⟩ | ⟨b', L', cs, rfl, rfl, hb, _, ho⟩
    · omega
    · exact ⟨b', 0, rfl, (hL b' (by simp)).1, (hL b' (by simp)).2, ihk b' 0 L' ho fun x hx => hL x (by simp [hx])⟩
theorem OwnS.kids {f : Fr} {A : Option Addr} {cap lo hi : Nat} {L : List Nat} (h : OwnS w f A cap L) (hL : ∀ x ∈ L, lo ≤ x ∧ x < hi) : KidsAt w lo hi f A cap :=
  ⟨h.1, h.2.1, fun hp => by
    rcases h.2.2 with ⟨h, _⟩ | ⟨b, L', cs, rfl, rfl, hb, _, ho⟩
    · omega
    · exact ⟨b, 0, rfl, (hL b (by simp)).1, (hL b (by simp)).2, ho.row f b 0 L' fun x hx => hL x (by simp [hx])⟩⟩
end

/-- What a call leaves that made a row of terms: the row, in blocks that are new and all different; nothing that was there is written. -/
def Made (w : World) (f : Fr) (A : Option Addr) (cap : Nat) (w' : World) : Prop :=
  ∃ L, OwnS w' f A cap L ∧ L.Nodup ∧ (∀ x ∈ L, w.heap.size ≤ x ∧ x < w'.heap.size) ∧ Below w.heap.size w w'
end Go.Proofs.YtihmgodiiohdnaaGreatDoor

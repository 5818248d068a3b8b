/- Instructions as plain data, rows of them in memory, and what a call owns. No condition. -/
import Derived.Test.YtfdgmdijjifmiaaDoorOwn
import Derived.Laws.OwnMore
import Derived.OwnWalk
namespace Go.Proofs.YtfdgmdijjifmiaaDoor
open Go.RowKit

structure Ins where
  op : Int
  a : Int
  b : Int
  s : ByteArray
def I64 (n : Int) : Prop := -9223372036854775808 ≤ n ∧ n ≤ 9223372036854775807
def Ins.ok (x : Ins) : Prop := I64 x.op ∧ I64 x.a ∧ I64 x.b ∧ x.s.size ≤ maxLen
def Ins.cells (x : Ins) : List Value := [.int .i64 x.op, .int .i64 x.a, .int .i64 x.b, .string x.s]
def Ins.zero : Ins := ⟨0, 0, 0, ⟨#[]⟩⟩
theorem Ins.zero_ok : Ins.zero.ok := ⟨⟨by decide, by decide⟩, ⟨by decide, by decide⟩, ⟨by decide, by decide⟩, Nat.zero_le _⟩
/-- The row lies in block b from cell o on, four cells each. -/
def InsAt (w : World) : List Ins → Nat → Nat → Prop
  | [], _, _ => True
  | x :: xs, b, o => x.ok ∧ (w.cell? ⟨b, o, none⟩ = some (.int .i64 x.op) ∧ w.cell? ⟨b, o + 1, none⟩ = some (.int .i64 x.a) ∧ w.cell? ⟨b, o + 2, none⟩ = some (.int .i64 x.b) ∧ w.cell? ⟨b, o + 3, none⟩ = some (.string x.s)) ∧ InsAt w xs b (o + 4)
/-- The slice value reads as the row; its block lies below hi. -/
def InsS (w : World) (hi : Nat) (xs : List Ins) (A : Option Addr) (cap : Nat) : Prop :=
  xs.length ≤ cap ∧ cap ≤ maxLen ∧ (0 < xs.length → ∃ b o, A = some ⟨b, o, none⟩ ∧ b < hi ∧ InsAt w xs b o)
section
variable {w w' : World}
theorem InsAt.keep : ∀ (xs : List Ins) (b o : Nat), (∀ p : Addr, p.block = b → w'.cell? p = w.cell? p) → InsAt w xs b o → InsAt w' xs b o
  | [], _, _, _, _ => trivial
  | _ :: xs, b, o, hk, ⟨h0, ⟨c0, c1, c2, c3⟩, hr⟩ => ⟨h0, ⟨(hk _ rfl).trans c0, (hk _ rfl).trans c1, (hk _ rfl).trans c2, (hk _ rfl).trans c3⟩, InsAt.keep xs b (o + 4) hk hr⟩
theorem InsS.keep {hi : Nat} {xs : List Ins} {A : Option Addr} {cap : Nat} (h : InsS w hi xs A cap) (hk : ∀ p : Addr, p.block < hi → w'.cell? p = w.cell? p) : InsS w' hi xs A cap :=
  ⟨h.1, h.2.1, fun hp => by
    obtain ⟨b, o, e, hb, hr⟩ := h.2.2 hp
    exact ⟨b, o, e, hb, InsAt.keep xs b o (fun p e => hk p (by omega)) hr⟩⟩
theorem InsS.below {hi B : Nat} {xs : List Ins} {A : Option Addr} {cap : Nat} (h : InsS w hi xs A cap) (hb : Below B w w') (hB : hi ≤ B) : InsS w' hi xs A cap := h.keep fun _ hp => hb.cell (by omega)
theorem InsS.more {hi hi' : Nat} {xs : List Ins} {A : Option Addr} {cap : Nat} (h : InsS w hi xs A cap) (hH : hi ≤ hi') : InsS w hi' xs A cap :=
  ⟨h.1, h.2.1, fun hp => by
    obtain ⟨b, o, e, hb, hr⟩ := h.2.2 hp
    exact ⟨b, o, e, by omega, hr⟩⟩
/-- Instruction i. -/
theorem InsAt.elem : ∀ (i : Nat) (xs : List Ins) (b o : Nat) {x : Ins} {rest : List Ins}, InsAt w xs b o → xs.drop i = x :: rest →
    x.ok ∧ w.cell? ⟨b, o + i * 4, none⟩ = some (.int .i64 x.op) ∧ w.cell? ⟨b, o + i * 4 + 1, none⟩ = some (.int .i64 x.a) ∧ w.cell? ⟨b, o + i * 4 + 2, none⟩ = some (.int .i64 x.b) ∧ w.cell? ⟨b, o + i * 4 + 3, none⟩ = some (.string x.s)
  | 0, [], _, _, _, _, _, hd => by cases hd
  | _ + 1, [], _, _, _, _, _, hd => by cases hd
  | 0, x :: xs, b, o, _, _, ⟨h0, ⟨c0, c1, c2, c3⟩, _⟩, hd => by
    injection hd with e1 e2
    subst e1
    exact ⟨h0, c0, c1, c2, c3⟩
  | i + 1, x :: xs, b, o, _, _, ⟨_, _, hr⟩, hd => by
    have h1 := InsAt.elem i xs b (o + 4) hr hd
    rw [show o + 4 + i * 4 = o + (i + 1) * 4 by omega] at h1
    exact h1
end
theorem drop_at {α : Type} (i : Nat) (xs : List α) (h : i < xs.length) : ∃ x, xs.drop i = x :: xs.drop (i + 1) := ⟨xs[i], List.drop_eq_getElem_cons h⟩

/-- The slice value owns the row; its block is the call's own, from base on. -/
def OwnIn (w : World) (base : Nat) (v : Value) (xs : List Ins) : Prop := w.ownsRow base 26 4 v xs.length (xs.flatMap Ins.cells) ∧ ∀ x ∈ xs, x.ok
theorem cells_len (xs : List Ins) : (xs.flatMap Ins.cells).length = xs.length * 4 := by
  induction xs with
  | nil => rfl
  | cons x xs ih => rw [List.flatMap_cons, List.length_append, ih]; simp [Ins.cells]; omega
theorem cells_at : ∀ (xs : List Ins) (i : Nat) {x : Ins} {rest : List Ins}, xs.drop i = x :: rest →
    (xs.flatMap Ins.cells)[i * 4]? = some (.int .i64 x.op) ∧ (xs.flatMap Ins.cells)[i * 4 + 1]? = some (.int .i64 x.a) ∧ (xs.flatMap Ins.cells)[i * 4 + 2]? = some (.int .i64 x.b) ∧ (xs.flatMap Ins.cells)[i * 4 + 3]? = some (.string x.s)
  | [], 0, _, _, hd => by cases hd
  | [], _ + 1, _, _, hd => by cases hd
  | y :: ys, 0, x, rest, hd => by
    injection hd with e1 e2
    subst e1
    rw [List.flatMap_cons]
    exact ⟨rfl, rfl, rfl, rfl⟩
  | y :: ys, i + 1, x, rest, hd => by
    have h1 := cells_at ys i hd
    rw [List.flatMap_cons]
    have e : ∀ j, (y.cells ++ ys.flatMap Ins.cells)[(i + 1) * 4 + j]? = (ys.flatMap Ins.cells)[i * 4 + j]? := fun j => by
      rw [List.getElem?_append_right (by simp [Ins.cells]; omega)]
      congr 1
      simp [Ins.cells]; omega
    exact ⟨(e 0).trans h1.1, (e 1).trans h1.2.1, (e 2).trans h1.2.2.1, (e 3).trans h1.2.2.2⟩
section
variable {w w' : World} {base : Nat} {v : Value} {xs : List Ins}
def ownB (v : Value) : List Nat := v.ownBlock.toList
theorem OwnIn.lt (h : OwnIn w base v xs) : ∀ x ∈ ownB v, base ≤ x ∧ x < w.heap.size := fun x hx => World.ownsRow.lt h.1 x (by unfold ownB at hx; simpa using hx)
theorem OwnIn.keepB (h : OwnIn w base v xs) (hk : ∀ x ∈ ownB v, w'.heap[x]? = w.heap[x]?) : OwnIn w' base v xs := by
  refine ⟨⟨h.1.1, ?_⟩, h.2⟩
  rcases h.1.2 with h2 | ⟨g, cap, cur, rfl, hg, hh, hr⟩
  · exact .inl h2
  · exact .inr ⟨g, cap, cur, rfl, hg, (hk g (by simp [ownB, Value.ownBlock])).trans hh, hr⟩
theorem OwnIn.below (h : OwnIn w base v xs) (hb : Below w.heap.size w w') : OwnIn w' base v xs := h.keepB fun x hx => hb.block x (h.lt x hx).2
theorem OwnIn.mono {base' : Nat} (h : OwnIn w base v xs) (hb : base' ≤ base) : OwnIn w base' v xs := by
  refine ⟨⟨h.1.1, ?_⟩, h.2⟩
  rcases h.1.2 with h2 | ⟨g, cap, cur, e, hg, hr⟩
  · exact .inl h2
  · exact .inr ⟨g, cap, cur, e, Nat.le_trans hb hg, hr⟩
theorem OwnIn.nil (w : World) (base : Nat) : OwnIn w base (.slice none 0 0) [] := ⟨World.ownsRow_nil w _ _ _, fun x hx => by cases hx⟩
theorem insAt_of_cells : ∀ (xs : List Ins) (b o : Nat), (∀ x ∈ xs, x.ok) → (∀ j, j < xs.length * 4 → w.cell? ⟨b, o + j, none⟩ = (xs.flatMap Ins.cells)[j]?) → InsAt w xs b o
  | [], _, _, _, _ => trivial
  | x :: xs, b, o, hok, hc => by
    have hc0 := hc 0 (by simp)
    have hc1 := hc 1 (by simp; omega)
    have hc2 := hc 2 (by simp; omega)
    have hc3 := hc 3 (by simp; omega)
    rw [List.flatMap_cons] at hc0 hc1 hc2 hc3
    refine ⟨hok x (by simp), ⟨hc0, hc1, hc2, hc3⟩, insAt_of_cells xs b (o + 4) (fun y hy => hok y (by simp [hy])) fun j hj => ?_⟩
    have h := hc (4 + j) (by simp; omega)
    rw [← Nat.add_assoc] at h
    rw [h, List.flatMap_cons, List.getElem?_append_right (by simp [Ins.cells])]
    congr 1
    simp [Ins.cells]
/-- What reading wants. -/
theorem OwnIn.read (h : OwnIn w base v xs) : ∃ A cap, v = .slice A xs.length cap ∧ InsS w w.heap.size xs A cap := by
  have h0 := h.1
  rcases h.1.2 with ⟨rfl, hn⟩ | ⟨g, cap, cur, rfl, hg, hh, hr1, hr2, _⟩
  · rw [hn]
    exact ⟨none, 0, rfl, by omega, Nat.zero_le _, fun h => absurd h (by omega)⟩
  · have hlt := (h.lt g (by simp [ownB, Value.ownBlock])).2
    exact ⟨_, cap, rfl, hr1, hr2, fun _ => ⟨g, 0, rfl, hlt, insAt_of_cells xs g 0 h.2 fun j hj => by
      rw [Nat.zero_add]
      exact World.ownsRow.cellAt h0 j hj⟩⟩
end
end Go.Proofs.YtfdgmdijjifmiaaDoor

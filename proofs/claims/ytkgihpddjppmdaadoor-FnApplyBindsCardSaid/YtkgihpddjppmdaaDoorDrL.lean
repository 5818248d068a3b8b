/- spec.DrawListOf. Condition: the bytes lie in memory. -/
import Derived.Test.YtkgihpddjppmdaaDoorProg
import Derived.Test.YtkgihpddjppmdaaDoorDrM
import Derived.Test.YtkgihpddjppmdaaDoorSpecM
namespace Go.Proofs.YtkgihpddjppmdaaDoor
open Go.RowKit

/-- A term that was drawn. -/
def Dr1 (M : Nat) (w : World) (e : Ending) (w' : World) : Prop :=
  ∃ (k n : Int) (s : ByteArray) (f : Fr) (A : Option Addr) (cap : Nat), e = .returned (.agg #[.int .i64 k, .int .i64 n, .string s, .slice A f.len cap]) ∧ Fits k n s ∧ nodes f ≤ M ∧
    (∃ L, OwnS w' f A cap L ∧ L.Nodup ∧ ∀ x ∈ L, w.heap.size ≤ x) ∧ Below w.heap.size w w'
/-- A call that opens a source and draws one term: its result's block is still empty. -/
def DsI (w : World) (rb N : Nat) (wr : World) : Prop := Rd wr rb N ∧ Below w.heap.size w wr ∧ Blk wr w.heap.size 25 #[.int .i64 0, .int .i64 0, .string ⟨#[]⟩, .slice none 0 0] ∧ w.heap.size < rb
theorem DsI.step {w wr w2 : World} {rb N N2 : Nat} (h : DsI w rb N wr) (hr : Rd w2 rb N2) (hw : Wrote [rb] wr w2) : DsI w rb N2 w2 :=
  ⟨hr, h.2.1.trans (hw.below h.2.1.size fun x hx => by simp at hx; have := h.2.2.2; omega), hw.blk h.2.2.1 (by have := h.2.2.2; simp; omega), h.2.2.2⟩
theorem DsI.below {w wr w2 : World} {rb N : Nat} (h : DsI w rb N wr) (hb : Below wr.heap.size wr w2) : DsI w rb N w2 := h.step (h.1.below hb) (.of_below hb _)
theorem DsI.fin {w w8 w9 : World} {rb N M : Nat} {k n : Int} {s : ByteArray} {f : Fr} {A : Option Addr} {cap : Nat} (h : DsI w rb N w8) (hf : Fits k n s) (hn : nodes f ≤ M)
    (ho : ∃ L, OwnS w8 f A cap L ∧ L.Nodup ∧ ∀ x ∈ L, w.heap.size < x) (hw : Wrote [w.heap.size] w8 w9) :
    Dr1 M w (.returned (.agg #[.int .i64 k, .int .i64 n, .string s, .slice A f.len cap])) w9 := by
  obtain ⟨L, h1, h3, h4⟩ := ho
  refine ⟨k, n, s, f, A, cap, rfl, hf, hn, ⟨L, h1.wrote hw fun x hx e => ?_, h3, fun x hx => by have := h4 x hx; omega⟩, h.2.1.trans (hw.below h.2.1.size fun x hx => by simp at hx; omega)⟩
  have := h4 x hx; simp at e; omega
theorem names3 (s : ByteArray) (h : s ∈ ([⟨#[91, 93]⟩, ⟨#[91, 93]⟩, ⟨#[97]⟩] : List ByteArray)) : s.size ≤ maxLen := by
  have : ∀ s ∈ ([⟨#[91, 93]⟩, ⟨#[91, 93]⟩, ⟨#[97]⟩] : List ByteArray), s.size ≤ 100 := by decide
  have := this s h
  unfold maxLen; omega

/-- The bytes, later. -/
theorem Bts.up {w w' : World} {A : Option Addr} {len : Nat} (h : Bts w w.heap.size A len) (hb : Below w.heap.size w w') : Bts w' w'.heap.size A len := fun hp => by
  obtain ⟨b, o, e, h1, h2⟩ := h hp
  exact ⟨b, o, e, Nat.lt_of_lt_of_le h1 hb.size, fun i hi => by
    obtain ⟨n, h3, h4⟩ := h2 i hi
    exact ⟨n, (hb.cell (p := ⟨b, o + i, none⟩) h1).trans h3, h4⟩⟩
end Go.Proofs.YtkgihpddjppmdaaDoor

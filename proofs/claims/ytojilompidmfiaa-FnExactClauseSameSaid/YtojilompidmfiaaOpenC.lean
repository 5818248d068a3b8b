/- Arguments of the types Clause and []Clause of the laws are opened. No condition. -/
import Derived.Test.YtojilompidmfiaaProg
import Derived.Test.YtojilompidmfiaaOpen
import Derived.Test.YtojilompidmfiaaOpenS
import Derived.Test.YtojilompidmfiaaCl
namespace Go.Proofs.Ytojilompidmfiaa
open Go.ChangeShapes Go.WideShapes Go.ChangeAt Go.RowKit

theorem cellsLC : Try.prog.cellsOf 27 = 5 := by kernel_rfl

section
variable {H : Type} {enc : TypeId × Value → H} {w : World} {sp : Nat → Bool} {held : Bool}
set_option maxRecDepth 100000 in
/-- The five cells of a clause. -/
theorem clause_of_trod (fuel : Nat) (cs : List Value) (x : DataW H × List MemPlace) (h : DataW.trod enc Try.prog w 0 sp held fuel 27 cs = some x) :
    ∃ (c : Cl) (A : Option Addr) (cap : Nat) (B : Option Addr) (capB : Nat), cs = [.int .i64 c.k, .int .i64 c.n, .string c.s, .slice A c.kids.len cap, .slice B c.body.len capB] ∧ Fits c.k c.n c.s ∧ KidsAt w 0 w.heap.size c.kids A cap ∧ KidsAt w 0 w.heap.size c.body B capB := by
  obtain ⟨xs, m, rfl, hx, hcl, hxl, hf⟩ := DataW.trod_struct Try.underlying27 h
  rw [cellsLC] at hcl
  have f0 : DataW.trod enc Try.prog w 0 sp held m 25 ((cs.drop 0).take (Try.prog.cellsOf 25)) = xs[0]? := hf 0 _ rfl
  have f1 : DataW.trod enc Try.prog w 0 sp held m 23 ((cs.drop 4).take (Try.prog.cellsOf 23)) = xs[1]? := hf 1 _ rfl
  rw [cellsLT] at f0
  rw [cellsLS] at f1
  have hx2 : xs.length = 2 := by simpa using hxl
  match cs, hcl with
  | [c0, c1, c2, c3, c4], _ =>
  match xs, hx2 with
  | [y0, y1], _ =>
  simp only [List.drop_zero, List.drop_succ_cons, List.take_succ_cons, List.take_zero, List.getElem?_cons_zero, List.getElem?_cons_succ] at f0 f1
  obtain ⟨k, n, s, A, f, cap, e0, hfit, hk⟩ := term_of_trod m _ _ f0
  obtain ⟨B, g, capB, e1, hkb⟩ := kids_of_trod m _ _ f1
  simp only [List.cons.injEq, and_true] at e0 e1
  obtain ⟨e00, e01, e02, e03⟩ := e0
  subst e00 e01 e02 e03 e1
  exact ⟨⟨k, n, s, f, g⟩, A, cap, B, capB, rfl, hfit, hk, hkb⟩

end

set_option maxRecDepth 100000 in
/-- A parameter of type Clause. -/
theorem open_clause {H : Type} {enc : TypeId × Value → H} {w : World} {sp : Nat → Bool} {held : Bool} {r : Reach} {b0 : Nat} {v : Value} {d : DataW H} {ps : List MemPlace}
    (hval : Value.okWide Try.prog w r b0 27 v) (hd : DataW.Trod enc Try.prog w 0 sp held 27 v d ps) :
    ∃ (c : Cl) (A : Option Addr) (cap : Nat) (B : Option Addr) (capB : Nat), v = .agg #[.int .i64 c.k, .int .i64 c.n, .string c.s, .slice A c.kids.len cap, .slice B c.body.len capB] ∧ Fits c.k c.n c.s ∧ KidsAt w 0 w.heap.size c.kids A cap ∧ KidsAt w 0 w.heap.size c.body B capB := by
  obtain ⟨fuel, hf⟩ := hd
  obtain ⟨c, A, cap, B, capB, hcs, hfit, hk, hkb⟩ := clause_of_trod fuel _ _ hf
  refine ⟨c, A, cap, B, capB, ?_, hfit, hk, hkb⟩
  obtain ⟨cs, rfl, hsz⟩ := okWide_struct Try.underlying27 hval
  have h1 : cs.toList = [.int .i64 c.k, .int .i64 c.n, .string c.s, .slice A c.kids.len cap, .slice B c.body.len capB] := hcs
  rw [← Array.toArray_toList (xs := cs), h1]

end Go.Proofs.Ytojilompidmfiaa

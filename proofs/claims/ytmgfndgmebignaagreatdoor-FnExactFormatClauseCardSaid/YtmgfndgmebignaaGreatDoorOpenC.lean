/- Arguments of the types Clause and []Clause of the laws are opened. No condition. -/
import Derived.Test.YtmgfndgmebignaaGreatDoorProg
import Derived.Test.YtmgfndgmebignaaGreatDoorOpen
import Derived.Test.YtmgfndgmebignaaGreatDoorOpenS
import Derived.Test.YtmgfndgmebignaaGreatDoorCl
namespace Go.Proofs.YtmgfndgmebignaaGreatDoor
open Go.ChangeShapes Go.WideShapes Go.ChangeAt Go.RowKit

theorem cellsLC : Tryz.prog.cellsOf 26 = 5 := by kernel_rfl

section
variable {H : Type} {enc : TypeId × Value → H} {w : World} {sp : Nat → Bool} {held : Bool}
set_option maxRecDepth 100000 in
/-- The five cells of a clause. -/
theorem clause_of_trod (fuel : Nat) (cs : List Value) (x : DataW H × List MemPlace) (h : DataW.trod enc Tryz.prog w 0 sp held fuel 26 cs = some x) :
    ∃ (c : Cl) (A : Option Addr) (cap : Nat) (B : Option Addr) (capB : Nat), cs = [.int .i64 c.k, .int .i64 c.n, .string c.s, .slice A c.kids.len cap, .slice B c.body.len capB] ∧ Fits c.k c.n c.s ∧ KidsAt w 0 w.heap.size c.kids A cap ∧ KidsAt w 0 w.heap.size c.body B capB := by
  obtain ⟨xs, m, rfl, hx, hcl, hxl, hf⟩ := DataW.trod_struct Tryz.underlying26 h
  rw [cellsLC] at hcl
  have f0 : DataW.trod enc Tryz.prog w 0 sp held m 24 ((cs.drop 0).take (Tryz.prog.cellsOf 24)) = xs[0]? := hf 0 _ rfl
  have f1 : DataW.trod enc Tryz.prog w 0 sp held m 22 ((cs.drop 4).take (Tryz.prog.cellsOf 22)) = xs[1]? := hf 1 _ rfl
  rw [cellsLT] at f0
  rw [cellsLS] at f1
  have hx2 : xs.length = 2 := by simpa using hxl
  match cs, hcl with
  | [c0, c1, c2, c3, c4], _ =>
  match xs, hx2 with
  | [y0, y1], _ =>
  simp only [List.drop_zero, List.drop_succ_cons, List.take_succ_cons, List.take_zero, List.getElem?_cons_zero, List.getElem?_cons_succ] at f0 f1
  obtain ⟨k, n, s, A, f, cap, e0, hfit, hk⟩ := term_of_trod m _ _ f0
  obtain ⟨B, g, capB, e1, hkb⟩ := kids_of_trod m _ _ f1
  simp only [List.cons.injEq, and_true] at e0 e1
  obtain ⟨e00, e01, e02, e03⟩ := e0
  subst e00 e01 e02 e03 e1
  exact ⟨⟨k, n, s, f, g⟩, A, cap, B, capB, rfl, hfit, hk, hkb⟩

theorem clauses_of_trod (fuel : Nat) (cs : List Value) (x : DataW H × List MemPlace) (f3 : DataW.trod enc Tryz.prog w 0 sp held fuel 37 cs = some x) :
    ∃ (A : Option Addr) (cl : List Cl) (cap : Nat), cs = [.slice A cl.length cap] ∧ ClS w 0 w.heap.size cl A cap := by
  rcases DataW.trod_slice Tryz.underlying37 f3 with ⟨e3, _⟩ | ⟨a, len, cap, elems, rest, m', hm', e3, _, _, hlc, hcm, hel, hat, _, _⟩
  · exact ⟨none, [], 0, e3, Nat.zero_le _, Nat.zero_le _, fun h => absurd h (Nat.lt_irrefl 0)⟩
  · subst e3
    rw [cellsLC] at hat
    have each : ∀ i, i < len → ∃ cs', w.cells? 0 (a.add (i * 5)) 5 = some cs' ∧ ∃ y, DataW.trod enc Tryz.prog w 0 sp held m' 26 cs' = some y := by
      intro i hi
      have h1 := hat i hi
      rw [List.getElem?_eq_getElem (by omega)] at h1
      obtain ⟨cs', h2, h3⟩ := Option.bind_eq_some_iff.1 h1
      exact ⟨cs', h2, _, h3⟩
    rcases Nat.eq_zero_or_pos len with hz | hpos
    · subst hz
      exact ⟨some a, [], cap, rfl, Nat.zero_le _, hcm, fun h => absurd h (Nat.lt_irrefl 0)⟩
    · obtain ⟨b, off, spot⟩ := a
      have hspot : spot = none := by
        obtain ⟨cs', hc, y, hy⟩ := each 0 hpos
        obtain ⟨_, hl, hcell⟩ := World.cells?_some hc
        have h0 := hcell 0 (by omega)
        rw [List.getElem?_eq_getElem (by omega)] at h0
        have := World.cell?_spot h0
        simpa [Addr.add] using this
      subst hspot
      have hrow : ∀ m, m ≤ len → ∃ (cl : List Cl), cl.length = m ∧ ClAt w 0 w.heap.size cl b (off + (len - m) * 5) ∧ (0 < m → b < w.heap.size) := by
        intro m
        induction m with
        | zero => exact fun _ => ⟨[], rfl, trivial, fun h => absurd h (Nat.lt_irrefl 0)⟩
        | succ m ihm =>
          intro hm
          obtain ⟨cl, hfl, hr, _⟩ := ihm (by omega)
          obtain ⟨cs', hc, y, hy⟩ := each (len - (m + 1)) (by omega)
          obtain ⟨_, hl, hcell⟩ := World.cells?_some hc
          obtain ⟨c', A', cap', B', capB', rfl, hfit', hk', hkb'⟩ := clause_of_trod m' cs' y hy
          simp only [add_plain] at hcell
          have d0 := hcell 0 (by omega)
          have d1 := hcell 1 (by omega)
          have d2 := hcell 2 (by omega)
          have d3 := hcell 3 (by omega)
          have d4 := hcell 4 (by omega)
          simp only [List.getElem?_cons_zero, List.getElem?_cons_succ, Nat.add_zero] at d0 d1 d2 d3 d4
          refine ⟨c' :: cl, by simp only [List.length_cons, hfl], ⟨hfit', ⟨A', cap', B', capB', ⟨d0, d1, d2, d3, d4⟩, hk', hkb'⟩, ?_⟩, fun _ => World.block_lt_of_cell? w _ d0⟩
          rw [show off + (len - (m + 1)) * 5 + 5 = off + (len - m) * 5 by omega]
          exact hr
      obtain ⟨cl, hfl, hr, hb⟩ := hrow len (Nat.le_refl _)
      subst hfl
      refine ⟨some ⟨b, off, none⟩, cl, cap, rfl, hlc, hcm, fun _ => ⟨b, off, rfl, Nat.zero_le _, hb hpos, ?_⟩⟩
      rw [Nat.sub_self, Nat.zero_mul, Nat.add_zero] at hr
      exact hr
end

set_option maxRecDepth 100000 in
/-- A parameter of type Clause. -/
theorem open_clause {H : Type} {enc : TypeId × Value → H} {w : World} {sp : Nat → Bool} {held : Bool} {r : Reach} {b0 : Nat} {v : Value} {d : DataW H} {ps : List MemPlace}
    (hval : Value.okWide Tryz.prog w r b0 26 v) (hd : DataW.Trod enc Tryz.prog w 0 sp held 26 v d ps) :
    ∃ (c : Cl) (A : Option Addr) (cap : Nat) (B : Option Addr) (capB : Nat), v = .agg #[.int .i64 c.k, .int .i64 c.n, .string c.s, .slice A c.kids.len cap, .slice B c.body.len capB] ∧ Fits c.k c.n c.s ∧ KidsAt w 0 w.heap.size c.kids A cap ∧ KidsAt w 0 w.heap.size c.body B capB := by
  obtain ⟨fuel, hf⟩ := hd
  obtain ⟨c, A, cap, B, capB, hcs, hfit, hk, hkb⟩ := clause_of_trod fuel _ _ hf
  refine ⟨c, A, cap, B, capB, ?_, hfit, hk, hkb⟩
  obtain ⟨cs, rfl, hsz⟩ := okWide_struct Tryz.underlying26 hval
  have h1 : cs.toList = [.int .i64 c.k, .int .i64 c.n, .string c.s, .slice A c.kids.len cap, .slice B c.body.len capB] := hcs
  rw [← Array.toArray_toList (xs := cs), h1]

set_option maxRecDepth 100000 in
/-- A parameter of type []Clause. -/
theorem open_clauses {H : Type} {enc : TypeId × Value → H} {w : World} {sp : Nat → Bool} {held : Bool} {r : Reach} {b0 : Nat} {v : Value} {d : DataW H} {ps : List MemPlace}
    (hval : Value.okWide Tryz.prog w r b0 37 v) (hd : DataW.Trod enc Tryz.prog w 0 sp held 37 v d ps) :
    ∃ (A : Option Addr) (cl : List Cl) (cap : Nat), v = .slice A cl.length cap ∧ ClS w 0 w.heap.size cl A cap := by
  obtain ⟨a0, len, cap0, rfl⟩ := okWide_slice Tryz.underlying37 hval
  obtain ⟨fuel, hf⟩ := hd
  obtain ⟨A, cl, cap, hcs, hk⟩ := clauses_of_trod fuel _ _ hf
  exact ⟨A, cl, cap, by simpa [Value.cells] using hcs, hk⟩
end Go.Proofs.YtmgfndgmebignaaGreatDoor

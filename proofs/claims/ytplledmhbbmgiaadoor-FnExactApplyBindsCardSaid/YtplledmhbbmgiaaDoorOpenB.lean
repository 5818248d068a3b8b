/- An argument of the type []Bind of the laws is opened: the row of its bindings in memory. No condition. -/
import Derived.Test.YtplledmhbbmgiaaDoorProg
import Derived.Test.YtplledmhbbmgiaaDoorOpen
import Derived.Test.YtplledmhbbmgiaaDoorBd
namespace Go.Proofs.YtplledmhbbmgiaaDoor
open Go.ChangeShapes Go.WideShapes Go.ChangeAt Go.RowKit

theorem cellsLB : Tryd.prog.cellsOf 57 = 5 := by kernel_rfl

section
variable {H : Type} {enc : TypeId × Value → H} {w : World} {sp : Nat → Bool} {held : Bool}
set_option maxRecDepth 100000 in
/-- The five cells of a binding, and its term. -/
theorem bind_of_trod (fuel : Nat) (cs : List Value) (x : DataW H × List MemPlace) (h : DataW.trod enc Tryd.prog w 0 sp held fuel 57 cs = some x) :
    ∃ (n0 k n : Int) (s : ByteArray) (A : Option Addr) (f : Fr) (cap : Nat), cs = [.int .i64 n0, .int .i64 k, .int .i64 n, .string s, .slice A f.len cap] ∧ InI n0 ∧ Fits k n s ∧ KidsAt w 0 w.heap.size f A cap := by
  obtain ⟨xs, m, rfl, hx, hcl, hxl, hf⟩ := DataW.trod_struct Tryd.underlying57 h
  rw [cellsLB] at hcl
  have f0 : DataW.trod enc Tryd.prog w 0 sp held m 3 ((cs.drop 0).take (Tryd.prog.cellsOf 3)) = xs[0]? := hf 0 _ rfl
  have f1 : DataW.trod enc Tryd.prog w 0 sp held m 24 ((cs.drop 1).take (Tryd.prog.cellsOf 24)) = xs[1]? := hf 1 _ rfl
  rw [cellsI] at f0
  rw [cellsLT] at f1
  have hx2 : xs.length = 2 := by simpa using hxl
  match cs, hcl with
  | [c0, c1, c2, c3, c4], _ =>
  match xs, hx2 with
  | [y0, y1], _ =>
  simp only [List.drop_zero, List.drop_succ_cons, List.take_succ_cons, List.take_zero, List.getElem?_cons_zero, List.getElem?_cons_succ] at f0 f1
  obtain ⟨n0, e0, _, w0⟩ := DataW.trod_int Tryd.underlying3 f0
  obtain ⟨k, n, s, A, f, cap, e1, hfit, hk⟩ := term_of_trod m _ _ f1
  simp only [List.cons.injEq, and_true] at e0 e1
  obtain ⟨e1, e2, e3, e4⟩ := e1
  subst e0 e1 e2 e3 e4
  exact ⟨n0, k, n, s, A, f, cap, rfl, wf_bounds w0, hfit, hk⟩

theorem binds_of_trod (fuel : Nat) (cs : List Value) (x : DataW H × List MemPlace) (f3 : DataW.trod enc Tryd.prog w 0 sp held fuel 33 cs = some x) :
    ∃ (A : Option Addr) (ns : List Int) (f : Fr) (cap : Nat), cs = [.slice A f.len cap] ∧ BdS w 0 w.heap.size ns f A cap := by
  rcases DataW.trod_slice Tryd.underlying33 f3 with ⟨e3, _⟩ | ⟨a, len, cap, elems, rest, m', hm', e3, _, _, hlc, hcm, hel, hat, _, _⟩
  · exact ⟨none, [], .nil, 0, e3, rfl, Nat.zero_le _, Nat.zero_le _, fun h => absurd h (Nat.lt_irrefl 0)⟩
  · subst e3
    rw [cellsLB] at hat
    have each : ∀ i, i < len → ∃ cs', w.cells? 0 (a.add (i * 5)) 5 = some cs' ∧ ∃ y, DataW.trod enc Tryd.prog w 0 sp held m' 57 cs' = some y := by
      intro i hi
      have h1 := hat i hi
      rw [List.getElem?_eq_getElem (by omega)] at h1
      obtain ⟨cs', h2, h3⟩ := Option.bind_eq_some_iff.1 h1
      exact ⟨cs', h2, _, h3⟩
    rcases Nat.eq_zero_or_pos len with hz | hpos
    · subst hz
      exact ⟨some a, [], .nil, cap, rfl, rfl, Nat.zero_le _, hcm, fun h => absurd h (Nat.lt_irrefl 0)⟩
    · obtain ⟨b, off, spot⟩ := a
      have hspot : spot = none := by
        obtain ⟨cs', hc, y, hy⟩ := each 0 hpos
        obtain ⟨_, hl, hcell⟩ := World.cells?_some hc
        have h0 := hcell 0 (by omega)
        rw [List.getElem?_eq_getElem (by omega)] at h0
        have := World.cell?_spot h0
        simpa [Addr.add] using this
      subst hspot
      have hrow : ∀ m, m ≤ len → ∃ (ns : List Int) (f : Fr), ns.length = f.len ∧ f.len = m ∧ BdAt w 0 w.heap.size ns f b (off + (len - m) * 5) ∧ (0 < m → b < w.heap.size) := by
        intro m
        induction m with
        | zero => exact fun _ => ⟨[], .nil, rfl, rfl, trivial, fun h => absurd h (Nat.lt_irrefl 0)⟩
        | succ m ihm =>
          intro hm
          obtain ⟨ns, f, hnl, hfl, hr, _⟩ := ihm (by omega)
          obtain ⟨cs', hc, y, hy⟩ := each (len - (m + 1)) (by omega)
          obtain ⟨_, hl, hcell⟩ := World.cells?_some hc
          obtain ⟨n0, k', n', s', A', f', cap', rfl, hi0, hfit', hk'⟩ := bind_of_trod m' cs' y hy
          simp only [add_plain] at hcell
          have d0 := hcell 0 (by omega)
          have d1 := hcell 1 (by omega)
          have d2 := hcell 2 (by omega)
          have d3 := hcell 3 (by omega)
          have d4 := hcell 4 (by omega)
          simp only [List.getElem?_cons_zero, List.getElem?_cons_succ, Nat.add_zero] at d0 d1 d2 d3 d4
          refine ⟨n0 :: ns, .cons k' n' s' f' f, by simp only [Fr.len, List.length_cons, hnl], by simp only [Fr.len, hfl], ⟨hi0, hfit', ⟨A', cap', ⟨d0, d1, d2, d3, d4⟩, hk'⟩, ?_⟩, fun _ => World.block_lt_of_cell? w _ d0⟩
          rw [show off + (len - (m + 1)) * 5 + 5 = off + (len - m) * 5 by omega]
          exact hr
      obtain ⟨ns, f, hnl, hfl, hr, hb⟩ := hrow len (Nat.le_refl _)
      subst hfl
      refine ⟨some ⟨b, off, none⟩, ns, f, cap, rfl, hnl, hlc, hcm, fun _ => ⟨b, off, rfl, Nat.zero_le _, hb hpos, ?_⟩⟩
      rw [Nat.sub_self, Nat.zero_mul, Nat.add_zero] at hr
      exact hr
end

set_option maxRecDepth 100000 in
/-- A parameter of type []Bind. -/
theorem open_binds {H : Type} {enc : TypeId × Value → H} {w : World} {sp : Nat → Bool} {held : Bool} {r : Reach} {b0 : Nat} {v : Value} {d : DataW H} {ps : List MemPlace}
    (hval : Value.okWide Tryd.prog w r b0 33 v) (hd : DataW.Trod enc Tryd.prog w 0 sp held 33 v d ps) :
    ∃ (A : Option Addr) (ns : List Int) (f : Fr) (cap : Nat), v = .slice A f.len cap ∧ BdS w 0 w.heap.size ns f A cap := by
  obtain ⟨a0, len, cap0, rfl⟩ := okWide_slice Tryd.underlying33 hval
  obtain ⟨fuel, hf⟩ := hd
  obtain ⟨A, ns, f, cap, hcs, hk⟩ := binds_of_trod fuel _ _ hf
  exact ⟨A, ns, f, cap, by simpa [Value.cells] using hcs, hk⟩
end Go.Proofs.YtplledmhbbmgiaaDoor

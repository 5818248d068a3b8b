/- Arguments of the types Instr and []Instr of the laws are opened. No condition. -/
import Derived.Test.YtfdgmdijjifmiaaDoorProg
import Derived.Test.YtfdgmdijjifmiaaDoorOpen
import Derived.Test.YtfdgmdijjifmiaaDoorIn
namespace Go.Proofs.YtfdgmdijjifmiaaDoor
open Go.ChangeShapes Go.WideShapes Go.ChangeAt Go.RowKit

theorem cellsLI : Tryd.prog.cellsOf 23 = 4 := by kernel_rfl

section
variable {H : Type} {enc : TypeId × Value → H} {w : World} {sp : Nat → Bool} {held : Bool}
set_option maxRecDepth 100000 in
/-- The four cells of an instruction. -/
theorem ins_of_trod (fuel : Nat) (cs : List Value) (x : DataW H × List MemPlace) (h : DataW.trod enc Tryd.prog w 0 sp held fuel 23 cs = some x) :
    ∃ y : Ins, cs = y.cells ∧ y.ok := by
  obtain ⟨xs, m, rfl, hx, hcl, hxl, hf⟩ := DataW.trod_struct Tryd.underlying23 h
  rw [cellsLI] at hcl
  have f0 : DataW.trod enc Tryd.prog w 0 sp held m 3 ((cs.drop 0).take (Tryd.prog.cellsOf 3)) = xs[0]? := hf 0 _ rfl
  have f1 : DataW.trod enc Tryd.prog w 0 sp held m 3 ((cs.drop 1).take (Tryd.prog.cellsOf 3)) = xs[1]? := hf 1 _ rfl
  have f2 : DataW.trod enc Tryd.prog w 0 sp held m 3 ((cs.drop 2).take (Tryd.prog.cellsOf 3)) = xs[2]? := hf 2 _ rfl
  have f3 : DataW.trod enc Tryd.prog w 0 sp held m 9 ((cs.drop 3).take (Tryd.prog.cellsOf 9)) = xs[3]? := hf 3 _ rfl
  rw [cellsI] at f0 f1 f2
  rw [cellsS] at f3
  have hx2 : xs.length = 4 := by simpa using hxl
  match cs, hcl with
  | [c0, c1, c2, c3], _ =>
  match xs, hx2 with
  | [y0, y1, y2, y3], _ =>
  simp only [List.drop_zero, List.drop_succ_cons, List.take_succ_cons, List.take_zero, List.getElem?_cons_zero, List.getElem?_cons_succ] at f0 f1 f2 f3
  obtain ⟨n0, e0, _, w0⟩ := DataW.trod_int Tryd.underlying3 f0
  obtain ⟨n1, e1, _, w1⟩ := DataW.trod_int Tryd.underlying3 f1
  obtain ⟨n2, e2, _, w2⟩ := DataW.trod_int Tryd.underlying3 f2
  obtain ⟨s, e3, _, hs⟩ := DataW.trod_string Tryd.underlying9 f3
  simp only [List.cons.injEq, and_true] at e0 e1 e2 e3
  subst e0 e1 e2 e3
  exact ⟨⟨n0, n1, n2, s⟩, rfl, wf_bounds w0, wf_bounds w1, wf_bounds w2, hs⟩
theorem inss_of_trod (fuel : Nat) (cs : List Value) (x : DataW H × List MemPlace) (f3 : DataW.trod enc Tryd.prog w 0 sp held fuel 29 cs = some x) :
    ∃ (A : Option Addr) (xs : List Ins) (cap : Nat), cs = [.slice A xs.length cap] ∧ InsS w w.heap.size xs A cap ∧ ∀ y ∈ xs, y.ok := by
  rcases DataW.trod_slice Tryd.underlying29 f3 with ⟨e3, _⟩ | ⟨a, len, cap, elems, rest, m', hm', e3, _, _, hlc, hcm, hel, hat, _, _⟩
  · exact ⟨none, [], 0, e3, ⟨Nat.zero_le _, Nat.zero_le _, fun h => absurd h (Nat.lt_irrefl 0)⟩, fun y hy => nomatch hy⟩
  · subst e3
    rw [cellsLI] at hat
    have each : ∀ i, i < len → ∃ cs', w.cells? 0 (a.add (i * 4)) 4 = some cs' ∧ ∃ y, DataW.trod enc Tryd.prog w 0 sp held m' 23 cs' = some y := by
      intro i hi
      have h1 := hat i hi
      rw [List.getElem?_eq_getElem (by omega)] at h1
      obtain ⟨cs', h2, h3⟩ := Option.bind_eq_some_iff.1 h1
      exact ⟨cs', h2, _, h3⟩
    rcases Nat.eq_zero_or_pos len with hz | hpos
    · subst hz
      exact ⟨some a, [], cap, rfl, ⟨Nat.zero_le _, hcm, fun h => absurd h (Nat.lt_irrefl 0)⟩, fun y hy => nomatch hy⟩
    · obtain ⟨b, off, spot⟩ := a
      have hspot : spot = none := by
        obtain ⟨cs', hc, y, hy⟩ := each 0 hpos
        obtain ⟨_, hl, hcell⟩ := World.cells?_some hc
        have h0 := hcell 0 (by omega)
        rw [List.getElem?_eq_getElem (by omega)] at h0
        have := World.cell?_spot h0
        simpa [Addr.add] using this
      subst hspot
      have hrow : ∀ m, m ≤ len → ∃ xs : List Ins, xs.length = m ∧ InsAt w xs b (off + (len - m) * 4) ∧ (0 < m → b < w.heap.size) ∧ ∀ y ∈ xs, y.ok := by
        intro m
        induction m with
        | zero => exact fun _ => ⟨[], rfl, trivial, fun h => absurd h (Nat.lt_irrefl 0), fun y hy => nomatch hy⟩
        | succ m ihm =>
          intro hm
          obtain ⟨xs, hfl, hr, _, hok⟩ := ihm (by omega)
          obtain ⟨cs', hc, y, hy⟩ := each (len - (m + 1)) (by omega)
          obtain ⟨_, hl, hcell⟩ := World.cells?_some hc
          obtain ⟨z, rfl, hz⟩ := ins_of_trod m' cs' y hy
          simp only [add_plain] at hcell
          have d0 := hcell 0 (by simp)
          have d1 := hcell 1 (by simp)
          have d2 := hcell 2 (by simp)
          have d3 := hcell 3 (by simp)
          simp only [Ins.cells, List.getElem?_cons_zero, List.getElem?_cons_succ, Nat.add_zero] at d0 d1 d2 d3
          refine ⟨z :: xs, by simp [hfl], ⟨hz, ⟨d0, d1, d2, d3⟩, ?_⟩, fun _ => World.block_lt_of_cell? w _ d0, fun y hy => ?_⟩
          · rw [show off + (len - (m + 1)) * 4 + 4 = off + (len - m) * 4 by omega]
            exact hr
          · rcases List.mem_cons.1 hy with rfl | hy
            · exact hz
            · exact hok y hy
      obtain ⟨xs, hfl, hr, hb, hok⟩ := hrow len (Nat.le_refl _)
      subst hfl
      refine ⟨some ⟨b, off, none⟩, xs, cap, rfl, ⟨hlc, hcm, fun _ => ⟨b, off, rfl, hb hpos, ?_⟩⟩, hok⟩
      rw [Nat.sub_self, Nat.zero_mul, Nat.add_zero] at hr
      exact hr
end

set_option maxRecDepth 100000 in
/-- A parameter of type Instr. -/
theorem open_instr {H : Type} {enc : TypeId × Value → H} {w : World} {sp : Nat → Bool} {held : Bool} {r : Reach} {b0 : Nat} {v : Value} {d : DataW H} {ps : List MemPlace}
    (hval : Value.okWide Tryd.prog w r b0 23 v) (hd : DataW.Trod enc Tryd.prog w 0 sp held 23 v d ps) :
    ∃ y : Ins, v = .agg #[.int .i64 y.op, .int .i64 y.a, .int .i64 y.b, .string y.s] ∧ y.ok := by
  obtain ⟨fuel, hf⟩ := hd
  obtain ⟨y, hcs, hok⟩ := ins_of_trod fuel _ _ hf
  refine ⟨y, ?_, hok⟩
  obtain ⟨cs, rfl, hsz⟩ := okWide_struct Tryd.underlying23 hval
  have h1 : cs.toList = y.cells := hcs
  rw [← Array.toArray_toList (xs := cs), h1]
  rfl

set_option maxRecDepth 100000 in
/-- A parameter of type []Instr. -/
theorem open_instrs {H : Type} {enc : TypeId × Value → H} {w : World} {sp : Nat → Bool} {held : Bool} {r : Reach} {b0 : Nat} {v : Value} {d : DataW H} {ps : List MemPlace}
    (hval : Value.okWide Tryd.prog w r b0 29 v) (hd : DataW.Trod enc Tryd.prog w 0 sp held 29 v d ps) :
    ∃ (A : Option Addr) (xs : List Ins) (cap : Nat), v = .slice A xs.length cap ∧ InsS w w.heap.size xs A cap ∧ ∀ y ∈ xs, y.ok := by
  obtain ⟨a0, len, cap0, rfl⟩ := okWide_slice Tryd.underlying29 hval
  obtain ⟨fuel, hf⟩ := hd
  obtain ⟨A, xs, cap, hcs, hk⟩ := inss_of_trod fuel _ _ hf
  exact ⟨A, xs, cap, by simpa [Value.cells] using hcs, hk⟩
end Go.Proofs.YtfdgmdijjifmiaaDoor

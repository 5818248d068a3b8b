/- An argument of the laws' type Term is opened: its fields, and the forest of its Kids in memory. No condition. -/
import Derived.Test.YtohkpgpcipjpkaaGreatDoorProg
import Derived.Test.YtohkpgpcipjpkaaGreatDoorFr
import Derived.ProofKit
import Derived.OpenShut
import Derived.Deep.Slices
namespace Go.Proofs.YtohkpgpcipjpkaaGreatDoor
open Go.ChangeShapes Go.WideShapes Go.ChangeAt Go.RowKit

theorem cellsLT : Tryz.prog.cellsOf 38 = 4 := by kernel_rfl
theorem cellsI : Tryz.prog.cellsOf 3 = 1 := by kernel_rfl
theorem cellsS : Tryz.prog.cellsOf 9 = 1 := by kernel_rfl
theorem cellsLS : Tryz.prog.cellsOf 22 = 1 := by kernel_rfl
theorem add_plain (b o n : Nat) : (⟨b, o, none⟩ : Addr).add n = ⟨b, o + n, none⟩ := by
  unfold Addr.add
  split
  · simp_all
  · rfl

theorem wf_bounds {n : Int} (h : (Lit.int .i64 n).wf = true) : -9223372036854775808 ≤ n ∧ n ≤ 9223372036854775807 := by
  have := bounds_i64 h
  exact this

section
variable {H : Type} {enc : TypeId × Value → H} {w : World} {sp : Nat → Bool} {held : Bool}

set_option maxRecDepth 100000 in
/-- The four cells of a term, and its Kids: 'row' is what is known of shallower readings. -/
theorem term_of_trod (fuel : Nat) : ∀ (cs : List Value) (x : DataW H × List MemPlace), DataW.trod enc Tryz.prog w 0 sp held fuel 38 cs = some x →
    ∃ (k n : Int) (s : ByteArray) (A : Option Addr) (f : Fr) (cap : Nat), cs = [.int .i64 k, .int .i64 n, .string s, .slice A f.len cap] ∧ Fits k n s ∧ KidsAt w 0 w.heap.size f A cap := by
  induction fuel using Nat.strongRecOn with
  | ind fuel ih =>
  intro cs x h
  obtain ⟨xs, m, rfl, hx, hcl, hxl, hf⟩ := DataW.trod_struct Tryz.underlying38 h
  rw [cellsLT] at hcl
  have f0 : DataW.trod enc Tryz.prog w 0 sp held m 3 ((cs.drop 0).take (Tryz.prog.cellsOf 3)) = xs[0]? := hf 0 _ rfl
  have f1 : DataW.trod enc Tryz.prog w 0 sp held m 3 ((cs.drop 1).take (Tryz.prog.cellsOf 3)) = xs[1]? := hf 1 _ rfl
  have f2 : DataW.trod enc Tryz.prog w 0 sp held m 9 ((cs.drop 2).take (Tryz.prog.cellsOf 9)) = xs[2]? := hf 2 _ rfl
  have f3 : DataW.trod enc Tryz.prog w 0 sp held m 22 ((cs.drop 3).take (Tryz.prog.cellsOf 22)) = xs[3]? := hf 3 _ rfl
  rw [cellsI] at f0 f1
  rw [cellsS] at f2
  rw [cellsLS] at f3
  have hx4 : xs.length = 4 := by simpa using hxl
  match cs, hcl with
  | [c0, c1, c2, c3], _ =>
  match xs, hx4 with
  | [y0, y1, y2, y3], _ =>
  simp only [List.drop_zero, List.drop_succ_cons, List.take_succ_cons, List.take_zero, List.getElem?_cons_zero, List.getElem?_cons_succ] at f0 f1 f2 f3
  obtain ⟨k, e0, _, w0⟩ := DataW.trod_int Tryz.underlying3 f0
  obtain ⟨n, e1, _, w1⟩ := DataW.trod_int Tryz.underlying3 f1
  obtain ⟨s, e2, _, w2⟩ := DataW.trod_string Tryz.underlying9 f2
  simp only [List.cons.injEq, and_true] at e0 e1 e2
  subst e0 e1 e2
  have hfit : Fits k n s := ⟨wf_bounds w0, wf_bounds w1, w2⟩
  rcases DataW.trod_slice Tryz.underlying22 f3 with ⟨e3, _⟩ | ⟨a, len, cap, elems, rest, m', hm', e3, _, _, hlc, hcm, hel, hat, _, _⟩
  · simp only [List.cons.injEq, and_true] at e3
    subst e3
    exact ⟨k, n, s, none, .nil, 0, rfl, hfit, KidsAt.nil _ _ _ _ _ (Nat.zero_le _)⟩
  · simp only [List.cons.injEq, and_true] at e3
    subst e3
    rw [cellsLT] at hat
    have each : ∀ i, i < len → ∃ cs', w.cells? 0 (a.add (i * 4)) 4 = some cs' ∧ ∃ y, DataW.trod enc Tryz.prog w 0 sp held m' 38 cs' = some y := by
      intro i hi
      have h1 := hat i hi
      rw [List.getElem?_eq_getElem (by omega)] at h1
      obtain ⟨cs', h2, h3⟩ := Option.bind_eq_some_iff.1 h1
      exact ⟨cs', h2, _, h3⟩
    rcases Nat.eq_zero_or_pos len with hz | hpos
    · subst hz
      exact ⟨k, n, s, some a, .nil, cap, rfl, hfit, KidsAt.nil _ _ _ _ _ hcm⟩
    · obtain ⟨b, off, spot⟩ := a
      have hspot : spot = none := by
        obtain ⟨cs', hc, y, hy⟩ := each 0 hpos
        obtain ⟨_, hl, hcell⟩ := World.cells?_some hc
        have h0 := hcell 0 (by omega)
        rw [List.getElem?_eq_getElem (by omega)] at h0
        have := World.cell?_spot h0
        simpa [Addr.add] using this
      subst hspot
      have hrow : ∀ m, m ≤ len → ∃ f : Fr, f.len = m ∧ RowAt w 0 w.heap.size f b (off + (len - m) * 4) ∧ (0 < m → b < w.heap.size) := by
        intro m
        induction m with
        | zero => exact fun _ => ⟨.nil, rfl, trivial, fun h => absurd h (Nat.lt_irrefl 0)⟩
        | succ m ihm =>
          intro hm
          obtain ⟨f, hfl, hr, _⟩ := ihm (by omega)
          obtain ⟨cs', hc, y, hy⟩ := each (len - (m + 1)) (by omega)
          obtain ⟨_, hl, hcell⟩ := World.cells?_some hc
          obtain ⟨k', n', s', A', f', cap', rfl, hfit', hk'⟩ := ih m' (by omega) cs' y hy
          simp only [add_plain] at hcell
          have d0 := hcell 0 (by omega)
          have d1 := hcell 1 (by omega)
          have d2 := hcell 2 (by omega)
          have d3 := hcell 3 (by omega)
          simp only [List.getElem?_cons_zero, List.getElem?_cons_succ, Nat.add_zero] at d0 d1 d2 d3
          refine ⟨.cons k' n' s' f' f, by simp only [Fr.len, hfl], ⟨hfit', ⟨A', cap', ⟨d0, d1, d2, d3⟩, hk'.1, hk'.2.1, hk'.2.2⟩, ?_⟩, fun _ => World.block_lt_of_cell? w _ d0⟩
          rw [show off + (len - (m + 1)) * 4 + 4 = off + (len - m) * 4 by omega]
          exact hr
      obtain ⟨f, hfl, hr, hb⟩ := hrow len (Nat.le_refl _)
      subst hfl
      refine ⟨k, n, s, some ⟨b, off, none⟩, f, cap, rfl, hfit, hlc, hcm, fun _ => ⟨b, off, rfl, Nat.zero_le _, hb hpos, ?_⟩⟩
      rw [Nat.sub_self, Nat.zero_mul, Nat.add_zero] at hr
      exact hr
end

set_option maxRecDepth 100000 in
/-- A parameter of type Term. -/
theorem open_term {H : Type} {enc : TypeId × Value → H} {w : World} {sp : Nat → Bool} {held : Bool} {r : Reach} {b0 : Nat} {v : Value} {d : DataW H} {ps : List MemPlace}
    (hval : Value.okWide Tryz.prog w r b0 38 v) (hd : DataW.Trod enc Tryz.prog w 0 sp held 38 v d ps) :
    ∃ (k n : Int) (s : ByteArray) (A : Option Addr) (f : Fr) (cap : Nat), v = .agg #[.int .i64 k, .int .i64 n, .string s, .slice A f.len cap] ∧ Fits k n s ∧ KidsAt w 0 w.heap.size f A cap := by
  obtain ⟨fuel, hf⟩ := hd
  obtain ⟨k, n, s, A, f, cap, hcs, hfit, hk⟩ := term_of_trod fuel _ _ hf
  refine ⟨k, n, s, A, f, cap, ?_, hfit, hk⟩
  obtain ⟨cs, rfl, hsz⟩ := okWide_struct Tryz.underlying38 hval
  have h1 : cs.toList = [.int .i64 k, .int .i64 n, .string s, .slice A f.len cap] := hcs
  rw [← Array.toArray_toList (xs := cs), h1]
end Go.Proofs.YtohkpgpcipjpkaaGreatDoor

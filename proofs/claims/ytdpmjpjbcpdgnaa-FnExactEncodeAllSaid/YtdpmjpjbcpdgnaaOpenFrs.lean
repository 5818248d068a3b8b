/- Frames as a parameter, opened. No condition of its own. -/
import Derived.Test.YtdpmjpjbcpdgnaaRows
import Derived.Test.YtdpmjpjbcpdgnaaFzW
import Derived.ProofKit
import Derived.OpenShut
import Derived.ShutString
import Derived.ChangeSlices
import Derived.Lib.SmallJoins
import Derived.RowKit
namespace Go.Proofs.Ytdpmjpjbcpdgnaa
open Go.ChangeShapes Go.WideShapes Go.ChangeAt Go.RowKit
theorem cellsFr : Try.prog.cellsOf 23 = 2 := by kernel_rfl
theorem cellsFi : Try.prog.cellsOf 3 = 1 := by kernel_rfl
theorem cellsFs : Try.prog.cellsOf 9 = 1 := by kernel_rfl
theorem add_plainF (b o n : Nat) : (⟨b, o, none⟩ : Addr).add n = ⟨b, o + n, none⟩ := by unfold Addr.add; split <;> simp_all
section
variable {H : Type} {enc : TypeId × Value → H} {w : World} {sp : Nat → Bool} {held : Bool} {r : Reach} {b0 : Nat} {v : Value} {d : DataW H} {ps : List MemPlace}
set_option maxRecDepth 100000 in
theorem fr_of_trod (fuel : Nat) (cs : List Value) (x : DataW H × List MemPlace) (h : DataW.trod enc Try.prog w 0 sp held fuel 23 cs = some x) :
    ∃ f : fz.F, cs = [.int .i64 f.t, .string f.s] ∧ f.s.size ≤ maxLen := by
  obtain ⟨xs, m, rfl, hx, hcl, hxl, hf⟩ := DataW.trod_struct Try.underlying23 h
  rw [cellsFr] at hcl
  have f0 : DataW.trod enc Try.prog w 0 sp held m 3 ((cs.drop 0).take (Try.prog.cellsOf 3)) = xs[0]? := hf 0 _ rfl
  have f1 : DataW.trod enc Try.prog w 0 sp held m 9 ((cs.drop 1).take (Try.prog.cellsOf 9)) = xs[1]? := hf 1 _ rfl
  rw [cellsFi] at f0
  rw [cellsFs] at f1
  have hx2 : xs.length = 2 := by simpa using hxl
  match cs, hcl with
  | [c0, c1], _ =>
  match xs, hx2 with
  | [y0, y1], _ =>
  simp only [List.drop_zero, List.drop_succ_cons, List.take_succ_cons, List.take_zero, List.getElem?_cons_zero, List.getElem?_cons_succ] at f0 f1
  obtain ⟨n0, e0, _, _⟩ := DataW.trod_int Try.underlying3 f0
  obtain ⟨s, e1, _, hs⟩ := DataW.trod_string Try.underlying9 f1
  simp only [List.cons.injEq, and_true] at e0 e1
  subst e0 e1
  exact ⟨⟨n0, s⟩, rfl, hs⟩
theorem frs_of_trod (fuel : Nat) (cs : List Value) (x : DataW H × List MemPlace) (f3 : DataW.trod enc Try.prog w 0 sp held fuel 33 cs = some x) :
    ∃ (A : Option Addr) (l : List fz.F) (cap : Nat), cs = [.slice A l.length cap] ∧ AtG w w.heap.size A l ∧ l.length ≤ cap ∧ cap ≤ maxLen ∧ ∀ f ∈ l, f.s.size ≤ maxLen := by
  rcases DataW.trod_slice Try.underlying33 f3 with ⟨e3, _⟩ | ⟨a, len, cap, elems, rest, m', hm', e3, _, _, hlc, hcm, hel, hat, _, _⟩
  · exact ⟨none, [], 0, e3, fun h => absurd h (Nat.lt_irrefl 0), Nat.le_refl _, Nat.zero_le _, fun y hy => nomatch hy⟩
  · subst e3
    rw [cellsFr] at hat
    have each : ∀ i, i < len → ∃ cs', w.cells? 0 (a.add (i * 2)) 2 = some cs' ∧ ∃ y, DataW.trod enc Try.prog w 0 sp held m' 23 cs' = some y := by
      intro i hi
      have h1 := hat i hi
      rw [List.getElem?_eq_getElem (by omega)] at h1
      obtain ⟨cs', h2, h3⟩ := Option.bind_eq_some_iff.1 h1
      exact ⟨cs', h2, _, h3⟩
    rcases Nat.eq_zero_or_pos len with hz | hpos
    · subst hz
      exact ⟨some a, [], cap, rfl, fun h => absurd h (Nat.lt_irrefl 0), Nat.zero_le _, hcm, fun y hy => nomatch hy⟩
    · obtain ⟨b, off, spot⟩ := a
      have hspot : spot = none := by
        obtain ⟨cs', hc, y, hy⟩ := each 0 hpos
        obtain ⟨_, hl, hcell⟩ := World.cells?_some hc
        have h0 := hcell 0 (by omega)
        rw [List.getElem?_eq_getElem (by omega)] at h0
        have := World.cell?_spot h0
        simpa [Addr.add] using this
      subst hspot
      have hb : b < w.heap.size := by
        obtain ⟨cs', hc, y, hy⟩ := each 0 hpos
        obtain ⟨_, hl, hcell⟩ := World.cells?_some hc
        have h0 := hcell 0 (by omega)
        rw [List.getElem?_eq_getElem (by omega), add_plainF, add_plainF] at h0
        exact World.block_lt_of_cell? w _ h0
      have hrow : ∀ m, m ≤ len → ∃ l : List fz.F, l.length = m ∧ (∀ j f, l[j]? = some f → w.cell? ⟨b, off + j * 2, none⟩ = some (.int .i64 f.t) ∧ w.cell? ⟨b, off + (j * 2 + 1), none⟩ = some (.string f.s)) ∧ ∀ f ∈ l, f.s.size ≤ maxLen := by
        intro m
        induction m with
        | zero => exact fun _ => ⟨[], rfl, fun j f h => by simp at h, fun y hy => nomatch hy⟩
        | succ m ihm =>
          intro hm
          obtain ⟨l, hl, hr, hok⟩ := ihm (by omega)
          obtain ⟨cs', hc, y, hy⟩ := each m (by omega)
          obtain ⟨_, _, hcell⟩ := World.cells?_some hc
          obtain ⟨z, rfl, hz⟩ := fr_of_trod m' cs' y hy
          simp only [add_plainF] at hcell
          have d0 := hcell 0 (by simp)
          have d1 := hcell 1 (by simp)
          simp only [List.getElem?_cons_zero, List.getElem?_cons_succ, Nat.add_zero] at d0 d1
          refine ⟨l ++ [z], by simp [hl], fun j f hj => ?_, fun y hy => ?_⟩
          · rcases Nat.lt_or_ge j l.length with h | h
            · rw [List.getElem?_append_left h] at hj
              exact hr j f hj
            · rw [List.getElem?_append_right h] at hj
              have hj0 : j - l.length = 0 := by
                have := (List.getElem?_eq_some_iff.1 hj).1
                simpa using this
              rw [hj0] at hj
              simp only [List.getElem?_cons_zero, Option.some.injEq] at hj
              subst hj
              obtain rfl : j = m := by omega
              exact ⟨d0, d1⟩
          · rcases List.mem_append.1 hy with hy | hy
            · exact hok y hy
            · rw [List.mem_singleton.1 hy]
              exact hz
      obtain ⟨l, hl, hr, hok⟩ := hrow len (Nat.le_refl _)
      subst hl
      exact ⟨some ⟨b, off, none⟩, l, cap, rfl, fun _ => ⟨b, off, rfl, hb, hr⟩, hlc, hcm, hok⟩
set_option maxRecDepth 100000 in
theorem openFs (hval : Value.okWide Try.prog w r b0 33 v) (hd : DataW.Trod enc Try.prog w 0 sp held 33 v d ps) :
    ∃ (A : Option Addr) (l : List fz.F) (cap : Nat), v = .slice A l.length cap ∧ AtG w w.heap.size A l ∧ l.length ≤ cap ∧ cap ≤ maxLen ∧ ∀ f ∈ l, f.s.size ≤ maxLen := by
  obtain ⟨a1, len, cap, rfl⟩ := okWide_slice Try.underlying33 hval
  obtain ⟨fuel, hf⟩ := hd
  obtain ⟨A, l, c, h, hr⟩ := frs_of_trod fuel _ _ hf
  simp only [Value.cells, List.cons.injEq, and_true] at h
  exact ⟨A, l, c, h, hr⟩
end
end Go.Proofs.Ytdpmjpjbcpdgnaa

/- An argument of the type []Term of the laws is opened: the row of its terms in memory. No condition. -/
import Derived.Test.YtohkpgpcipjpkaaGreatDoorProg
import Derived.Test.YtohkpgpcipjpkaaGreatDoorOpen
namespace Go.Proofs.YtohkpgpcipjpkaaGreatDoor
open Go.ChangeShapes Go.WideShapes Go.ChangeAt Go.RowKit

section
variable {H : Type} {enc : TypeId × Value → H} {w : World} {sp : Nat → Bool} {held : Bool}
theorem kids_of_trod (fuel : Nat) (cs : List Value) (x : DataW H × List MemPlace) (f3 : DataW.trod enc Tryz.prog w 0 sp held fuel 22 cs = some x) :
    ∃ (A : Option Addr) (f : Fr) (cap : Nat), cs = [.slice A f.len cap] ∧ KidsAt w 0 w.heap.size f A cap := by
  rcases DataW.trod_slice Tryz.underlying22 f3 with ⟨e3, _⟩ | ⟨a, len, cap, elems, rest, m', hm', e3, _, _, hlc, hcm, hel, hat, _, _⟩
  · exact ⟨none, .nil, 0, e3, KidsAt.nil _ _ _ _ _ (Nat.zero_le _)⟩
  · subst e3
    rw [cellsLT] at hat
    have each : ∀ i, i < len → ∃ cs', w.cells? 0 (a.add (i * 4)) 4 = some cs' ∧ ∃ y, DataW.trod enc Tryz.prog w 0 sp held m' 38 cs' = some y := by
      intro i hi
      have h1 := hat i hi
      rw [List.getElem?_eq_getElem (by omega)] at h1
      obtain ⟨cs', h2, h3⟩ := Option.bind_eq_some_iff.1 h1
      exact ⟨cs', h2, _, h3⟩
    rcases Nat.eq_zero_or_pos len with hz | hpos
    · subst hz
      exact ⟨some a, .nil, cap, rfl, KidsAt.nil _ _ _ _ _ hcm⟩
    · obtain ⟨b, off, spot⟩ := a
      have hspot : spot = none := by
        obtain ⟨cs', hc, y, hy⟩ := each 0 hpos
        obtain ⟨_, hl, hcell⟩ := World.cells?_some hc
        have h0 := hcell 0 (by omega)
        rw [List.getElem?_eq_getElem (by omega)] at h0
        have := World.cell?_spot h0
        simpa [Addr.add] using this
      subst hspot
      have hrow : ∀ m, m ≤ len → ∃ f : Fr, f.len = m ∧ RowAt w 0 w.heap.size f b (off + (len - m) * 4) ∧ (0 < m → b < w.heap.size) := by
        intro m
        induction m with
        | zero => exact fun _ => ⟨.nil, rfl, trivial, fun h => absurd h (Nat.lt_irrefl 0)⟩
        | succ m ihm =>
          intro hm
          obtain ⟨f, hfl, hr, _⟩ := ihm (by omega)
          obtain ⟨cs', hc, y, hy⟩ := each (len - (m + 1)) (by omega)
          obtain ⟨_, hl, hcell⟩ := World.cells?_some hc
          obtain ⟨k', n', s', A', f', cap', rfl, hfit', hk'⟩ := term_of_trod m' cs' y hy
          simp only [add_plain] at hcell
          have d0 := hcell 0 (by omega)
          have d1 := hcell 1 (by omega)
          have d2 := hcell 2 (by omega)
          have d3 := hcell 3 (by omega)
          simp only [List.getElem?_cons_zero, List.getElem?_cons_succ, Nat.add_zero] at d0 d1 d2 d3
          refine ⟨.cons k' n' s' f' f, by simp only [Fr.len, hfl], ⟨hfit', ⟨A', cap', ⟨d0, d1, d2, d3⟩, hk'.1, hk'.2.1, hk'.2.2⟩, ?_⟩, fun _ => World.block_lt_of_cell? w _ d0⟩
          rw [show off + (len - (m + 1)) * 4 + 4 = off + (len - m) * 4 by omega]
          exact hr
      obtain ⟨f, hfl, hr, hb⟩ := hrow len (Nat.le_refl _)
      subst hfl
      refine ⟨some ⟨b, off, none⟩, f, cap, rfl, hlc, hcm, fun _ => ⟨b, off, rfl, Nat.zero_le _, hb hpos, ?_⟩⟩
      rw [Nat.sub_self, Nat.zero_mul, Nat.add_zero] at hr
      exact hr
end

set_option maxRecDepth 100000 in
/-- A parameter of type []Term. -/
theorem open_terms {H : Type} {enc : TypeId × Value → H} {w : World} {sp : Nat → Bool} {held : Bool} {r : Reach} {b0 : Nat} {v : Value} {d : DataW H} {ps : List MemPlace}
    (hval : Value.okWide Tryz.prog w r b0 22 v) (hd : DataW.Trod enc Tryz.prog w 0 sp held 22 v d ps) :
    ∃ (A : Option Addr) (f : Fr) (cap : Nat), v = .slice A f.len cap ∧ KidsAt w 0 w.heap.size f A cap := by
  obtain ⟨a0, len, cap0, rfl⟩ := okWide_slice Tryz.underlying22 hval
  obtain ⟨fuel, hf⟩ := hd
  obtain ⟨A, f, cap, hcs, hk⟩ := kids_of_trod fuel _ _ hf
  exact ⟨A, f, cap, by simpa [Value.cells] using hcs, hk⟩
end Go.Proofs.YtohkpgpcipjpkaaGreatDoor

/- The table of operators out of a row's condition; the witness's world. No condition of its own. -/
import Derived.Test.YtihmgodiiohdnaaGreatDoorRows
import Derived.Test.YtihmgodiiohdnaaGreatDoorOpA
import Derived.Test.YtihmgodiiohdnaaGreatDoorLaw
import Derived.Deep.Strs
namespace Go.Proofs.YtihmgodiiohdnaaGreatDoor.op
open Go.ChangeShapes Go.WideShapes Go.ChangeAt Go.RowKit

theorem gOps : Tryz.prog.globalNamed "loop.example/prologserver/impl.operatorRows" = some 0 := by kernel_rfl
theorem gOpsType : (Tryz.prog.globals[0]?).map (·.type) = some 113 := by kernel_rfl
theorem cellsOps : Tryz.prog.cellsOf 113 = 42 := by kernel_rfl
theorem cellsOp : Tryz.prog.cellsOf 112 = 3 := by kernel_rfl
theorem cellsStr : Tryz.prog.cellsOf 9 = 1 := by kernel_rfl
theorem cellsInt : Tryz.prog.cellsOf 3 = 1 := by kernel_rfl

theorem join3 : ∀ (rows : List (List Value)) (cs : List Value), cs.length = rows.length * 3 → (∀ i r, rows[i]? = some r → (cs.drop (i * 3)).take 3 = r) → cs = rows.flatten
  | [], cs, h, _ => by
    cases cs with
    | nil => rfl
    | cons _ _ => simp at h
  | r :: rs, cs, h, hr => by
    have h0 : cs.take 3 = r := by simpa using hr 0 r rfl
    have h1 : cs.drop 3 = rs.flatten := join3 rs (cs.drop 3) (by simp at h ⊢; omega) fun i r' hi => by
      have := hr (i + 1) r' (by simpa using hi)
      rw [List.drop_drop]
      rwa [show 3 + i * 3 = (i + 1) * 3 by omega]
    rw [List.flatten_cons, ← h0, ← h1, List.take_append_drop]

theorem three {c : List Value} {a b d : Value} (hl : c.length = 3) (h0 : (c.drop 0).take 1 = [a]) (h1 : (c.drop 1).take 1 = [b]) (h2 : (c.drop 2).take 1 = [d]) : c = [a, b, d] := by
  match c, hl with
  | [x, y, z], _ =>
    simp at h0 h1 h2
    rw [h0, h1, h2]

theorem cells_of_ops {H : Type} {enc : TypeId × Value → H} {w : World} {base : Nat} {sp : Nat → Bool} {held : Bool} {fuel : Nat} {cs : List Value} {p : List MemPlace}
    (h : DataW.trod enc Tryz.prog w base sp held fuel 113 cs = some (.agg (tab.map fun r => .agg [.lit (.string r.1), .lit (.string r.2.1), .lit (.int .i64 r.2.2)]), p)) :
    cs = (tab.map fun r => [Value.string ⟨r.1.toArray⟩, Value.string ⟨r.2.1.toArray⟩, Value.int .i64 r.2.2]).flatten := by
  obtain ⟨xs, m, rfl, hx, hl, hn, hf⟩ := DataW.trod_array Tryz.underlying113 h
  rw [cellsOps] at hl
  rw [cellsOp] at hf
  have hxs : xs.map (·.1) = tab.map fun r => (.agg [.lit (.string r.1), .lit (.string r.2.1), .lit (.int .i64 r.2.2)] : DataW H) := by
    have := congrArg Prod.fst hx
    simp only [DataW.agg.injEq] at this
    exact this.symm
  refine join3 _ _ (by rw [hl]; rfl) fun i r hr => ?_
  rw [List.getElem?_map] at hr
  obtain ⟨q, hq, rfl⟩ := Option.map_eq_some_iff.1 hr
  have hi : i < 14 := by
    rcases Nat.lt_or_ge i 14 with h | h
    · exact h
    · rw [List.getElem?_eq_none (by exact h)] at hq; cases hq
  have hy := hf i hi
  obtain ⟨y, hyy⟩ : ∃ y, xs[i]? = some y := by
    rw [List.getElem?_eq_getElem (by omega)]
    exact ⟨_, rfl⟩
  rw [hyy] at hy
  have he : y.1 = .agg [.lit (.string q.1), .lit (.string q.2.1), .lit (.int .i64 q.2.2)] := by
    have h2 := congrArg (fun l : List (DataW H) => l[i]?) hxs
    simp only [List.getElem?_map, hyy, hq, Option.map_some, Option.some.injEq] at h2
    exact h2
  obtain ⟨y0, y1, y2, n, rfl, hcl, k0, k1, k2⟩ := Go.Deep.trod_struct3 Tryz.underlying112 hy
  rw [cellsOp] at hcl
  simp only [DataW.agg.injEq, List.cons.injEq, and_true] at he
  obtain ⟨e0, e1, e2⟩ := he
  obtain ⟨s0, c0, rfl, _⟩ := DataW.trod_string Tryz.underlying9 k0
  obtain ⟨s1, c1, rfl, _⟩ := DataW.trod_string Tryz.underlying9 k1
  obtain ⟨z, c2, rfl, _⟩ := DataW.trod_int Tryz.underlying3 k2
  simp only [cellsStr, cellsInt, DataW.lit.injEq, Lit.string.injEq, Lit.int.injEq, true_and] at c0 c1 c2 e0 e1 e2
  have f0 := str_of e0
  have f1 := str_of e1
  subst f0 f1 e2
  exact three hcl c0 c1 c2

theorem tab_of_laid {W : World} {rest : List (String × DataW Unit)} (h : laidMet Tryz.prog (("loop.example/prologserver/impl.operatorRows", Rows.laid_loop_example_prologserver_impl_operatorRows) :: rest) W) : OpTab W := by
  obtain ⟨ps, ⟨g', t', cs, fuel, p, q, hg', ht', hvar, hd, _, _⟩, _⟩ := h
  obtain rfl := Option.some.inj (gOps.symm.trans hg')
  obtain rfl := Option.some.inj (gOpsType.symm.trans ht')
  have hc := cells_of_ops hd
  have hcs : cs = opV := by
    rw [← Array.toList_inj, hc]
    unfold opV
    simp [List.flatMap_def]
  subst hcs
  simp only [World.var?, gOps, Option.bind_some] at hvar
  split at hvar
  · rename_i c t fr hb
    cases hvar
    exact ⟨t, fr, hb⟩
  · cases hvar

/-- A world for the witness: the settled one, the table holding what its initialiser lays. -/
noncomputable def laidWorld (os : Os) : World :=
  { World.holding Tryz.prog os ⟨#[], #[], []⟩ with heap := (World.holding Tryz.prog os ⟨#[], #[], []⟩).heap.modify 0 fun
      | .cells _ t frozen => .cells opV t frozen
      | o => o }
end Go.Proofs.YtihmgodiiohdnaaGreatDoor.op

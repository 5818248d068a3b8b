/- The table of notations out of a row's condition. No condition of its own. -/
import Derived.Test.YtfdgmdijjifmiaaDoorRows
import Derived.Test.YtfdgmdijjifmiaaDoorNi
import Derived.Test.YtfdgmdijjifmiaaDoorLaw
import Derived.Deep.Strs
namespace Go.Proofs.YtfdgmdijjifmiaaDoor.ins
open Go.ChangeShapes Go.WideShapes Go.ChangeAt Go.RowKit

theorem gNot : Tryd.prog.globalNamed "loop.example/prologserver/impl.notations" = some 0 := by kernel_rfl
theorem gNotType : (Tryd.prog.globals[0]?).map (·.type) = some 77 := by kernel_rfl
theorem cellsNots : Tryd.prog.cellsOf 77 = 56 := by kernel_rfl
theorem cellsNot : Tryd.prog.cellsOf 69 = 4 := by kernel_rfl
theorem cellsStr : Tryd.prog.cellsOf 9 = 1 := by kernel_rfl
theorem cellsInt : Tryd.prog.cellsOf 3 = 1 := by kernel_rfl
theorem cellsBool : Tryd.prog.cellsOf 4 = 1 := by kernel_rfl

theorem str_of {s : ByteArray} {l : List UInt8} (h : s.data.toList = l) : s = ⟨l.toArray⟩ := by
  cases s with
  | mk d => simp only at h; subst h; simp
theorem join4 : ∀ (rows : List (List Value)) (cs : List Value), cs.length = rows.length * 4 → (∀ i r, rows[i]? = some r → (cs.drop (i * 4)).take 4 = r) → cs = rows.flatten
  | [], cs, h, _ => by
    cases cs with
    | nil => rfl
    | cons _ _ => simp at h
  | r :: rs, cs, h, hr => by
    have h0 : cs.take 4 = r := by simpa using hr 0 r rfl
    have h1 : cs.drop 4 = rs.flatten := join4 rs (cs.drop 4) (by simp at h ⊢; omega) fun i r' hi => by
      have := hr (i + 1) r' (by simpa using hi)
      rw [List.drop_drop]
      rwa [show 4 + i * 4 = (i + 1) * 4 by omega]
    rw [List.flatten_cons, ← h0, ← h1, List.take_append_drop]
theorem four {c : List Value} {a b d e : Value} (hl : c.length = 4) (h0 : (c.drop 0).take 1 = [a]) (h1 : (c.drop 1).take 1 = [b]) (h2 : (c.drop 2).take 1 = [d]) (h3 : (c.drop 3).take 1 = [e]) : c = [a, b, d, e] := by
  match c, hl with
  | [x, y, z, u], _ =>
    simp at h0 h1 h2 h3
    rw [h0, h1, h2, h3]
theorem cells_of_nots {H : Type} {enc : TypeId × Value → H} {w : World} {base : Nat} {sp : Nat → Bool} {held : Bool} {fuel : Nat} {cs : List Value} {p : List MemPlace}
    (h : DataW.trod enc Tryd.prog w base sp held fuel 77 cs = some (.agg (tab.map fun r => .agg [.lit (.int .i64 r.1), .lit (.string r.2.1), .lit (.int .i64 r.2.2.1), .lit (.bool r.2.2.2)]), p)) :
    cs = (tab.map fun r => [Value.int .i64 r.1, Value.string ⟨r.2.1.toArray⟩, Value.int .i64 r.2.2.1, Value.bool r.2.2.2]).flatten := by
  obtain ⟨xs, m, rfl, hx, hl, hn, hf⟩ := DataW.trod_array Tryd.underlying77 h
  rw [cellsNots] at hl
  rw [cellsNot] at hf
  have hxs : xs.map (·.1) = tab.map fun r => (.agg [.lit (.int .i64 r.1), .lit (.string r.2.1), .lit (.int .i64 r.2.2.1), .lit (.bool r.2.2.2)] : DataW H) := by
    have := congrArg Prod.fst hx
    simp only [DataW.agg.injEq] at this
    exact this.symm
  refine join4 _ _ (by rw [hl]; rfl) fun i r hr => ?_
  rw [List.getElem?_map] at hr
  obtain ⟨q, hq, rfl⟩ := Option.map_eq_some_iff.1 hr
  have hi : i < 14 := by
    rcases Nat.lt_or_ge i 14 with h | h
    · exact h
    · rw [List.getElem?_eq_none (by exact h)] at hq; cases hq
  have hy := hf i hi
  obtain ⟨y, hyy⟩ : ∃ y, xs[i]? = some y := by
    rw [List.getElem?_eq_getElem (by omega)]
    exact ⟨_, rfl⟩
  rw [hyy] at hy
  have he : y.1 = .agg [.lit (.int .i64 q.1), .lit (.string q.2.1), .lit (.int .i64 q.2.2.1), .lit (.bool q.2.2.2)] := by
    have h2 := congrArg (fun l : List (DataW H) => l[i]?) hxs
    simp only [List.getElem?_map, hyy, hq, Option.map_some, Option.some.injEq] at h2
    exact h2
  obtain ⟨ys, n, _, rfl, hcl, hlen, hff⟩ := DataW.trod_struct Tryd.underlying69 hy
  rw [cellsNot] at hcl
  have hlen4 : ys.length = 4 := by simpa using hlen
  match ys, hlen4 with
  | [y0, y1, y2, y3], _ =>
  have k0 : DataW.trod enc Tryd.prog w base sp held n 3 ((((cs.drop (i * 4)).take 4).drop 0).take (Tryd.prog.cellsOf 3)) = some y0 := hff 0 _ rfl
  have k1 : DataW.trod enc Tryd.prog w base sp held n 9 ((((cs.drop (i * 4)).take 4).drop 1).take (Tryd.prog.cellsOf 9)) = some y1 := hff 1 _ rfl
  have k2 : DataW.trod enc Tryd.prog w base sp held n 3 ((((cs.drop (i * 4)).take 4).drop 2).take (Tryd.prog.cellsOf 3)) = some y2 := hff 2 _ rfl
  have k3 : DataW.trod enc Tryd.prog w base sp held n 4 ((((cs.drop (i * 4)).take 4).drop 3).take (Tryd.prog.cellsOf 4)) = some y3 := hff 3 _ rfl
  simp only [List.map_cons, List.map_nil, DataW.agg.injEq, List.cons.injEq, and_true] at he
  obtain ⟨e0, e1, e2, e3⟩ := he
  obtain ⟨z0, c0, f0, _⟩ := DataW.trod_int Tryd.underlying3 k0
  obtain ⟨s1, c1, f1, _⟩ := DataW.trod_string Tryd.underlying9 k1
  obtain ⟨z2, c2, f2, _⟩ := DataW.trod_int Tryd.underlying3 k2
  obtain ⟨b3, c3, f3⟩ := DataW.trod_bool Tryd.underlying4 k3
  subst f0 f1 f2 f3
  simp only [DataW.lit.injEq, Lit.string.injEq, Lit.int.injEq, Lit.bool.injEq, true_and] at e0 e1 e2 e3
  have g1 : s1 = ⟨q.2.1.toArray⟩ := str_of e1
  subst g1 e0 e2 e3
  rw [cellsInt] at c0 c2
  rw [cellsStr] at c1
  rw [cellsBool] at c3
  exact four hcl c0 c1 c2 c3

theorem tab_of_laid {W : World} {rest : List (String × DataW Unit)} (h : laidMet Tryd.prog (("loop.example/prologserver/impl.notations", Rows.laid_loop_example_prologserver_impl_notations) :: rest) W) : NotTab W := by
  obtain ⟨ps, ⟨g', t', cs, fuel, p, q, hg', ht', hvar, hd, _, _⟩, _⟩ := h
  obtain rfl := Option.some.inj (gNot.symm.trans hg')
  obtain rfl := Option.some.inj (gNotType.symm.trans ht')
  have hc := cells_of_nots hd
  have hcs : cs = notV := by
    rw [← Array.toList_inj, hc]
    unfold notV
    simp [List.flatMap_def]
  subst hcs
  simp only [World.var?, gNot, Option.bind_some] at hvar
  split at hvar
  · rename_i c t fr hb
    cases hvar
    exact ⟨t, fr, hb⟩
  · cases hvar
end Go.Proofs.YtfdgmdijjifmiaaDoor.ins

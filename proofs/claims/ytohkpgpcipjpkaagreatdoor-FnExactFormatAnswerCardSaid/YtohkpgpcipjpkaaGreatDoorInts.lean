/- Rows of integers that a call owns; laws.eqIntS, markIntS, heldIntS. Condition: the rows lie in memory. -/
import Derived.Test.YtohkpgpcipjpkaaGreatDoorProg
import Derived.Test.YtohkpgpcipjpkaaGreatDoorMk
import Derived.Laws.OwnMore
import Derived.Deep.AppendLies
import Derived.Deep.QuietTactic
import Derived.BigQuiet
namespace Go.Proofs.YtohkpgpcipjpkaaGreatDoor
open Go.RowKit

/-- The slice v reads as the integers xs; its block is the call's own, from base on. -/
def OwnI (w : World) (base : Nat) (v : Value) (xs : List Int) : Prop := w.ownsRow base 3 1 v xs.length (xs.map (Value.int .i64))
def ownV (v : Value) : List Nat := v.ownBlock.toList
section
variable {w w' : World} {base : Nat} {v : Value} {xs : List Int}
theorem Wrote.more_new {w w1 w2 : World} {L L' : List Nat} (h : Wrote L w w1) (k : Wrote L' w1 w2) (hL : ∀ x ∈ L', x ∈ L ∨ w.heap.size ≤ x) : Wrote L w w2 :=
  ⟨k.os.trans h.os, k.tape.trans h.tape, k.output.trans h.output, Nat.le_trans h.size k.size, fun x hx hn => (k.block x (Nat.lt_of_lt_of_le hx h.size) fun e => by
    rcases hL x e with h | h
    · exact hn h
    · omega).trans (h.block x hx hn)⟩
theorem Wrote.of_grown {L : List Nat} (h : w.grownBy w' v.ownBlock) (hL : ∀ x ∈ ownV v, x ∈ L) : Wrote L w w' :=
  ⟨h.os, h.tape, h.output, h.size, fun x hx hn => h.block x hx fun e => hn (hL x (by unfold ownV; rw [← e]; simp))⟩
theorem OwnI.lt (h : OwnI w base v xs) : ∀ x ∈ ownV v, base ≤ x ∧ x < w.heap.size := fun x hx => World.ownsRow.lt h x (by unfold ownV at hx; simpa using hx)
theorem OwnI.keep {L : List Nat} (h : OwnI w base v xs) (hb : Wrote L w w') (hL : ∀ x ∈ ownV v, x ∉ L) : OwnI w' base v xs := by
  have hlt := h.lt
  obtain ⟨h1, h2⟩ := h
  refine ⟨h1, ?_⟩
  rcases h2 with h2 | ⟨g, cap, cur, rfl, hg, hh, hr⟩
  · exact .inl h2
  · exact .inr ⟨g, cap, cur, rfl, hg, (hb.block g (hlt g (by simp [ownV, Value.ownBlock])).2 (hL g (by simp [ownV, Value.ownBlock]))).trans hh, hr⟩
theorem OwnI.below (h : OwnI w base v xs) (hb : Below w.heap.size w w') : OwnI w' base v xs := h.keep (.of_below hb []) fun _ _ => by simp
theorem OwnI.mono {base' : Nat} (h : OwnI w base v xs) (hb : base' ≤ base) : OwnI w base' v xs := by
  refine ⟨h.1, ?_⟩
  rcases h.2 with h2 | ⟨g, cap, cur, e, hg, hr⟩
  · exact .inl h2
  · exact .inr ⟨g, cap, cur, e, Nat.le_trans hb hg, hr⟩
theorem OwnI.nil (w : World) (base : Nat) : OwnI w base (.slice none 0 0) [] := World.ownsRow_nil w _ _ _
theorem OwnI.empty (w : World) {base : Nat} (hb : base ≤ w.heap.size) : OwnI (w.alloc (.cells #[] 3)) base (.slice (some ⟨w.heap.size, 0, none⟩) 0 0) [] :=
  ⟨rfl, .inr ⟨w.heap.size, 0, #[], rfl, hb, heap_alloc_new w _, Nat.le_refl _, Nat.zero_le _, rfl, rfl⟩⟩
/-- What reading wants. -/
theorem OwnI.read (h : OwnI w base v xs) : ∃ A cap, v = .slice A xs.length cap ∧ xs.length ≤ cap ∧ cap ≤ maxLen ∧ (0 < xs.length → ∃ g, A = some ⟨g, 0, none⟩ ∧ ownV v = [g] ∧
    ∀ j, j < xs.length → w.cell? ⟨g, j, none⟩ = some (.int .i64 (xs.getD j 0)) ∧ w.frozen? ⟨g, j, none⟩ = false) := by
  have h0 := h
  rcases h.2 with ⟨rfl, hn⟩ | ⟨g, cap, cur, rfl, hg, hh, hr1, hr2, _⟩
  · rw [hn]
    exact ⟨none, 0, rfl, Nat.le_refl _, Nat.zero_le _, fun h => absurd h (by omega)⟩
  · refine ⟨_, cap, rfl, hr1, hr2, fun _ => ⟨g, rfl, rfl, fun j hj => ⟨?_, World.ownsRow.frozenAt h0 j⟩⟩⟩
    rw [World.ownsRow.cellAt h0 j (by omega), List.getElem?_map, List.getElem?_eq_getElem hj]
    simp [List.getD, List.getElem?_eq_getElem hj]
theorem OwnI.stored {g n cap : Nat} (h : OwnI w base (.slice (some ⟨g, 0, none⟩) n cap) xs) (j : Nat) (x : Int) (hn : n = xs.length) : OwnI (w.setCell ⟨g, j, none⟩ (.int .i64 x)) base (.slice (some ⟨g, 0, none⟩) n cap) (xs.set j x) := by
  subst hn
  unfold OwnI at *
  have := World.ownsRow.stored h j (.int .i64 x)
  rw [List.length_set, List.map_set]
  exact this.1
end

/-- The marks k, k+1 .. -/
def mkI (k n : Nat) : List Int := (List.range n).map fun i => ((k + i : Nat) : Int)
theorem mkI_len (k n : Nat) : (mkI k n).length = n := by simp [mkI]
theorem mkI_at (k n j : Nat) (h : j < n) : (mkI k n).getD j 0 = ((k + j : Nat) : Int) := by simp [mkI, List.getD, h]
theorem mkI_step (k j : Nat) (xs : List Int) (h : j < xs.length) : (mkI k j ++ xs.drop j).set j ((k + j : Nat) : Int) = mkI k (j + 1) ++ xs.drop (j + 1) := by
  have e : mkI k (j + 1) = mkI k j ++ [((k + j : Nat) : Int)] := by unfold mkI; rw [List.range_succ]; simp
  rw [e, List.set_append_right _ _ (by rw [mkI_len]; exact Nat.le_refl _), mkI_len, Nat.sub_self, List.drop_eq_getElem_cons h, List.append_assoc]
  rfl

end Go.Proofs.YtohkpgpcipjpkaaGreatDoor

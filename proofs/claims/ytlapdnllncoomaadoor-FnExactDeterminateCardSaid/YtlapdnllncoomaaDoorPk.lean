/- The keys of the clauses' index: a name and a number of arguments; which clauses stand at a key. No condition. -/
import Derived.Test.YtlapdnllncoomaaDoorProg
import Derived.Test.YtlapdnllncoomaaDoorCl
import Derived.Maps.OwnRows
import Derived.Maps.GroupsBeside
import Derived.Maps.Views
import Derived.DeepKeys4
import Derived.ChangeKeys
namespace Go.Proofs.YtlapdnllncoomaaDoor
open Go.RowKit Go.WideMaps Go.Maps Go.ChangeShapes
open Classical

theorem laidOutK : laidOutB Tryd.prog = true := by kernel_rfl
theorem rowK : (88 : TypeId) < Tryd.prog.types.size := of_decide_eq_true (by kernel_rfl)
theorem typeK : Tryd.prog.keyType 88 = true := by kernel_rfl
theorem cellsK : Tryd.prog.cellsOf 88 = 2 := by kernel_rfl
set_option maxRecDepth 100000 in
theorem lawK : Keyed Tryd.prog 88 := Keyed.of_law (deep_law_laid laidOutK (m := 3) (by omega) rowK (by kernel_rfl) (by kernel_rfl))
/-- A key that is a struct of a string and a number, in whatever program. -/
theorem key_struct {P : Program} {k ks ki : TypeId} {f0 f1 : Field} (hu : P.underlying k = some (.struct #[f0, f1])) (ht : P.keyType k = true) (hc : P.cellsOf k = 2) (h0 : f0.type = ks) (h1 : f1.type = ki) (o0 : f0.offset = 0) (o1 : f1.offset = 1) (n0 : f0.name ≠ "_") (n1 : f1.name ≠ "_")
    (us : P.underlying ks = some .string) (ui : P.underlying ki = some (.int .i64)) (cs : P.cellsOf ks = 1) (ci : P.cellsOf ki = 1) (d : Nat) (hd : P.types.size = d + 1) (s : ByteArray) (a : Int) (hs : s.size ≤ maxLen) (hw : (Lit.int .i64 a).wf = true) :
    keyOf P k (.agg #[.string s, .int .i64 a]) = some (.string (keyBytes [.string s.data.toList, .int .i64 a])) := by
  unfold keyOf
  simp [hu, ht, Value.formed, hc, hd, Program.keyLits, h0, h1, o0, o1, n0, n1, us, ui, cs, ci, Value.cells, hs, hw]
/-- The key of a name and a number of arguments. -/
def pk (s : ByteArray) (a : Nat) : Lit := .string (keyBytes [.string s.data.toList, .int .i64 (a : Int)])
set_option maxRecDepth 100000 in
theorem sizeK : Tryd.prog.types.size = (Tryd.prog.types.size - 1) + 1 := by
  exact (Nat.sub_add_cancel (Nat.succ_le_of_lt (Nat.lt_of_le_of_lt (Nat.zero_le _) rowK))).symm
set_option maxRecDepth 100000 in
theorem pk_key (s : ByteArray) (a : Nat) (hs : s.size ≤ maxLen) (ha : a ≤ maxLen) : keyOf Tryd.prog 88 (.agg #[.string s, .int .i64 (a : Int)]) = some (pk s a) :=
  key_struct Tryd.underlying88 typeK cellsK rfl rfl rfl rfl (by decide) (by decide) Tryd.underlying9 Tryd.underlying3 (by kernel_rfl) (by kernel_rfl) _ sizeK s a hs (by unfold maxLen at ha; exact WalkArith.wf_i64 (by omega))
theorem pk_inj {s s' : ByteArray} {a a' : Nat} (hs : s.size ≤ maxLen) (ha : a ≤ maxLen) (hs' : s'.size ≤ maxLen) (ha' : a' ≤ maxLen) (h : pk s a = pk s' a') : s = s' ∧ a = a' := by
  have h1 := lawK.inj (pk_key s a hs ha) ((pk_key s' a' hs' ha').trans (by rw [h]))
  simp at h1
  exact ⟨h1.1, by omega⟩

/-- The clauses at a key, counted from i on. -/
noncomputable def idxF : List Cl → Int → Lit → List Int
  | [], _, _ => []
  | c :: cs, i, l => if pk c.s c.kids.len = l then i :: idxF cs (i + 1) l else idxF cs (i + 1) l
theorem idxF_snoc (l : Lit) (c : Cl) : ∀ (cs : List Cl) (i : Int), idxF (cs ++ [c]) i l = idxF cs i l ++ (if pk c.s c.kids.len = l then [i + cs.length] else [])
  | [], i => by
    simp only [List.nil_append, idxF]
    split <;> simp
  | c' :: cs, i => by
    have ih := idxF_snoc l c cs (i + 1)
    have e : i + 1 + (cs.length : Int) = i + ((c' :: cs).length : Nat) := by simp only [List.length_cons]; omega
    rw [e] at ih
    simp only [List.cons_append, idxF, ih]
    split <;> rfl
theorem idxF_len (l : Lit) : ∀ (cs : List Cl) (i : Int), (idxF cs i l).length ≤ cs.length
  | [], _ => Nat.le_refl _
  | c :: cs, i => by
    have := idxF_len l cs (i + 1)
    unfold idxF
    split
    · simp only [List.length_cons]; omega
    · simp only [List.length_cons]; omega
/-- The index D gives the numbers zs at the key l. -/
def HoldsD (D : DataW Unit) (l : Lit) (zs : List Int) : Prop := (zs = [] ∧ D.atKey l .nil = .nil) ∨ (zs ≠ [] ∧ D.atKey l .nil = .slice (lits .i64 zs) [])
theorem lits_inj : ∀ (a b : List Int), (lits .i64 a : List (DataW Unit)) = lits .i64 b → a = b := by
  intro a b h
  have h' := congrArg (List.map fun d : DataW Unit => match d with | .lit (.int _ n) => n | _ => 0) h
  have e : ∀ x : List Int, (lits .i64 x : List (DataW Unit)).map (fun d : DataW Unit => match d with | .lit (.int _ n) => n | _ => 0) = x := by
    intro x
    unfold lits
    rw [List.map_map]
    exact (List.map_congr_left (fun _ _ => rfl)).trans (List.map_id x)
  rw [e, e] at h'
  exact h'
/-- What the look-up hands over is what the index holds. -/
theorem HoldsD.eq {w : World} {base : Nat} {e : TypeId} {v : Value} {zs zs' : List Int} {D : DataW Unit} {l : Lit} (h : HoldsD D l zs) (hat : D.atKey l .nil = rowDatum .i64 v zs') (ho : w.ownsInts base e .i64 v zs') : zs' = zs := by
  rcases ho.datum (H := Unit) with ⟨h1, h2⟩ | h1
  · rw [h1] at hat
    rcases h with ⟨rfl, _⟩ | ⟨_, h3⟩
    · exact h2
    · rw [hat] at h3; cases h3
  · rw [h1] at hat
    rcases h with ⟨_, h3⟩ | ⟨_, h3⟩
    · rw [hat] at h3; cases h3
    · rw [hat] at h3
      injection h3 with h4 _
      exact lits_inj _ _ h4
theorem HoldsD.step {w : World} {base : Nat} {e : TypeId} {v' : Value} {D : DataW Unit} {cs : List Cl} {c : Cl} (hD : ∀ l, HoldsD D l (idxF cs 0 l)) (hM : IsMap D) (ho : w.ownsInts base e .i64 v' (idxF cs 0 (pk c.s c.kids.len) ++ [(cs.length : Int)])) :
    ∀ l, HoldsD (D.put (pk c.s c.kids.len) (rowDatum .i64 v' (idxF cs 0 (pk c.s c.kids.len) ++ [(cs.length : Int)]))) l (idxF (cs ++ [c]) 0 l) := by
  intro l
  rw [idxF_snoc]
  rw [ho.datum_pos (H := Unit) (by simp)]
  by_cases h : pk c.s c.kids.len = l
  · subst h
    rw [if_pos rfl, Int.zero_add]
    refine .inr ⟨by simp, ?_⟩
    exact atKey_put_same hM (by trivial) _ _
  · rw [if_neg h, List.append_nil]
    rcases hD l with ⟨h1, h2⟩ | ⟨h1, h2⟩
    · exact .inl ⟨h1, by rw [atKey_put_other (fun e => h e.symm), h2]⟩
    · exact .inr ⟨h1, by rw [atKey_put_other (fun e => h e.symm), h2]⟩
end Go.Proofs.YtlapdnllncoomaaDoor

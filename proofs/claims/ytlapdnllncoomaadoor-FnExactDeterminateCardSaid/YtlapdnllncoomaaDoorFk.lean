/- The key of a row of arguments, as bytes. Plain; no condition. -/
import Derived.Test.YtlapdnllncoomaaDoorValid
import Derived.Lib.ItoaLen
namespace Go.Proofs.YtlapdnllncoomaaDoor

/-- The key that the first argument gives. -/
def keyF : Fr → List UInt8
  | .nil => []
  | .cons k n s kids _ => if k = 1 then [] else if k = 2 then Lib.itoa n else s.data.toList ++ (47 :: Lib.decDigits kids.len)
/-- The model's FirstKey. -/
def fkB (k n : Int) (s : ByteArray) (f : Fr) : List UInt8 := if validT k n s f = true then keyF f else []
theorem keyF_cons (k n : Int) (s : ByteArray) (kids rest : Fr) : keyF (.cons k n s kids rest) = if k = 1 then [] else if k = 2 then Lib.itoa n else s.data.toList ++ (47 :: Lib.decDigits kids.len) := rfl
/-- What is known of the first of a well-formed row. -/
theorem first_of {k n : Int} {s : ByteArray} {kids rest : Fr} {d : Int} (h : shapeF (.cons k n s kids rest) d = true) :
    (k = 1 ∧ 0 ≤ n ∧ n ≤ 25) ∨ (k = 2 ∧ -999 ≤ n ∧ n ≤ 999) ∨ (k = 3 ∧ nv.nameB s.data.toList = true ∧ kids.len ≤ 4) := by
  rw [shapeF_cons, Bool.and_eq_true] at h
  have h := h.1
  unfold shapeT ownB at h
  simp only [Bool.and_eq_true, Bool.or_eq_true, decide_eq_true_eq, beq_iff_eq] at h
  obtain ⟨_, h, _⟩ := h
  rcases h with (⟨h, ⟨⟨h1, h2⟩, _⟩, _⟩ | ⟨h, ⟨⟨h1, h2⟩, _⟩, _⟩) | ⟨h, ⟨_, h1⟩, h2⟩
  · exact .inl ⟨h, h1, h2⟩
  · exact .inr (.inl ⟨h, h1, h2⟩)
  · exact .inr (.inr ⟨h, h1, h2⟩)
end Go.Proofs.YtlapdnllncoomaaDoor

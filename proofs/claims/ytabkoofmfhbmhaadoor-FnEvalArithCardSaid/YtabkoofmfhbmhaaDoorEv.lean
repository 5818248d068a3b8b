/- Arithmetic: the plain mathematics, and the model's l5Ranged, l5Mod, l5Div, l5Op, l5Arith, EvalArith. Condition: the term lies in memory. -/
import Derived.Test.YtabkoofmfhbmhaaDoorProg
import Derived.Test.YtabkoofmfhbmhaaDoorOpA
import Derived.Test.YtabkoofmfhbmhaaDoorSpecV
import Derived.Test.YtabkoofmfhbmhaaDoorSpecC
import Derived.Test.YtabkoofmfhbmhaaDoorAs
import Derived.Test.YtabkoofmfhbmhaaDoorImplV
namespace Go.Proofs.YtabkoofmfhbmhaaDoor
open Go.RowKit

/-- Which operation a name is: 0 none, then sum, difference, product, quotient, remainder. -/
def arOp (l : List UInt8) : Nat := if l = [43] then 1 else if l = [45] then 2 else if l = [42] then 3 else if l = [47, 47] then 4 else if l = [109, 111, 100] then 5 else 0
theorem ar_cases (l : List UInt8) : (l = [43] ∧ arOp l = 1) ∨ (l = [45] ∧ arOp l = 2) ∨ (l = [42] ∧ arOp l = 3) ∨ (l = [47, 47] ∧ arOp l = 4) ∨ (l = [109, 111, 100] ∧ arOp l = 5) ∨ ((l ≠ [43] ∧ l ≠ [45] ∧ l ≠ [42] ∧ l ≠ [47, 47] ∧ l ≠ [109, 111, 100]) ∧ arOp l = 0) := by
  unfold arOp
  by_cases h1 : l = [43]
  · subst h1; exact .inl ⟨rfl, rfl⟩
  · by_cases h2 : l = [45]
    · subst h2; exact .inr (.inl ⟨rfl, rfl⟩)
    · by_cases h3 : l = [42]
      · subst h3; exact .inr (.inr (.inl ⟨rfl, rfl⟩))
      · by_cases h4 : l = [47, 47]
        · subst h4; exact .inr (.inr (.inr (.inl ⟨rfl, rfl⟩)))
        · by_cases h5 : l = [109, 111, 100]
          · subst h5; exact .inr (.inr (.inr (.inr (.inl ⟨rfl, rfl⟩))))
          · refine .inr (.inr (.inr (.inr (.inr ⟨⟨h1, h2, h3, h4, h5⟩, ?_⟩))))
            rw [if_neg h1, if_neg h2, if_neg h3, if_neg h4, if_neg h5]
theorem level_ar (l : List UInt8) : (op.level l = 1 ∨ op.level l = 2) ↔ arOp l ≠ 0 := by
  constructor
  · intro h
    by_cases he : ∃ r ∈ op.tab, r.1 = l
    · obtain ⟨r, hr, rfl⟩ := he
      have all : ∀ r ∈ op.tab, (op.level r.1 = 1 ∨ op.level r.1 = 2) → arOp r.1 ≠ 0 := by decide
      exact all r hr h
    · rw [op.level_no l fun r hr e => he ⟨r, hr, e⟩] at h
      omega
  · intro h
    rcases ar_cases l with ⟨rfl, _⟩ | ⟨rfl, _⟩ | ⟨rfl, _⟩ | ⟨rfl, _⟩ | ⟨rfl, _⟩ | ⟨_, h0⟩
    · exact .inr (by decide)
    · exact .inr (by decide)
    · exact .inl (by decide)
    · exact .inl (by decide)
    · exact .inl (by decide)
    · exact absurd h0 h
/-- A number within the limits, or the code for one that is not. -/
def rg (n : Int) : Int × Int := if n < -999 ∨ 999 < n then (0, 5) else (n, 0)
def modV (a b : Int) : Int := if a.tmod b ≠ 0 ∧ decide (a.tmod b < 0) ≠ decide (b < 0) then a.tmod b + b else a.tmod b
/-- The value of an operation, and its code. -/
def opV (o : Nat) (a b : Int) : Int × Int := if o = 1 then rg (a + b) else if o = 2 then rg (a - b) else if o = 3 then rg (a * b) else if b = 0 then (0, 4) else if o = 5 then (modV a b, 0) else (a.tdiv b, 0)
def evK (k n : Int) (r : Int × Int) : Int × Int := if k = 1 then (0, 2) else if k = 2 then (n, 0) else r
/-- The value of a structure with the name s and the arguments, and its code. -/
def evF : ByteArray → Fr → Int × Int
  | s, .cons k1 n1 s1 f1 (.cons k2 n2 s2 f2 .nil) => if arOp s.data.toList = 0 then (0, 3) else
      if (evK k1 n1 (evF s1 f1)).2 ≠ 0 then (0, (evK k1 n1 (evF s1 f1)).2) else
      if (evK k2 n2 (evF s2 f2)).2 ≠ 0 then (0, (evK k2 n2 (evF s2 f2)).2) else
      opV (arOp s.data.toList) (evK k1 n1 (evF s1 f1)).1 (evK k2 n2 (evF s2 f2)).1
  | _, _ => (0, 3)
theorem ev_two (s : ByteArray) (k1 n1 : Int) (s1 : ByteArray) (f1 : Fr) (k2 n2 : Int) (s2 : ByteArray) (f2 : Fr) : evF s (.cons k1 n1 s1 f1 (.cons k2 n2 s2 f2 .nil)) = if arOp s.data.toList = 0 then (0, 3) else
      if (evK k1 n1 (evF s1 f1)).2 ≠ 0 then (0, (evK k1 n1 (evF s1 f1)).2) else
      if (evK k2 n2 (evF s2 f2)).2 ≠ 0 then (0, (evK k2 n2 (evF s2 f2)).2) else
      opV (arOp s.data.toList) (evK k1 n1 (evF s1 f1)).1 (evK k2 n2 (evF s2 f2)).1 := by rw [evF]
theorem two_of (f : Fr) (h : f.len = 2) : ∃ k1 n1 s1 f1 k2 n2 s2 f2, f = .cons k1 n1 s1 f1 (.cons k2 n2 s2 f2 .nil) := by
  cases f with
  | nil => cases h
  | cons k1 n1 s1 f1 r =>
    cases r with
    | nil => cases h
    | cons k2 n2 s2 f2 r2 =>
      cases r2 with
      | nil => exact ⟨_, _, _, _, _, _, _, _, rfl⟩
      | cons => simp only [Fr.len] at h; omega
theorem ev_len (s : ByteArray) (f : Fr) (h : f.len ≠ 2) : evF s f = (0, 3) := by
  cases f with
  | nil => rfl
  | cons k1 n1 s1 f1 r =>
    cases r with
    | nil => rfl
    | cons k2 n2 s2 f2 r2 =>
      cases r2 with
      | nil => exact absurd rfl h
      | cons => rfl
theorem ev_none (s : ByteArray) (f : Fr) (h : arOp s.data.toList = 0) : evF s f = (0, 3) := by
  by_cases h2 : f.len = 2
  · obtain ⟨_, _, _, _, _, _, _, _, rfl⟩ := two_of f h2
    rw [ev_two, if_pos h]
  · exact ev_len s f h2
def Small (v : Int) : Prop := -999 ≤ v ∧ v ≤ 999
theorem rg_small (n : Int) : Small (rg n).1 := by
  unfold rg Small
  split <;> simp <;> omega
theorem tdiv_small {a b : Int} (ha : Small a) : Small (a.tdiv b) := by
  have h1 : (a.tdiv b).natAbs ≤ a.natAbs := by rw [Int.natAbs_tdiv]; exact Nat.div_le_self _ _
  unfold Small at *
  omega
theorem tmod_small {a b : Int} (hb : Small b) (h0 : b ≠ 0) : Small (a.tmod b) ∧ (a.tmod b < b.natAbs ∧ -(b.natAbs : Int) < a.tmod b) := by
  have h1 : (a.tmod b).natAbs < b.natAbs := by rw [Int.natAbs_tmod]; exact Nat.mod_lt _ (by omega)
  unfold Small at *
  omega
theorem modV_small {a b : Int} (hb : Small b) (h0 : b ≠ 0) : Small (modV a b) := by
  obtain ⟨h1, h2⟩ := tmod_small (a := a) hb h0
  unfold modV
  split
  · rename_i h
    unfold Small at *
    obtain ⟨h3, h4⟩ := h
    by_cases h5 : a.tmod b < 0 <;> by_cases h6 : b < 0 <;> simp [h5, h6] at h4 <;> omega
  · exact h1
theorem opV_small {o : Nat} {a b : Int} (ha : Small a) (hb : Small b) : Small (opV o a b).1 := by
  unfold opV
  split
  · exact rg_small _
  · split
    · exact rg_small _
    · split
      · exact rg_small _
      · split
        · exact ⟨by decide, by decide⟩
        · rename_i h0
          split
          · exact modV_small hb h0
          · exact tdiv_small ha
theorem evK_small {k n : Int} {s : ByteArray} {f : Fr} {d : Int} (h : shapeT k n s f d = true) {r : Int × Int} (hr : Small r.1) : Small (evK k n r).1 := by
  unfold evK
  split
  · exact ⟨by decide, by decide⟩
  · split
    · unfold shapeT ownB at h
      simp only [Bool.and_eq_true, Bool.or_eq_true, decide_eq_true_eq, beq_iff_eq] at h
      unfold Small
      omega
    · exact hr
theorem ev_small (N : Nat) : ∀ (s : ByteArray) (f : Fr) (d : Int), f.size ≤ N → shapeF f d = true → Small (evF s f).1 := by
  induction N with
  | zero =>
    intro s f d hN _
    cases f with
    | nil => exact ⟨by show (-999 : Int) ≤ 0; decide, by show (0 : Int) ≤ 999; decide⟩
    | cons => simp only [Fr.size] at hN; omega
  | succ N ih =>
    intro s f d hN h
    by_cases h2 : f.len = 2
    · obtain ⟨k1, n1, s1, f1, k2, n2, s2, f2, rfl⟩ := two_of f h2
      simp only [Fr.size] at hN
      rw [shapeF_cons, shapeF_cons] at h
      simp only [Bool.and_eq_true] at h
      obtain ⟨ha, hb, _⟩ := h
      have a1 := evK_small ha (ih s1 f1 (d - 1) (by omega) (shapeT_kids ha))
      have b1 := evK_small hb (ih s2 f2 (d - 1) (by omega) (shapeT_kids hb))
      rw [ev_two]
      split
      · exact ⟨by show (-999 : Int) ≤ 0; decide, by show (0 : Int) ≤ 999; decide⟩
      · split
        · exact ⟨by show (-999 : Int) ≤ 0; decide, by show (0 : Int) ≤ 999; decide⟩
        · split
          · exact ⟨by show (-999 : Int) ≤ 0; decide, by show (0 : Int) ≤ 999; decide⟩
          · exact opV_small a1 b1
    · rw [ev_len s f h2]
      exact ⟨by decide, by decide⟩
end Go.Proofs.YtabkoofmfhbmhaaDoor

/- What a valid term is: the plain mathematics of spec.TermValid and of impl's node maker. No condition. -/
import Derived.Test.YtihmgodiiohdnaaGreatDoorFr
import Derived.Test.YtihmgodiiohdnaaGreatDoorNvPlain
namespace Go.Proofs.YtihmgodiiohdnaaGreatDoor

def noName (s : ByteArray) : Bool := s.data.toList.isEmpty
/-- The fields of a node are right, apart from its arguments. -/
def ownB (k n : Int) (s : ByteArray) (len : Nat) : Bool :=
  (k == 1 && (decide (0 ≤ n) && decide (n ≤ 25) && noName s && (len == 0))) || (k == 2 && (decide (-999 ≤ n) && decide (n ≤ 999) && noName s && (len == 0))) || (k == 3 && ((n == 0) && nv.nameB s.data.toList && decide (len ≤ 4)))
/-- Every term of the row is well-formed, down to depth d. -/
def shapeF : Fr → Int → Bool
  | .nil, _ => true
  | .cons k n s kids rest, d => (decide (1 ≤ d) && (ownB k n s kids.len && shapeF kids (d - 1))) && shapeF rest d
def shapeT (k n : Int) (s : ByteArray) (kids : Fr) (d : Int) : Bool := decide (1 ≤ d) && (ownB k n s kids.len && shapeF kids (d - 1))
def nodes : Fr → Nat
  | .nil => 0
  | .cons _ _ _ kids rest => 1 + nodes kids + nodes rest
/-- The model's count: the loop over a row from n on, at most 'most'. -/
def cntF : Fr → Int → Int → Int
  | .nil, _, n => n
  | .cons _ _ _ kids rest, most, n => if n ≤ most then cntF rest most (n + cntF kids (most - n) 1) else n
theorem cntF_spec (f : Fr) : ∀ most n : Int, n ≤ cntF f most n ∧ cntF f most n ≤ n + nodes f ∧ (n + nodes f ≤ most → cntF f most n = n + nodes f) ∧ (n ≤ most → most < n + nodes f → most < cntF f most n) ∧ (most < n → cntF f most n = n) := by
  induction f with
  | nil =>
    intro most n
    have e : cntF .nil most n = n := rfl
    have z : nodes .nil = 0 := rfl
    rw [e, z]
    refine ⟨by omega, by omega, fun _ => by omega, fun _ h => by omega, fun _ => rfl⟩
  | cons k n' s kids rest ihk ihr =>
    intro most n
    simp only [cntF, nodes]
    split
    · rename_i h
      have hk := ihk (most - n) 1
      have hr := ihr most (n + cntF kids (most - n) 1)
      omega
    · omega
theorem cntF_len (f : Fr) (h : f.len = 0) (most n : Int) : cntF f most n = n := by
  cases f with
  | nil => rfl
  | cons _ _ _ _ _ => simp [Fr.len] at h
theorem nodes_len (f : Fr) (h : f.len = 0) : nodes f = 0 := by
  cases f with
  | nil => rfl
  | cons _ _ _ _ _ => simp [Fr.len] at h
theorem shapeF_len (f : Fr) (h : f.len = 0) (d : Int) : shapeF f d = true := by
  cases f with
  | nil => rfl
  | cons _ _ _ _ _ => simp [Fr.len] at h
theorem len_le_nodes (f : Fr) : f.len ≤ nodes f := by
  induction f with
  | nil => exact Nat.le_refl _
  | cons k n s kids rest _ ih => simp only [Fr.len, nodes]; omega
theorem nodes_le_size (f : Fr) : nodes f = f.size := by
  induction f with
  | nil => rfl
  | cons k n s kids rest h1 h2 => simp only [nodes, Fr.size]; omega
theorem shapeF_cons (k n : Int) (s : ByteArray) (kids rest : Fr) (d : Int) : shapeF (.cons k n s kids rest) d = (shapeT k n s kids d && shapeF rest d) := rfl
/-- The term is valid. -/
def validT (k n : Int) (s : ByteArray) (kids : Fr) : Bool := shapeT k n s kids 30 && decide (1 + nodes kids ≤ 120)
theorem validT_cnt (k n : Int) (s : ByteArray) (kids : Fr) : validT k n s kids = (shapeT k n s kids 30 && decide (cntF kids 120 1 ≤ 120)) := by
  have := cntF_spec kids 120 1
  unfold validT
  congr 1
  rw [Bool.eq_iff_iff, decide_eq_true_iff, decide_eq_true_iff]
  omega
/-- The row is made by the node maker at depth d, with 'left' nodes left. -/
def okF (f : Fr) (d left : Int) : Bool := shapeF f (31 - d) && decide ((nodes f : Int) ≤ left)
def okT (k n : Int) (s : ByteArray) (kids : Fr) (d left : Int) : Bool := shapeT k n s kids (31 - d) && decide ((nodes kids : Int) + 1 ≤ left)
theorem okF_nil (d left : Int) (h : 0 ≤ left) : okF .nil d left = true := by
  have z : nodes .nil = 0 := rfl
  unfold okF
  rw [z, Bool.and_eq_true, decide_eq_true_iff]
  exact ⟨rfl, by omega⟩
theorem okF_cons (k n : Int) (s : ByteArray) (kids rest : Fr) (d left : Int) : okF (.cons k n s kids rest) d left = (okT k n s kids d left && okF rest d (left - (nodes kids + 1))) := by
  unfold okF okT
  rw [shapeF_cons, Bool.eq_iff_iff]
  simp only [Bool.and_eq_true, decide_eq_true_eq]
  simp only [nodes]
  constructor
  · rintro ⟨⟨h1, h2⟩, h3⟩
    exact ⟨⟨h1, by omega⟩, h2, by omega⟩
  · rintro ⟨⟨h1, h3⟩, h2, h4⟩
    exact ⟨⟨h1, h2⟩, by omega⟩
theorem okT_valid (k n : Int) (s : ByteArray) (kids : Fr) : okT k n s kids 1 120 = validT k n s kids := by
  unfold okT validT
  congr 1
  rw [Bool.eq_iff_iff, decide_eq_true_iff, decide_eq_true_iff]
  omega
end Go.Proofs.YtihmgodiiohdnaaGreatDoor

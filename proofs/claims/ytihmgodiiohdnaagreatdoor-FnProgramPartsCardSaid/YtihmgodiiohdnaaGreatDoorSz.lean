/- laws.szTerm, laws.szTermS: how much of a budget a term takes. No condition but that the term lies in memory. -/
import Derived.Test.YtihmgodiiohdnaaGreatDoorProg
import Derived.Test.YtihmgodiiohdnaaGreatDoorFr
import Derived.WalkKit
import Derived.WalkSpells
import Derived.Outline
namespace Go.Proofs.YtihmgodiiohdnaaGreatDoor
open Go.RowKit

/-- What is left of l behind the row, or -1. -/
def szF : Fr → Int → Int
  | .nil, l => l
  | .cons _ _ s kids rest, l => if l - s.size < 0 then -1 else if l - s.size - kids.len < 0 then -1 else if szF kids (l - s.size - kids.len) < 0 then -1 else szF rest (szF kids (l - s.size - kids.len))
def szS (f : Fr) (l : Int) : Int := if l - f.len < 0 then -1 else szF f (l - f.len)
def szT (s : ByteArray) (kids : Fr) (l : Int) : Int := if l - s.size < 0 then -1 else szS kids (l - s.size)
/-- Letters and terms of the row's names and arguments, at every depth. -/
def wt : Fr → Nat
  | .nil => 0
  | .cons _ _ s kids rest => s.size + kids.len + wt kids + wt rest
theorem szF_range (f : Fr) : ∀ l : Int, 0 ≤ l → -1 ≤ szF f l ∧ szF f l ≤ l ∧ (0 ≤ szF f l → szF f l = l - wt f) := by
  induction f with
  | nil => intro l h; simp only [szF, wt]; omega
  | cons k n s kids rest ihk ihr =>
    intro l h
    simp only [szF, wt]
    split
    · omega
    · split
      · omega
      · rename_i h1 h2
        have hk := ihk (l - s.size - kids.len) (by omega)
        split
        · omega
        · rename_i h3
          have hr := ihr _ (Int.not_lt.1 h3)
          omega
theorem szS_range (f : Fr) (l : Int) (h : 0 ≤ l) : -1 ≤ szS f l ∧ szS f l ≤ l ∧ (0 ≤ szS f l → szS f l = l - f.len - wt f) := by
  unfold szS
  split
  · omega
  · have := szF_range f (l - f.len) (by omega); omega
theorem szT_range (s : ByteArray) (f : Fr) (l : Int) (h : 0 ≤ l) : -1 ≤ szT s f l ∧ szT s f l ≤ l ∧ (0 ≤ szT s f l → szT s f l = l - s.size - f.len - wt f) := by
  unfold szT
  split
  · omega
  · have := szS_range f (l - s.size) (by omega); omega
theorem szF_cons (k n : Int) (s : ByteArray) (kids rest : Fr) (l : Int) : szF (.cons k n s kids rest) l = if szT s kids l < 0 then -1 else szF rest (szT s kids l) := by
  simp only [szF, szT, szS]
  split
  · rfl
  · split <;> rfl

end Go.Proofs.YtihmgodiiohdnaaGreatDoor

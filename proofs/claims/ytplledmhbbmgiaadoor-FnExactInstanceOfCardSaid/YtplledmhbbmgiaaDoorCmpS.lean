/- spec.CompareTerms: the model's standard order. Condition: both terms lie in memory. -/
import Derived.Test.YtplledmhbbmgiaaDoorProg
import Derived.Test.YtplledmhbbmgiaaDoorSpecC
import Derived.Test.YtplledmhbbmgiaaDoorImplV
import Derived.WalkLawsBesides
import Derived.Deep.RegionHeld3
import Derived.StillTailTactics
namespace Go.Proofs.YtplledmhbbmgiaaDoor
open Go.RowKit

def lessI (a b : Int) : Int := if a < b then -1 else if b < a then 1 else 0
def lessS (a b : ByteArray) : Int := if Op.bytesLess a.toList b.toList = true then -1 else if (a.toList == b.toList) = true then 0 else 1
def rankT (k : Int) (len : Nat) : Int := if k = 3 ∧ 0 < len then 4 else k
/-- The order of two terms, their arguments being in the order c. -/
def cmpH (k n : Int) (s : ByteArray) (len : Nat) (k' n' : Int) (s' : ByteArray) (len' : Nat) (c : Int) : Int :=
  if rankT k len = rankT k' len' then (if k = 3 then (if len = len' then (if (s.toList == s'.toList) = true then c else lessS s s') else lessI len len') else lessI n n') else lessI (rankT k len) (rankT k' len')
def cmpF : Fr → Fr → Int
  | .cons k n s kids rest, .cons k' n' s' kids' rest' => if cmpH k n s kids.len k' n' s' kids'.len (cmpF kids kids') = 0 then cmpF rest rest' else cmpH k n s kids.len k' n' s' kids'.len (cmpF kids kids')
  | _, _ => 0
def cmpT (k n : Int) (s : ByteArray) (f : Fr) (k' n' : Int) (s' : ByteArray) (g : Fr) : Int := cmpH k n s f.len k' n' s' g.len (cmpF f g)
theorem lessI_range (a b : Int) : -1 ≤ lessI a b ∧ lessI a b ≤ 1 := by unfold lessI; split <;> (try split) <;> omega
theorem lessS_range (a b : ByteArray) : -1 ≤ lessS a b ∧ lessS a b ≤ 1 := by unfold lessS; split <;> (try split) <;> omega
theorem cmpH_range (k n : Int) (s : ByteArray) (len : Nat) (k' n' : Int) (s' : ByteArray) (len' : Nat) (c : Int) (h : -1 ≤ c ∧ c ≤ 1) : -1 ≤ cmpH k n s len k' n' s' len' c ∧ cmpH k n s len k' n' s' len' c ≤ 1 := by
  unfold cmpH
  repeat' split
  · exact h
  · exact lessS_range _ _
  · exact lessI_range _ _
  · exact lessI_range _ _
  · exact lessI_range _ _
theorem cmpF_range (f : Fr) : ∀ g, -1 ≤ cmpF f g ∧ cmpF f g ≤ 1 := by
  induction f with
  | nil => intro g; simp only [cmpF]; omega
  | cons k n s kids rest ihk ihr =>
    intro g
    cases g with
    | nil => simp only [cmpF]; omega
    | cons k' n' s' kids' rest' =>
      simp only [cmpF]
      split
      · exact ihr rest'
      · exact cmpH_range _ _ _ _ _ _ _ _ _ (ihk kids')
theorem cmpF_cons (k n : Int) (s : ByteArray) (kids rest : Fr) (k' n' : Int) (s' : ByteArray) (kids' rest' : Fr) :
    cmpF (.cons k n s kids rest) (.cons k' n' s' kids' rest') = if cmpT k n s kids k' n' s' kids' = 0 then cmpF rest rest' else cmpT k n s kids k' n' s' kids' := rfl

/-- The boxes of two arguments, read in a later world. -/
theorem box8 {w w' : World} {t : TypeId} {a b c d a' b' c' d' : Value} (hb : Below (w.heap.size + 2) ((w.alloc (.cells #[a, b, c, d] t)).alloc (.cells #[a', b', c', d'] t)) w') :
    w'.cell? ⟨w.heap.size, 0, none⟩ = some a ∧ w'.cell? ⟨w.heap.size, 1, none⟩ = some b ∧ w'.cell? ⟨w.heap.size, 2, none⟩ = some c ∧ w'.cell? ⟨w.heap.size, 3, none⟩ = some d ∧
      w'.cell? ⟨w.heap.size + 1, 0, none⟩ = some a' ∧ w'.cell? ⟨w.heap.size + 1, 1, none⟩ = some b' ∧ w'.cell? ⟨w.heap.size + 1, 2, none⟩ = some c' ∧ w'.cell? ⟨w.heap.size + 1, 3, none⟩ = some d' := by
  have h1 := cells4 (((Blk.new w t #[a, b, c, d]).alloc (.cells #[a', b', c', d'] t)).below hb (by omega))
  have h0 := Blk.new (w.alloc (.cells #[a, b, c, d] t)) t #[a', b', c', d']
  rw [show (w.alloc (.cells #[a, b, c, d] t)).heap.size = w.heap.size + 1 by simp] at h0
  have h2 := cells4 (h0.below hb (by omega))
  exact ⟨h1.1, h1.2.1, h1.2.2.1, h1.2.2.2, h2.1, h2.2.1, h2.2.2.1, h2.2.2.2⟩

theorem boxA {w w' : World} {t : TypeId} {a b c d a' b' c' d' : Value} (hb : Below (w.heap.size + 2) ((w.alloc (.cells #[a, b, c, d] t)).alloc (.cells #[a', b', c', d'] t)) w') : w'.cell? ⟨w.heap.size, 3, none⟩ = some d := (box8 hb).2.2.2.1
theorem boxB {w w' : World} {t : TypeId} {a b c d a' b' c' d' : Value} (hb : Below (w.heap.size + 2) ((w.alloc (.cells #[a, b, c, d] t)).alloc (.cells #[a', b', c', d'] t)) w') : w'.cell? ⟨w.heap.size + 1, 3, none⟩ = some d' := (box8 hb).2.2.2.2.2.2.2

end Go.Proofs.YtplledmhbbmgiaaDoor

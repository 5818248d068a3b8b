/- The model's reader of terms with operators, as plain data: spec.l2Read, l2Prime, l2Terms, l2Items with fuel. No condition. -/
import Derived.Test.YtihmgodiiohdnaaGreatDoorProg
import Derived.Test.YtihmgodiiohdnaaGreatDoorNuT
import Derived.Test.YtihmgodiiohdnaaGreatDoorRop
namespace Go.Proofs.YtihmgodiiohdnaaGreatDoor.rdr
open Go.RowKit

/-- A term: kind, number, name, arguments. -/
abbrev Tm := Int × Int × ByteArray × Fr
def Tm.fr (t : Tm) (rest : Fr) : Fr := .cons t.1 t.2.1 t.2.2.1 t.2.2.2 rest
/-- spec.l1Chain. -/
def chainT : Fr → Tm → Tm
  | .nil, t => t
  | .cons k n s kids rest, t => (3, 0, ⟨#[46]⟩, .cons k n s kids ((chainT rest t).fr .nil))
def bA (s : ByteArray) (i : Nat) (x : Int) : Bool := atB (sgC x) s.data.toList i
def upC (c : UInt8) : Bool := decide (65 ≤ c.toNat) && decide (c.toNat ≤ 90)
mutual
/-- spec.l2Read: what is read from offset a on at level lv, and the offset behind it. -/
def rdT : Nat → ByteArray → Nat → Nat → Nat → Option (Tm × Nat)
  | 0, _, _, _, _ => none
  | n + 1, s, a, dp, 0 => rdP n s a dp
  | n + 1, s, a, dp, lv + 1 => match rdT n s a dp lv with
    | none => none
    | some (t, e) => rdL n s dp (lv + 1) t e
/-- The loop of spec.l2Read. -/
def rdL : Nat → ByteArray → Nat → Nat → Tm → Nat → Option (Tm × Nat)
  | 0, _, _, _, _, _ => none
  | n + 1, s, dp, lv, t, e =>
    if (opR s e).1.size = 0 ∨ op.level (opR s e).1.data.toList ≠ (lv : Int) then some (t, e)
    else match rdT n s (opR s e).2 dp (lv - 1) with
      | none => none
      | some (r, e2) => if lv = 3 then some ((3, 0, (opR s e).1, t.fr (r.fr .nil)), e2) else rdL n s dp lv (3, 0, (opR s e).1, t.fr (r.fr .nil)) e2
/-- spec.l2Prime. -/
def rdP : Nat → ByteArray → Nat → Nat → Option (Tm × Nat)
  | 0, _, _, _ => none
  | n + 1, s, a, dp =>
    if dp < 1 ∨ s.size ≤ a then none
    else if bA s a 40 = true then
      (match rdT n s (a + 1) dp 3 with
      | none => none
      | some (t, e) => if bA s e 41 = true then some (t, e + 1) else none)
    else if bA s a 91 = true ∧ bA s (a + 1) 93 = false then rdI n s (a + 1) (dp - 1)
    else if atB upC s.data.toList a = true then some ((1, ((s.data.toList.getD a 0).toNat : Int) - 65, ⟨#[]⟩, .nil), a + 1)
    else if atB dgC s.data.toList a = true ∨ (bA s a 45 = true ∧ atB dgC s.data.toList (a + 1) = true) then
      (if nuK (nuG s.data.toList a) (nuB s.data.toList (nuF s.data.toList a)) = true then some ((2, nuV (nuG s.data.toList a) (nuB s.data.toList (nuF s.data.toList a)), ⟨#[]⟩, .nil), nuF s.data.toList a + nuD s.data.toList (nuF s.data.toList a)) else none)
    else if nmN s a = 0 then none
    else if bA s (a + nmN s a) 40 = false then some ((3, 0, nmS s a, .nil), a + nmN s a)
    else match rdS n s (a + nmN s a + 1) (dp - 1) 41 41 .nil with
      | none => none
      | some (f, e) => some ((3, 0, nmS s a, f), e + 1)
/-- spec.l2Terms, behind the terms of acc. -/
def rdS : Nat → ByteArray → Nat → Nat → Int → Int → Fr → Option (Fr × Nat)
  | 0, _, _, _, _, _, _ => none
  | n + 1, s, a, dp, x, y, acc => match rdT n s a dp 3 with
    | none => none
    | some (t, e) =>
      if bA s e x = true ∨ bA s e y = true then some (acc.app (t.fr .nil), e)
      else if bA s e 44 = false then none
      else rdS n s (e + 1) dp x y (acc.app (t.fr .nil))
/-- spec.l2Items. -/
def rdI : Nat → ByteArray → Nat → Nat → Option (Tm × Nat)
  | 0, _, _, _ => none
  | n + 1, s, a, dp => match rdS n s a dp 93 124 .nil with
    | none => none
    | some (f, e) =>
      if bA s e 93 = true then some (chainT f (3, 0, ⟨#[91, 93]⟩, .nil), e + 1)
      else match rdT n s (e + 1) dp 3 with
        | none => none
        | some (t, e2) => if bA s e2 93 = true then some (chainT f t, e2 + 1) else none
end
/-- spec.ReadTerm but for its test that the term is valid. -/
def rdAll (s : ByteArray) : Option Tm := if s.size ≤ 1000 then (match rdT (8 * s.size + 16) s 0 30 3 with | some (t, e) => if e = s.size then some t else none | none => none) else none
-- 'f(A,b)' and '1+2*3' are read
example : (rdAll ⟨#[49, 43, 50, 42, 51]⟩).isSome = true := by decide +kernel
end Go.Proofs.YtihmgodiiohdnaaGreatDoor.rdr

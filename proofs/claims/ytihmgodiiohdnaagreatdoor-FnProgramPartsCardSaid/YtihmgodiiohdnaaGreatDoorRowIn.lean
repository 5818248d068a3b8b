/- Rows of terms in memory, in blocks that meet a condition. No condition. -/
import Derived.Test.YtihmgodiiohdnaaGreatDoorMk
namespace Go.Proofs.YtihmgodiiohdnaaGreatDoor
open Go.RowKit

/-- The row f lies in block b from cell o on; what it leads to lies in blocks of X. -/
def RowIn (w : World) (X : Nat → Prop) : Fr → Nat → Nat → Prop
  | .nil, _, _ => True
  | .cons k n s kids rest, b, o => Fits k n s ∧ (∃ (A : Option Addr) (cap : Nat),
      (w.cell? ⟨b, o, none⟩ = some (.int .i64 k) ∧ w.cell? ⟨b, o + 1, none⟩ = some (.int .i64 n) ∧ w.cell? ⟨b, o + 2, none⟩ = some (.string s) ∧ w.cell? ⟨b, o + 3, none⟩ = some (.slice A kids.len cap)) ∧
      kids.len ≤ cap ∧ cap ≤ maxLen ∧ (0 < kids.len → ∃ b' o', A = some ⟨b', o', none⟩ ∧ X b' ∧ RowIn w X kids b' o')) ∧ RowIn w X rest b (o + 4)
def KidsIn (w : World) (X : Nat → Prop) (f : Fr) (A : Option Addr) (cap : Nat) : Prop :=
  f.len ≤ cap ∧ cap ≤ maxLen ∧ (0 < f.len → ∃ b o, A = some ⟨b, o, none⟩ ∧ X b ∧ RowIn w X f b o)
section
variable {w w' : World} {X Y : Nat → Prop} {lo hi : Nat}
theorem RowIn.keep (hk : ∀ p : Addr, X p.block → w'.cell? p = w.cell? p) (hY : ∀ b, X b → Y b) (f : Fr) : ∀ b o, (∀ j, w'.cell? ⟨b, j, none⟩ = w.cell? ⟨b, j, none⟩) → RowIn w X f b o → RowIn w' Y f b o := by
  induction f with
  | nil => intro b o _ _; trivial
  | cons k n s kids rest ihk ihr =>
    rintro b o hc ⟨hf, ⟨A, cap, ⟨c0, c1, c2, c3⟩, h1, h2, h3⟩, hr⟩
    refine ⟨hf, ⟨A, cap, ⟨(hc _).trans c0, (hc _).trans c1, (hc _).trans c2, (hc _).trans c3⟩, h1, h2, fun hp => ?_⟩, ihr b (o + 4) hc hr⟩
    obtain ⟨b', o', e, hb, h⟩ := h3 hp
    exact ⟨b', o', e, hY b' hb, ihk b' o' (fun j => hk _ hb) h⟩
theorem KidsIn.keep {f : Fr} {A : Option Addr} {cap : Nat} (h : KidsIn w X f A cap) (hk : ∀ p : Addr, X p.block → w'.cell? p = w.cell? p) (hY : ∀ b, X b → Y b) : KidsIn w' Y f A cap :=
  ⟨h.1, h.2.1, fun hp => by
    obtain ⟨b, o, e, hb, hr⟩ := h.2.2 hp
    exact ⟨b, o, e, hY b hb, RowIn.keep hk hY f b o (fun j => hk _ hb) hr⟩⟩
theorem RowAt.inn (f : Fr) : ∀ b o, RowAt w lo hi f b o → RowIn w (fun b => lo ≤ b ∧ b < hi) f b o := by
  induction f with
  | nil => intro b o _; trivial
  | cons k n s kids rest ihk ihr =>
    rintro b o ⟨hf, ⟨A, cap, hc, h1, h2, h3⟩, hr⟩
    refine ⟨hf, ⟨A, cap, hc, h1, h2, fun hp => ?_⟩, ihr b (o + 4) hr⟩
    obtain ⟨b', o', e, hl, hb, h⟩ := h3 hp
    exact ⟨b', o', e, ⟨hl, hb⟩, ihk b' o' h⟩
theorem KidsAt.inn {f : Fr} {A : Option Addr} {cap : Nat} (h : KidsAt w lo hi f A cap) : KidsIn w (fun b => lo ≤ b ∧ b < hi) f A cap :=
  ⟨h.1, h.2.1, fun hp => by
    obtain ⟨b, o, e, hl, hb, hr⟩ := h.2.2 hp
    exact ⟨b, o, e, ⟨hl, hb⟩, RowAt.inn f b o hr⟩⟩
theorem RowIn.out (hX : ∀ b, X b → lo ≤ b ∧ b < hi) (f : Fr) : ∀ b o, RowIn w X f b o → RowAt w lo hi f b o := by
  induction f with
  | nil => intro b o _; trivial
  | cons k n s kids rest ihk ihr =>
    rintro b o ⟨hf, ⟨A, cap, hc, h1, h2, h3⟩, hr⟩
    refine ⟨hf, ⟨A, cap, hc, h1, h2, fun hp => ?_⟩, ihr b (o + 4) hr⟩
    obtain ⟨b', o', e, hb, h⟩ := h3 hp
    exact ⟨b', o', e, (hX b' hb).1, (hX b' hb).2, ihk b' o' h⟩
theorem KidsIn.out {f : Fr} {A : Option Addr} {cap : Nat} (h : KidsIn w X f A cap) (hX : ∀ b, X b → lo ≤ b ∧ b < hi) : KidsAt w lo hi f A cap :=
  ⟨h.1, h.2.1, fun hp => by
    obtain ⟨b, o, e, hb, hr⟩ := h.2.2 hp
    exact ⟨b, o, e, (hX b hb).1, (hX b hb).2, hr.out hX f b o⟩⟩
/-- A row of one term more in front. -/
theorem RowIn.cons {k n : Int} {s : ByteArray} {kids rest : Fr} {A : Option Addr} {cap b o : Nat} (hf : Fits k n s) (c0 : w.cell? ⟨b, o, none⟩ = some (.int .i64 k)) (c1 : w.cell? ⟨b, o + 1, none⟩ = some (.int .i64 n)) (c2 : w.cell? ⟨b, o + 2, none⟩ = some (.string s)) (c3 : w.cell? ⟨b, o + 3, none⟩ = some (.slice A kids.len cap)) (hk : KidsIn w X kids A cap) (hr : RowIn w X rest b (o + 4)) : RowIn w X (.cons k n s kids rest) b o :=
  ⟨hf, ⟨A, cap, ⟨c0, c1, c2, c3⟩, hk.1, hk.2.1, hk.2.2⟩, hr⟩
end
end Go.Proofs.YtihmgodiiohdnaaGreatDoor

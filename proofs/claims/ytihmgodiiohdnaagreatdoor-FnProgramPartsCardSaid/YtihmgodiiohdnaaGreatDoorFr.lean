/- Terms as plain data: a forest, each tree with its fields and the forest of its arguments; and where a forest lies in memory. No condition. -/
import Derived.Below
import Derived.Laws.OwnMore
import Derived.Deep.Draws
import Derived.Lib.Hide
namespace Go.Proofs.YtihmgodiiohdnaaGreatDoor
open Go.RowKit

/-- A row of terms: the first one's Kind, N, Name and Kids, and the others. -/
inductive Fr where
  | nil : Fr
  | cons (k n : Int) (s : ByteArray) (kids rest : Fr) : Fr

namespace Fr
def len : Fr → Nat
  | .nil => 0
  | .cons _ _ _ _ rest => rest.len + 1
def size : Fr → Nat
  | .nil => 0
  | .cons _ _ _ kids rest => kids.size + rest.size + 1
def drop : Nat → Fr → Fr
  | 0, f => f
  | _ + 1, .nil => .nil
  | i + 1, .cons _ _ _ _ rest => drop i rest
theorem len_drop (i : Nat) (f : Fr) : (drop i f).len = f.len - i := by
  induction i generalizing f with
  | zero => rfl
  | succ i ih =>
    cases f with
    | nil => simp [drop, len]
    | cons k n s kids rest => simp only [drop, len, ih]; omega
theorem size_drop (i : Nat) (f : Fr) : (drop i f).size ≤ f.size := by
  induction i generalizing f with
  | zero => exact Nat.le_refl _
  | succ i ih =>
    cases f with
    | nil => simp [drop]
    | cons k n s kids rest => have := ih rest; simp only [drop, size]; omega
theorem drop_cons (i : Nat) (f : Fr) (h : i < f.len) : ∃ k n s kids, drop i f = .cons k n s kids (drop (i + 1) f) := by
  induction i generalizing f with
  | zero =>
    cases f with
    | nil => simp [len] at h
    | cons k n s kids rest => exact ⟨k, n, s, kids, rfl⟩
  | succ i ih =>
    cases f with
    | nil => simp [len] at h
    | cons k n s kids rest => exact ih rest (by simp only [len] at h; omega)
theorem drop_len (f : Fr) : drop f.len f = .nil := by
  have h : (drop f.len f).len = 0 := by rw [len_drop]; omega
  cases hf : drop f.len f with
  | nil => rfl
  | cons k n s kids rest => rw [hf] at h; simp [len] at h
theorem len_le_size (f : Fr) : f.len ≤ f.size := by
  induction f with
  | nil => exact Nat.le_refl _
  | cons k n s kids rest _ ih => simp only [len, size]; omega
end Fr

/-- The numbers fit, the name is no longer than a string can be. -/
def Fits (k n : Int) (s : ByteArray) : Prop := (-9223372036854775808 ≤ k ∧ k ≤ 9223372036854775807) ∧ (-9223372036854775808 ≤ n ∧ n ≤ 9223372036854775807) ∧ s.size ≤ maxLen

/-- The row f lies in block b from cell o on, each term in four cells; what it leads to lies in blocks from lo to below hi. -/
def RowAt (w : World) (lo hi : Nat) : Fr → Nat → Nat → Prop
  | .nil, _, _ => True
  | .cons k n s kids rest, b, o => Fits k n s ∧ (∃ (A : Option Addr) (cap : Nat),
      (w.cell? ⟨b, o, none⟩ = some (.int .i64 k) ∧ w.cell? ⟨b, o + 1, none⟩ = some (.int .i64 n) ∧ w.cell? ⟨b, o + 2, none⟩ = some (.string s) ∧ w.cell? ⟨b, o + 3, none⟩ = some (.slice A kids.len cap)) ∧
      kids.len ≤ cap ∧ cap ≤ maxLen ∧ (0 < kids.len → ∃ b' o', A = some ⟨b', o', none⟩ ∧ lo ≤ b' ∧ b' < hi ∧ RowAt w lo hi kids b' o')) ∧ RowAt w lo hi rest b (o + 4)

/-- The slice value with address A and capacity cap reads as the row f. -/
def KidsAt (w : World) (lo hi : Nat) (f : Fr) (A : Option Addr) (cap : Nat) : Prop :=
  f.len ≤ cap ∧ cap ≤ maxLen ∧ (0 < f.len → ∃ b o, A = some ⟨b, o, none⟩ ∧ lo ≤ b ∧ b < hi ∧ RowAt w lo hi f b o)

section
variable {w w' : World} {lo hi lo' hi' : Nat}
theorem RowAt.keep (hk : ∀ p : Addr, lo ≤ p.block → p.block < hi → w'.cell? p = w.cell? p) (f : Fr) : ∀ b o, lo ≤ b → b < hi → RowAt w lo hi f b o → RowAt w' lo hi f b o := by
  induction f with
  | nil => intro b o _ _ _; trivial
  | cons k n s kids rest ihk ihr =>
    rintro b o hl hb ⟨hf, ⟨A, cap, ⟨c0, c1, c2, c3⟩, h1, h2, h3⟩, hr⟩
    refine ⟨hf, ⟨A, cap, ⟨(hk _ hl hb).trans c0, (hk _ hl hb).trans c1, (hk _ hl hb).trans c2, (hk _ hl hb).trans c3⟩, h1, h2, fun hp => ?_⟩, ihr b (o + 4) hl hb hr⟩
    obtain ⟨b', o', e, hl', hb', h⟩ := h3 hp
    exact ⟨b', o', e, hl', hb', ihk b' o' hl' hb' h⟩
theorem RowAt.more (hL : lo' ≤ lo) (hH : hi ≤ hi') (f : Fr) : ∀ b o, RowAt w lo hi f b o → RowAt w lo' hi' f b o := by
  induction f with
  | nil => intro b o _; trivial
  | cons k n s kids rest ihk ihr =>
    rintro b o ⟨hf, ⟨A, cap, hc, h1, h2, h3⟩, hr⟩
    refine ⟨hf, ⟨A, cap, hc, h1, h2, fun hp => ?_⟩, ihr b (o + 4) hr⟩
    obtain ⟨b', o', e, hl', hb', h⟩ := h3 hp
    exact ⟨b', o', e, by omega, by omega, ihk b' o' h⟩
theorem KidsAt.keep {f : Fr} {A : Option Addr} {cap : Nat} (h : KidsAt w lo hi f A cap) (hk : ∀ p : Addr, lo ≤ p.block → p.block < hi → w'.cell? p = w.cell? p) : KidsAt w' lo hi f A cap :=
  ⟨h.1, h.2.1, fun hp => by
    obtain ⟨b, o, e, hl, hb, hr⟩ := h.2.2 hp
    exact ⟨b, o, e, hl, hb, RowAt.keep hk f b o hl hb hr⟩⟩
theorem KidsAt.below {f : Fr} {A : Option Addr} {cap B : Nat} (h : KidsAt w lo hi f A cap) (hb : Below B w w') (hB : hi ≤ B) : KidsAt w' lo hi f A cap :=
  h.keep fun p _ hp => hb.cell (by omega)
theorem KidsAt.more {f : Fr} {A : Option Addr} {cap : Nat} (h : KidsAt w lo hi f A cap) (hL : lo' ≤ lo) (hH : hi ≤ hi') : KidsAt w lo' hi' f A cap :=
  ⟨h.1, h.2.1, fun hp => by
    obtain ⟨b, o, e, hl, hb, hr⟩ := h.2.2 hp
    exact ⟨b, o, e, by omega, by omega, hr.more hL hH⟩⟩
theorem KidsAt.nil (w : World) (lo hi : Nat) (A : Option Addr) (cap : Nat) (h : cap ≤ maxLen) : KidsAt w lo hi .nil A cap := ⟨Nat.zero_le _, h, fun h => absurd h (Nat.lt_irrefl 0)⟩
/-- Element i of a row. -/
theorem RowAt.at_ (f : Fr) : ∀ (i b o : Nat), RowAt w lo hi f b o → RowAt w lo hi (f.drop i) b (o + i * 4) := by
  induction f with
  | nil => intro i b o _; cases i <;> trivial
  | cons k n s kids rest _ ihr =>
    intro i b o h
    cases i with
    | zero => exact h
    | succ i =>
      have := ihr i b (o + 4) h.2.2
      rw [show o + 4 + i * 4 = o + (i + 1) * 4 by omega] at this
      exact this
/-- The cells of element i, and its kids. -/
theorem RowAt.elem {f : Fr} {i b o : Nat} {k n : Int} {s : ByteArray} {kids rest : Fr} (h : RowAt w lo hi f b o) (hd : f.drop i = .cons k n s kids rest) :
    Fits k n s ∧ ∃ (A : Option Addr) (cap : Nat), w.cell? ⟨b, o + i * 4, none⟩ = some (.int .i64 k) ∧ w.cell? ⟨b, o + i * 4 + 1, none⟩ = some (.int .i64 n) ∧ w.cell? ⟨b, o + i * 4 + 2, none⟩ = some (.string s) ∧ w.cell? ⟨b, o + i * 4 + 3, none⟩ = some (.slice A kids.len cap) ∧ KidsAt w lo hi kids A cap := by
  have h1 := RowAt.at_ f i b o h
  rw [hd] at h1
  obtain ⟨hf, ⟨A, cap, ⟨c0, c1, c2, c3⟩, g1, g2, g3⟩, _⟩ := h1
  exact ⟨hf, A, cap, c0, c1, c2, c3, g1, g2, g3⟩
end

/-- The value of a term whose Kids are the slice (A, f.len, cap). -/
def tv (k n : Int) (s : ByteArray) (A : Option Addr) (len cap : Nat) : Value := .agg #[.int .i64 k, .int .i64 n, .string s, .slice A len cap]
end Go.Proofs.YtihmgodiiohdnaaGreatDoor

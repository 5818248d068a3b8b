/- The pairs of terms that impl.TermSame works on: a pair's rows taken apart into pairs. No condition. -/
import Derived.Test.YtejehnmnocokiaaDoorOwn
import Derived.Test.YtejehnmnocokiaaDoorEq
import Derived.Test.YtejehnmnocokiaaDoorValid
import Derived.Laws.AppendOwn
namespace Go.Proofs.YtejehnmnocokiaaDoor
open Go.RowKit

/-- A pair of terms, with the blocks of their rows. -/
structure It where
  k : Int
  n : Int
  s : ByteArray
  f : Fr
  A : Option Addr
  cap : Nat
  L : List Nat
  k' : Int
  n' : Int
  s' : ByteArray
  g : Fr
  B : Option Addr
  cap' : Nat
  M : List Nat
def It.left (x : It) : List Value := [.int .i64 x.k, .int .i64 x.n, .string x.s, .slice x.A x.f.len x.cap]
def It.right (x : It) : List Value := [.int .i64 x.k', .int .i64 x.n', .string x.s', .slice x.B x.g.len x.cap']
def It.cs (x : It) : List Value := x.left ++ x.right
def It.ok (w : World) (x : It) : Prop := OwnS w x.f x.A x.cap x.L ∧ OwnS w x.g x.B x.cap' x.M
def It.eq (x : It) : Bool := eqT x.k x.n x.s x.f x.k' x.n' x.s' x.g
def stL (xs : List It) : List Nat := xs.flatMap (·.L)
def stM (xs : List It) : List Nat := xs.flatMap (·.M)
def stN (xs : List It) : Nat := (xs.map fun x => nodes x.f + 1).sum
def stC (xs : List It) : List Value := xs.flatMap It.cs
theorem stC_len (xs : List It) : (stC xs).length = xs.length * 8 := by
  induction xs with
  | nil => rfl
  | cons x xs ih =>
    have e : stC (x :: xs) = x.cs ++ stC xs := rfl
    rw [e, List.length_append, ih]
    simp [It.cs, It.left, It.right]; omega
theorem stC_app (xs ys : List It) : stC (xs ++ ys) = stC xs ++ stC ys := by simp [stC]
theorem stL_app (xs ys : List It) : stL (xs ++ ys) = stL xs ++ stL ys := by simp [stL]
theorem stM_app (xs ys : List It) : stM (xs ++ ys) = stM xs ++ stM ys := by simp [stM]
theorem stN_app (xs ys : List It) : stN (xs ++ ys) = stN xs + stN ys := by simp [stN]

/-- The four cells of a term. -/
def four (w : World) (b o : Nat) (cs : List Value) : Prop :=
  w.cell? ⟨b, o, none⟩ = cs[0]? ∧ w.cell? ⟨b, o + 1, none⟩ = cs[1]? ∧ w.cell? ⟨b, o + 2, none⟩ = cs[2]? ∧ w.cell? ⟨b, o + 3, none⟩ = cs[3]?

/-- Two rows of one length, taken apart. -/
theorem pairs_of (w : World) (f : Fr) : ∀ (g : Fr) (b o b' o' : Nat) (L M : List Nat), OwnAt w f b o L → OwnAt w g b' o' M → f.len = g.len →
    ∃ zs : List It, zs.length = f.len ∧ (∀ x ∈ zs, x.ok w) ∧ stL zs = L ∧ stM zs = M ∧ zs.all It.eq = eqF f g ∧ stN zs = nodes f ∧
      ∀ i x, zs[i]? = some x → four w b (o + i * 4) x.left ∧ four w b' (o' + i * 4) x.right := by
  induction f with
  | nil =>
    intro g b o b' o' L M hf hg hl
    have hgn : g = .nil := by
      cases g with
      | nil => rfl
      | cons _ _ _ _ _ => simp [Fr.len] at hl
    subst hgn
    have e1 : L = [] := hf
    have e2 : M = [] := hg
    subst e1 e2
    exact ⟨[], rfl, (fun x hx => by cases hx), rfl, rfl, rfl, rfl, (fun i x hx => by simp at hx)⟩
  | cons k n s kids rest _ ihr =>
    intro g b o b' o' L M hf hg hl
    cases g with
    | nil => simp [Fr.len] at hl
    | cons k' n' s' kids' rest' =>
      obtain ⟨A, cap, L1, L2, rfl, _, ⟨c0, c1, c2, c3⟩, h1, h2, h3, hr⟩ := hf
      obtain ⟨B, cap', M1, M2, rfl, _, ⟨d0, d1, d2, d3⟩, g1, g2, g3, gr⟩ := hg
      obtain ⟨zs, z1, z2, z3, z4, z5, z6, z7⟩ := ihr rest' b (o + 4) b' (o' + 4) L2 M2 hr gr (by simpa [Fr.len] using hl)
      refine ⟨⟨k, n, s, kids, A, cap, L1, k', n', s', kids', B, cap', M1⟩ :: zs, by simp [Fr.len, z1], fun x hx => ?_, ?_, ?_, ?_, ?_, fun i x hx => ?_⟩
      · rcases List.mem_cons.1 hx with rfl | hx
        · exact ⟨⟨h1, h2, h3⟩, ⟨g1, g2, g3⟩⟩
        · exact z2 x hx
      · simp only [stL, List.flatMap_cons]
        rw [← z3]; rfl
      · simp only [stM, List.flatMap_cons]
        rw [← z4]; rfl
      · rw [List.all_cons, z5, eqF_cons]; rfl
      · simp only [stN, List.map_cons, List.sum_cons, nodes]
        have : (zs.map fun x => nodes x.f + 1).sum = nodes rest := z6
        omega
      · cases i with
        | zero =>
          obtain rfl : _ = x := by simpa using hx
          exact ⟨⟨c0, c1, c2, c3⟩, ⟨d0, d1, d2, d3⟩⟩
        | succ i =>
          obtain ⟨p, q⟩ := z7 i x (by simpa using hx)
          rw [show o + 4 + i * 4 = o + (i + 1) * 4 by omega] at p
          rw [show o' + 4 + i * 4 = o' + (i + 1) * 4 by omega] at q
          exact ⟨p, q⟩

/-- A row cut by its last element. -/
theorem ownsRow_pop {w : World} {base : Nat} {e : TypeId} {size g n cap : Nat} {xs ys : List Value} (h : w.ownsRow base e size (.slice (some ⟨g, 0, none⟩) (n + 1) cap) (n + 1) (xs ++ ys)) (hx : xs.length = n * size) :
    w.ownsRow base e size (.slice (some ⟨g, 0, none⟩) n cap) n xs := by
  refine ⟨hx, ?_⟩
  rcases h.2 with ⟨h, _⟩ | ⟨g', cap', cur, e1, hg, hc, h1, h2, h3, h4⟩
  · simp at h
  · injection e1 with e1 e2 e3
    injection e1 with e1
    injection e1 with e1
    subst e1 e3
    refine .inr ⟨g, cap, cur, rfl, hg, hc, by omega, h2, h3, ?_⟩
    have h5 := congrArg (List.take (n * size)) h4
    rw [List.take_take, Nat.min_eq_left (Nat.mul_le_mul_right _ (by omega))] at h5
    rw [h5, ← hx, List.take_left]
end Go.Proofs.YtejehnmnocokiaaDoor

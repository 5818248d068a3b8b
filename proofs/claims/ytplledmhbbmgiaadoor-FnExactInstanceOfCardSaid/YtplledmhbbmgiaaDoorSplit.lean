/- impl.splitList: the elements with which a node begins as a list, and what follows. Condition: the node lies in memory. -/
import Derived.Test.YtplledmhbbmgiaaDoorProg
import Derived.Test.YtplledmhbbmgiaaDoorPair
import Derived.Test.YtplledmhbbmgiaaDoorAs
import Derived.Test.YtplledmhbbmgiaaDoorSpecL
import Derived.Deep.AppendLies
namespace Go.Proofs.YtplledmhbbmgiaaDoor
open Go.RowKit

/-- The values xs are the nodes of the row f. -/
def NDesc (w : World) (lo hi : Nat) : Fr → List Value → Prop
  | .nil, xs => xs = []
  | .cons k n s kids rest, xs => ∃ x ys, xs = x :: ys ∧ NdV w lo hi k n s kids x ∧ NDesc w lo hi rest ys
section
variable {w w' : World} {lo hi : Nat}
theorem NDesc.len (f : Fr) : ∀ xs, NDesc w lo hi f xs → xs.length = f.len := by
  induction f with
  | nil => rintro xs rfl; rfl
  | cons k n s kids rest _ ih =>
    rintro xs ⟨x, ys, rfl, _, h⟩
    simp only [List.length_cons, Fr.len, ih ys h]
theorem NDesc.snoc (f : Fr) {k n : Int} {s : ByteArray} {kids : Fr} {x : Value} (hx : NdV w lo hi k n s kids x) : ∀ xs, NDesc w lo hi f xs → NDesc w lo hi (f.app (.cons k n s kids .nil)) (xs ++ [x]) := by
  induction f with
  | nil => rintro xs rfl; exact ⟨x, [], rfl, hx, rfl⟩
  | cons k' n' s' kids' rest _ ih =>
    rintro xs ⟨y, ys, rfl, hy, h⟩
    exact ⟨y, _, rfl, hy, ih ys h⟩
theorem NDesc.row {lo' hi' g : Nat} (hk : ∀ p : Addr, lo ≤ p.block → p.block < hi → w'.cell? p = w.cell? p) (hL : lo' ≤ lo) (hH : hi ≤ hi') (f : Fr) : ∀ xs o, NDesc w lo hi f xs → (∀ j u, xs[j]? = some u → w'.cell? ⟨g, o + j, none⟩ = some u) → NdRow w' lo' hi' f g o := by
  induction f with
  | nil => intro xs o _ _; trivial
  | cons k n s kids rest _ ih =>
    rintro xs o ⟨x, ys, rfl, hx, h⟩ hc
    refine ⟨⟨x, hc 0 x rfl, ?_⟩, ih ys (o + 1) h fun j u hu => ?_⟩
    · rcases hx.keep hk hL hH with h | h | ⟨h1, A, cap, h2, h3⟩
      · exact .inl h
      · exact .inr (.inl h)
      · exact .inr (.inr ⟨h1, A, cap, h2, h3.1, h3.2.1, h3.2.2⟩)
    · have := hc (j + 1) u (by simpa using hu)
      rwa [show o + (j + 1) = o + 1 + j by omega] at this
end

/-- What splitList answers. -/
def SplitRes (w : World) (F T : Fr) (e : Ending) (w' : World) : Prop :=
  Below w.heap.size w w' ∧ ∃ A cap v', e = .returned (.tuple #[.slice A F.len cap, v']) ∧ NdS w' 0 w'.heap.size F A cap ∧ ∃ k n s f, T = .cons k n s f .nil ∧ NdV w' 0 w'.heap.size k n s f v'
/-- The loop's relation. -/
def SpP (w : World) (lo hi : Nat) (F T : Fr) (k n : Int) (s : ByteArray) (f : Fr) (x : Value) (acc : Fr) (v : Value) (wr : World) : Prop :=
  NdV w lo hi k n s f x ∧ (∃ xs, wr.ownsRow w.heap.size 50 1 v acc.len xs ∧ NDesc w lo hi acc xs) ∧ acc.app (fronts k s f) = F ∧ tails k n s f = T ∧ Below w.heap.size w wr
theorem SpP.fin {w wr : World} {lo hi : Nat} {F T : Fr} {k n : Int} {s : ByteArray} {f : Fr} {x : Value} {acc : Fr} {v : Value} (h : SpP w lo hi F T k n s f x acc v wr) (hp : pairB k s f.len = false) (hh : hi ≤ w.heap.size) (o : Obj) :
    SplitRes w F T (.returned (.tuple #[v, x])) (wr.alloc o) := by
  obtain ⟨hx, ⟨xs, ho, hD⟩, hF, hT, hb⟩ := h
  rw [(pair_no n hp).1, app_nil] at hF
  rw [(pair_no n hp).2] at hT
  subst hF hT
  have hb2 : Below w.heap.size w (wr.alloc o) := hb.alloc hb.size o
  have hk : ∀ p : Addr, lo ≤ p.block → p.block < hi → (wr.alloc o).cell? p = w.cell? p := fun p _ hp => hb2.cell (by omega)
  refine ⟨hb2, ?_⟩
  have ho2 := ho.alloc o
  rcases ho2.2 with ⟨rfl, h0⟩ | ⟨g, cap, cur, rfl, hbg, hg, hnc, hcm, hcs, htake⟩
  · have hnil : acc = .nil := by
      cases acc with
      | nil => rfl
      | cons _ _ _ _ _ => simp [Fr.len] at h0
    subst hnil
    exact ⟨none, 0, x, rfl, ⟨Nat.le_refl _, Nat.zero_le _, fun h => absurd h (Nat.lt_irrefl 0)⟩, k, n, s, f, rfl, hx.keep hk (Nat.zero_le _) (Nat.le_trans hh hb2.size)⟩
  · refine ⟨_, cap, x, rfl, ⟨hnc, hcm, fun _ => ⟨g, rfl, Nat.zero_le _, Blk.lt hg, ?_⟩⟩, k, n, s, f, rfl, hx.keep hk (Nat.zero_le _) (Nat.le_trans hh hb2.size)⟩
    refine NDesc.row hk (Nat.zero_le _) (Nat.le_trans hh hb2.size) acc xs 0 hD fun j u hu => ?_
    have h3 := (World.ownsRow.cells ho2 (g := g) rfl) j u hu
    have e : (⟨g, 0, none⟩ : Addr).add j = ⟨g, 0 + j, none⟩ := by unfold Addr.add; split <;> simp_all
    rwa [e] at h3

end Go.Proofs.YtplledmhbbmgiaaDoor

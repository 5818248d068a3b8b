/- spec.l1Pair, l1Nil, impl.isEmptyList: what a list's nodes are. Condition: the term lies in memory. -/
import Derived.Test.YtjmlcgpcjkgnhaaDoorProg
import Derived.Test.YtjmlcgpcjkgnhaaDoorMk
import Derived.Test.YtjmlcgpcjkgnhaaDoorAs
import Derived.WalkKit
import Derived.WalkSpells
import Derived.Outline
import Derived.Test.YtjmlcgpcjkgnhaaDoorCopy
import Derived.Test.YtjmlcgpcjkgnhaaDoorTb
import Derived.Deep.AppendLies
import Derived.Test.YtjmlcgpcjkgnhaaDoorTermOf
import Derived.Test.YtjmlcgpcjkgnhaaDoorMatS
import Derived.Test.YtjmlcgpcjkgnhaaDoorSpecC
import Derived.Test.YtjmlcgpcjkgnhaaDoorTo
import Derived.Test.YtjmlcgpcjkgnhaaDoorRowP
namespace Go.Proofs.YtjmlcgpcjkgnhaaDoor
open Go.RowKit

def dotB (s : ByteArray) : Bool := s.data.toList == [46]
def emptyB (s : ByteArray) : Bool := s.data.toList == [91, 93]
/-- A pair of a list. -/
def pairB (k : Int) (s : ByteArray) (len : Nat) : Bool := k == 3 && (dotB s && len == 2)
/-- The empty list. -/
def nilB (k : Int) (s : ByteArray) (len : Nat) : Bool := k == 3 && (emptyB s && len == 0)

/-! The elements of a list, and what stands behind the last pair. -/
def fronts : Int → ByteArray → Fr → Fr
  | k, s, .cons k1 n1 s1 kd1 (.cons k2 _ s2 kd2 .nil) => if pairB k s 2 = true then .cons k1 n1 s1 kd1 (fronts k2 s2 kd2) else .nil
  | _, _, _ => .nil
def tails : Int → Int → ByteArray → Fr → Fr
  | k, n, s, .cons k1 n1 s1 kd1 (.cons k2 n2 s2 kd2 .nil) => if pairB k s 2 = true then tails k2 n2 s2 kd2 else .cons k n s (.cons k1 n1 s1 kd1 (.cons k2 n2 s2 kd2 .nil)) .nil
  | k, n, s, f => .cons k n s f .nil
theorem two_of (f : Fr) (h : f.len = 2) : ∃ k1 n1 s1 kd1 k2 n2 s2 kd2, f = .cons k1 n1 s1 kd1 (.cons k2 n2 s2 kd2 .nil) := by
  cases f with
  | nil => simp [Fr.len] at h
  | cons k1 n1 s1 kd1 r =>
    cases r with
    | nil => simp [Fr.len] at h
    | cons k2 n2 s2 kd2 r =>
      cases r with
      | nil => exact ⟨_, _, _, _, _, _, _, _, rfl⟩
      | cons _ _ _ _ _ => simp [Fr.len] at h
theorem pairB_len {k : Int} {s : ByteArray} {len : Nat} (h : pairB k s len = true) : len = 2 ∧ k = 3 ∧ dotB s = true := by
  simp only [pairB, Bool.and_eq_true, beq_iff_eq] at h
  exact ⟨h.2.2, h.1, h.2.1⟩
theorem pair_yes {k : Int} (n : Int) {s : ByteArray} {f : Fr} (h : pairB k s f.len = true) : ∃ k1 n1 s1 kd1 k2 n2 s2 kd2, f = .cons k1 n1 s1 kd1 (.cons k2 n2 s2 kd2 .nil) ∧ fronts k s f = .cons k1 n1 s1 kd1 (fronts k2 s2 kd2) ∧ tails k n s f = tails k2 n2 s2 kd2 := by
  have hl := (pairB_len h).1
  obtain ⟨k1, n1, s1, kd1, k2, n2, s2, kd2, rfl⟩ := two_of f hl
  have h2 : pairB k s 2 = true := h
  exact ⟨k1, n1, s1, kd1, k2, n2, s2, kd2, rfl, by rw [fronts, if_pos h2], by rw [tails, if_pos h2]⟩
theorem pair_no {k : Int} (n : Int) {s : ByteArray} {f : Fr} (h : pairB k s f.len = false) : fronts k s f = .nil ∧ tails k n s f = .cons k n s f .nil := by
  by_cases hl : f.len = 2
  · obtain ⟨k1, n1, s1, kd1, k2, n2, s2, kd2, rfl⟩ := two_of f hl
    have h2 : ¬ pairB k s 2 = true := by rw [Bool.not_eq_true]; exact h
    exact ⟨by rw [fronts, if_neg h2], by rw [tails, if_neg h2]⟩
  · cases f with
    | nil => exact ⟨rfl, rfl⟩
    | cons k1 n1 s1 kd1 r =>
      cases r with
      | nil => exact ⟨rfl, rfl⟩
      | cons k2 n2 s2 kd2 r =>
        cases r with
        | nil => simp [Fr.len] at hl
        | cons _ _ _ _ _ => exact ⟨rfl, rfl⟩
/-- The term is a list. -/
def listB (k n : Int) (s : ByteArray) (f : Fr) : Bool := match tails k n s f with
  | .cons k' _ s' f' _ => nilB k' s' f'.len
  | .nil => false
theorem app_assoc (a b c : Fr) : (a.app b).app c = a.app (b.app c) := by
  induction a with
  | nil => rfl
  | cons _ _ _ _ _ _ ih => simp only [Fr.app, ih]
theorem app_nil (a : Fr) : a.app .nil = a := by
  induction a with
  | nil => rfl
  | cons _ _ _ _ _ _ ih => simp only [Fr.app, ih]
end Go.Proofs.YtjmlcgpcjkgnhaaDoor

/- spec.ListOf: the elements of a list, copied. Condition: the term lies in memory. -/
namespace Go.Proofs.YtjmlcgpcjkgnhaaDoor
open Go.RowKit

def lenOf : Value → Nat | .slice _ n _ => n | _ => 0

/-- The loop's relation: the term that is looked at lies in block H; its elements before it are copied into the row v. -/
def LsP (w : World) (lo hi H : Nat) (F T : Fr) (M : Nat) (k n : Int) (s : ByteArray) (f : Fr) (A : Option Addr) (cap : Nat) (acc : Fr) (v : Value) (wr : World) : Prop :=
  Blk wr H 31 #[.int .i64 k, .int .i64 n, .string s, .slice A f.len cap] ∧ KidsAt w lo hi f A cap ∧ Fits k n s ∧ nodes f ≤ M ∧ RowP (H + 1) v acc wr ∧ acc.app (fronts k s f) = F ∧ tails k n s f = T ∧ Below w.heap.size w wr ∧ H + 1 ≤ wr.heap.size ∧ w.heap.size ≤ H

theorem LsP.step {w wr w1 w2 w3 w4 : World} {lo hi H : Nat} {F T : Fr} {M : Nat} {k n : Int} {s : ByteArray} {k1 n1 k2 n2 : Int} {s1 s2 : ByteArray} {kd1 kd2 : Fr} {A : Option Addr} {cap : Nat} {acc : Fr} {v : Value} {xs : List Value} {L : List Nat} {A1 A2 : Option Addr} {cap1 cap2 g cap4 : Nat}
    (h : LsP w lo hi H F T M k n s (.cons k1 n1 s1 kd1 (.cons k2 n2 s2 kd2 .nil)) A cap acc v wr) (hp : pairB k s 2 = true) (hD : Desc w1 acc xs L) (hN : L.Nodup) (hL : ∀ x ∈ L, H + 1 ≤ x ∧ x < w1.heap.size) (hv : ∀ g, v.ownBlock = some g → g ∉ L) (hvl : ∀ g, v.ownBlock = some g → H + 1 ≤ g ∧ g < w1.heap.size)
    (hb1 : Below wr.heap.size wr w1) (hf1 : Fits k1 n1 s1) (hm : Made w1 kd1 A1 cap1 w2) (hb3 : Below w2.heap.size w2 w3) (hg : w3.grownBy w4 v.ownBlock)
    (ho : w4.ownsRow (H + 1) 31 4 (.slice (some ⟨g, 0, none⟩) (acc.len + 1) cap4) (acc.len + 1) (xs ++ [.int .i64 k1, .int .i64 n1, .string s1, .slice A1 kd1.len cap1])) (hat : v.ownBlock = some g ∨ g = w3.heap.size)
    (hf2 : Fits k2 n2 s2) (hk2 : KidsAt w lo hi kd2 A2 cap2) :
    LsP w lo hi H F T M k2 n2 s2 kd2 A2 cap2 (acc.app (.cons k1 n1 s1 kd1 .nil)) (.slice (some ⟨g, 0, none⟩) (acc.len + 1) cap4) ((((w4.setCell ⟨H, 0, none⟩ (.int .i64 k2)).setCell ⟨H, 1, none⟩ (.int .i64 n2)).setCell ⟨H, 2, none⟩ (.string s2)).setCell ⟨H, 3, none⟩ (.slice A2 kd2.len cap2)) := by
  obtain ⟨b0, hk, hf, hM, hr, hF, hT, hb, hs, hH⟩ := h
  have hm' := hm
  obtain ⟨_, _, _, _, hb2⟩ := hm'
  have s1' := hb1.size
  have s2' := hb2.size
  have s3' := hb3.size
  have s4' := hg.size
  have far : w4.heap[H]? = wr.heap[H]? := by
    rw [hg.block H (by omega) fun e => by have := (hvl H e.symm).1; omega, hb3.block H (by omega), hb2.block H (by omega), hb1.block H (by omega)]
  have hbw : Below w.heap.size w w4 := by
    have h1 := hb1.trans ((hb2.trans (hb3.mono hb2.size)).mono hb1.size)
    have h2 := hb.trans (h1.mono hb.size)
    refine h2.grown hg h2.size fun g hg => ?_
    have := (hvl g hg).1; omega
  have hst := RowP.step (base := H + 1) hD hN hL hv (fun g hg => (hvl g hg).2) (by omega) hf1 hm hb3 hg ho hat
  have hF' : (acc.app (.cons k1 n1 s1 kd1 .nil)).app (fronts k2 s2 kd2) = F := by
    rw [← hF, fronts, if_pos hp, app_assoc]; rfl
  have hT' : tails k2 n2 s2 kd2 = T := by rw [← hT, tails, if_pos hp]
  have hM' : nodes kd2 ≤ M := by simp only [nodes] at hM; omega
  refine ⟨((((b0.keep far).set_ 0 _).set_ 1 _).set_ 2 _).set_ 3 _, hk2, hf2, hM', (((hst.set_ (by simp) _).set_ (by simp) _).set_ (by simp) _).set_ (by simp) _, hF', hT', (((hbw.setCell hH _).setCell hH _).setCell hH _).setCell hH _, ?_, hH⟩
  simp only [World.setCell, Array.size_modify]
  omega

theorem LsP.below {w wr w1 : World} {lo hi H : Nat} {F T : Fr} {M : Nat} {k n : Int} {s : ByteArray} {f : Fr} {A : Option Addr} {cap : Nat} {acc : Fr} {v : Value}
    (h : LsP w lo hi H F T M k n s f A cap acc v wr) (hb : Below wr.heap.size wr w1) : LsP w lo hi H F T M k n s f A cap acc v w1 := by
  obtain ⟨b0, hk, hf, hM, hr, hF, hT, hbw, hs, hH⟩ := h
  exact ⟨b0.below hb (by omega), hk, hf, hM, hr.below hb, hF, hT, hbw.trans (hb.mono hbw.size), Nat.le_trans hs hb.size, hH⟩

theorem fronts_nodes (k : Int) (s : ByteArray) (f : Fr) : nodes (fronts k s f) ≤ nodes f := by
  have all : ∀ N : Nat, ∀ f : Fr, f.size ≤ N → ∀ k s, nodes (fronts k s f) ≤ nodes f := by
    intro N
    induction N with
    | zero =>
      intro f hf k s
      cases f with
      | nil => exact Nat.le_refl _
      | cons _ _ _ _ _ => simp [Fr.size] at hf
    | succ N ih =>
      intro f hf k s
      cases hp : pairB k s f.len
      · rw [(pair_no 0 hp).1]; exact Nat.zero_le _
      · obtain ⟨k1, n1, s1, kd1, k2, n2, s2, kd2, rfl, hfr, _⟩ := pair_yes 0 hp
        rw [hfr]
        simp only [Fr.size] at hf
        have := ih kd2 (by omega) k2 s2
        simp only [nodes]
        omega
  exact all f.size f (Nat.le_refl _) k s

/-- What spec.ListOf answers. -/
def ListRes (w : World) (k n : Int) (s : ByteArray) (f : Fr) (e : Ending) (w' : World) : Prop :=
  Below w.heap.size w w' ∧ ((validT k n s f && listB k n s f) = true ∧ (∃ A cap, e = .returned (.tuple #[.slice A (fronts k s f).len cap, .bool true]) ∧ Made w (fronts k s f) A cap w') ∨
    (validT k n s f && listB k n s f) = false ∧ ∃ A cap, e = .returned (.tuple #[.slice A 0 cap, .bool false]) ∧ cap ≤ maxLen)

end Go.Proofs.YtjmlcgpcjkgnhaaDoor

/- impl.splitList: the elements with which a node begins as a list, and what follows. Condition: the node lies in memory. -/
namespace Go.Proofs.YtjmlcgpcjkgnhaaDoor
open Go.RowKit

/-- The values xs are the nodes of the row f. -/
def NDesc (w : World) (lo hi : Nat) : Fr → List Value → Prop
  | .nil, xs => xs = []
  | .cons k n s kids rest, xs => ∃ x ys, xs = x :: ys ∧ NdV w lo hi k n s kids x ∧ NDesc w lo hi rest ys
section
variable {w w' : World} {lo hi : Nat}
theorem NDesc.len (f : Fr) : ∀ xs, NDesc w lo hi f xs → xs.length = f.len := by
  induction f with
  | nil => rintro xs rfl; rfl
  | cons k n s kids rest _ ih =>
    rintro xs ⟨x, ys, rfl, _, h⟩
    simp only [List.length_cons, Fr.len, ih ys h]
theorem NDesc.snoc (f : Fr) {k n : Int} {s : ByteArray} {kids : Fr} {x : Value} (hx : NdV w lo hi k n s kids x) : ∀ xs, NDesc w lo hi f xs → NDesc w lo hi (f.app (.cons k n s kids .nil)) (xs ++ [x]) := by
  induction f with
  | nil => rintro xs rfl; exact ⟨x, [], rfl, hx, rfl⟩
  | cons k' n' s' kids' rest _ ih =>
    rintro xs ⟨y, ys, rfl, hy, h⟩
    exact ⟨y, _, rfl, hy, ih ys h⟩
theorem NDesc.row {lo' hi' g : Nat} (hk : ∀ p : Addr, lo ≤ p.block → p.block < hi → w'.cell? p = w.cell? p) (hL : lo' ≤ lo) (hH : hi ≤ hi') (f : Fr) : ∀ xs o, NDesc w lo hi f xs → (∀ j u, xs[j]? = some u → w'.cell? ⟨g, o + j, none⟩ = some u) → NdRow w' lo' hi' f g o := by
  induction f with
  | nil => intro xs o _ _; trivial
  | cons k n s kids rest _ ih =>
    rintro xs o ⟨x, ys, rfl, hx, h⟩ hc
    refine ⟨⟨x, hc 0 x rfl, ?_⟩, ih ys (o + 1) h fun j u hu => ?_⟩
    · rcases hx.keep hk hL hH with h | h | ⟨h1, A, cap, h2, h3⟩
      · exact .inl h
      · exact .inr (.inl h)
      · exact .inr (.inr ⟨h1, A, cap, h2, h3.1, h3.2.1, h3.2.2⟩)
    · have := hc (j + 1) u (by simpa using hu)
      rwa [show o + (j + 1) = o + 1 + j by omega] at this
end

/-- What splitList answers. -/
def SplitRes (w : World) (F T : Fr) (e : Ending) (w' : World) : Prop :=
  Below w.heap.size w w' ∧ ∃ A cap v', e = .returned (.tuple #[.slice A F.len cap, v']) ∧ NdS w' 0 w'.heap.size F A cap ∧ ∃ k n s f, T = .cons k n s f .nil ∧ NdV w' 0 w'.heap.size k n s f v'
/-- The loop's relation. -/
def SpP (w : World) (lo hi : Nat) (F T : Fr) (k n : Int) (s : ByteArray) (f : Fr) (x : Value) (acc : Fr) (v : Value) (wr : World) : Prop :=
  NdV w lo hi k n s f x ∧ (∃ xs, wr.ownsRow w.heap.size 49 1 v acc.len xs ∧ NDesc w lo hi acc xs) ∧ acc.app (fronts k s f) = F ∧ tails k n s f = T ∧ Below w.heap.size w wr
/-- What splitList answers, by the blocks: the row is new, the nodes are the old ones. -/
def SplitR2 (w : World) (lo hi : Nat) (F T : Fr) (e : Ending) (w' : World) : Prop :=
  Below w.heap.size w w' ∧ ∃ v v', e = .returned (.tuple #[v, v']) ∧ (∃ xs, w'.ownsRow w.heap.size 49 1 v F.len xs ∧ NDesc w lo hi F xs) ∧ ∃ k n s f, T = .cons k n s f .nil ∧ NdV w lo hi k n s f v'
theorem SpP.fin {w wr : World} {lo hi : Nat} {F T : Fr} {k n : Int} {s : ByteArray} {f : Fr} {x : Value} {acc : Fr} {v : Value} (h : SpP w lo hi F T k n s f x acc v wr) (hp : pairB k s f.len = false) (o : Obj) :
    SplitR2 w lo hi F T (.returned (.tuple #[v, x])) (wr.alloc o) := by
  obtain ⟨hx, ⟨xs, ho, hD⟩, hF, hT, hb⟩ := h
  rw [(pair_no n hp).1, app_nil] at hF
  rw [(pair_no n hp).2] at hT
  subst hF hT
  exact ⟨hb.alloc hb.size o, v, x, rfl, ⟨xs, ho.alloc o, hD⟩, k, n, s, f, rfl, hx⟩
theorem SplitR2.res {w w' : World} {lo hi : Nat} {F T : Fr} {e : Ending} (h : SplitR2 w lo hi F T e w') (hh : hi ≤ w.heap.size) : SplitRes w F T e w' := by
  obtain ⟨hb2, v, x, rfl, ⟨xs, ho2, hD⟩, k, n, s, f, rfl, hx⟩ := h
  have hk : ∀ p : Addr, lo ≤ p.block → p.block < hi → w'.cell? p = w.cell? p := fun p _ hp => hb2.cell (by omega)
  refine ⟨hb2, ?_⟩
  rcases ho2.2 with ⟨rfl, h0⟩ | ⟨g, cap, cur, rfl, hbg, hg, hnc, hcm, hcs, htake⟩
  · have hnil : F = .nil := by
      cases F with
      | nil => rfl
      | cons _ _ _ _ _ => simp [Fr.len] at h0
    subst hnil
    exact ⟨none, 0, x, rfl, ⟨Nat.le_refl _, Nat.zero_le _, fun h => absurd h (Nat.lt_irrefl 0)⟩, k, n, s, f, rfl, hx.keep hk (Nat.zero_le _) (Nat.le_trans hh hb2.size)⟩
  · refine ⟨_, cap, x, rfl, ⟨hnc, hcm, fun _ => ⟨g, rfl, Nat.zero_le _, Blk.lt hg, ?_⟩⟩, k, n, s, f, rfl, hx.keep hk (Nat.zero_le _) (Nat.le_trans hh hb2.size)⟩
    refine NDesc.row hk (Nat.zero_le _) (Nat.le_trans hh hb2.size) F xs 0 hD fun j u hu => ?_
    have h3 := (World.ownsRow.cells ho2 (g := g) rfl) j u hu
    have e : (⟨g, 0, none⟩ : Addr).add j = ⟨g, 0 + j, none⟩ := by unfold Addr.add; split <;> simp_all
    rwa [e] at h3

end Go.Proofs.YtjmlcgpcjkgnhaaDoor

/- impl.ListOf. Condition: the term lies in memory, the table of signs in its variable. -/
namespace Go.Proofs.YtjmlcgpcjkgnhaaDoor
open Go.RowKit

theorem shape_fronts (k n : Int) (s : ByteArray) (f : Fr) (d : Int) (h : shapeT k n s f d = true) : shapeF (fronts k s f) d = true := by
  have all : ∀ N : Nat, ∀ f : Fr, f.size ≤ N → ∀ k n s d, shapeT k n s f d = true → shapeF (fronts k s f) d = true := by
    intro N
    induction N with
    | zero =>
      intro f hf k n s d _
      cases f with
      | nil => rfl
      | cons _ _ _ _ _ => simp [Fr.size] at hf
    | succ N ih =>
      intro f hf k n s d h
      cases hp : pairB k s f.len
      · rw [(pair_no 0 hp).1]; rfl
      · obtain ⟨k1, n1, s1, kd1, k2, n2, s2, kd2, rfl, hfr, _⟩ := pair_yes 0 hp
        rw [hfr, shapeF_cons]
        simp only [Fr.size] at hf
        have h1 := shapeT_kids h
        rw [shapeF_cons, shapeF_cons, Bool.and_eq_true, Bool.and_eq_true] at h1
        have h2 := ih kd2 (by omega) k2 n2 s2 (d - 1) h1.2.1
        rw [Bool.and_eq_true]
        refine ⟨?_, shapeF_mono _ (d - 1) d (by omega) h2⟩
        have h3 : shapeF (.cons k1 n1 s1 kd1 .nil) (d - 1) = true := by rw [shapeF_cons, h1.1]; rfl
        have h4 := shapeF_mono _ (d - 1) d (by omega) h3
        rw [shapeF_cons, Bool.and_eq_true] at h4
        exact h4.1
  exact all f.size f (Nat.le_refl _) k n s d h
theorem validT_shape {k n : Int} {s : ByteArray} {f : Fr} (h : validT k n s f = true) : shapeT k n s f 30 = true := by
  unfold validT at h
  rw [Bool.and_eq_true] at h
  exact h.1


end Go.Proofs.YtjmlcgpcjkgnhaaDoor

/- spec.InstanceOf. Condition: the terms lie in memory. -/
namespace Go.Proofs.YtjmlcgpcjkgnhaaDoor
open Go.RowKit

/-- What both InstanceOf answer. -/
def inB (k n : Int) (s : ByteArray) (f : Fr) (k' n' : Int) (s' : ByteArray) (g : Fr) : Bool := validT k n s f && (validT k' n' s' g && (mtT [] k' n' s' g k n s f).isSome)
/-- Both boxes lie there. -/
def VB (w : World) (a b : Array Value) (wk : World) : Prop := Below w.heap.size w wk ∧ Blk wk w.heap.size 31 a ∧ Blk wk (w.heap.size + 1) 31 b
theorem VB.next {w wk wl : World} {a b : Array Value} (h : VB w a b wk) (hb : Below wk.heap.size wk wl) : VB w a b wl := ⟨h.1.trans (hb.mono h.1.size), h.2.1.below hb h.2.1.lt, h.2.2.below hb h.2.2.lt⟩
theorem VB.drew {w wk : World} {a b : Array Value} (h : VB w a b wk) : VB w a b wk.drew := h.next (Below.refl _ _).drew
theorem VB.cells {w wk : World} {x0 x1 x2 x3 y0 y1 y2 y3 : Value} (h : VB w #[x0, x1, x2, x3] #[y0, y1, y2, y3] wk) : wk.cell? ⟨w.heap.size, 0, none⟩ = some x0 ∧ wk.cell? ⟨w.heap.size, 1, none⟩ = some x1 ∧ wk.cell? ⟨w.heap.size, 2, none⟩ = some x2 ∧ wk.cell? ⟨w.heap.size, 3, none⟩ = some x3 ∧
    wk.cell? ⟨w.heap.size + 1, 0, none⟩ = some y0 ∧ wk.cell? ⟨w.heap.size + 1, 1, none⟩ = some y1 ∧ wk.cell? ⟨w.heap.size + 1, 2, none⟩ = some y2 ∧ wk.cell? ⟨w.heap.size + 1, 3, none⟩ = some y3 := by
  obtain ⟨a0, a1, a2, a3⟩ := cells4i h.2.1
  obtain ⟨b0, b1, b2, b3⟩ := cells4i h.2.2
  exact ⟨a0, a1, a2, a3, b0, b1, b2, b3⟩

/-- The empty table. -/
def kn0 : Array Value := madeCells #[.int .i64 0, .int .i64 0, .string ⟨#[]⟩, .slice none 0 0] 104
theorem run_kn0 (w : World) : (Instr.makeSlice 29 (.int .i64 26) (.int .i64 26)).run Tryd.prog w = .ok (.slice (some ⟨w.heap.size, 0, none⟩) 26 26) (w.alloc (.cells kn0 31)) := by
  obtain ⟨i0, hi0, hz0, hz1, hz2⟩ := info_parts infoT
  have hr := run_make (P := Tryd.prog) w 29 31 i0 _ Tryd.underlying29 hi0 hz0 .i64 .i64 26 26 (by omega) (by omega) (by rw [hz2]; omega) (by omega)
  rw [hz1] at hr
  exact hr
theorem kn0_lies {w1 : World} {g : Nat} (hq : Blk w1 g 31 kn0) (lo hi : Nat) : KnS w1 lo hi g [] := by
  refine ⟨kn0, hq, by simp [kn0, madeCells], fun i hi' => ⟨fun _ => ?_, fun m hm => by cases hm⟩⟩
  have e : (i * 4) % 4 = 0 := by omega
  have e2 : i * 4 < 104 := by omega
  simp [kn0, madeCells, e, e2]

theorem MsRes.one {w w' : World} {lo hi g : Nat} {r : Option St} {e : Ending} (h : MsRes w lo hi g r e w') : e = .returned (.bool r.isSome) ∧ Wrote [g] w w' := by
  refine ⟨?_, h.1⟩
  rcases h.2 with ⟨st', rfl, rfl, _⟩ | ⟨rfl, rfl⟩
  · rfl
  · rfl

end Go.Proofs.YtjmlcgpcjkgnhaaDoor

/- Rows of bindings (a number and a term each): where they lie, and what a call owns. No condition. -/
namespace Go.Proofs.YtjmlcgpcjkgnhaaDoor
open Go.RowKit

def InI (n : Int) : Prop := -9223372036854775808 ≤ n ∧ n ≤ 9223372036854775807
/-- The rows ns and f lie in block b from cell o on, each binding in five cells; what it leads to lies in blocks from lo to below hi. -/
def BdAt (w : World) (lo hi : Nat) : List Int → Fr → Nat → Nat → Prop
  | [], .nil, _, _ => True
  | n0 :: ns, .cons k n s kids rest, b, o => InI n0 ∧ Fits k n s ∧ (∃ (A : Option Addr) (cap : Nat),
      (w.cell? ⟨b, o, none⟩ = some (.int .i64 n0) ∧ w.cell? ⟨b, o + 1, none⟩ = some (.int .i64 k) ∧ w.cell? ⟨b, o + 2, none⟩ = some (.int .i64 n) ∧ w.cell? ⟨b, o + 3, none⟩ = some (.string s) ∧ w.cell? ⟨b, o + 4, none⟩ = some (.slice A kids.len cap)) ∧
      KidsAt w lo hi kids A cap) ∧ BdAt w lo hi ns rest b (o + 5)
  | _, _, _, _ => False
def BdS (w : World) (lo hi : Nat) (ns : List Int) (f : Fr) (A : Option Addr) (cap : Nat) : Prop :=
  ns.length = f.len ∧ f.len ≤ cap ∧ cap ≤ maxLen ∧ (0 < f.len → ∃ b o, A = some ⟨b, o, none⟩ ∧ lo ≤ b ∧ b < hi ∧ BdAt w lo hi ns f b o)
section
variable {w w' : World} {lo hi lo' hi' : Nat}
theorem BdAt.keep (hk : ∀ p : Addr, lo ≤ p.block → p.block < hi → w'.cell? p = w.cell? p) : ∀ (ns : List Int) (f : Fr) (b o : Nat), lo ≤ b → b < hi → BdAt w lo hi ns f b o → BdAt w' lo hi ns f b o
  | [], .nil, _, _, _, _, _ => trivial
  | n0 :: ns, .cons k n s kids rest, b, o, hl, hb, h => by
    obtain ⟨h0, hf, ⟨A, cap, ⟨c0, c1, c2, c3, c4⟩, hkid⟩, hr⟩ := h
    exact ⟨h0, hf, ⟨A, cap, ⟨(hk _ hl hb).trans c0, (hk _ hl hb).trans c1, (hk _ hl hb).trans c2, (hk _ hl hb).trans c3, (hk _ hl hb).trans c4⟩, hkid.keep hk⟩, BdAt.keep hk ns rest b (o + 5) hl hb hr⟩
  | [], .cons _ _ _ _ _, _, _, _, _, h => h.elim
  | _ :: _, .nil, _, _, _, _, h => h.elim
theorem BdAt.more (hL : lo' ≤ lo) (hH : hi ≤ hi') : ∀ (ns : List Int) (f : Fr) (b o : Nat), BdAt w lo hi ns f b o → BdAt w lo' hi' ns f b o
  | [], .nil, _, _, _ => trivial
  | n0 :: ns, .cons k n s kids rest, b, o, h => by
    obtain ⟨h0, hf, ⟨A, cap, hc, hkid⟩, hr⟩ := h
    exact ⟨h0, hf, ⟨A, cap, hc, hkid.more hL hH⟩, BdAt.more hL hH ns rest b (o + 5) hr⟩
  | [], .cons _ _ _ _ _, _, _, h => h.elim
  | _ :: _, .nil, _, _, h => h.elim
theorem BdS.keep {ns : List Int} {f : Fr} {A : Option Addr} {cap : Nat} (h : BdS w lo hi ns f A cap) (hk : ∀ p : Addr, lo ≤ p.block → p.block < hi → w'.cell? p = w.cell? p) : BdS w' lo hi ns f A cap :=
  ⟨h.1, h.2.1, h.2.2.1, fun hp => by
    obtain ⟨b, o, e, hl, hb, hr⟩ := h.2.2.2 hp
    exact ⟨b, o, e, hl, hb, BdAt.keep hk ns f b o hl hb hr⟩⟩
theorem BdS.below {ns : List Int} {f : Fr} {A : Option Addr} {cap B : Nat} (h : BdS w lo hi ns f A cap) (hb : Below B w w') (hB : hi ≤ B) : BdS w' lo hi ns f A cap := h.keep fun p _ hp => hb.cell (by omega)
theorem BdS.more {ns : List Int} {f : Fr} {A : Option Addr} {cap : Nat} (h : BdS w lo hi ns f A cap) (hL : lo' ≤ lo) (hH : hi ≤ hi') : BdS w lo' hi' ns f A cap :=
  ⟨h.1, h.2.1, h.2.2.1, fun hp => by
    obtain ⟨b, o, e, hl, hb, hr⟩ := h.2.2.2 hp
    exact ⟨b, o, e, by omega, by omega, hr.more hL hH⟩⟩
/-- Binding i. -/
theorem BdAt.elem : ∀ (i : Nat) (ns : List Int) (f : Fr) (b o : Nat) {k n : Int} {s : ByteArray} {kids rest : Fr}, BdAt w lo hi ns f b o → f.drop i = .cons k n s kids rest →
    InI (ns.getD i 0) ∧ Fits k n s ∧ ∃ (A : Option Addr) (cap : Nat), w.cell? ⟨b, o + i * 5, none⟩ = some (.int .i64 (ns.getD i 0)) ∧ w.cell? ⟨b, o + i * 5 + 1, none⟩ = some (.int .i64 k) ∧ w.cell? ⟨b, o + i * 5 + 2, none⟩ = some (.int .i64 n) ∧ w.cell? ⟨b, o + i * 5 + 3, none⟩ = some (.string s) ∧ w.cell? ⟨b, o + i * 5 + 4, none⟩ = some (.slice A kids.len cap) ∧ KidsAt w lo hi kids A cap
  | _, [], .nil, _, _, _, _, _, _, _, _, hd => by rename_i i _ _ _ _ _ _ _ _; cases i <;> cases hd
  | 0, n0 :: ns, .cons k n s kids rest, b, o, _, _, _, _, _, h, hd => by
    obtain ⟨h0, hf, ⟨A, cap, ⟨c0, c1, c2, c3, c4⟩, hkid⟩, hr⟩ := h
    injection hd with e1 e2 e3 e4 e5
    subst e1 e2 e3 e4
    exact ⟨h0, hf, A, cap, c0, c1, c2, c3, c4, hkid⟩
  | i + 1, n0 :: ns, .cons k n s kids rest, b, o, _, _, _, _, _, h, hd => by
    obtain ⟨_, _, _, hr⟩ := h
    have h1 := BdAt.elem i ns rest b (o + 5) hr hd
    rw [show o + 5 + i * 5 = o + (i + 1) * 5 by omega] at h1
    exact h1
  | _, [], .cons _ _ _ _ _, _, _, _, _, _, _, _, h, _ => h.elim
  | _, _ :: _, .nil, _, _, _, _, _, _, _, h, _ => h.elim
end

/-- Rows of bindings that a call made: the terms' rows lie in just the blocks L. -/
def OwnB (w : World) : List Int → Fr → Nat → Nat → List Nat → Prop
  | [], .nil, _, _, L => L = []
  | n0 :: ns, .cons k n s kids rest, b, o, L => ∃ (A : Option Addr) (cap : Nat) (L1 L2 : List Nat), L = L1 ++ L2 ∧ InI n0 ∧ Fits k n s ∧
      (w.cell? ⟨b, o, none⟩ = some (.int .i64 n0) ∧ w.cell? ⟨b, o + 1, none⟩ = some (.int .i64 k) ∧ w.cell? ⟨b, o + 2, none⟩ = some (.int .i64 n) ∧ w.cell? ⟨b, o + 3, none⟩ = some (.string s) ∧ w.cell? ⟨b, o + 4, none⟩ = some (.slice A kids.len cap)) ∧
      OwnS w kids A cap L1 ∧ OwnB w ns rest b (o + 5) L2
  | _, _, _, _, _ => False
section
variable {w w' : World}
theorem OwnB.keep : ∀ (ns : List Int) (f : Fr) (b o : Nat) (L : List Nat), OwnB w ns f b o L → (∀ j, j < f.len * 5 → w'.cell? ⟨b, o + j, none⟩ = w.cell? ⟨b, o + j, none⟩) → (∀ x ∈ L, w'.heap[x]? = w.heap[x]?) → OwnB w' ns f b o L
  | [], .nil, _, _, _, h, _, _ => h
  | n0 :: ns, .cons k n s kids rest, b, o, L, h, hc, hL => by
    obtain ⟨A, cap, L1, L2, rfl, h0, hf, ⟨c0, c1, c2, c3, c4⟩, ho, hr⟩ := h
    simp only [Fr.len] at hc
    refine ⟨A, cap, L1, L2, rfl, h0, hf, ⟨(hc 0 (by omega)).trans c0, (hc 1 (by omega)).trans c1, (hc 2 (by omega)).trans c2, (hc 3 (by omega)).trans c3, (hc 4 (by omega)).trans c4⟩, ho.keep fun x hx => hL x (by simp [hx]), OwnB.keep ns rest b (o + 5) L2 hr (fun j hj => ?_) fun x hx => hL x (by simp [hx])⟩
    have := hc (5 + j) (by omega)
    rwa [← Nat.add_assoc] at this
  | [], .cons _ _ _ _ _, _, _, _, h, _, _ => h.elim
  | _ :: _, .nil, _, _, _, h, _, _ => h.elim
theorem OwnB.snoc {n1 k n : Int} {s : ByteArray} {kids : Fr} {A : Option Addr} {cap : Nat} {L' : List Nat} (h1 : InI n1) (hf : Fits k n s) (hs : OwnS w kids A cap L') : ∀ (ns : List Int) (f : Fr) (b o : Nat) (L : List Nat), OwnB w ns f b o L →
    w.cell? ⟨b, o + f.len * 5, none⟩ = some (.int .i64 n1) → w.cell? ⟨b, o + f.len * 5 + 1, none⟩ = some (.int .i64 k) → w.cell? ⟨b, o + f.len * 5 + 2, none⟩ = some (.int .i64 n) → w.cell? ⟨b, o + f.len * 5 + 3, none⟩ = some (.string s) → w.cell? ⟨b, o + f.len * 5 + 4, none⟩ = some (.slice A kids.len cap) →
    OwnB w (ns ++ [n1]) (f.app (.cons k n s kids .nil)) b o (L ++ L')
  | [], .nil, b, o, L, h, c0, c1, c2, c3, c4 => by
    have h' : L = [] := h
    subst h'
    exact ⟨A, cap, L', [], by simp, h1, hf, ⟨c0, c1, c2, c3, c4⟩, hs, rfl⟩
  | n0 :: ns, .cons k' n' s' kids' rest', b, o, L, h, c0, c1, c2, c3, c4 => by
    obtain ⟨A', cap', L1, L2, rfl, h0', hf', hc', ho', hr⟩ := h
    have e : o + (Fr.cons k' n' s' kids' rest').len * 5 = o + 5 + rest'.len * 5 := by simp only [Fr.len]; omega
    rw [e] at c0 c1 c2 c3 c4
    exact ⟨A', cap', L1, L2 ++ L', by simp, h0', hf', hc', ho', OwnB.snoc h1 hf hs ns rest' b (o + 5) L2 hr c0 c1 c2 c3 c4⟩
  | [], .cons _ _ _ _ _, _, _, _, h, _, _, _, _, _ => h.elim
  | _ :: _, .nil, _, _, _, h, _, _, _, _, _ => h.elim
theorem OwnB.row {lo hi : Nat} : ∀ (ns : List Int) (f : Fr) (b o : Nat) (L : List Nat), OwnB w ns f b o L → (∀ x ∈ L, lo ≤ x ∧ x < hi) → BdAt w lo hi ns f b o
  | [], .nil, _, _, _, _, _ => trivial
  | n0 :: ns, .cons k n s kids rest, b, o, L, h, hL => by
    obtain ⟨A, cap, L1, L2, rfl, h0, hf, hc, ho, hr⟩ := h
    exact ⟨h0, hf, ⟨A, cap, hc, ho.kids fun x hx => hL x (by simp [hx])⟩, OwnB.row ns rest b (o + 5) L2 hr fun x hx => hL x (by simp [hx])⟩
  | [], .cons _ _ _ _ _, _, _, _, h, _ => h.elim
  | _ :: _, .nil, _, _, _, h, _ => h.elim
theorem OwnB.lt : ∀ (ns : List Int) (f : Fr) (b o : Nat) (L : List Nat), OwnB w ns f b o L → ∀ x ∈ L, x < w.heap.size
  | [], .nil, _, _, L, h, x, hx => by
    have h' : L = [] := h
    subst h'
    cases hx
  | n0 :: ns, .cons k n s kids rest, b, o, L, h, x, hx => by
    obtain ⟨A, cap, L1, L2, rfl, h0, hf, hc, ho, hr⟩ := h
    rcases List.mem_append.1 hx with h | h
    · exact ho.lt x h
    · exact OwnB.lt ns rest b (o + 5) L2 hr x h
  | [], .cons _ _ _ _ _, _, _, _, h, _, _ => h.elim
  | _ :: _, .nil, _, _, _, h, _, _ => h.elim
end
/-- The slice value owns the rows, in the blocks L. -/
def OwnBS (w : World) (ns : List Int) (f : Fr) (A : Option Addr) (cap : Nat) (L : List Nat) : Prop :=
  ns.length = f.len ∧ f.len ≤ cap ∧ cap ≤ maxLen ∧ ∃ b L' cs, A = some ⟨b, 0, none⟩ ∧ L = b :: L' ∧ Blk w b 46 cs ∧ cs.size = cap * 5 ∧ OwnB w ns f b 0 L'
theorem OwnBS.keep {w w' : World} {ns : List Int} {f : Fr} {A : Option Addr} {cap : Nat} {L : List Nat} (h : OwnBS w ns f A cap L) (hL : ∀ x ∈ L, w'.heap[x]? = w.heap[x]?) : OwnBS w' ns f A cap L := by
  obtain ⟨h1, h2, h3, b, L', cs, rfl, rfl, hb, hs, ho⟩ := h
  have hblk := hL b (by simp)
  exact ⟨h1, h2, h3, b, L', cs, rfl, rfl, hb.keep hblk, hs, OwnB.keep ns f b 0 L' ho (fun j _ => World.cell?_of_block (a := ⟨b, 0 + j, none⟩) hblk) fun x hx => hL x (by simp [hx])⟩
theorem OwnBS.below {w w' : World} {ns : List Int} {f : Fr} {A : Option Addr} {cap B : Nat} {L : List Nat} (h : OwnBS w ns f A cap L) (hb : Below B w w') (hL : ∀ x ∈ L, x < B) : OwnBS w' ns f A cap L := h.keep fun x hx => hb.block x (hL x hx)
theorem OwnBS.binds {w : World} {ns : List Int} {f : Fr} {A : Option Addr} {cap lo hi : Nat} {L : List Nat} (h : OwnBS w ns f A cap L) (hL : ∀ x ∈ L, lo ≤ x ∧ x < hi) : BdS w lo hi ns f A cap := by
  obtain ⟨h1, h2, h3, b, L', cs, rfl, rfl, hb, hs, ho⟩ := h
  exact ⟨h1, h2, h3, fun _ => ⟨b, 0, rfl, (hL b (by simp)).1, (hL b (by simp)).2, OwnB.row ns f b 0 L' ho fun x hx => hL x (by simp [hx])⟩⟩
theorem OwnBS.lt {w : World} {ns : List Int} {f : Fr} {A : Option Addr} {cap : Nat} {L : List Nat} (h : OwnBS w ns f A cap L) : ∀ x ∈ L, x < w.heap.size := by
  obtain ⟨h1, h2, h3, b, L', cs, rfl, rfl, hb, hs, ho⟩ := h
  intro x hx
  rcases List.mem_cons.1 hx with rfl | hx
  · exact hb.lt
  · exact OwnB.lt ns f b 0 L' ho x hx
/-- What a call leaves that made a row of bindings. -/
def MadeB (w : World) (ns : List Int) (f : Fr) (A : Option Addr) (cap : Nat) (w' : World) : Prop :=
  ∃ L, OwnBS w' ns f A cap L ∧ L.Nodup ∧ (∀ x ∈ L, w.heap.size ≤ x ∧ x < w'.heap.size) ∧ Below w.heap.size w w'
theorem binds_of_made {w w' : World} {ns : List Int} {f : Fr} {A : Option Addr} {cap : Nat} (h : MadeB w ns f A cap w') : BdS w' w.heap.size w'.heap.size ns f A cap ∧ Below w.heap.size w w' := by
  obtain ⟨L, ho, _, hL, hb⟩ := h
  exact ⟨ho.binds hL, hb⟩
end Go.Proofs.YtjmlcgpcjkgnhaaDoor

/- Rows of bindings that a call makes by append. No condition. -/
namespace Go.Proofs.YtjmlcgpcjkgnhaaDoor
open Go.RowKit

/-- The cells xs read as the rows ns and f, whose terms' arguments lie in the blocks L. -/
def DescB (w : World) : List Int → Fr → List Value → List Nat → Prop
  | [], .nil, xs, L => xs = [] ∧ L = []
  | n0 :: ns, .cons k n s kids rest, xs, L => ∃ (A : Option Addr) (cap : Nat) (L1 L2 : List Nat) (ys : List Value), xs = .int .i64 n0 :: .int .i64 k :: .int .i64 n :: .string s :: .slice A kids.len cap :: ys ∧ L = L1 ++ L2 ∧ InI n0 ∧ Fits k n s ∧ OwnS w kids A cap L1 ∧ DescB w ns rest ys L2
  | _, _, _, _ => False
section
variable {w w' : World}
theorem DescB.keep : ∀ (ns : List Int) (f : Fr) (xs : List Value) (L : List Nat), DescB w ns f xs L → (∀ x ∈ L, w'.heap[x]? = w.heap[x]?) → DescB w' ns f xs L
  | [], .nil, _, _, h, _ => h
  | n0 :: ns, .cons k n s kids rest, xs, L, h, hL => by
    obtain ⟨A, cap, L1, L2, ys, rfl, rfl, h0, hf, ho, hd⟩ := h
    exact ⟨A, cap, L1, L2, ys, rfl, rfl, h0, hf, ho.keep fun x hx => hL x (by simp [hx]), DescB.keep ns rest ys L2 hd fun x hx => hL x (by simp [hx])⟩
  | [], .cons _ _ _ _ _, _, _, h, _ => h.elim
  | _ :: _, .nil, _, _, h, _ => h.elim
theorem DescB.snoc {n1 k n : Int} {s : ByteArray} {kids : Fr} {A : Option Addr} {cap : Nat} {L' : List Nat} (h1 : InI n1) (hf : Fits k n s) (hs : OwnS w kids A cap L') :
    ∀ (ns : List Int) (f : Fr) (xs : List Value) (L : List Nat), DescB w ns f xs L → DescB w (ns ++ [n1]) (f.app (.cons k n s kids .nil)) (xs ++ [.int .i64 n1, .int .i64 k, .int .i64 n, .string s, .slice A kids.len cap]) (L ++ L')
  | [], .nil, _, _, h => by
    obtain ⟨rfl, rfl⟩ := h
    exact ⟨A, cap, L', [], [], rfl, by simp, h1, hf, hs, rfl, rfl⟩
  | n0 :: ns, .cons k' n' s' kids' rest', _, _, h => by
    obtain ⟨A', cap', L1, L2, ys, rfl, rfl, h0, hf', ho, hd⟩ := h
    exact ⟨A', cap', L1, L2 ++ L', _, rfl, by simp, h0, hf', ho, DescB.snoc h1 hf hs ns rest' ys L2 hd⟩
  | [], .cons _ _ _ _ _, _, _, h => h.elim
  | _ :: _, .nil, _, _, h => h.elim
theorem DescB.own {g : Nat} : ∀ (ns : List Int) (f : Fr) (xs : List Value) (L : List Nat) (o : Nat), DescB w ns f xs L → (∀ j u, xs[j]? = some u → w.cell? ⟨g, o + j, none⟩ = some u) → OwnB w ns f g o L
  | [], .nil, _, _, _, h, _ => h.2
  | n0 :: ns, .cons k n s kids rest, _, _, o, h, hc => by
    obtain ⟨A, cap, L1, L2, ys, rfl, rfl, h0, hf, ho, hd⟩ := h
    refine ⟨A, cap, L1, L2, rfl, h0, hf, ⟨hc 0 _ rfl, hc 1 _ rfl, hc 2 _ rfl, hc 3 _ rfl, hc 4 _ rfl⟩, ho, DescB.own ns rest ys L2 (o + 5) hd fun j u hu => ?_⟩
    have := hc (j + 5) u (by simpa using hu)
    rwa [show o + (j + 5) = o + 5 + j by omega] at this
  | [], .cons _ _ _ _ _, _, _, _, h, _ => h.elim
  | _ :: _, .nil, _, _, _, h, _ => h.elim
theorem DescB.len : ∀ (ns : List Int) (f : Fr) (xs : List Value) (L : List Nat), DescB w ns f xs L → ns.length = f.len
  | [], .nil, _, _, _ => rfl
  | n0 :: ns, .cons k n s kids rest, _, _, h => by
    obtain ⟨A, cap, L1, L2, ys, rfl, rfl, h0, hf, ho, hd⟩ := h
    simp only [List.length_cons, Fr.len, DescB.len ns rest ys L2 hd]
  | [], .cons _ _ _ _ _, _, _, h => h.elim
  | _ :: _, .nil, _, _, h => h.elim
/-- The slice v reads as the rows ns and f; its block and those of the terms are the call's own, from base on. -/
def RowB (base : Nat) (v : Value) (ns : List Int) (f : Fr) (w : World) : Prop :=
  ∃ xs L, w.ownsRow base 46 5 v f.len xs ∧ DescB w ns f xs L ∧ L.Nodup ∧ (∀ x ∈ L, base ≤ x ∧ x < w.heap.size) ∧ (∀ g, v.ownBlock = some g → g ∉ L)
variable {base : Nat} {v : Value} {ns : List Int} {f : Fr}
theorem RowB.empty {w : World} (hb : base ≤ w.heap.size) : RowB base (.slice (some ⟨w.heap.size, 0, none⟩) 0 0) [] .nil (w.alloc (.cells #[] 46)) :=
  ⟨[], [], ⟨rfl, .inr ⟨w.heap.size, 0, #[], rfl, hb, heap_alloc_new w _, Nat.le_refl _, Nat.zero_le _, rfl, rfl⟩⟩, ⟨rfl, rfl⟩, List.nodup_nil, fun x hx => by simp at hx, fun g hg => by simp⟩
theorem RowB.below (h : RowB base v ns f w) (hb : Below w.heap.size w w') : RowB base v ns f w' := by
  obtain ⟨xs, L, ho, hd, hn, hL, hv⟩ := h
  refine ⟨xs, L, ho.kept (row := none) ⟨hb.os, hb.tape, hb.output, hb.size, fun k hk _ => hb.block k hk⟩ ?_, DescB.keep ns f xs L hd fun x hx => hb.block x (hL x hx).2, hn, fun x hx => ⟨(hL x hx).1, Nat.lt_of_lt_of_le (hL x hx).2 hb.size⟩, hv⟩
  cases h : v.ownBlock with
  | none => exact .inl rfl
  | some g => exact .inr (by simp)
theorem RowB.own {A : Option Addr} {cap : Nat} {m : Nat} (h : RowB base (.slice A m cap) ns f w) (hA : A ≠ none) : ∃ L, OwnBS w ns f A cap L ∧ L.Nodup ∧ ∀ x ∈ L, base ≤ x ∧ x < w.heap.size := by
  obtain ⟨xs, L, ho, hd, hn, hL, hv⟩ := h
  rcases ho.2 with ⟨h0, h1⟩ | ⟨g, cap', cur, h0, hbg, hg, hnc, hcm, hcs, htake⟩
  · injection h0 with h0 h2 h3
    exact (hA h0).elim
  · injection h0 with h0 h2 h3
    subst h0 h2 h3
    have hgl := Blk.lt hg
    refine ⟨g :: L, ⟨DescB.len ns f xs L hd, hnc, hcm, g, L, cur, rfl, rfl, hg, hcs, DescB.own ns f xs L 0 hd fun j u hu => ?_⟩, List.nodup_cons.2 ⟨hv g rfl, hn⟩, fun x hx => ?_⟩
    · have h3 := (World.ownsRow.cells ho (g := g) rfl) j u hu
      have e : (⟨g, 0, none⟩ : Addr).add j = ⟨g, 0 + j, none⟩ := by unfold Addr.add; split <;> simp_all
      rwa [e] at h3
    · rcases List.mem_cons.1 hx with rfl | hx
      · exact ⟨hbg, hgl⟩
      · exact hL x hx
/-- One binding more: the term was made behind w, the append stands at w2. -/
theorem RowB.step {w1 w2 w3 : World} {xs : List Value} {L : List Nat} {n1 k n : Int} {s : ByteArray} {kids : Fr} {A : Option Addr} {cap cap' g m : Nat}
    (hm0 : f.len = m) (hD : DescB w ns f xs L) (hN : L.Nodup) (hL : ∀ x ∈ L, base ≤ x ∧ x < w.heap.size) (hv : ∀ g, v.ownBlock = some g → g ∉ L) (hvl : ∀ g, v.ownBlock = some g → g < w.heap.size) (hbase : base ≤ w.heap.size)
    (hi : InI n1) (hf : Fits k n s) (hm : Made w kids A cap w1) (hb2 : Below w1.heap.size w1 w2) (hg : w2.grownBy w3 v.ownBlock)
    (ho : w3.ownsRow base 46 5 (.slice (some ⟨g, 0, none⟩) (m + 1) cap') (m + 1) (xs ++ [.int .i64 n1, .int .i64 k, .int .i64 n, .string s, .slice A kids.len cap])) (hat : v.ownBlock = some g ∨ g = w2.heap.size) :
    RowB base (.slice (some ⟨g, 0, none⟩) (m + 1) cap') (ns ++ [n1]) (f.app (.cons k n s kids .nil)) w3 := by
  subst hm0
  obtain ⟨L', how, hn', hL', hb1⟩ := hm
  have h12 : w.heap.size ≤ w2.heap.size := Nat.le_trans hb1.size hb2.size
  have far : ∀ x, x < w1.heap.size → (∀ g, v.ownBlock = some g → x ≠ g) → w3.heap[x]? = w1.heap[x]? := fun x hx hne =>
    (hg.block x (Nat.lt_of_lt_of_le hx hb2.size) fun e => hne x e.symm rfl).trans (hb2.block x hx)
  have hlen : (f.app (.cons k n s kids .nil)).len = f.len + 1 := by rw [Fr.len_app]; rfl
  refine ⟨_, L ++ L', by rw [hlen]; exact ho, DescB.snoc hi hf (how.keep fun x hx => far x (hL' x hx).2 fun g hg e => ?_) ns f xs L (DescB.keep ns f xs L hD fun x hx => ?_), List.nodup_append.2 ⟨hN, hn', fun a ha b hb e => ?_⟩, fun x hx => ?_, fun g' hg' hx => ?_⟩
  · have := hvl g hg; have := (hL' x hx).1; omega
  · rw [far x (Nat.lt_of_lt_of_le (hL x hx).2 hb1.size) fun g hg e => hv g hg (e ▸ hx)]
    exact hb1.block x (hL x hx).2
  · have := (hL a ha).2; have := (hL' b hb).1; omega
  · have hs3 := hg.size
    have := hb2.size
    rcases List.mem_append.1 hx with hx | hx
    · have := hL x hx; omega
    · have := hL' x hx; omega
  · have e : g = g' := by simpa [Value.ownBlock] using hg'
    subst e
    have := hb2.size
    rcases hat with h | rfl
    · rcases List.mem_append.1 hx with hx | hx
      · exact hv g h hx
      · have := hvl g h; have := (hL' g hx).1; omega
    · rcases List.mem_append.1 hx with hx | hx
      · have := (hL _ hx).2; omega
      · have := (hL' _ hx).2; omega
theorem RowB.done {A : Option Addr} {cap m : Nat} {w0 : World} (h : RowB base (.slice A m cap) ns f w) (hA : A ≠ none) (hb : Below w0.heap.size w0 w) (hbase : w0.heap.size ≤ base) : MadeB w0 ns f A cap w := by
  obtain ⟨L, ho, hn, hL⟩ := h.own hA
  exact ⟨L, ho, hn, fun x hx => ⟨Nat.le_trans hbase (hL x hx).1, (hL x hx).2⟩, hb⟩
end
end Go.Proofs.YtjmlcgpcjkgnhaaDoor

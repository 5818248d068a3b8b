/- spec.ListOf: the elements of a list, copied. Condition: the term lies in memory. -/
import Derived.Test.YtihmgodiiohdnaaGreatDoorProg
import Derived.Test.YtihmgodiiohdnaaGreatDoorCopy
import Derived.Test.YtihmgodiiohdnaaGreatDoorPair
import Derived.Test.YtihmgodiiohdnaaGreatDoorTb
namespace Go.Proofs.YtihmgodiiohdnaaGreatDoor
open Go.RowKit

def lenOf : Value → Nat | .slice _ n _ => n | _ => 0

/-- The loop's relation: the term that is looked at lies in block H; its elements before it are copied into the row v. -/
def LsP (w : World) (lo hi H : Nat) (F T : Fr) (M : Nat) (k n : Int) (s : ByteArray) (f : Fr) (A : Option Addr) (cap : Nat) (acc : Fr) (v : Value) (wr : World) : Prop :=
  Blk wr H 30 #[.int .i64 k, .int .i64 n, .string s, .slice A f.len cap] ∧ KidsAt w lo hi f A cap ∧ Fits k n s ∧ nodes f ≤ M ∧ RowP (H + 1) v acc wr ∧ acc.app (fronts k s f) = F ∧ tails k n s f = T ∧ Below w.heap.size w wr ∧ H + 1 ≤ wr.heap.size ∧ w.heap.size ≤ H

theorem LsP.step {w wr w1 w2 w3 w4 : World} {lo hi H : Nat} {F T : Fr} {M : Nat} {k n : Int} {s : ByteArray} {k1 n1 k2 n2 : Int} {s1 s2 : ByteArray} {kd1 kd2 : Fr} {A : Option Addr} {cap : Nat} {acc : Fr} {v : Value} {xs : List Value} {L : List Nat} {A1 A2 : Option Addr} {cap1 cap2 g cap4 : Nat}
    (h : LsP w lo hi H F T M k n s (.cons k1 n1 s1 kd1 (.cons k2 n2 s2 kd2 .nil)) A cap acc v wr) (hp : pairB k s 2 = true) (hD : Desc w1 acc xs L) (hN : L.Nodup) (hL : ∀ x ∈ L, H + 1 ≤ x ∧ x < w1.heap.size) (hv : ∀ g, v.ownBlock = some g → g ∉ L) (hvl : ∀ g, v.ownBlock = some g → H + 1 ≤ g ∧ g < w1.heap.size)
    (hb1 : Below wr.heap.size wr w1) (hf1 : Fits k1 n1 s1) (hm : Made w1 kd1 A1 cap1 w2) (hb3 : Below w2.heap.size w2 w3) (hg : w3.grownBy w4 v.ownBlock)
    (ho : w4.ownsRow (H + 1) 30 4 (.slice (some ⟨g, 0, none⟩) (acc.len + 1) cap4) (acc.len + 1) (xs ++ [.int .i64 k1, .int .i64 n1, .string s1, .slice A1 kd1.len cap1])) (hat : v.ownBlock = some g ∨ g = w3.heap.size)
    (hf2 : Fits k2 n2 s2) (hk2 : KidsAt w lo hi kd2 A2 cap2) :
    LsP w lo hi H F T M k2 n2 s2 kd2 A2 cap2 (acc.app (.cons k1 n1 s1 kd1 .nil)) (.slice (some ⟨g, 0, none⟩) (acc.len + 1) cap4) ((((w4.setCell ⟨H, 0, none⟩ (.int .i64 k2)).setCell ⟨H, 1, none⟩ (.int .i64 n2)).setCell ⟨H, 2, none⟩ (.string s2)).setCell ⟨H, 3, none⟩ (.slice A2 kd2.len cap2)) := by
  obtain ⟨b0, hk, hf, hM, hr, hF, hT, hb, hs, hH⟩ := h
  have hm' := hm
  obtain ⟨_, _, _, _, hb2⟩ := hm'
  have s1' := hb1.size
  have s2' := hb2.size
  have s3' := hb3.size
  have s4' := hg.size
  have far : w4.heap[H]? = wr.heap[H]? := by
    rw [hg.block H (by omega) fun e => by have := (hvl H e.symm).1; omega, hb3.block H (by omega), hb2.block H (by omega), hb1.block H (by omega)]
  have hbw : Below w.heap.size w w4 := by
    have h1 := hb1.trans ((hb2.trans (hb3.mono hb2.size)).mono hb1.size)
    have h2 := hb.trans (h1.mono hb.size)
    refine h2.grown hg h2.size fun g hg => ?_
    have := (hvl g hg).1; omega
  have hst := RowP.step (base := H + 1) hD hN hL hv (fun g hg => (hvl g hg).2) (by omega) hf1 hm hb3 hg ho hat
  have hF' : (acc.app (.cons k1 n1 s1 kd1 .nil)).app (fronts k2 s2 kd2) = F := by
    rw [← hF, fronts, if_pos hp, app_assoc]; rfl
  have hT' : tails k2 n2 s2 kd2 = T := by rw [← hT, tails, if_pos hp]
  have hM' : nodes kd2 ≤ M := by simp only [nodes] at hM; omega
  refine ⟨((((b0.keep far).set_ 0 _).set_ 1 _).set_ 2 _).set_ 3 _, hk2, hf2, hM', (((hst.set_ (by simp) _).set_ (by simp) _).set_ (by simp) _).set_ (by simp) _, hF', hT', (((hbw.setCell hH _).setCell hH _).setCell hH _).setCell hH _, ?_, hH⟩
  simp only [World.setCell, Array.size_modify]
  omega

theorem LsP.below {w wr w1 : World} {lo hi H : Nat} {F T : Fr} {M : Nat} {k n : Int} {s : ByteArray} {f : Fr} {A : Option Addr} {cap : Nat} {acc : Fr} {v : Value}
    (h : LsP w lo hi H F T M k n s f A cap acc v wr) (hb : Below wr.heap.size wr w1) : LsP w lo hi H F T M k n s f A cap acc v w1 := by
  obtain ⟨b0, hk, hf, hM, hr, hF, hT, hbw, hs, hH⟩ := h
  exact ⟨b0.below hb (by omega), hk, hf, hM, hr.below hb, hF, hT, hbw.trans (hb.mono hbw.size), Nat.le_trans hs hb.size, hH⟩

theorem fronts_nodes (k : Int) (s : ByteArray) (f : Fr) : nodes (fronts k s f) ≤ nodes f := by
  have all : ∀ N : Nat, ∀ f : Fr, f.size ≤ N → ∀ k s, nodes (fronts k s f) ≤ nodes f := by
    intro N
    induction N with
    | zero =>
      intro f hf k s
      cases f with
      | nil => exact Nat.le_refl _
      | cons _ _ _ _ _ => simp [Fr.size] at hf
    | succ N ih =>
      intro f hf k s
      cases hp : pairB k s f.len
      · rw [(pair_no 0 hp).1]; exact Nat.zero_le _
      · obtain ⟨k1, n1, s1, kd1, k2, n2, s2, kd2, rfl, hfr, _⟩ := pair_yes 0 hp
        rw [hfr]
        simp only [Fr.size] at hf
        have := ih kd2 (by omega) k2 s2
        simp only [nodes]
        omega
  exact all f.size f (Nat.le_refl _) k s

/-- What spec.ListOf answers. -/
def ListRes (w : World) (k n : Int) (s : ByteArray) (f : Fr) (e : Ending) (w' : World) : Prop :=
  Below w.heap.size w w' ∧ ((validT k n s f && listB k n s f) = true ∧ (∃ A cap, e = .returned (.tuple #[.slice A (fronts k s f).len cap, .bool true]) ∧ Made w (fronts k s f) A cap w') ∨
    (validT k n s f && listB k n s f) = false ∧ ∃ A cap, e = .returned (.tuple #[.slice A 0 cap, .bool false]) ∧ cap ≤ maxLen)

end Go.Proofs.YtihmgodiiohdnaaGreatDoor

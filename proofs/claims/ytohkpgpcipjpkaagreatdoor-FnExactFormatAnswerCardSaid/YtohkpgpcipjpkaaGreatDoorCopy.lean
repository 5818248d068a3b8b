/- spec.l1Copy: a deep copy of a term. Condition: the term lies in memory. -/
import Derived.Test.YtohkpgpcipjpkaaGreatDoorProg
import Derived.Test.YtohkpgpcipjpkaaGreatDoorTo
import Derived.Test.YtohkpgpcipjpkaaGreatDoorRowP
import Derived.Test.YtohkpgpcipjpkaaGreatDoorImplV
import Derived.Test.YtohkpgpcipjpkaaGreatDoorSpecC
import Derived.Deep.RegionLaw
namespace Go.Proofs.YtohkpgpcipjpkaaGreatDoor
open Go.RowKit

/-- The loop's relation: j arguments are copied; the box of the argument, the result's and the copy's blocks lie at H, H + 1, H + 2. -/
def CpP (w : World) (k n : Int) (s : ByteArray) (f : Fr) (A : Option Addr) (cap H j : Nat) (v : Value) (wr : World) : Prop :=
  Blk wr H 44 #[.int .i64 k, .int .i64 n, .string s, .slice A f.len cap] ∧ Blk wr (H + 1) 44 #[.int .i64 0, .int .i64 0, .string ⟨#[]⟩, .slice none 0 0] ∧
  Blk wr (H + 1 + 1) 44 #[.int .i64 k, .int .i64 n, .string s, v] ∧ RowP (H + 1 + 1 + 1) v (f.take j) wr ∧ Below w.heap.size w wr ∧ H + 1 + 1 + 1 ≤ wr.heap.size ∧ w.heap.size ≤ H

theorem CpP.step {w wr w1 w2 w4 : World} {k n : Int} {s : ByteArray} {f : Fr} {A : Option Addr} {cap H j : Nat} {v : Value} {xs : List Value} {L : List Nat} {kk nn : Int} {s' : ByteArray} {kids rest : Fr} {A' : Option Addr} {cap' g cap4 : Nat}
    (h : CpP w k n s f A cap H j v wr) (hd : f.drop j = .cons kk nn s' kids rest) (hj : j < f.len) (hD : Desc wr (f.take j) xs L) (hN : L.Nodup) (hL : ∀ x ∈ L, H + 1 + 1 + 1 ≤ x ∧ x < wr.heap.size) (hv : ∀ g, v.ownBlock = some g → g ∉ L)
    (hvl : ∀ g, v.ownBlock = some g → H + 1 + 1 + 1 ≤ g ∧ g < wr.heap.size) (hf : Fits kk nn s') (hm : Made wr kids A' cap' w1) (hb2 : Below w1.heap.size w1 w2) (hg : w2.grownBy w4 v.ownBlock)
    (ho : w4.ownsRow (H + 1 + 1 + 1) 44 4 (.slice (some ⟨g, 0, none⟩) (j + 1) cap4) (j + 1) (xs ++ [.int .i64 kk, .int .i64 nn, .string s', .slice A' kids.len cap'])) (hat : v.ownBlock = some g ∨ g = w2.heap.size) :
    CpP w k n s f A cap H (j + 1) (.slice (some ⟨g, 0, none⟩) (j + 1) cap4) (w4.setCell ⟨H + 1 + 1, 3, none⟩ (.slice (some ⟨g, 0, none⟩) (j + 1) cap4)) := by
  obtain ⟨b0, b1, b2, hr, hb, hs, hH⟩ := h
  have hlen : (f.take j).len = j := Fr.len_take j f (by omega)
  have hm' := hm
  obtain ⟨_, _, _, _, hb1⟩ := hm'
  have far : ∀ x, x < H + 1 + 1 + 1 → w4.heap[x]? = wr.heap[x]? := fun x hx => by
    have h1 := hb1.size
    have h2 := hb2.size
    rw [hg.block x (by omega) fun e => by have := (hvl x e.symm).1; omega, hb2.block x (by omega), hb1.block x (by omega)]
  have hbw : Below w.heap.size w w4 := by
    have h1 := hb1.trans (hb2.mono hb1.size)
    have h2 := hb.trans (h1.mono hb.size)
    refine h2.grown hg h2.size fun g hg => ?_
    have := (hvl g hg).1; omega
  have hst := RowP.step (base := H + 1 + 1 + 1) hD hN hL hv (fun g hg => (hvl g hg).2) hs hf hm hb2 hg (by rw [hlen]; exact ho) hat
  rw [hlen, ← Fr.take_succ j f hd] at hst
  refine ⟨(b0.keep (far H (by omega))).far (by simp; omega) _, (b1.keep (far (H + 1) (by omega))).far (by simp) _, (b2.keep (far (H + 1 + 1) (by omega))).set_ 3 _, hst.set_ (by simp) _, hbw.setCell (by simp; omega) _, ?_, hH⟩
  have h1 := hb1.size
  have h2 := hb2.size
  have h3 := hg.size
  simp only [World.setCell, Array.size_modify]
  omega

end Go.Proofs.YtohkpgpcipjpkaaGreatDoor

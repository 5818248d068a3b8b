/- spec.l1Rename: a term with its variables renamed by their places in a list. Condition: the term and the list lie in memory. -/
import Derived.Test.YtohkpgpcipjpkaaGreatDoorProg
import Derived.Test.YtohkpgpcipjpkaaGreatDoorCopy
import Derived.Test.YtohkpgpcipjpkaaGreatDoorVars
import Derived.Deep.RegionLaw
namespace Go.Proofs.YtohkpgpcipjpkaaGreatDoor
open Go.RowKit

/-- The new number of a variable; the row with all variables renamed. -/
def renN (V : List Int) (k n : Int) : Int := if k = 1 ∧ n ∈ V then (V.idxOf n : Int) else n
def renF (V : List Int) : Fr → Fr
  | .nil => .nil
  | .cons k n s kids rest => .cons k (renN V k n) s (renF V kids) (renF V rest)
theorem renF_len (V : List Int) (f : Fr) : (renF V f).len = f.len := by
  induction f with
  | nil => rfl
  | cons _ _ _ _ _ _ ih => simp only [renF, Fr.len, ih]
theorem renF_nodes (V : List Int) (f : Fr) : nodes (renF V f) = nodes f := by
  induction f with
  | nil => rfl
  | cons _ _ _ _ _ ihk ih => simp only [renF, nodes, ih, ihk]
theorem renF_drop (V : List Int) (f : Fr) : ∀ j, (renF V f).drop j = renF V (f.drop j) := by
  induction f with
  | nil => intro j; cases j <;> rfl
  | cons _ _ _ _ _ _ ih =>
    intro j
    cases j with
    | zero => rfl
    | succ j => exact ih j
theorem renF_take (V : List Int) (f : Fr) : ∀ j, (renF V f).take j = renF V (f.take j) := by
  induction f with
  | nil => intro j; cases j <;> rfl
  | cons _ _ _ _ _ _ ih =>
    intro j
    cases j with
    | zero => rfl
    | succ j => simp only [renF, Fr.take, ih]
/-- What the first loop has put, behind j rounds. -/
def midN (V : List Int) (k n : Int) (j : Nat) : Int := if k = 1 ∧ n ∈ V.take j then (V.idxOf n : Int) else n
theorem midN_all (V : List Int) (k n : Int) : midN V k n V.length = renN V k n := by unfold midN renN; rw [List.take_length]
theorem midN_other (V : List Int) (k n : Int) (j : Nat) (h : k ≠ 1) : midN V k n j = renN V k n := by unfold midN renN; rw [if_neg (fun e => h e.1), if_neg (fun e => h e.1)]
theorem midN_zero (V : List Int) (k n : Int) : midN V k n 0 = n := by unfold midN; rw [List.take_zero, if_neg (by simp)]
theorem midN_hit (V : List Int) (hV : V.Nodup) (n : Int) (j : Nat) (hj : j < V.length) (h : V.getD j 0 = n) : midN V 1 n (j + 1) = (j : Int) := by
  have e : V[j] = n := by rw [← h]; simp [List.getD, List.getElem?_eq_getElem hj]
  unfold midN
  rw [if_pos]
  · rw [← e, hV.idxOf_getElem j hj]
  · refine ⟨rfl, ?_⟩
    rw [List.take_add_one, List.getElem?_eq_getElem hj, List.mem_append]
    exact .inr (List.mem_singleton.2 e.symm)
theorem midN_miss (V : List Int) (n : Int) (j : Nat) (hj : j < V.length) (h : V.getD j 0 ≠ n) : midN V 1 n (j + 1) = midN V 1 n j := by
  have e : V[j] ≠ n := by
    intro e
    apply h
    rw [← e]; simp [List.getD, List.getElem?_eq_getElem hj]
  unfold midN
  have e2 : (n ∈ V.take (j + 1)) ↔ n ∈ V.take j := by
    rw [List.take_add_one, List.getElem?_eq_getElem hj, List.mem_append]
    exact ⟨fun h => h.elim id fun h => absurd (List.mem_singleton.1 h).symm e, .inl⟩
  simp only [e2]

theorem renN_fits {k n : Int} {s : ByteArray} (V : List Int) (h : Fits k n s) (hV : V.length ≤ 2097152) : Fits k (renN V k n) s := by
  obtain ⟨h1, h2, h3⟩ := h
  refine ⟨h1, ?_, h3⟩
  unfold renN
  split
  · rename_i hh
    have := List.idxOf_lt_length_iff.2 hh.2
    omega
  · exact h2
/-- The loop's relation: j arguments are copied; the box of the argument, the result's and the copy's blocks lie at H, H + 1, H + 2. -/
def RnP (w : World) (k n m : Int) (s : ByteArray) (len : Nat) (f : Fr) (A : Option Addr) (cap H j : Nat) (v : Value) (wr : World) : Prop :=
  Blk wr H 44 #[.int .i64 k, .int .i64 n, .string s, .slice A len cap] ∧ Blk wr (H + 1) 44 #[.int .i64 0, .int .i64 0, .string ⟨#[]⟩, .slice none 0 0] ∧
  Blk wr (H + 1 + 1) 44 #[.int .i64 k, .int .i64 m, .string s, v] ∧ RowP (H + 1 + 1 + 1) v (f.take j) wr ∧ Below w.heap.size w wr ∧ H + 1 + 1 + 1 ≤ wr.heap.size ∧ w.heap.size ≤ H

theorem RnP.step {w wr w1 w2 w4 : World} {k n m : Int} {s : ByteArray} {len : Nat} {f : Fr} {A : Option Addr} {cap H j : Nat} {v : Value} {xs : List Value} {L : List Nat} {kk nn : Int} {s' : ByteArray} {kids rest : Fr} {A' : Option Addr} {cap' g cap4 : Nat}
    (h : RnP w k n m s len f A cap H j v wr) (hd : f.drop j = .cons kk nn s' kids rest) (hj : j < f.len) (hD : Desc wr (f.take j) xs L) (hN : L.Nodup) (hL : ∀ x ∈ L, H + 1 + 1 + 1 ≤ x ∧ x < wr.heap.size) (hv : ∀ g, v.ownBlock = some g → g ∉ L)
    (hvl : ∀ g, v.ownBlock = some g → H + 1 + 1 + 1 ≤ g ∧ g < wr.heap.size) (hf : Fits kk nn s') (hm : Made wr kids A' cap' w1) (hb2 : Below w1.heap.size w1 w2) (hg : w2.grownBy w4 v.ownBlock)
    (ho : w4.ownsRow (H + 1 + 1 + 1) 44 4 (.slice (some ⟨g, 0, none⟩) (j + 1) cap4) (j + 1) (xs ++ [.int .i64 kk, .int .i64 nn, .string s', .slice A' kids.len cap'])) (hat : v.ownBlock = some g ∨ g = w2.heap.size) :
    RnP w k n m s len f A cap H (j + 1) (.slice (some ⟨g, 0, none⟩) (j + 1) cap4) (w4.setCell ⟨H + 1 + 1, 3, none⟩ (.slice (some ⟨g, 0, none⟩) (j + 1) cap4)) := by
  obtain ⟨b0, b1, b2, hr, hb, hs, hH⟩ := h
  have hlen : (f.take j).len = j := Fr.len_take j f (by omega)
  have hm' := hm
  obtain ⟨_, _, _, _, hb1⟩ := hm'
  have far : ∀ x, x < H + 1 + 1 + 1 → w4.heap[x]? = wr.heap[x]? := fun x hx => by
    have h1 := hb1.size
    have h2 := hb2.size
    rw [hg.block x (by omega) fun e => by have := (hvl x e.symm).1; omega, hb2.block x (by omega), hb1.block x (by omega)]
  have hbw : Below w.heap.size w w4 := by
    have h1 := hb1.trans (hb2.mono hb1.size)
    have h2 := hb.trans (h1.mono hb.size)
    refine h2.grown hg h2.size fun g hg => ?_
    have := (hvl g hg).1; omega
  have hst := RowP.step (base := H + 1 + 1 + 1) hD hN hL hv (fun g hg => (hvl g hg).2) hs hf hm hb2 hg (by rw [hlen]; exact ho) hat
  rw [hlen, ← Fr.take_succ j f hd] at hst
  refine ⟨(b0.keep (far H (by omega))).far (by simp; omega) _, (b1.keep (far (H + 1) (by omega))).far (by simp) _, (b2.keep (far (H + 1 + 1) (by omega))).set_ 3 _, hst.set_ (by simp) _, hbw.setCell (by simp; omega) _, ?_, hH⟩
  have h1 := hb1.size
  have h2 := hb2.size
  have h3 := hg.size
  simp only [World.setCell, Array.size_modify]
  omega


theorem RnP.below {w wr w1 : World} {k n m : Int} {s : ByteArray} {len : Nat} {f : Fr} {A : Option Addr} {cap H j : Nat} {v : Value} (h : RnP w k n m s len f A cap H j v wr) (hb : Below wr.heap.size wr w1) : RnP w k n m s len f A cap H j v w1 := by
  obtain ⟨b0, b1, b2, hr, hbw, hs, hH⟩ := h
  exact ⟨b0.below hb b0.lt, b1.below hb b1.lt, b2.below hb b2.lt, hr.below hb, hbw.trans (hb.mono hbw.size), Nat.le_trans hs hb.size, hH⟩
theorem RnP.put {w wr : World} {k n m : Int} {s : ByteArray} {len : Nat} {f : Fr} {A : Option Addr} {cap H j : Nat} {v : Value} (h : RnP w k n m s len f A cap H j v wr) (x : Int) : RnP w k n x s len f A cap H j v (wr.setCell ⟨H + 1 + 1, 1, none⟩ (.int .i64 x)) := by
  obtain ⟨b0, b1, b2, hr, hbw, hs, hH⟩ := h
  exact ⟨b0.far (by simp; omega) _, b1.far (by simp) _, b2.set_ 1 _, hr.set_ (by simp) _, hbw.setCell (by simp; omega) _, by simpa [World.setCell] using hs, hH⟩

end Go.Proofs.YtohkpgpcipjpkaaGreatDoor

/- impl's node maker: makeNode and makeStructure. Condition: the term lies in memory, the maker's count in a block of its own, the table of signs in its variable. -/
import Derived.Test.YtejflpmecpmhkaaProg
import Derived.Test.YtejflpmecpmhkaaNode
import Derived.Test.YtejflpmecpmhkaaSpecC
import Derived.Test.YtejflpmecpmhkaaNvProof
import Derived.OwnWalk
namespace Go.Proofs.Ytejflpmecpmhkaa
open Go.RowKit

theorem kids_grown {w w1 : World} {f : Fr} {A : Option Addr} {cap lo hi mb : Nat} (h : KidsAt w lo hi f A cap) (hg : w.grownBy w1 (some mb)) (hh : hi ≤ w.heap.size) (hm : hi ≤ mb) : KidsAt w1 lo hi f A cap :=
  h.keep fun p _ hp => cell_grownBy hg (by omega) (by omega)

def okS (n : Int) (s : ByteArray) (kids : Fr) (d l : Int) : Bool := (n == 0) && (nv.nameB s.data.toList && (decide (kids.len ≤ 4) && okF kids (d + 1) l))
theorem okT_three (n : Int) (s : ByteArray) (kids : Fr) (d left : Int) (hd : d ≤ 30) : okT 3 n s kids d left = okS n s kids d (left - 1) := by
  unfold okT okS okF shapeT ownB
  rw [show (31 : Int) - (d + 1) = 31 - d - 1 by omega, decide_eq_true (show 1 ≤ 31 - d by omega), Bool.eq_iff_iff]
  simp only [Bool.and_eq_true, Bool.or_eq_true, decide_eq_true_eq, beq_iff_eq]
  constructor
  · rintro ⟨⟨_, ((⟨h, _⟩ | ⟨h, _⟩) | ⟨_, ⟨⟨h1, h2⟩, h3⟩⟩), h4⟩, h5⟩
    · omega
    · omega
    · exact ⟨h1, h2, h3, h4, by omega⟩
  · rintro ⟨h1, h2, h3, h4, h5⟩
    exact ⟨⟨trivial, .inr ⟨trivial, ⟨⟨h1, h2⟩, h3⟩⟩, h4⟩, by omega⟩

theorem okF_range (f : Fr) (d l : Int) (h : okF f d l = true) : (nodes f : Int) ≤ l := by
  unfold okF at h
  rw [Bool.and_eq_true, decide_eq_true_iff] at h
  exact h.2
theorem okT_range (k n : Int) (s : ByteArray) (f : Fr) (d l : Int) (h : okT k n s f d l = true) : (nodes f : Int) + 1 ≤ l := by
  unfold okT at h
  rw [Bool.and_eq_true, decide_eq_true_iff] at h
  exact h.2
end Go.Proofs.Ytejflpmecpmhkaa

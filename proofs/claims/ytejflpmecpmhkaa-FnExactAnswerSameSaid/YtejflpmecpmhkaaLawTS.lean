/- The law FnExactTermSame, walked. Condition: both arguments lie in memory. -/
import Derived.Test.YtejflpmecpmhkaaProg
import Derived.Test.YtejflpmecpmhkaaSame
import Derived.Test.YtejflpmecpmhkaaSameS
import Derived.Deep.RegionHeld3
namespace Go.Proofs.Ytejflpmecpmhkaa
open Go.RowKit

theorem cells4 {w : World} {g : Nat} {t : TypeId} {a b c d : Value} (h : Blk w g t #[a, b, c, d]) :
    w.cell? ⟨g, 0, none⟩ = some a ∧ w.cell? ⟨g, 1, none⟩ = some b ∧ w.cell? ⟨g, 2, none⟩ = some c ∧ w.cell? ⟨g, 3, none⟩ = some d := ⟨h.cell 0, h.cell 1, h.cell 2, h.cell 3⟩
theorem nodes_le_wt (f : Fr) : nodes f ≤ f.len + wt f := by
  induction f with
  | nil => exact Nat.le_refl _
  | cons k n s kids rest h1 h2 => simp only [nodes, Fr.len, wt]; omega
theorem kids_of_made {w w' : World} {f : Fr} {A : Option Addr} {cap : Nat} (h : Made w f A cap w') : KidsAt w' w.heap.size w'.heap.size f A cap ∧ Below w.heap.size w w' := by
  obtain ⟨L, ho, _, hL, hb⟩ := h
  exact ⟨ho.kids hL, hb⟩

/-- What stands throughout the law: nothing old is written, the two boxes are as they were. -/
def LW (w : World) (ca cb : Array Value) (w' : World) : Prop :=
  Below w.heap.size w w' ∧ Blk w' w.heap.size 40 ca ∧ Blk w' (w.heap.size + 1) 40 cb
theorem LW.start (w : World) (ca cb : Array Value) : LW w ca cb ((w.alloc (.cells ca 40)).alloc (.cells cb 40)) := by
  refine ⟨two_alloc w _ _, (Blk.new w _ ca).alloc _, ?_⟩
  have h := Blk.new (w.alloc (.cells ca 40)) 40 cb
  rwa [show (w.alloc (.cells ca 40)).heap.size = w.heap.size + 1 by simp] at h
theorem LW.next {w w1 w2 : World} {ca cb : Array Value} (h : LW w ca cb w1) (hb : Below w1.heap.size w1 w2) : LW w ca cb w2 :=
  ⟨h.1.trans (hb.mono h.1.size), h.2.1.below hb h.2.1.lt, h.2.2.below hb h.2.2.lt⟩
theorem LW.drew {w w1 : World} {ca cb : Array Value} (h : LW w ca cb w1) : LW w ca cb w1.drew := h.next (Below.refl _ _).drew

theorem two4 {w : World} {g g' : Nat} {t t' : TypeId} {a b c d a' b' c' d' : Value} (h : Blk w g t #[a, b, c, d]) (h' : Blk w g' t' #[a', b', c', d']) :
    w.cell? ⟨g, 0, none⟩ = some a ∧ w.cell? ⟨g, 1, none⟩ = some b ∧ w.cell? ⟨g, 2, none⟩ = some c ∧ w.cell? ⟨g, 3, none⟩ = some d ∧ w.cell? ⟨g', 0, none⟩ = some a' ∧ w.cell? ⟨g', 1, none⟩ = some b' ∧ w.cell? ⟨g', 2, none⟩ = some c' ∧ w.cell? ⟨g', 3, none⟩ = some d' :=
  ⟨h.cell 0, h.cell 1, h.cell 2, h.cell 3, h'.cell 0, h'.cell 1, h'.cell 2, h'.cell 3⟩
theorem lw8 {w w' : World} {a b c d a' b' c' d' : Value} (h : LW w #[a, b, c, d] #[a', b', c', d'] w') :
    w'.cell? ⟨w.heap.size, 0, none⟩ = some a ∧ w'.cell? ⟨w.heap.size, 1, none⟩ = some b ∧ w'.cell? ⟨w.heap.size, 2, none⟩ = some c ∧ w'.cell? ⟨w.heap.size, 3, none⟩ = some d ∧
      w'.cell? ⟨w.heap.size + 1, 0, none⟩ = some a' ∧ w'.cell? ⟨w.heap.size + 1, 1, none⟩ = some b' ∧ w'.cell? ⟨w.heap.size + 1, 2, none⟩ = some c' ∧ w'.cell? ⟨w.heap.size + 1, 3, none⟩ = some d' := by
  have h1 := cells4 h.2.1
  have h2 := cells4 h.2.2
  exact ⟨h1.1, h1.2.1, h1.2.2.1, h1.2.2.2, h2.1, h2.2.1, h2.2.2.1, h2.2.2.2⟩

end Go.Proofs.Ytejflpmecpmhkaa

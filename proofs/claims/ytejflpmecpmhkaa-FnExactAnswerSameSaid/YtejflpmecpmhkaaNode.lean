/- impl's nodes in memory. No condition. -/
import Derived.Test.YtejflpmecpmhkaaOwn
import Derived.Test.YtejflpmecpmhkaaValid
namespace Go.Proofs.Ytejflpmecpmhkaa
open Go.RowKit

section
variable {w w' : World} {lo hi lo' hi' : Nat}
end

theorem grownBy_trans {w w1 w2 : World} {r : Option Nat} (h1 : w.grownBy w1 r) (h2 : w1.grownBy w2 r) : w.grownBy w2 r :=
  ⟨h2.os.trans h1.os, h2.tape.trans h1.tape, h2.output.trans h1.output, Nat.le_trans h1.size h2.size, fun k hk hn => (h2.block k (Nat.lt_of_lt_of_le hk h1.size) hn).trans (h1.block k hk hn)⟩
theorem grownBy_alloc' {w w1 : World} {r : Option Nat} (h : w.grownBy w1 r) (o : Obj) : w.grownBy (w1.alloc o) r := grownBy_trans h (World.grownBy_alloc w1 o r)
theorem grownBy_set {w w1 : World} {r : Option Nat} (h : w.grownBy w1 r) {p : Addr} (hp : w.heap.size ≤ p.block ∨ r = some p.block) (u : Value) : w.grownBy (w1.setCell p u) r :=
  ⟨h.os, h.tape, h.output, by simpa [World.setCell] using h.size, fun k hk hn => by
    have hne : k ≠ p.block := by
      rcases hp with hp | hp
      · omega
      · intro e
        exact hn (by rw [hp, e])
    rw [heap_setCell_other w1 p k u hne]
    exact h.block k hk hn⟩
theorem grownBy_below {w w1 : World} {r : Option Nat} (h : Below w.heap.size w w1) : w.grownBy w1 r := ⟨h.os, h.tape, h.output, h.size, fun k hk _ => h.block k hk⟩
/-- Below what the maker's block is new, nothing that was there has changed. -/
theorem below_grownBy {w w0 w1 : World} {mb : Nat} (h0 : Below w.heap.size w w0) (hm : w.heap.size ≤ mb) (h : w0.grownBy w1 (some mb)) : Below w.heap.size w w1 :=
  ⟨h.os.trans h0.os, h.tape.trans h0.tape, h.output.trans h0.output, Nat.le_trans h0.size h.size, fun k hk => (h.block k (Nat.lt_of_lt_of_le hk h0.size) (by simp; omega)).trans (h0.block k hk)⟩
theorem cell_grownBy {w w1 : World} {mb : Nat} (h : w.grownBy w1 (some mb)) {p : Addr} (hp : p.block < w.heap.size) (hn : p.block ≠ mb) : w1.cell? p = w.cell? p :=
  World.cell?_of_block (h.block p.block hp (by simpa using hn))
theorem Blk.grown {w w1 : World} {mb g : Nat} {t : TypeId} {cs : Array Value} (hb : Blk w g t cs) (h : w.grownBy w1 (some mb)) (hn : g ≠ mb) : Blk w1 g t cs := hb.keep (h.block g hb.lt (by simpa using hn))

end Go.Proofs.Ytejflpmecpmhkaa

/- The model's source of draws, in memory; rows that are made while it is drawn from. No condition. -/
import Derived.Test.YtnkaafimnkigpaaProg
import Derived.Test.YtnkaafimnkigpaaMk
import Derived.Test.YtnkaafimnkigpaaRowP
namespace Go.Proofs.Ytnkaafimnkigpaa
open Go.RowKit

/-- Bytes in memory, in a block before B. -/
def Bts (w : World) (B : Nat) (A : Option Addr) (len : Nat) : Prop :=
  0 < len → ∃ b o, A = some ⟨b, o, none⟩ ∧ b < B ∧ ∀ i, i < len → ∃ n : Int, w.cell? ⟨b, o + i, none⟩ = some (.int .u8 n) ∧ 0 ≤ n ∧ n ≤ 255
theorem Bts.keep {w w' : World} {B : Nat} {A : Option Addr} {len : Nat} (h : Bts w B A len) (hk : ∀ x, x < B → w'.heap[x]? = w.heap[x]?) : Bts w' B A len := fun hp => by
  obtain ⟨b, o, e, hb, hc⟩ := h hp
  exact ⟨b, o, e, hb, fun i hi => by
    obtain ⟨n, h1, h2⟩ := hc i hi
    exact ⟨n, (World.cell?_of_block (a := ⟨b, o + i, none⟩) (hk b hb)).trans h1, h2⟩⟩
/-- The source in block rb: at most N draws were made. -/
def Rd (w : World) (rb N : Nat) : Prop :=
  ∃ (A : Option Addr) (len cap p : Nat), Blk w rb 32 #[.slice A len cap, .int .i64 (p : Int)] ∧ Bts w rb A len ∧ len ≤ 2000 ∧ p ≤ N
theorem Rd.lt {w : World} {rb N : Nat} (h : Rd w rb N) : rb < w.heap.size := by
  obtain ⟨_, _, _, _, h, _⟩ := h
  exact h.lt
theorem Rd.keep {w w' : World} {rb N : Nat} (h : Rd w rb N) (hk : ∀ x, x ≤ rb → w'.heap[x]? = w.heap[x]?) : Rd w' rb N := by
  obtain ⟨A, len, cap, p, h1, h2, h3, h4⟩ := h
  exact ⟨A, len, cap, p, h1.keep (hk rb (Nat.le_refl _)), h2.keep fun x hx => hk x (by omega), h3, h4⟩
theorem Rd.below {w w' : World} {rb N : Nat} (h : Rd w rb N) (hb : Below w.heap.size w w') : Rd w' rb N := h.keep fun x hx => hb.block x (by have := h.lt; omega)
theorem Rd.more {w : World} {rb N N' : Nat} (h : Rd w rb N) (hN : N ≤ N') : Rd w rb N' := by
  obtain ⟨A, len, cap, p, h1, h2, h3, h4⟩ := h
  exact ⟨A, len, cap, p, h1, h2, h3, by omega⟩
theorem Rd.set_ {w : World} {rb N : Nat} (h : Rd w rb N) {p : Addr} (hp : rb < p.block) (u : Value) : Rd (w.setCell p u) rb N := h.keep fun x hx => heap_setCell_other w p x u (by omega)
section
variable {w w' : World} {base rb : Nat} {v : Value} {f : Fr}
end
/-- What a drawn number leaves. -/
def PkR (w : World) (rb N : Nat) (n : Int) (e : Ending) (w' : World) : Prop := ∃ k : Int, e = .returned (.int .i64 k) ∧ 0 ≤ k ∧ k < n ∧ Rd w' rb (N + 1) ∧ Wrote [rb] w w'
end Go.Proofs.Ytnkaafimnkigpaa

/- The states of a law whose answer is a row of integers and whose argument is a term. No condition. -/
import Derived.Test.YtlapdnllncoomaaDoorProg
import Derived.Test.YtlapdnllncoomaaDoorInts
import Derived.Test.YtlapdnllncoomaaDoorTb
namespace Go.Proofs.YtlapdnllncoomaaDoor
open Go.RowKit

/-- The state of the law behind the call of impl's function: the argument's box at H, the copy's box at H6, the model's answer, the copy and the program's answer. -/
def Ci6 (w : World) (H : Nat) (cs : Array Value) (H6 : Nat) (cs6 : Array Value) (G : List Int) (lw hw : Nat) (vw : Value) (f : Fr) (Ax : Option Addr) (capx : Nat) (Lx : List Nat) (lg : Nat) (vg : Value) (wk : World) : Prop :=
  Blk wk H 24 cs ∧ Blk wk H6 29 cs6 ∧ OwnI wk lw vw G ∧ OwnS wk f Ax capx Lx ∧ OwnI wk lg vg G ∧ Below w.heap.size w wk ∧ (∀ x ∈ ownV vw, x < hw) ∧ (∀ x ∈ Lx, hw ≤ x ∧ x < H6) ∧ Lx.Nodup ∧ (w.heap.size ≤ H ∧ H < lw ∧ lw ≤ hw ∧ hw ≤ H6 ∧ H6 < lg)
theorem Ci6.below {w : World} {H : Nat} {cs : Array Value} {H6 : Nat} {cs6 : Array Value} {G : List Int} {lw hw : Nat} {vw : Value} {f : Fr} {Ax : Option Addr} {capx : Nat} {Lx : List Nat} {lg : Nat} {vg : Value} {wk wl : World}
    (h : Ci6 w H cs H6 cs6 G lw hw vw f Ax capx Lx lg vg wk) (hb : Below wk.heap.size wk wl) : Ci6 w H cs H6 cs6 G lw hw vw f Ax capx Lx lg vg wl := by
  obtain ⟨b0, b6, hk, ho, hg, hw', h1⟩ := h
  exact ⟨b0.below hb b0.lt, b6.below hb b6.lt, hk.below hb, ho.below hb ho.lt, hg.below hb, hw'.trans (hb.mono hw'.size), h1⟩
/-- Behind the copy's marks. -/
def Ci10 (w : World) (H : Nat) (cs : Array Value) (G : List Int) (lw hw : Nat) (vw : Value) (lg : Nat) (vg : Value) (wk : World) : Prop :=
  Blk wk H 24 cs ∧ OwnI wk lw vw G ∧ OwnI wk lg vg G ∧ Below w.heap.size w wk ∧ (∀ x ∈ ownV vw, x < hw) ∧ (w.heap.size ≤ H ∧ H < lg ∧ hw ≤ lg)
theorem Ci6.mark {w : World} {H : Nat} {cs : Array Value} {H6 : Nat} {cs6 : Array Value} {G : List Int} {lw hw : Nat} {vw : Value} {f : Fr} {Ax : Option Addr} {capx : Nat} {Lx : List Nat} {lg : Nat} {vg : Value} {wk wl : World}
    (h : Ci6 w H cs H6 cs6 G lw hw vw f Ax capx Lx lg vg wk) (hb : Wrote Lx wk wl) : Ci10 w H cs G lw hw vw lg vg wl := by
  obtain ⟨b0, b6, hk, ho, hg, hw', h1, h2, h3, h4, h5, h6, h7, h8⟩ := h
  have hgl := hg.lt
  refine ⟨hb.blk b0 fun e => ?_, hk.keep hb fun x hx e => ?_, hg.keep hb fun x hx e => ?_, hw'.trans (hb.below hw'.size fun x e => ?_), h1, h4, by omega, by omega⟩
  · have := (h2 _ e).1; omega
  · have := (h2 _ e).1; have := h1 x hx; omega
  · have := (h2 _ e).2; have := (hgl x hx).1; omega
  · have := (h2 _ e).1; omega
theorem Ci10.below {w : World} {H : Nat} {cs : Array Value} {G : List Int} {lw hw : Nat} {vw : Value} {lg : Nat} {vg : Value} {wk wl : World}
    (h : Ci10 w H cs G lw hw vw lg vg wk) (hb : Below wk.heap.size wk wl) : Ci10 w H cs G lw hw vw lg vg wl := by
  obtain ⟨b0, hk, hg, hw', h1⟩ := h
  exact ⟨b0.below hb b0.lt, hk.below hb, hg.below hb, hw'.trans (hb.mono hw'.size), h1⟩
/-- Behind the answer's marks. -/
def Ci12 (w : World) (H : Nat) (cs : Array Value) (G : List Int) (lw : Nat) (vw : Value) (lg : Nat) (vg : Value) (wk : World) : Prop :=
  Blk wk H 24 cs ∧ OwnI wk lw vw G ∧ OwnI wk lg vg (mkI 1 G.length) ∧ Below w.heap.size w wk
theorem Ci10.mark {w : World} {H : Nat} {cs : Array Value} {G : List Int} {lw hw : Nat} {vw : Value} {lg : Nat} {vg : Value} {wk wl : World}
    (h : Ci10 w H cs G lw hw vw lg vg wk) (hb : Wrote (ownV vg) wk wl) (ho : OwnI wl lg vg (mkI 1 G.length)) : Ci12 w H cs G lw vw lg vg wl := by
  obtain ⟨b0, hk, hg, hw', h1, h2, h3, h4⟩ := h
  have hgl := hg.lt
  refine ⟨hb.blk b0 fun e => ?_, hk.keep hb fun x hx e => ?_, ho, hw'.trans (hb.below hw'.size fun x e => ?_)⟩
  · have := (hgl _ e).1; omega
  · have := (hgl _ e).1; have := h1 x hx; omega
  · have := (hgl _ e).1; omega
theorem Ci12.below {w : World} {H : Nat} {cs : Array Value} {G : List Int} {lw : Nat} {vw : Value} {lg : Nat} {vg : Value} {wk wl : World}
    (h : Ci12 w H cs G lw vw lg vg wk) (hb : Below wk.heap.size wk wl) : Ci12 w H cs G lw vw lg vg wl := by
  obtain ⟨b0, hk, hg, hw'⟩ := h
  exact ⟨b0.below hb b0.lt, hk.below hb, hg.below hb, hw'.trans (hb.mono hw'.size)⟩
end Go.Proofs.YtlapdnllncoomaaDoor

/- The model's source of draws, in memory; rows that are made while it is drawn from. No condition. -/
import Derived.Test.YtihmgodiiohdnaaGreatDoorProg
import Derived.Test.YtihmgodiiohdnaaGreatDoorMk
import Derived.Test.YtihmgodiiohdnaaGreatDoorRowP
namespace Go.Proofs.YtihmgodiiohdnaaGreatDoor
open Go.RowKit

/-- Bytes in memory, in a block before B. -/
def Bts (w : World) (B : Nat) (A : Option Addr) (len : Nat) : Prop :=
  0 < len → ∃ b o, A = some ⟨b, o, none⟩ ∧ b < B ∧ ∀ i, i < len → ∃ n : Int, w.cell? ⟨b, o + i, none⟩ = some (.int .u8 n) ∧ 0 ≤ n ∧ n ≤ 255
theorem Bts.keep {w w' : World} {B : Nat} {A : Option Addr} {len : Nat} (h : Bts w B A len) (hk : ∀ x, x < B → w'.heap[x]? = w.heap[x]?) : Bts w' B A len := fun hp => by
  obtain ⟨b, o, e, hb, hc⟩ := h hp
  exact ⟨b, o, e, hb, fun i hi => by
    obtain ⟨n, h1, h2⟩ := hc i hi
    exact ⟨n, (World.cell?_of_block (a := ⟨b, o + i, none⟩) (hk b hb)).trans h1, h2⟩⟩
/-- The source in block rb: at most N draws were made. -/
def Rd (w : World) (rb N : Nat) : Prop :=
  ∃ (A : Option Addr) (len cap p : Nat), Blk w rb 72 #[.slice A len cap, .int .i64 (p : Int)] ∧ Bts w rb A len ∧ len ≤ 2000 ∧ p ≤ N
theorem Rd.lt {w : World} {rb N : Nat} (h : Rd w rb N) : rb < w.heap.size := by
  obtain ⟨_, _, _, _, h, _⟩ := h
  exact h.lt
theorem Rd.keep {w w' : World} {rb N : Nat} (h : Rd w rb N) (hk : ∀ x, x ≤ rb → w'.heap[x]? = w.heap[x]?) : Rd w' rb N := by
  obtain ⟨A, len, cap, p, h1, h2, h3, h4⟩ := h
  exact ⟨A, len, cap, p, h1.keep (hk rb (Nat.le_refl _)), h2.keep fun x hx => hk x (by omega), h3, h4⟩
theorem Rd.below {w w' : World} {rb N : Nat} (h : Rd w rb N) (hb : Below w.heap.size w w') : Rd w' rb N := h.keep fun x hx => hb.block x (by have := h.lt; omega)
theorem Rd.more {w : World} {rb N N' : Nat} (h : Rd w rb N) (hN : N ≤ N') : Rd w rb N' := by
  obtain ⟨A, len, cap, p, h1, h2, h3, h4⟩ := h
  exact ⟨A, len, cap, p, h1, h2, h3, by omega⟩
theorem Rd.set_ {w : World} {rb N : Nat} (h : Rd w rb N) {p : Addr} (hp : rb < p.block) (u : Value) : Rd (w.setCell p u) rb N := h.keep fun x hx => heap_setCell_other w p x u (by omega)
/-- What a call leaves that drew: a row in new blocks; but for the source nothing that was there is written. -/
def MadeW (rb : Nat) (w : World) (f : Fr) (A : Option Addr) (cap : Nat) (w' : World) : Prop :=
  ∃ L, OwnS w' f A cap L ∧ L.Nodup ∧ (∀ x ∈ L, w.heap.size ≤ x ∧ x < w'.heap.size) ∧ Wrote [rb] w w'
theorem MadeW.wrote {rb : Nat} {w w' : World} {f : Fr} {A : Option Addr} {cap : Nat} (h : MadeW rb w f A cap w') : Wrote [rb] w w' := by
  obtain ⟨_, _, _, _, h⟩ := h
  exact h
theorem Made.w {rb : Nat} {w w' : World} {f : Fr} {A : Option Addr} {cap : Nat} (h : Made w f A cap w') : MadeW rb w f A cap w' := by
  obtain ⟨L, h1, h2, h3, h4⟩ := h
  exact ⟨L, h1, h2, h3, .of_below h4 _⟩
theorem MadeW.up {rb : Nat} {w w1 w2 : World} {f : Fr} {A : Option Addr} {cap : Nat} (h : MadeW rb w1 f A cap w2) (hw : Wrote [rb] w w1) : MadeW rb w f A cap w2 := by
  obtain ⟨L, h1, h2, h3, h4⟩ := h
  exact ⟨L, h1, h2, fun x hx => ⟨Nat.le_trans hw.size (h3 x hx).1, (h3 x hx).2⟩, hw.trans h4⟩
/-- What is drawn later leaves it. -/
theorem MadeW.on {rb : Nat} {w w1 w2 : World} {f : Fr} {A : Option Addr} {cap : Nat} (h : MadeW rb w f A cap w1) (hr : rb < w.heap.size) (hw : Wrote [rb] w1 w2) : MadeW rb w f A cap w2 := by
  obtain ⟨L, h1, h2, h3, h4⟩ := h
  exact ⟨L, h1.wrote hw fun x hx e => by simp at e; have := (h3 x hx).1; omega, h2, fun x hx => ⟨(h3 x hx).1, Nat.lt_of_lt_of_le (h3 x hx).2 hw.size⟩, h4.trans hw⟩
theorem MadeW.kids {rb : Nat} {w w1 : World} {f : Fr} {A : Option Addr} {cap : Nat} (h : MadeW rb w f A cap w1) : KidsAt w1 w.heap.size w1.heap.size f A cap := by
  obtain ⟨L, h1, _, h3, _⟩ := h
  exact h1.kids h3

section
variable {w w' : World} {base rb : Nat} {v : Value} {f : Fr}
theorem RowP.wrote (h : RowP base v f w) (hr : rb < base) (hw : Wrote [rb] w w') : RowP base v f w' := by
  obtain ⟨xs, L, ho, hd, hn, hL, hv⟩ := h
  have hlt := ho.lt
  refine ⟨xs, L, ⟨ho.1, ?_⟩, hd.keep f xs L fun x hx => hw.block x (hL x hx).2 (by simp; have := (hL x hx).1; omega), hn, fun x hx => ⟨(hL x hx).1, Nat.lt_of_lt_of_le (hL x hx).2 hw.size⟩, hv⟩
  rcases ho.2 with h | ⟨g, cap, cur, rfl, hg, hh, hr'⟩
  · exact .inl h
  · exact .inr ⟨g, cap, cur, rfl, hg, (hw.block g (hlt g rfl).2 (by simp; omega)).trans hh, hr'⟩
/-- One term more: the kids were drawn behind w, the append stands at w2. -/
theorem RowP.stepW {w1 w2 w3 : World} {xs : List Value} {L : List Nat} {k n : Int} {s : ByteArray} {kids : Fr} {A : Option Addr} {cap cap' g : Nat} (hr : rb < base)
    (hD : Desc w f xs L) (hN : L.Nodup) (hL : ∀ x ∈ L, base ≤ x ∧ x < w.heap.size) (hv : ∀ g, v.ownBlock = some g → g ∉ L) (hvl : ∀ g, v.ownBlock = some g → g < w.heap.size) (hbase : base ≤ w.heap.size)
    (hf : Fits k n s) (hm : MadeW rb w kids A cap w1) (hb2 : Below w1.heap.size w1 w2) (hg : w2.grownBy w3 v.ownBlock)
    (ho : w3.ownsRow base 30 4 (.slice (some ⟨g, 0, none⟩) (f.len + 1) cap') (f.len + 1) (xs ++ [.int .i64 k, .int .i64 n, .string s, .slice A kids.len cap])) (hat : v.ownBlock = some g ∨ g = w2.heap.size) :
    RowP base (.slice (some ⟨g, 0, none⟩) (f.len + 1) cap') (f.app (.cons k n s kids .nil)) w3 := by
  obtain ⟨L', how, hn', hL', hb1⟩ := hm
  have h12 : w.heap.size ≤ w2.heap.size := Nat.le_trans hb1.size hb2.size
  have far : ∀ x, x < w1.heap.size → (∀ g, v.ownBlock = some g → x ≠ g) → w3.heap[x]? = w1.heap[x]? := fun x hx hne =>
    (hg.block x (Nat.lt_of_lt_of_le hx hb2.size) fun e => hne x e.symm rfl).trans (hb2.block x hx)
  have hlen : (f.app (.cons k n s kids .nil)).len = f.len + 1 := by rw [Fr.len_app]; rfl
  refine ⟨_, L ++ L', by rw [hlen]; exact ho, Desc.snoc f hf (how.keep fun x hx => far x (hL' x hx).2 fun g hg e => ?_) xs L (hD.keep f xs L fun x hx => ?_), List.nodup_append.2 ⟨hN, hn', fun a ha b hb e => ?_⟩, fun x hx => ?_, fun g' hg' hx => ?_⟩
  · have := hvl g hg; have := (hL' x hx).1; omega
  · rw [far x (Nat.lt_of_lt_of_le (hL x hx).2 hb1.size) fun g hg e => hv g hg (e ▸ hx)]
    exact hb1.block x (hL x hx).2 (by simp; have := (hL x hx).1; omega)
  · have := (hL a ha).2; have := (hL' b hb).1; omega
  · have hs3 := hg.size
    have := hb2.size
    rcases List.mem_append.1 hx with hx | hx
    · have := hL x hx; omega
    · have := hL' x hx; omega
  · have e : g = g' := by simpa [Value.ownBlock] using hg'
    subst e
    have := hb2.size
    rcases hat with h | rfl
    · rcases List.mem_append.1 hx with hx | hx
      · exact hv g h hx
      · have := hvl g h; have := (hL' g hx).1; omega
    · rcases List.mem_append.1 hx with hx | hx
      · have := (hL _ hx).2; omega
      · have := (hL' _ hx).2; omega
theorem RowP.doneW {A : Option Addr} {cap : Nat} {w0 : World} (h : RowP base (.slice A f.len cap) f w) (hb : Wrote [rb] w0 w) (hbase : w0.heap.size ≤ base) : MadeW rb w0 f A cap w := by
  obtain ⟨L, ho, hn, hL⟩ := h.own
  exact ⟨L, ho, hn, fun x hx => ⟨Nat.le_trans hbase (hL x hx).1, (hL x hx).2⟩, hb⟩
end
/-- What a drawn number leaves. -/
def PkR (w : World) (rb N : Nat) (n : Int) (e : Ending) (w' : World) : Prop := ∃ k : Int, e = .returned (.int .i64 k) ∧ 0 ≤ k ∧ k < n ∧ Rd w' rb (N + 1) ∧ Wrote [rb] w w'
/-- What a drawn term leaves. -/
def DrR (rb N M : Nat) (w : World) (e : Ending) (w' : World) : Prop :=
  ∃ (k n : Int) (s : ByteArray) (f : Fr) (A : Option Addr) (cap : Nat), e = .returned (.agg #[.int .i64 k, .int .i64 n, .string s, .slice A f.len cap]) ∧ Fits k n s ∧ MadeW rb w f A cap w' ∧ nodes f ≤ M ∧ Rd w' rb N
end Go.Proofs.YtihmgodiiohdnaaGreatDoor

/- impl's nodes in memory. No condition. -/
import Derived.Test.YtihmgodiiohdnaaGreatDoorOwn
import Derived.Test.YtihmgodiiohdnaaGreatDoorValid
namespace Go.Proofs.YtihmgodiiohdnaaGreatDoor
open Go.RowKit

/-- The nodes of the row f lie in block b from cell o on; what they lead to lies in blocks from lo to below hi. -/
def NdRow (w : World) (lo hi : Nat) : Fr → Nat → Nat → Prop
  | .nil, _, _ => True
  | .cons k n s kids rest, b, o => (∃ v, w.cell? ⟨b, o, none⟩ = some v ∧
      ((k = 1 ∧ v = .iface 133 (.int .i64 n)) ∨ (k = 2 ∧ v = .iface 134 (.int .i64 n)) ∨
        (k = 3 ∧ ∃ (A : Option Addr) (cap : Nat), v = .iface 84 (.agg #[.string s, .slice A kids.len cap]) ∧ kids.len ≤ cap ∧ cap ≤ maxLen ∧ (0 < kids.len → ∃ b', A = some ⟨b', 0, none⟩ ∧ lo ≤ b' ∧ b' < hi ∧ NdRow w lo hi kids b' 0)))) ∧ NdRow w lo hi rest b (o + 1)
/-- The slice of nodes. -/
def NdS (w : World) (lo hi : Nat) (f : Fr) (A : Option Addr) (cap : Nat) : Prop :=
  f.len ≤ cap ∧ cap ≤ maxLen ∧ (0 < f.len → ∃ b', A = some ⟨b', 0, none⟩ ∧ lo ≤ b' ∧ b' < hi ∧ NdRow w lo hi f b' 0)
/-- v is the node of the term. -/
def NdV (w : World) (lo hi : Nat) (k n : Int) (s : ByteArray) (kids : Fr) (v : Value) : Prop :=
  (k = 1 ∧ v = .iface 133 (.int .i64 n)) ∨ (k = 2 ∧ v = .iface 134 (.int .i64 n)) ∨
    (k = 3 ∧ ∃ (A : Option Addr) (cap : Nat), v = .iface 84 (.agg #[.string s, .slice A kids.len cap]) ∧ NdS w lo hi kids A cap)
section
variable {w w' : World} {lo hi lo' hi' : Nat}
theorem NdRow.keep (hk : ∀ p : Addr, lo ≤ p.block → p.block < hi → w'.cell? p = w.cell? p) (hL : lo' ≤ lo) (hH : hi ≤ hi') (f : Fr) :
    ∀ b o, (∀ j, j < f.len → w'.cell? ⟨b, o + j, none⟩ = w.cell? ⟨b, o + j, none⟩) → NdRow w lo hi f b o → NdRow w' lo' hi' f b o := by
  induction f with
  | nil => intro b o _ _; trivial
  | cons k n s kids rest ihk ihr =>
    rintro b o hc ⟨⟨v, hv, hw⟩, hr⟩
    simp only [Fr.len] at hc
    refine ⟨⟨v, (hc 0 (by omega)).trans hv, ?_⟩, ihr b (o + 1) (fun j hj => ?_) hr⟩
    · rcases hw with h | h | ⟨h1, A, cap, h2, h3, h4, h5⟩
      · exact .inl h
      · exact .inr (.inl h)
      · refine .inr (.inr ⟨h1, A, cap, h2, h3, h4, fun hp => ?_⟩)
        obtain ⟨b', e, hl, hb, hrow⟩ := h5 hp
        exact ⟨b', e, by omega, by omega, ihk b' 0 (fun j _ => hk _ hl hb) hrow⟩
    · have := hc (j + 1) (by omega)
      rwa [show o + (j + 1) = o + 1 + j by omega] at this
theorem NdS.keep {f : Fr} {A : Option Addr} {cap : Nat} (h : NdS w lo hi f A cap) (hk : ∀ p : Addr, lo ≤ p.block → p.block < hi → w'.cell? p = w.cell? p) (hL : lo' ≤ lo) (hH : hi ≤ hi') : NdS w' lo' hi' f A cap :=
  ⟨h.1, h.2.1, fun hp => by
    obtain ⟨b', e, hl, hb, hrow⟩ := h.2.2 hp
    exact ⟨b', e, by omega, by omega, NdRow.keep hk hL hH f b' 0 (fun j _ => hk _ hl hb) hrow⟩⟩
theorem NdV.keep {k n : Int} {s : ByteArray} {kids : Fr} {v : Value} (h : NdV w lo hi k n s kids v) (hk : ∀ p : Addr, lo ≤ p.block → p.block < hi → w'.cell? p = w.cell? p) (hL : lo' ≤ lo) (hH : hi ≤ hi') : NdV w' lo' hi' k n s kids v := by
  rcases h with h | h | ⟨h1, A, cap, h2, h3⟩
  · exact .inl h
  · exact .inr (.inl h)
  · exact .inr (.inr ⟨h1, A, cap, h2, h3.keep hk hL hH⟩)
theorem NdV.iface {k n : Int} {s : ByteArray} {kids : Fr} {v : Value} (h : NdV w lo hi k n s kids v) : ∃ T x, v = .iface T x := by
  rcases h with ⟨_, rfl⟩ | ⟨_, rfl⟩ | ⟨_, A, cap, rfl, _⟩
  · exact ⟨_, _, rfl⟩
  · exact ⟨_, _, rfl⟩
  · exact ⟨_, _, rfl⟩
/-- One node more behind a row. -/
theorem NdRow.snoc (f : Fr) {k n : Int} {s : ByteArray} {kids : Fr} {v : Value} (hv : NdV w lo hi k n s kids v) :
    ∀ b o, NdRow w lo hi f b o → w.cell? ⟨b, o + f.len, none⟩ = some v → NdRow w lo hi (f.app (.cons k n s kids .nil)) b o := by
  induction f with
  | nil =>
    intro b o _ hc
    refine ⟨⟨v, hc, ?_⟩, trivial⟩
    rcases hv with h | h | ⟨h1, A, cap, h2, h3⟩
    · exact .inl h
    · exact .inr (.inl h)
    · exact .inr (.inr ⟨h1, A, cap, h2, h3.1, h3.2.1, h3.2.2⟩)
  | cons k' n' s' kids' rest' _ ihr =>
    intro b o h hc
    refine ⟨h.1, ihr b (o + 1) h.2 ?_⟩
    rw [← hc]
    simp only [Fr.len]
    rw [show o + (rest'.len + 1) = o + 1 + rest'.len by omega]
theorem NdRow.at_ (f : Fr) : ∀ (i b o : Nat), NdRow w lo hi f b o → NdRow w lo hi (f.drop i) b (o + i) := by
  induction f with
  | nil => intro i b o _; cases i <;> trivial
  | cons k n s kids rest _ ihr =>
    intro i b o h
    cases i with
    | zero => exact h
    | succ i =>
      have := ihr i b (o + 1) h.2
      rw [show o + 1 + i = o + (i + 1) by omega] at this
      exact this
/-- Node i of a row. -/
theorem NdRow.elem {f : Fr} {i b o : Nat} {k n : Int} {s : ByteArray} {kids rest : Fr} (h : NdRow w lo hi f b o) (hd : f.drop i = .cons k n s kids rest) : ∃ v, w.cell? ⟨b, o + i, none⟩ = some v ∧ NdV w lo hi k n s kids v := by
  have h1 := NdRow.at_ f i b o h
  rw [hd] at h1
  obtain ⟨⟨v, hv, hw⟩, _⟩ := h1
  refine ⟨v, hv, ?_⟩
  rcases hw with h | h | ⟨h1, A, cap, h2, h3, h4, h5⟩
  · exact .inl h
  · exact .inr (.inl h)
  · exact .inr (.inr ⟨h1, A, cap, h2, h3, h4, h5⟩)
end

/-- What a call of the node maker leaves: its count in block mb, and, where it made one, the node. -/
def MkRes (w : World) (mb : Nat) (ok : Bool) (l : Int) (k n : Int) (s : ByteArray) (kids : Fr) (e : Ending) (w' : World) : Prop :=
  w.grownBy w' (some mb) ∧
    ((ok = true ∧ ∃ v, e = .returned (.tuple #[v, .bool true]) ∧ NdV w' w.heap.size w'.heap.size k n s kids v ∧ Blk w' mb 152 #[.int .i64 l]) ∨
     (ok = false ∧ e = .returned (.tuple #[.nilIface, .bool false]) ∧ ∃ l', Blk w' mb 152 #[.int .i64 l']))

/-- The loop's relation: j nodes are made, in block g. -/
def MPart (w : World) (f : Fr) (mb g j : Nat) (l : Int) (wr : World) : Prop :=
  w.grownBy wr (some mb) ∧ Blk wr mb 152 #[.int .i64 l] ∧ (∃ cur, Blk wr g 115 cur ∧ cur.size = f.len) ∧ NdRow wr (g + 1) wr.heap.size (f.take j) g 0 ∧ w.heap.size ≤ g ∧ mb < w.heap.size
theorem grownBy_trans {w w1 w2 : World} {r : Option Nat} (h1 : w.grownBy w1 r) (h2 : w1.grownBy w2 r) : w.grownBy w2 r :=
  ⟨h2.os.trans h1.os, h2.tape.trans h1.tape, h2.output.trans h1.output, Nat.le_trans h1.size h2.size, fun k hk hn => (h2.block k (Nat.lt_of_lt_of_le hk h1.size) hn).trans (h1.block k hk hn)⟩
theorem grownBy_alloc' {w w1 : World} {r : Option Nat} (h : w.grownBy w1 r) (o : Obj) : w.grownBy (w1.alloc o) r := grownBy_trans h (World.grownBy_alloc w1 o r)
theorem grownBy_set {w w1 : World} {r : Option Nat} (h : w.grownBy w1 r) {p : Addr} (hp : w.heap.size ≤ p.block ∨ r = some p.block) (u : Value) : w.grownBy (w1.setCell p u) r :=
  ⟨h.os, h.tape, h.output, by simpa [World.setCell] using h.size, fun k hk hn => by
    have hne : k ≠ p.block := by
      rcases hp with hp | hp
      · omega
      · intro e
        exact hn (by rw [hp, e])
    rw [heap_setCell_other w1 p k u hne]
    exact h.block k hk hn⟩
theorem grownBy_below {w w1 : World} {r : Option Nat} (h : Below w.heap.size w w1) : w.grownBy w1 r := ⟨h.os, h.tape, h.output, h.size, fun k hk _ => h.block k hk⟩
/-- Below what the maker's block is new, nothing that was there has changed. -/
theorem below_grownBy {w w0 w1 : World} {mb : Nat} (h0 : Below w.heap.size w w0) (hm : w.heap.size ≤ mb) (h : w0.grownBy w1 (some mb)) : Below w.heap.size w w1 :=
  ⟨h.os.trans h0.os, h.tape.trans h0.tape, h.output.trans h0.output, Nat.le_trans h0.size h.size, fun k hk => (h.block k (Nat.lt_of_lt_of_le hk h0.size) (by simp; omega)).trans (h0.block k hk)⟩
theorem cell_grownBy {w w1 : World} {mb : Nat} (h : w.grownBy w1 (some mb)) {p : Addr} (hp : p.block < w.heap.size) (hn : p.block ≠ mb) : w1.cell? p = w.cell? p :=
  World.cell?_of_block (h.block p.block hp (by simpa using hn))
theorem Blk.grown {w w1 : World} {mb g : Nat} {t : TypeId} {cs : Array Value} (hb : Blk w g t cs) (h : w.grownBy w1 (some mb)) (hn : g ≠ mb) : Blk w1 g t cs := hb.keep (h.block g hb.lt (by simpa using hn))

/-- One node more. -/
theorem MPart.step {w wr w1 w2 : World} {f : Fr} {mb g i : Nat} {l l' : Int} {k n : Int} {s : ByteArray} {kids rest : Fr} {v : Value}
    (h : MPart w f mb g i l wr) (hd : f.drop i = .cons k n s kids rest) (hi : i < f.len) (h1 : wr.grownBy w1 (some mb)) (h2 : w1.grownBy w2 (some mb)) (hv : NdV w2 w1.heap.size w2.heap.size k n s kids v) (hm : Blk w2 mb 152 #[.int .i64 l']) :
    MPart w f mb g (i + 1) l' (w2.setCell ⟨g, i, none⟩ v) := by
  obtain ⟨hg, hmb, ⟨cur, hblk, hs⟩, hrow, hgl, hml⟩ := h
  have hgm : g ≠ mb := by omega
  have hlt := hblk.lt
  have h12 := grownBy_trans h1 h2
  have b2 := hblk.grown h12 hgm
  have far : ∀ p : Addr, p.block ≠ g → (w2.setCell ⟨g, i, none⟩ v).cell? p = w2.cell? p := fun p hp => World.cell?_of_block (heap_setCell_other w2 ⟨g, i, none⟩ p.block v hp)
  have hsz : (w2.setCell ⟨g, i, none⟩ v).heap.size = w2.heap.size := by simp [World.setCell]
  have hlen : (f.take i).len = i := Fr.len_take i f (by omega)
  refine ⟨grownBy_set (grownBy_trans hg h12) (.inl hgl) v, hm.far (by simpa using Ne.symm hgm) v, ⟨_, b2.set_ i v, by simpa using hs⟩, ?_, hgl, hml⟩
  rw [Fr.take_succ i f hd, hsz]
  refine NdRow.snoc (f.take i) (hv.keep (fun p hp _ => far p (by have := h1.size; omega)) (by have := h1.size; omega) (Nat.le_refl _)) g 0 ?_ ?_
  · refine NdRow.keep (fun p hp hp' => ?_) (Nat.le_refl _) h12.size (f.take i) g 0 (fun j hj => ?_) hrow
    · rw [far p (by omega)]
      exact cell_grownBy h12 hp' (by omega)
    · rw [hlen] at hj
      rw [(b2.set_ i v).cell, hblk.cell]
      simp only [Array.getElem?_setIfInBounds]
      rw [if_neg (by omega)]
  · rw [hlen, (b2.set_ i v).cell]
    simp [Array.getElem?_setIfInBounds]
    omega
theorem MPart.start {w w1 w2 : World} {f : Fr} {mb base : Nat} {xs : List Value} {l : Int} (h1 : w.grownBy w1 (some mb)) (hmb : Blk w1 mb 152 #[.int .i64 l]) (hml : mb < w.heap.size)
    (hown : w2.ownsRow base 115 1 (.slice (some ⟨w1.heap.size, 0, none⟩) f.len f.len) f.len xs) (hg : w1.grownBy w2 none) : MPart w f mb w1.heap.size 0 l w2 := by
  rcases hown.2 with ⟨h', _⟩ | ⟨g', cap', cur, h', _, hb, _, _, hs, _⟩
  · simp at h'
  · simp only [Value.slice.injEq, Option.some.injEq, Addr.mk.injEq, and_true, true_and] at h'
    obtain ⟨rfl, rfl⟩ := h'
    have hg' : w1.grownBy w2 (some mb) := ⟨hg.os, hg.tape, hg.output, hg.size, fun k hk _ => hg.block k hk (by simp)⟩
    exact ⟨grownBy_trans h1 hg', hmb.keep (hg.block mb hmb.lt (by simp)), ⟨cur, hb, by simpa using hs⟩, trivial, h1.size, hml⟩
end Go.Proofs.YtihmgodiiohdnaaGreatDoor

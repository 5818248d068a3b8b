/- Marked rows of terms as plain data, and worlds in which only some blocks were written. No condition. -/
import Derived.Test.YtihmgodiiohdnaaGreatDoorOwn
import Derived.Test.YtihmgodiiohdnaaGreatDoorValid
namespace Go.Proofs.YtihmgodiiohdnaaGreatDoor
open Go.RowKit

/-- The decimal digits of k in front of out, at most fu of them. -/
def digs : Nat → Nat → List UInt8 → List UInt8
  | 0, _, out => out
  | fu + 1, k, out => if k = 0 then out else digs fu (k / 10) (UInt8.ofNat (48 + k % 10) :: out)
/-- The text of a mark. -/
def mtext (k : Nat) : ByteArray := ⟨(109 :: digs k k []).toArray⟩
theorem digs_len (fu : Nat) : ∀ (k : Nat) (out : List UInt8), (digs fu k out).length ≤ out.length + k := by
  induction fu with
  | zero => intro k out; simp only [digs]; omega
  | succ fu ih =>
    intro k out
    simp only [digs]
    split
    · omega
    · have := ih (k / 10) (UInt8.ofNat (48 + k % 10) :: out)
      simp only [List.length_cons] at this
      omega
theorem mtext_size (k : Nat) : (mtext k).size ≤ k + 1 := by
  have := digs_len k k []
  simp only [List.length_nil] at this
  have e : (mtext k).size = (digs k k []).length + 1 := by simp [mtext, ByteArray.size]
  omega

/-- The row f marked from k on. -/
def markF : Fr → Nat → Fr
  | .nil, _ => .nil
  | .cons _ _ _ kids rest, k => .cons (k : Int) ((k : Int) + 1) (mtext (k + 2)) (markF kids (k + 3)) (markF rest (k + 3 + 3 * nodes kids))
theorem markF_len (f : Fr) : ∀ k, (markF f k).len = f.len := by
  induction f with
  | nil => intro k; rfl
  | cons _ _ _ _ _ _ ih => intro k; simp only [markF, Fr.len, ih]
theorem nodes_markF (f : Fr) : ∀ k, nodes (markF f k) = nodes f := by
  induction f with
  | nil => intro k; rfl
  | cons _ _ _ _ _ h1 h2 => intro k; simp only [markF, nodes, h1, h2]
theorem nodes_app (f g : Fr) : nodes (f.app g) = nodes f + nodes g := by
  induction f with
  | nil => simp [Fr.app, nodes]
  | cons _ _ _ _ _ _ ih => simp only [Fr.app, nodes, ih]; omega
theorem markF_app (f g : Fr) : ∀ k, markF (f.app g) k = (markF f k).app (markF g (k + 3 * nodes f)) := by
  induction f with
  | nil => intro k; simp [Fr.app, markF, nodes]
  | cons _ _ _ kids rest _ ih =>
    intro k
    simp only [Fr.app, markF, ih, nodes]
    rw [show k + 3 + 3 * nodes kids + 3 * nodes rest = k + 3 * (1 + nodes kids + nodes rest) from by omega]
theorem markF_drop (i : Nat) : ∀ (f : Fr) (k : Nat), (markF f k).drop i = markF (f.drop i) (k + 3 * nodes (f.take i)) := by
  induction i with
  | zero => intro f k; simp [Fr.drop, Fr.take, nodes]
  | succ i ih =>
    intro f k
    cases f with
    | nil => rfl
    | cons _ _ _ kids rest =>
      simp only [markF, Fr.drop, ih, Fr.take, nodes]
      rw [show k + 3 + 3 * nodes kids + 3 * nodes (Fr.take i rest) = k + 3 * (1 + nodes kids + nodes (Fr.take i rest)) from by omega]
theorem nodes_take (i : Nat) (f : Fr) {k n : Int} {s : ByteArray} {kids rest : Fr} (h : f.drop i = .cons k n s kids rest) : nodes (f.take (i + 1)) = nodes (f.take i) + 1 + nodes kids := by
  rw [Fr.take_succ i f h, nodes_app]; simp only [nodes]; omega
theorem nodes_split (i : Nat) : ∀ f : Fr, nodes (f.take i) + nodes (f.drop i) = nodes f := by
  induction i with
  | zero => intro f; simp [Fr.take, Fr.drop, nodes]
  | succ i ih =>
    intro f
    cases f with
    | nil => rfl
    | cons _ _ _ kids rest => simp only [Fr.take, Fr.drop, nodes]; have := ih rest; omega

/-- Of the blocks that were there, only those of L were written. -/
structure Wrote (L : List Nat) (w w' : World) : Prop where
  os : w'.os = w.os
  tape : w'.tape = w.tape
  output : w'.output = w.output
  size : w.heap.size ≤ w'.heap.size
  block : ∀ x, x < w.heap.size → x ∉ L → w'.heap[x]? = w.heap[x]?
section
variable {w w' w'' : World} {L L' : List Nat}
theorem Wrote.refl (L : List Nat) (w : World) : Wrote L w w := ⟨rfl, rfl, rfl, Nat.le_refl _, fun _ _ _ => rfl⟩
theorem Wrote.trans (h : Wrote L w w') (k : Wrote L w' w'') : Wrote L w w'' :=
  ⟨k.os.trans h.os, k.tape.trans h.tape, k.output.trans h.output, Nat.le_trans h.size k.size, fun x hx hn => (k.block x (Nat.lt_of_lt_of_le hx h.size) hn).trans (h.block x hx hn)⟩
theorem Wrote.more (h : Wrote L w w') (hL : ∀ x ∈ L, x ∈ L') : Wrote L' w w' := ⟨h.os, h.tape, h.output, h.size, fun x hx hn => h.block x hx fun e => hn (hL x e)⟩
theorem Wrote.of_below (h : Below w.heap.size w w') (L : List Nat) : Wrote L w w' := ⟨h.os, h.tape, h.output, h.size, fun x hx _ => h.block x hx⟩
theorem Wrote.set_ (h : Wrote L w w') {p : Addr} (hp : p.block ∈ L ∨ w.heap.size ≤ p.block) (u : Value) : Wrote L w (w'.setCell p u) :=
  ⟨h.os, h.tape, h.output, by simpa [World.setCell] using h.size, fun x hx hn => by
    rw [heap_setCell_other w' p x u (fun e => by
      rcases hp with hp | hp
      · exact hn (e ▸ hp)
      · omega)]
    exact h.block x hx hn⟩
theorem Wrote.alloc (h : Wrote L w w') (o : Obj) : Wrote L w (w'.alloc o) := h.trans (.of_below ((Below.refl _ _).alloc (Nat.le_refl _) _) L)
theorem Wrote.drew (h : Wrote L w w') : Wrote L w w'.drew := h.trans (.of_below (Below.refl _ _).drew L)
theorem Wrote.below {B : Nat} (h : Wrote L w w') (hB : B ≤ w.heap.size) (hL : ∀ x ∈ L, B ≤ x) : Below B w w' :=
  ⟨h.os, h.tape, h.output, h.size, fun x hx => h.block x (by omega) fun e => by have := hL x e; omega⟩
theorem Wrote.cell (h : Wrote L w w') {p : Addr} (hp : p.block < w.heap.size) (hn : p.block ∉ L) : w'.cell? p = w.cell? p := World.cell?_of_block (h.block p.block hp hn)
theorem Wrote.blk {g : Nat} {t : TypeId} {cs : Array Value} (h : Wrote L w w') (hb : Blk w g t cs) (hn : g ∉ L) : Blk w' g t cs := hb.keep (h.block g hb.lt hn)
theorem OwnAt.lt (f : Fr) : ∀ b o L, OwnAt w f b o L → ∀ x ∈ L, x < w.heap.size := by
  induction f with
  | nil => rintro b o L rfl x hx; simp at hx
  | cons k n s kids rest ihk ihr =>
    rintro b o L ⟨A, cap, L1, L2, rfl, _, _, _, _, h3, hr⟩ x hx
    rcases List.mem_append.1 hx with hx | hx
    · rcases h3 with ⟨_, rfl⟩ | ⟨b', L', cs, rfl, rfl, hb, _, ho⟩
      · simp at hx
      · rcases List.mem_cons.1 hx with rfl | hx
        · exact hb.lt
        · exact ihk b' 0 L' ho x hx
    · exact ihr b (o + 4) L2 hr x hx
theorem OwnS.lt {f : Fr} {A : Option Addr} {cap : Nat} {L : List Nat} (h : OwnS w f A cap L) : ∀ x ∈ L, x < w.heap.size := by
  intro x hx
  rcases h.2.2 with ⟨_, rfl⟩ | ⟨b, L', cs, rfl, rfl, hb, _, ho⟩
  · simp at hx
  · rcases List.mem_cons.1 hx with rfl | hx
    · exact hb.lt
    · exact OwnAt.lt f b 0 L' ho x hx
theorem OwnS.wrote {f : Fr} {A : Option Addr} {cap : Nat} {K : List Nat} (h : OwnS w f A cap K) (hw : Wrote L w w') (hn : ∀ x ∈ K, x ∉ L) : OwnS w' f A cap K :=
  h.keep fun x hx => hw.block x (h.lt x hx) (hn x hx)
theorem KidsAt.wrote {f : Fr} {A : Option Addr} {cap lo hi : Nat} (h : KidsAt w lo hi f A cap) (hw : Wrote L w w') (hh : hi ≤ w.heap.size) (hn : ∀ x ∈ L, x < lo ∨ hi ≤ x) : KidsAt w' lo hi f A cap :=
  h.keep fun p hl hp => hw.cell (by omega) fun e => by have := hn _ e; omega
end

/-! Made rows. -/
theorem drew_made {w w' : World} {f : Fr} {A : Option Addr} {cap : Nat} (h : Made w.drew f A cap w') : Made w f A cap w' := by
  obtain ⟨L, h1, h2, h3, h4⟩ := h
  exact ⟨L, h1, h2, h3, ((Below.refl w.heap.size w).drew).trans h4⟩
theorem made_nil {w w' : World} (h : Below w.heap.size w w') : Made w .nil none 0 w' := ⟨[], ⟨Nat.le_refl _, Nat.zero_le _, .inl ⟨rfl, rfl⟩⟩, List.nodup_nil, fun x hx => by simp at hx, h⟩
theorem far4 {w : World} {g : Nat} {p : Addr} (hp : p.block ≠ g) (a b c d : Value) : ((((w.setCell ⟨g, 0, none⟩ a).setCell ⟨g, 1, none⟩ b).setCell ⟨g, 2, none⟩ c).setCell ⟨g, 3, none⟩ d).cell? p = w.cell? p :=
  World.cell?_of_block (by
    rw [heap_setCell_other _ _ _ _ (show p.block ≠ g from hp), heap_setCell_other _ _ _ _ (show p.block ≠ g from hp), heap_setCell_other _ _ _ _ (show p.block ≠ g from hp), heap_setCell_other _ _ _ _ (show p.block ≠ g from hp)])

/-- The loop's relation: i terms are marked, the others are as they were. -/
def MkP (w : World) (f : Fr) (b cap : Nat) (L' : List Nat) (k0 i : Nat) (wr : World) : Prop :=
  ∃ La Lb cs, L' = La ++ Lb ∧ OwnAt wr (markF (f.take i) k0) b 0 La ∧ OwnAt wr (f.drop i) b (i * 4) Lb ∧ Blk wr b 30 cs ∧ cs.size = cap * 4 ∧ Wrote (b :: L') w wr
/-- What a round meets: the kids of term i, in the blocks K; the cells of term i can be written. -/
def MkOpen (w : World) (f : Fr) (b cap : Nat) (L' : List Nat) (k0 i kk : Nat) (kids : Fr) (A' : Option Addr) (cap' : Nat) (wr : World) : Prop :=
  (∃ v0 v1 v2, wr.cell? ⟨b, i * 4, none⟩ = some v0 ∧ wr.cell? ⟨b, i * 4 + 1, none⟩ = some v1 ∧ wr.cell? ⟨b, i * 4 + 2, none⟩ = some v2 ∧ wr.cell? ⟨b, i * 4 + 3, none⟩ = some (.slice A' kids.len cap')) ∧
  b < wr.heap.size ∧ (∀ j, wr.frozen? ⟨b, j, none⟩ = false) ∧
  ∃ K : List Nat, K.Nodup ∧ ∀ w1 : World, Below wr.heap.size ((wr.setCell ⟨b, i * 4, none⟩ (.int .i64 (kk : Int))).setCell ⟨b, i * 4 + 1, none⟩ (.int .i64 ((kk : Int) + 1))) w1 →
    ((∃ v, w1.cell? ⟨b, i * 4 + 2, none⟩ = some v) ∧ w1.frozen? ⟨b, i * 4 + 2, none⟩ = false ∧ w1.cell? ⟨b, i * 4 + 3, none⟩ = some (.slice A' kids.len cap')) ∧
    OwnS (w1.setCell ⟨b, i * 4 + 2, none⟩ (.string (mtext (kk + 2)))) kids A' cap' K ∧
    ∀ w4, OwnS w4 (markF kids (kk + 3)) A' cap' K → Wrote K (w1.setCell ⟨b, i * 4 + 2, none⟩ (.string (mtext (kk + 2)))) w4 → MkP w f b cap L' k0 (i + 1) w4
theorem MkP.open_ {w wr : World} {f : Fr} {b cap k0 i : Nat} {L' : List Nat} {k n : Int} {s : ByteArray} {kids rest : Fr} (h : MkP w f b cap L' k0 i wr) (hd : f.drop i = .cons k n s kids rest) (hi : i < f.len) (hcap : f.len ≤ cap) (hnd : (b :: L').Nodup)
    (hk : k0 + 3 * nodes f ≤ 1099511627776) : ∃ A' cap', MkOpen w f b cap L' k0 i (k0 + 3 * nodes (f.take i)) kids A' cap' wr := by
  obtain ⟨La, Lb, cs, rfl, hfront, hback, hblk, hsz, hwr⟩ := h
  rw [hd] at hback
  obtain ⟨A', cap', L1, L2, rfl, hfit, ⟨c0, c1, c2, c3⟩, h1, h2, h3, hr⟩ := hback
  have hlen : (f.take i).len = i := Fr.len_take i f (by omega)
  have hsp := nodes_split i f
  have hn1 : nodes (f.drop i) = 1 + nodes kids + nodes rest := by rw [hd]; rfl
  have hlt := hblk.lt
  obtain ⟨hb0, hnd'⟩ := List.nodup_cons.1 hnd
  obtain ⟨hna, hnb, hab⟩ := List.nodup_append.1 hnd'
  obtain ⟨hn1', hn2', h12⟩ := List.nodup_append.1 hnb
  have hb1 : b ∉ La := fun h => hb0 (by simp [h])
  have hb2 : b ∉ L1 := fun h => hb0 (by simp [h])
  have hb3 : b ∉ L2 := fun h => hb0 (by simp [h])
  have hown : OwnS wr kids A' cap' L1 := ⟨h1, h2, h3⟩
  refine ⟨A', cap', ⟨⟨_, _, _, c0, c1, c2, c3⟩, hlt, fun j => hblk.frozen j, L1, hn1', fun w1 hw1 => ?_⟩⟩
  generalize hkk : k0 + 3 * nodes (f.take i) = kk at *
  have q1 := ((hblk.set_ (i * 4) (.int .i64 (kk : Int))).set_ (i * 4 + 1) (.int .i64 ((kk : Int) + 1))).below hw1 hlt
  have q3 := q1.set_ (i * 4 + 2) (.string (mtext (kk + 2)))
  have d2 : ∃ v, w1.cell? ⟨b, i * 4 + 2, none⟩ = some v := by
    rw [q1.cell]
    simp only [Array.getElem?_setIfInBounds]
    rw [if_neg (by omega), if_neg (by omega), ← hblk.cell]
    exact ⟨_, c2⟩
  have d3 : w1.cell? ⟨b, i * 4 + 3, none⟩ = some (.slice A' kids.len cap') := by
    rw [q1.cell]
    simp only [Array.getElem?_setIfInBounds]
    rw [if_neg (by omega), if_neg (by omega), ← hblk.cell]
    exact c3
  have d4 : w1.frozen? ⟨b, i * 4 + 2, none⟩ = false := q1.frozen _
  have far : ∀ x, x < wr.heap.size → x ≠ b → (w1.setCell ⟨b, i * 4 + 2, none⟩ (.string (mtext (kk + 2)))).heap[x]? = wr.heap[x]? := fun x hx hne => by
    rw [heap_setCell_other _ _ _ _ (show x ≠ b from hne), hw1.block x hx, heap_setCell_other _ _ _ _ (show x ≠ b from hne), heap_setCell_other _ _ _ _ (show x ≠ b from hne)]
  have hw3 : Wrote (b :: (La ++ (L1 ++ L2))) w (w1.setCell ⟨b, i * 4 + 2, none⟩ (.string (mtext (kk + 2)))) := by
    have hs1 : wr.heap.size ≤ w1.heap.size := by have := hw1.size; simpa [World.setCell] using this
    refine hwr.trans ⟨hw1.os, hw1.tape, hw1.output, by simpa [World.setCell] using hs1, fun x hx hn => far x hx fun e => hn (by simp [e])⟩
  have hs3 : wr.heap.size ≤ (w1.setCell ⟨b, i * 4 + 2, none⟩ (.string (mtext (kk + 2)))).heap.size := by
    have := hw1.size; simpa [World.setCell] using this
  generalize w1.setCell ⟨b, i * 4 + 2, none⟩ (.string (mtext (kk + 2))) = w3 at *
  have hla : ∀ x ∈ La, x < wr.heap.size := fun x hx => OwnAt.lt _ b 0 La hfront x hx
  have hl2 : ∀ x ∈ L2, x < wr.heap.size := fun x hx => OwnAt.lt _ b (i * 4 + 4) L2 hr x hx
  refine ⟨⟨d2, d4, d3⟩, hown.keep fun x hx => far x (hown.lt x hx) fun e => hb2 (e ▸ hx), fun w4 ho4 hw4 => ?_⟩
  have hb4 : b ∉ L1 := hb2
  have q4 := hw4.blk q3 hb2
  refine ⟨La ++ L1, L2, _, by simp, ?_, ?_, q4, by simpa using hsz, hw3.trans (hw4.more fun x hx => by simp [hx])⟩
  · rw [Fr.take_succ i f hd, markF_app]
    rw [hkk]
    have hfl : (markF (f.take i) k0).len = i := by rw [markF_len, hlen]
    refine OwnAt.snoc (markF (f.take i) k0) ⟨⟨by omega, by omega⟩, ⟨by omega, by omega⟩, ?_⟩ ho4 b 0 La ?_ ?_ ?_ ?_ ?_
    · have := mtext_size (kk + 2); unfold maxLen; omega
    · refine OwnAt.keep (markF (f.take i) k0) b 0 La hfront (fun j hj => ?_) fun x hx => ?_
      · rw [hfl] at hj
        rw [q4.cell, hblk.cell]
        simp only [Array.getElem?_setIfInBounds]
        rw [if_neg (by omega), if_neg (by omega), if_neg (by omega)]
      · rw [hw4.block x (by have := hla x hx; omega) fun e => hab x hx x (by simp [e]) rfl]
        exact far x (hla x hx) fun e => hb1 (e ▸ hx)
    · rw [hfl, q4.cell]; simp [Array.getElem?_setIfInBounds]; omega
    · rw [hfl, q4.cell]; simp [Array.getElem?_setIfInBounds]; omega
    · rw [hfl, q4.cell]; simp [Array.getElem?_setIfInBounds]; omega
    · rw [hfl, q4.cell, markF_len]
      simp only [Array.getElem?_setIfInBounds]
      rw [if_neg (by omega), if_neg (by omega), if_neg (by omega), ← hblk.cell]
      rw [Nat.zero_add]; exact c3
  · have e1 : f.drop (i + 1) = rest := by
      obtain ⟨_, _, _, _, h⟩ := Fr.drop_cons i f hi
      rw [hd] at h
      injection h with _ _ _ _ h
      exact h.symm
    rw [e1, show (i + 1) * 4 = i * 4 + 4 by omega]
    refine OwnAt.keep rest b (i * 4 + 4) L2 hr (fun j hj => ?_) fun x hx => ?_
    · rw [q4.cell, hblk.cell]
      simp only [Array.getElem?_setIfInBounds]
      rw [if_neg (by omega), if_neg (by omega), if_neg (by omega)]
    · rw [hw4.block x (by have := hl2 x hx; omega) fun e => h12 x e x hx rfl]
      exact far x (hl2 x hx) fun e => hb3 (e ▸ hx)
theorem MkP.start {w : World} {f : Fr} {b cap k0 : Nat} {L' : List Nat} {cs : Array Value} (hblk : Blk w b 30 cs) (hs : cs.size = cap * 4) (ho : OwnAt w f b 0 L') : MkP w f b cap L' k0 0 w :=
  ⟨[], L', cs, rfl, rfl, by simpa [Fr.drop] using ho, hblk, hs, .refl _ _⟩
theorem MkP.done {w wr : World} {f : Fr} {b cap k0 : Nat} {L' : List Nat} (h : MkP w f b cap L' k0 f.len wr) (hl : f.len ≤ cap) (hc : cap ≤ maxLen) : OwnS wr (markF f k0) (some ⟨b, 0, none⟩) cap (b :: L') ∧ Wrote (b :: L') w wr := by
  obtain ⟨La, Lb, cs, rfl, hfront, hback, hblk, hsz, hwr⟩ := h
  rw [Fr.drop_len] at hback
  obtain rfl : Lb = [] := hback
  rw [Fr.take_len] at hfront
  rw [List.append_nil] at hwr ⊢
  exact ⟨⟨by rw [markF_len]; exact hl, hc, .inr ⟨b, La, cs, rfl, rfl, hblk, hsz, hfront⟩⟩, hwr⟩
end Go.Proofs.YtihmgodiiohdnaaGreatDoor

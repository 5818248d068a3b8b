/- Worlds in which only some blocks were written; rows that a call owns: of bytes, of frames; marks of both. No condition. -/
import Derived.Test.YtdpmjpjbcpdgnaaProg
import Derived.Test.YtdpmjpjbcpdgnaaFzP
import Derived.WalkKit
import Derived.WalkSpells
import Derived.Outline
import Derived.Laws.Rows
import Derived.Below
import Derived.Lib.Hide
import Derived.Laws.OwnMore
import Derived.Lib.UnsafeStr
import Derived.Lib.AppendStr
namespace Go.Proofs.Ytdpmjpjbcpdgnaa
open Go.RowKit

/-- Block g is just these cells, of element type t, none frozen. -/
def Blk (w : World) (g : Nat) (t : TypeId) (cs : Array Value) : Prop := w.heap[g]? = some (.cells cs t (0, 0))
section
variable {w w' : World} {g : Nat} {t : TypeId} {cs : Array Value}
theorem Blk.lt (h : Blk w g t cs) : g < w.heap.size := (Array.getElem?_eq_some_iff.1 h).1
theorem Blk.cell (h : Blk w g t cs) (i : Nat) : w.cell? ⟨g, i, none⟩ = cs[i]? := cell_of_row w g i cs t (0, 0) h
theorem Blk.frozen (h : Blk w g t cs) (i : Nat) : w.frozen? ⟨g, i, none⟩ = false := frozen_of_row w g i cs t h
theorem Blk.new (w : World) (t : TypeId) (cs : Array Value) : Blk (w.alloc (.cells cs t)) w.heap.size t cs := heap_alloc_new w _
theorem Blk.alloc (h : Blk w g t cs) (o : Obj) : Blk (w.alloc o) g t cs := (Below.heap_alloc w o g h.lt).trans h
theorem Blk.keep (h : Blk w g t cs) (hk : w'.heap[g]? = w.heap[g]?) : Blk w' g t cs := hk.trans h
theorem Blk.below {B : Nat} (h : Blk w g t cs) (hb : Below B w w') (hg : g < B) : Blk w' g t cs := (hb.block g hg).trans h
theorem Blk.set_ (h : Blk w g t cs) (i : Nat) (u : Value) : Blk (w.setCell ⟨g, i, none⟩ u) g t (cs.setIfInBounds i u) := heap_setCell_same w g i cs t u h
theorem Blk.far (h : Blk w g t cs) {p : Addr} (hp : g ≠ p.block) (u : Value) : Blk (w.setCell p u) g t cs := (heap_setCell_other w p g u hp).trans h
end

/-- Of the blocks that were there, only those of L were written. -/
structure Wrote (L : List Nat) (w w' : World) : Prop where
  os : w'.os = w.os
  tape : w'.tape = w.tape
  output : w'.output = w.output
  size : w.heap.size ≤ w'.heap.size
  block : ∀ x, x < w.heap.size → x ∉ L → w'.heap[x]? = w.heap[x]?
section
variable {w w' w'' : World} {L L' : List Nat}
theorem Wrote.refl (L : List Nat) (w : World) : Wrote L w w := ⟨rfl, rfl, rfl, Nat.le_refl _, fun _ _ _ => rfl⟩
theorem Wrote.trans (h : Wrote L w w') (k : Wrote L w' w'') : Wrote L w w'' :=
  ⟨k.os.trans h.os, k.tape.trans h.tape, k.output.trans h.output, Nat.le_trans h.size k.size, fun x hx hn => (k.block x (Nat.lt_of_lt_of_le hx h.size) hn).trans (h.block x hx hn)⟩
theorem Wrote.more (h : Wrote L w w') (hL : ∀ x ∈ L, x ∈ L') : Wrote L' w w' := ⟨h.os, h.tape, h.output, h.size, fun x hx hn => h.block x hx fun e => hn (hL x e)⟩
theorem Wrote.of_below (h : Below w.heap.size w w') (L : List Nat) : Wrote L w w' := ⟨h.os, h.tape, h.output, h.size, fun x hx _ => h.block x hx⟩
theorem Wrote.set_ (h : Wrote L w w') {p : Addr} (hp : p.block ∈ L ∨ w.heap.size ≤ p.block) (u : Value) : Wrote L w (w'.setCell p u) :=
  ⟨h.os, h.tape, h.output, by simpa [World.setCell] using h.size, fun x hx hn => by
    rw [heap_setCell_other w' p x u (fun e => by
      rcases hp with hp | hp
      · exact hn (e ▸ hp)
      · omega)]
    exact h.block x hx hn⟩
theorem Wrote.alloc (h : Wrote L w w') (o : Obj) : Wrote L w (w'.alloc o) := h.trans (.of_below ((Below.refl _ _).alloc (Nat.le_refl _) _) L)
theorem Wrote.drew (h : Wrote L w w') : Wrote L w w'.drew := h.trans (.of_below (Below.refl _ _).drew L)
theorem Wrote.below {B : Nat} (h : Wrote L w w') (hB : B ≤ w.heap.size) (hL : ∀ x ∈ L, B ≤ x) : Below B w w' :=
  ⟨h.os, h.tape, h.output, h.size, fun x hx => h.block x (by omega) fun e => by have := hL x e; omega⟩
theorem Wrote.cell (h : Wrote L w w') {p : Addr} (hp : p.block < w.heap.size) (hn : p.block ∉ L) : w'.cell? p = w.cell? p := World.cell?_of_block (h.block p.block hp hn)
theorem Wrote.blk {g : Nat} {t : TypeId} {cs : Array Value} (h : Wrote L w w') (hb : Blk w g t cs) (hn : g ∉ L) : Blk w' g t cs := hb.keep (h.block g hb.lt hn)
end
def ownV (v : Value) : List Nat := v.ownBlock.toList
section
variable {w w' : World} {v : Value}
theorem Wrote.more_new {w w1 w2 : World} {L L' : List Nat} (h : Wrote L w w1) (k : Wrote L' w1 w2) (hL : ∀ x ∈ L', x ∈ L ∨ w.heap.size ≤ x) : Wrote L w w2 :=
  ⟨k.os.trans h.os, k.tape.trans h.tape, k.output.trans h.output, Nat.le_trans h.size k.size, fun x hx hn => (k.block x (Nat.lt_of_lt_of_le hx h.size) fun e => by
    rcases hL x e with h | h
    · exact hn h
    · omega).trans (h.block x hx hn)⟩
theorem Wrote.of_grown {L : List Nat} (h : w.grownBy w' v.ownBlock) (hL : ∀ x ∈ ownV v, x ∈ L) : Wrote L w w' :=
  ⟨h.os, h.tape, h.output, h.size, fun x hx hn => h.block x hx fun e => hn (hL x (by unfold ownV; rw [← e]; simp))⟩
end
/-- The decimal digits of k in front of out, at most fu of them. -/
def digs : Nat → Nat → List UInt8 → List UInt8
  | 0, _, out => out
  | fu + 1, k, out => if k = 0 then out else digs fu (k / 10) (UInt8.ofNat (48 + k % 10) :: out)
/-- The text of a mark. -/
def mtext (k : Nat) : ByteArray := ⟨(109 :: digs k k []).toArray⟩
theorem digs_len (fu : Nat) : ∀ (k : Nat) (out : List UInt8), (digs fu k out).length ≤ out.length + k := by
  induction fu with
  | zero => intro k out; simp only [digs]; omega
  | succ fu ih =>
    intro k out
    simp only [digs]
    split
    · omega
    · have := ih (k / 10) (UInt8.ofNat (48 + k % 10) :: out)
      simp only [List.length_cons] at this
      omega
theorem mtext_size (k : Nat) : (mtext k).size ≤ k + 1 := by
  have := digs_len k k []
  simp only [List.length_nil] at this
  have e : (mtext k).size = (digs k k []).length + 1 := by simp [mtext, ByteArray.size]
  omega


/-! Rows that a call owns. -/
section
variable {w w' : World} {base e size n : Nat} {v : Value} {xs : List Value}
theorem own_lt (h : w.ownsRow base e size v n xs) : ∀ x ∈ ownV v, base ≤ x ∧ x < w.heap.size := fun x hx => World.ownsRow.lt h x (by unfold ownV at hx; simpa using hx)
theorem own_keep {L : List Nat} (h : w.ownsRow base e size v n xs) (hb : Wrote L w w') (hL : ∀ x ∈ ownV v, x ∉ L) : w'.ownsRow base e size v n xs := by
  have hlt := own_lt h
  obtain ⟨h1, h2⟩ := h
  refine ⟨h1, ?_⟩
  rcases h2 with h2 | ⟨g, cap, cur, rfl, hg, hh, hr⟩
  · exact .inl h2
  · exact .inr ⟨g, cap, cur, rfl, hg, (hb.block g (hlt g (by simp [ownV, Value.ownBlock])).2 (hL g (by simp [ownV, Value.ownBlock]))).trans hh, hr⟩
theorem own_below (h : w.ownsRow base e size v n xs) (hb : Below w.heap.size w w') : w'.ownsRow base e size v n xs := own_keep h (.of_below hb []) fun _ _ => by simp
theorem own_mono {base' : Nat} (h : w.ownsRow base e size v n xs) (hb : base' ≤ base) : w.ownsRow base' e size v n xs := by
  refine ⟨h.1, ?_⟩
  rcases h.2 with h2 | ⟨g, cap, cur, e, hg, hr⟩
  · exact .inl h2
  · exact .inr ⟨g, cap, cur, e, Nat.le_trans hb hg, hr⟩
end
/-- The slice v holds the bytes l; its block is the call's own, from base on. -/
def OwnU (w : World) (base : Nat) (v : Value) (l : List UInt8) : Prop := w.ownsRow base 5 1 v l.length (Lib.byteCells l)
/-- The cells of frames. -/
def fcs : List fz.F → List Value
  | [] => []
  | f :: fs => .int .i64 f.t :: .string f.s :: fcs fs
theorem fcs_len : ∀ fs : List fz.F, (fcs fs).length = fs.length * 2
  | [] => rfl
  | f :: fs => by simp only [fcs, List.length_cons, fcs_len fs]; omega
theorem fcs_app : ∀ fs gs : List fz.F, fcs (fs ++ gs) = fcs fs ++ fcs gs
  | [], _ => rfl
  | f :: fs, gs => by simp only [List.cons_append, fcs, fcs_app fs gs]
theorem fcs_at : ∀ (fs : List fz.F) (j : Nat) (f : fz.F), fs[j]? = some f → (fcs fs)[j * 2]? = some (.int .i64 f.t) ∧ (fcs fs)[j * 2 + 1]? = some (.string f.s)
  | [], j, f, h => by simp at h
  | g :: fs, 0, f, h => by
    simp at h; subst h
    exact ⟨rfl, rfl⟩
  | g :: fs, j + 1, f, h => by
    have := fcs_at fs j f (by simpa using h)
    have e : (j + 1) * 2 = j * 2 + 1 + 1 := by omega
    rw [e]
    simp only [fcs, List.getElem?_cons_succ]
    exact this
def OwnG (w : World) (base : Nat) (v : Value) (fs : List fz.F) : Prop := w.ownsRow base 26 2 v fs.length (fcs fs)
section
variable {w w' : World} {base : Nat} {v : Value} {l : List UInt8} {fs : List fz.F}
theorem bcs_len (l : List UInt8) : (Lib.byteCells l).length = l.length := by simp [Lib.byteCells]
theorem bcs_app (l m : List UInt8) : Lib.byteCells (l ++ m) = Lib.byteCells l ++ Lib.byteCells m := by simp [Lib.byteCells]
theorem bcs_at (l : List UInt8) (j : Nat) (h : j < l.length) : (Lib.byteCells l)[j]? = some (.int .u8 ((l.getD j 0).toNat : Int)) := by
  simp [Lib.byteCells, List.getD, h]
/-- What reading bytes wants. -/
theorem OwnU.read (h : OwnU w base v l) : ∃ A cap, v = .slice A l.length cap ∧ l.length ≤ cap ∧ cap ≤ maxLen ∧ (0 < l.length → ∃ g, A = some ⟨g, 0, none⟩ ∧ ownV v = [g] ∧
    ∀ j, j < l.length → w.cell? ⟨g, j, none⟩ = some (.int .u8 ((l.getD j 0).toNat : Int)) ∧ w.frozen? ⟨g, j, none⟩ = false) := by
  have h0 := h
  rcases h.2 with ⟨rfl, hn⟩ | ⟨g, cap, cur, rfl, hg, hh, hr1, hr2, _⟩
  · rw [hn]
    exact ⟨none, 0, rfl, Nat.le_refl _, Nat.zero_le _, fun h => absurd h (by omega)⟩
  · refine ⟨_, cap, rfl, hr1, hr2, fun _ => ⟨g, rfl, rfl, fun j hj => ⟨?_, World.ownsRow.frozenAt h0 j⟩⟩⟩
    rw [World.ownsRow.cellAt h0 j (by omega), bcs_at l j hj]
theorem OwnU.stored {g n cap : Nat} (h : OwnU w base (.slice (some ⟨g, 0, none⟩) n cap) l) (j : Nat) (x : UInt8) (hn : n = l.length) : OwnU (w.setCell ⟨g, j, none⟩ (.int .u8 (x.toNat : Int))) base (.slice (some ⟨g, 0, none⟩) n cap) (l.set j x) := by
  subst hn
  unfold OwnU at *
  have := World.ownsRow.stored h j (.int .u8 (x.toNat : Int))
  have e : (Lib.byteCells l).set j (.int .u8 (x.toNat : Int)) = Lib.byteCells (l.set j x) := by unfold Lib.byteCells; rw [List.map_set]
  rw [List.length_set, ← e]
  exact this.1
/-- What reading frames wants. -/
theorem OwnG.read (h : OwnG w base v fs) : ∃ A cap, v = .slice A fs.length cap ∧ fs.length ≤ cap ∧ cap ≤ maxLen ∧ (0 < fs.length → ∃ g, A = some ⟨g, 0, none⟩ ∧ ownV v = [g] ∧
    ∀ j f, fs[j]? = some f → w.cell? ⟨g, j * 2, none⟩ = some (.int .i64 f.t) ∧ w.cell? ⟨g, j * 2 + 1, none⟩ = some (.string f.s) ∧ w.frozen? ⟨g, j * 2, none⟩ = false ∧ w.frozen? ⟨g, j * 2 + 1, none⟩ = false) := by
  have h0 := h
  rcases h.2 with ⟨rfl, hn⟩ | ⟨g, cap, cur, rfl, hg, hh, hr1, hr2, _⟩
  · rw [hn]
    exact ⟨none, 0, rfl, Nat.le_refl _, Nat.zero_le _, fun h => absurd h (by omega)⟩
  · refine ⟨_, cap, rfl, hr1, hr2, fun _ => ⟨g, rfl, rfl, fun j f hf => ?_⟩⟩
    have hj : j < fs.length := (List.getElem?_eq_some_iff.1 hf).1
    obtain ⟨e0, e1⟩ := fcs_at fs j f hf
    exact ⟨(World.ownsRow.cellAt h0 (j * 2) (by omega)).trans e0, (World.ownsRow.cellAt h0 (j * 2 + 1) (by omega)).trans e1, World.ownsRow.frozenAt h0 _, World.ownsRow.frozenAt h0 _⟩
theorem fcs_set : ∀ (fs : List fz.F) (j : Nat) (f : fz.F), ((fcs fs).set (j * 2) (.int .i64 f.t)).set (j * 2 + 1) (.string f.s) = fcs (fs.set j f)
  | [], j, f => by simp [fcs]
  | g :: fs, 0, f => rfl
  | g :: fs, j + 1, f => by
    have e : (j + 1) * 2 = j * 2 + 1 + 1 := by omega
    rw [e]
    simp only [fcs, List.set_cons_succ, fcs_set fs j f]
theorem OwnG.stored {g n cap : Nat} (h : OwnG w base (.slice (some ⟨g, 0, none⟩) n cap) fs) (j : Nat) (f : fz.F) (hn : n = fs.length) :
    OwnG ((w.setCell ⟨g, j * 2, none⟩ (.int .i64 f.t)).setCell ⟨g, j * 2 + 1, none⟩ (.string f.s)) base (.slice (some ⟨g, 0, none⟩) n cap) (fs.set j f) := by
  subst hn
  unfold OwnG at *
  have h1 := (World.ownsRow.stored h (j * 2) (.int .i64 f.t)).1
  have h2 := (World.ownsRow.stored h1 (j * 2 + 1) (.string f.s)).1
  rw [List.length_set, ← fcs_set]
  exact h2
end
/-! Marks. -/
def mkU (k n : Nat) : List UInt8 := (List.range n).map fun i => UInt8.ofNat (k + i)
theorem mkU_len (k n : Nat) : (mkU k n).length = n := by simp [mkU]
theorem mkU_at (k n j : Nat) (h : j < n) : (mkU k n).getD j 0 = UInt8.ofNat (k + j) := by simp [mkU, List.getD, h]
theorem mkU_step (k j : Nat) (xs : List UInt8) (h : j < xs.length) : (mkU k j ++ xs.drop j).set j (UInt8.ofNat (k + j)) = mkU k (j + 1) ++ xs.drop (j + 1) := by
  have e : mkU k (j + 1) = mkU k j ++ [UInt8.ofNat (k + j)] := by unfold mkU; rw [List.range_succ]; simp
  rw [e, List.set_append_right _ _ (by rw [mkU_len]; exact Nat.le_refl _), mkU_len, Nat.sub_self, List.drop_eq_getElem_cons h, List.append_assoc]
  rfl
def mkG1 (k : Nat) : fz.F := ⟨(k : Int), mtext (k + 1)⟩
def mkG (k n : Nat) : List fz.F := (List.range n).map fun i => mkG1 (k + 2 * i)
theorem mkG_len (k n : Nat) : (mkG k n).length = n := by simp [mkG]
theorem mkG_at (k n j : Nat) (h : j < n) : (mkG k n)[j]? = some (mkG1 (k + 2 * j)) := by simp [mkG, h]
theorem mkG_step (k j : Nat) (xs : List fz.F) (h : j < xs.length) : (mkG k j ++ xs.drop j).set j (mkG1 (k + 2 * j)) = mkG k (j + 1) ++ xs.drop (j + 1) := by
  have e : mkG k (j + 1) = mkG k j ++ [mkG1 (k + 2 * j)] := by unfold mkG; rw [List.range_succ]; simp
  rw [e, List.set_append_right _ _ (by rw [mkG_len]; exact Nat.le_refl _), mkG_len, Nat.sub_self, List.drop_eq_getElem_cons h, List.append_assoc]
  rfl
/-- Bytes that can be read, in a block before B. -/
def AtU (w : World) (B : Nat) (A : Option Addr) (l : List UInt8) : Prop :=
  0 < l.length → ∃ b o, A = some ⟨b, o, none⟩ ∧ b < B ∧ ∀ i, i < l.length → w.cell? ⟨b, o + i, none⟩ = some (.int .u8 ((l.getD i 0).toNat : Int))
theorem AtU.keep {w w' : World} {B : Nat} {A : Option Addr} {l : List UInt8} (h : AtU w B A l) (hk : ∀ x, x < B → w'.heap[x]? = w.heap[x]?) : AtU w' B A l := fun hp => by
  obtain ⟨b, o, e, hb, hc⟩ := h hp
  exact ⟨b, o, e, hb, fun i hi => (World.cell?_of_block (a := ⟨b, o + i, none⟩) (hk b hb)).trans (hc i hi)⟩
theorem AtU.below {w w' : World} {B B' : Nat} {A : Option Addr} {l : List UInt8} (h : AtU w B A l) (hb : Below B' w w') (hB : B ≤ B') : AtU w' B A l := h.keep fun x hx => hb.block x (by omega)
theorem AtU.more {w : World} {B B' : Nat} {A : Option Addr} {l : List UInt8} (h : AtU w B A l) (hB : B ≤ B') : AtU w B' A l := fun hp => by
  obtain ⟨b, o, e, hb, hc⟩ := h hp
  exact ⟨b, o, e, by omega, hc⟩
theorem OwnU.at_ {w : World} {base : Nat} {v : Value} {l : List UInt8} (h : OwnU w base v l) : ∃ A cap, v = .slice A l.length cap ∧ l.length ≤ cap ∧ cap ≤ maxLen ∧ AtU w w.heap.size A l := by
  have hl := own_lt h
  obtain ⟨A, cap, rfl, h1, h2, h3⟩ := h.read
  refine ⟨A, cap, rfl, h1, h2, fun hp => ?_⟩
  obtain ⟨g, rfl, ho, hc⟩ := h3 hp
  exact ⟨g, 0, rfl, (hl g (by rw [ho]; simp)).2, fun i hi => by rw [Nat.zero_add]; exact (hc i hi).1⟩
/-- Frames that can be read, in a block before B. -/
def AtG (w : World) (B : Nat) (A : Option Addr) (fs : List fz.F) : Prop :=
  0 < fs.length → ∃ b o, A = some ⟨b, o, none⟩ ∧ b < B ∧ ∀ j f, fs[j]? = some f → w.cell? ⟨b, o + j * 2, none⟩ = some (.int .i64 f.t) ∧ w.cell? ⟨b, o + (j * 2 + 1), none⟩ = some (.string f.s)
theorem AtG.keep {w w' : World} {B : Nat} {A : Option Addr} {l : List fz.F} (h : AtG w B A l) (hk : ∀ x, x < B → w'.heap[x]? = w.heap[x]?) : AtG w' B A l := fun hp => by
  obtain ⟨b, o, e, hb, hc⟩ := h hp
  exact ⟨b, o, e, hb, fun i f hi => ⟨(World.cell?_of_block (a := ⟨b, _, none⟩) (hk b hb)).trans (hc i f hi).1, (World.cell?_of_block (a := ⟨b, _, none⟩) (hk b hb)).trans (hc i f hi).2⟩⟩
theorem AtG.below {w w' : World} {B B' : Nat} {A : Option Addr} {l : List fz.F} (h : AtG w B A l) (hb : Below B' w w') (hB : B ≤ B') : AtG w' B A l := h.keep fun x hx => hb.block x (by omega)
theorem OwnG.at_ {w : World} {base : Nat} {v : Value} {l : List fz.F} (h : OwnG w base v l) : ∃ A cap, v = .slice A l.length cap ∧ l.length ≤ cap ∧ cap ≤ maxLen ∧ AtG w w.heap.size A l := by
  have hl := own_lt h
  obtain ⟨A, cap, rfl, h1, h2, h3⟩ := h.read
  refine ⟨A, cap, rfl, h1, h2, fun hp => ?_⟩
  obtain ⟨g, rfl, ho, hc⟩ := h3 hp
  exact ⟨g, 0, rfl, (hl g (by rw [ho]; simp)).2, fun i f hi => by rw [Nat.zero_add, Nat.zero_add]; exact ⟨(hc i f hi).1, (hc i f hi).2.1⟩⟩
end Go.Proofs.Ytdpmjpjbcpdgnaa

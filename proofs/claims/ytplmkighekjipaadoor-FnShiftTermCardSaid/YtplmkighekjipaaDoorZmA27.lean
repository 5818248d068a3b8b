/- impl.nodesOf, spec.l1All: all terms of a list. Condition: they lie in memory, the table of signs in its variable. -/
import Derived.Test.YtplmkighekjipaaDoorProg
import Derived.Test.YtplmkighekjipaaDoorZmA23
import Derived.Test.YtplmkighekjipaaDoorMk
import Derived.Test.YtplmkighekjipaaDoorZmA21
import Derived.StillTailTactics
import Derived.WalkKit
import Derived.WalkSpells
import Derived.Outline
namespace Go.Proofs.YtplmkighekjipaaDoor
open Go.RowKit

/-- Every term of the row is valid. -/
def allV : Fr → Bool
  | .nil => true
  | .cons k n s kids rest => validT k n s kids && allV rest
theorem nodes_drop_elem (i : Nat) (f : Fr) {k n : Int} {s : ByteArray} {kids rest : Fr} (h : f.drop i = .cons k n s kids rest) : nodes kids ≤ nodes f := by
  have := nodes_elem i f h; omega

/-- The loop's relation: j nodes are made, in block g. -/
def NPart (w : World) (f : Fr) (g j : Nat) (wr : World) : Prop :=
  Below w.heap.size w wr ∧ (∃ cur, Blk wr g 51 cur ∧ cur.size = f.len) ∧ NdRow wr (g + 1) wr.heap.size (f.take j) g 0 ∧ w.heap.size ≤ g
theorem NPart.step {w wr w1 w2 : World} {f : Fr} {g i : Nat} {k n : Int} {s : ByteArray} {kids rest : Fr} {v : Value}
    (h : NPart w f g i wr) (hd : f.drop i = .cons k n s kids rest) (hi : i < f.len) (h1 : Below wr.heap.size wr w1) (h2 : Below w1.heap.size w1 w2) (hv : NdV w2 w1.heap.size w2.heap.size k n s kids v) :
    NPart w f g (i + 1) (w2.setCell ⟨g, i, none⟩ v) := by
  obtain ⟨hb, ⟨cur, hblk, hs⟩, hrow, hgl⟩ := h
  have hlt := hblk.lt
  have h12 : Below wr.heap.size wr w2 := h1.trans (h2.mono h1.size)
  have b2 := hblk.below h12 hlt
  have far : ∀ p : Addr, p.block ≠ g → (w2.setCell ⟨g, i, none⟩ v).cell? p = w2.cell? p := fun p hp => World.cell?_of_block (heap_setCell_other w2 ⟨g, i, none⟩ p.block v hp)
  have hsz : (w2.setCell ⟨g, i, none⟩ v).heap.size = w2.heap.size := by simp [World.setCell]
  have hlen : (f.take i).len = i := Fr.len_take i f (by omega)
  have hs1 := h1.size
  have hs2 := h12.size
  refine ⟨(hb.trans (h12.mono hb.size)).setCell hgl v, ⟨_, b2.set_ i v, by simpa using hs⟩, ?_, hgl⟩
  rw [Fr.take_succ i f hd, hsz]
  refine NdRow.snoc (f.take i) (hv.keep (fun p hp _ => far p (by omega)) (by omega) (Nat.le_refl _)) g 0 ?_ ?_
  · refine NdRow.keep (fun p hp hp' => ?_) (Nat.le_refl _) hs2 (f.take i) g 0 (fun j hj => ?_) hrow
    · rw [far p (by omega)]
      exact h12.cell hp'
    · rw [hlen] at hj
      rw [(b2.set_ i v).cell, hblk.cell]
      simp only [Array.getElem?_setIfInBounds]
      rw [if_neg (by omega)]
  · rw [hlen, (b2.set_ i v).cell]
    simp [Array.getElem?_setIfInBounds]
    omega
theorem NPart.start {w w2 : World} {f : Fr} {base : Nat} {xs : List Value} (hown : w2.ownsRow base 51 1 (.slice (some ⟨w.heap.size, 0, none⟩) f.len f.len) f.len xs) (hg : w.grownBy w2 none) : NPart w f w.heap.size 0 w2 := by
  rcases hown.2 with ⟨h', _⟩ | ⟨g', cap', cur, h', _, hb, _, _, hs, _⟩
  · simp at h'
  · simp only [Value.slice.injEq, Option.some.injEq, Addr.mk.injEq, and_true, true_and] at h'
    obtain ⟨rfl, rfl⟩ := h'
    exact ⟨(Below.refl _ _).grown hg (Nat.le_refl _) (fun k hk => by cases hk), ⟨cur, hb, by simpa using hs⟩, trivial, Nat.le_refl _⟩
theorem NPart.done {w wr : World} {f : Fr} {g : Nat} (h : NPart w f g f.len wr) (hl : f.len ≤ maxLen) : NdS wr w.heap.size wr.heap.size f (some ⟨g, 0, none⟩) f.len ∧ Below w.heap.size w wr := by
  obtain ⟨hb, ⟨cur, hblk, hs⟩, hrow, hgl⟩ := h
  rw [Fr.take_len] at hrow
  exact ⟨⟨Nat.le_refl _, hl, fun _ => ⟨g, rfl, hgl, hblk.lt, NdRow.keep (fun _ _ _ => rfl) (by omega) (Nat.le_refl _) f g 0 (fun _ _ => rfl) hrow⟩⟩, hb⟩
theorem NPart.cell {w wr w2 : World} {f : Fr} {g j : Nat} (h : NPart w f g j wr) (hj : j < f.len) (hb : Below wr.heap.size wr w2) : (∃ v, w2.cell? ⟨g, j, none⟩ = some v) ∧ w2.frozen? ⟨g, j, none⟩ = false := by
  obtain ⟨_, ⟨cur, hblk, hs⟩, _⟩ := h
  have hb2 := hblk.below hb hblk.lt
  refine ⟨?_, hb2.frozen _⟩
  rw [hb2.cell]
  exact ⟨_, Array.getElem?_eq_getElem (by omega)⟩

/-- What nodesOf answers. -/
def NodesRes (w : World) (f : Fr) (e : Ending) (w' : World) : Prop :=
  Below w.heap.size w w' ∧ ((allV f = true ∧ ∃ A cap, e = .returned (.tuple #[.slice A f.len cap, .bool true]) ∧ NdS w' w.heap.size w'.heap.size f A cap) ∨ (allV f = false ∧ e = .returned (.tuple #[.slice none 0 0, .bool false])))

end Go.Proofs.YtplmkighekjipaaDoor

/- What a type assertion of a node finds, and what a well-formed term is. No condition. -/
namespace Go.Proofs.YtplmkighekjipaaDoor
open Go.RowKit

@[go_sem] theorem as_v_s (v : Value) (w : World) : (Instr.typeAssert (.iface 56 v) 51 113 true).run Tryd.prog w = .ok (.tuple #[.agg #[.string ⟨#[]⟩, .slice none 0 0], .bool false]) w := by kernel_rfl
@[go_sem] theorem as_n_s (v : Value) (w : World) : (Instr.typeAssert (.iface 132 v) 51 113 true).run Tryd.prog w = .ok (.tuple #[.agg #[.string ⟨#[]⟩, .slice none 0 0], .bool false]) w := by kernel_rfl
@[go_sem] theorem as_s_s (v : Value) (w : World) : (Instr.typeAssert (.iface 113 v) 51 113 true).run Tryd.prog w = .ok (.tuple #[v, .bool true]) w := by kernel_rfl
@[go_sem] theorem as_v_v (v : Value) (w : World) : (Instr.typeAssert (.iface 56 v) 51 56 true).run Tryd.prog w = .ok (.tuple #[v, .bool true]) w := by kernel_rfl
@[go_sem] theorem as_v_v' (v : Value) (w : World) : (Instr.typeAssert (.iface 56 v) 51 56 false).run Tryd.prog w = .ok v w := by kernel_rfl
@[go_sem] theorem as_n_v (v : Value) (w : World) : (Instr.typeAssert (.iface 132 v) 51 56 true).run Tryd.prog w = .ok (.tuple #[.int .i64 0, .bool false]) w := by kernel_rfl
@[go_sem] theorem as_s_v (v : Value) (w : World) : (Instr.typeAssert (.iface 113 v) 51 56 true).run Tryd.prog w = .ok (.tuple #[.int .i64 0, .bool false]) w := by kernel_rfl
@[go_sem] theorem as_n_n (v : Value) (w : World) : (Instr.typeAssert (.iface 132 v) 51 132 true).run Tryd.prog w = .ok (.tuple #[v, .bool true]) w := by kernel_rfl
@[go_sem] theorem as_n_n' (v : Value) (w : World) : (Instr.typeAssert (.iface 132 v) 51 132 false).run Tryd.prog w = .ok v w := by kernel_rfl
@[go_sem] theorem as_s_n (v : Value) (w : World) : (Instr.typeAssert (.iface 113 v) 51 132 true).run Tryd.prog w = .ok (.tuple #[.int .i64 0, .bool false]) w := by kernel_rfl
@[go_sem] theorem as_s_s' (v : Value) (w : World) : (Instr.typeAssert (.iface 113 v) 51 113 false).run Tryd.prog w = .ok v w := by kernel_rfl

theorem shapeT_len {k n : Int} {s : ByteArray} {kids : Fr} {d : Int} (h : shapeT k n s kids d = true) (hk : k ≠ 3) : kids.len = 0 := by
  unfold shapeT ownB at h
  simp only [Bool.and_eq_true, Bool.or_eq_true, decide_eq_true_eq, beq_iff_eq] at h
  obtain ⟨_, h, _⟩ := h
  rcases h with (⟨_, _, h⟩ | ⟨_, _, h⟩) | ⟨h, _⟩
  · exact h
  · exact h
  · exact absurd h hk
theorem shapeT_kids {k n : Int} {s : ByteArray} {kids : Fr} {d : Int} (h : shapeT k n s kids d = true) : shapeF kids (d - 1) = true := by
  unfold shapeT at h
  simp only [Bool.and_eq_true] at h
  exact h.2.2

theorem shapeF_mono (f : Fr) : ∀ d d' : Int, d ≤ d' → shapeF f d = true → shapeF f d' = true := by
  induction f with
  | nil => intro d d' _ _; rfl
  | cons k n s kids rest ihk ihr =>
    intro d d' hd h
    simp only [shapeF, Bool.and_eq_true, decide_eq_true_eq] at h ⊢
    exact ⟨⟨by omega, h.1.2.1, ihk (d - 1) (d' - 1) (by omega) h.1.2.2⟩, ihr d d' hd h.2⟩
end Go.Proofs.YtplmkighekjipaaDoor

/- spec.l1Pair, l1Nil, impl.isEmptyList: what a list's nodes are. Condition: the term lies in memory. -/
namespace Go.Proofs.YtplmkighekjipaaDoor
open Go.RowKit

def dotB (s : ByteArray) : Bool := s.data.toList == [46]
def emptyB (s : ByteArray) : Bool := s.data.toList == [91, 93]
/-- A pair of a list. -/
def pairB (k : Int) (s : ByteArray) (len : Nat) : Bool := k == 3 && (dotB s && len == 2)
/-- The empty list. -/
def nilB (k : Int) (s : ByteArray) (len : Nat) : Bool := k == 3 && (emptyB s && len == 0)

/-! The elements of a list, and what stands behind the last pair. -/
def fronts : Int → ByteArray → Fr → Fr
  | k, s, .cons k1 n1 s1 kd1 (.cons k2 _ s2 kd2 .nil) => if pairB k s 2 = true then .cons k1 n1 s1 kd1 (fronts k2 s2 kd2) else .nil
  | _, _, _ => .nil
def tails : Int → Int → ByteArray → Fr → Fr
  | k, n, s, .cons k1 n1 s1 kd1 (.cons k2 n2 s2 kd2 .nil) => if pairB k s 2 = true then tails k2 n2 s2 kd2 else .cons k n s (.cons k1 n1 s1 kd1 (.cons k2 n2 s2 kd2 .nil)) .nil
  | k, n, s, f => .cons k n s f .nil
theorem two_of (f : Fr) (h : f.len = 2) : ∃ k1 n1 s1 kd1 k2 n2 s2 kd2, f = .cons k1 n1 s1 kd1 (.cons k2 n2 s2 kd2 .nil) := by
  cases f with
  | nil => simp [Fr.len] at h
  | cons k1 n1 s1 kd1 r =>
    cases r with
    | nil => simp [Fr.len] at h
    | cons k2 n2 s2 kd2 r =>
      cases r with
      | nil => exact ⟨_, _, _, _, _, _, _, _, rfl⟩
      | cons _ _ _ _ _ => simp [Fr.len] at h
theorem pairB_len {k : Int} {s : ByteArray} {len : Nat} (h : pairB k s len = true) : len = 2 ∧ k = 3 ∧ dotB s = true := by
  simp only [pairB, Bool.and_eq_true, beq_iff_eq] at h
  exact ⟨h.2.2, h.1, h.2.1⟩
theorem pair_yes {k : Int} (n : Int) {s : ByteArray} {f : Fr} (h : pairB k s f.len = true) : ∃ k1 n1 s1 kd1 k2 n2 s2 kd2, f = .cons k1 n1 s1 kd1 (.cons k2 n2 s2 kd2 .nil) ∧ fronts k s f = .cons k1 n1 s1 kd1 (fronts k2 s2 kd2) ∧ tails k n s f = tails k2 n2 s2 kd2 := by
  have hl := (pairB_len h).1
  obtain ⟨k1, n1, s1, kd1, k2, n2, s2, kd2, rfl⟩ := two_of f hl
  have h2 : pairB k s 2 = true := h
  exact ⟨k1, n1, s1, kd1, k2, n2, s2, kd2, rfl, by rw [fronts, if_pos h2], by rw [tails, if_pos h2]⟩
theorem pair_no {k : Int} (n : Int) {s : ByteArray} {f : Fr} (h : pairB k s f.len = false) : fronts k s f = .nil ∧ tails k n s f = .cons k n s f .nil := by
  by_cases hl : f.len = 2
  · obtain ⟨k1, n1, s1, kd1, k2, n2, s2, kd2, rfl⟩ := two_of f hl
    have h2 : ¬ pairB k s 2 = true := by rw [Bool.not_eq_true]; exact h
    exact ⟨by rw [fronts, if_neg h2], by rw [tails, if_neg h2]⟩
  · cases f with
    | nil => exact ⟨rfl, rfl⟩
    | cons k1 n1 s1 kd1 r =>
      cases r with
      | nil => exact ⟨rfl, rfl⟩
      | cons k2 n2 s2 kd2 r =>
        cases r with
        | nil => simp [Fr.len] at hl
        | cons _ _ _ _ _ => exact ⟨rfl, rfl⟩
/-- The term is a list. -/
def listB (k n : Int) (s : ByteArray) (f : Fr) : Bool := match tails k n s f with
  | .cons k' _ s' f' _ => nilB k' s' f'.len
  | .nil => false
theorem app_assoc (a b c : Fr) : (a.app b).app c = a.app (b.app c) := by
  induction a with
  | nil => rfl
  | cons _ _ _ _ _ _ ih => simp only [Fr.app, ih]
theorem app_nil (a : Fr) : a.app .nil = a := by
  induction a with
  | nil => rfl
  | cons _ _ _ _ _ _ ih => simp only [Fr.app, ih]
end Go.Proofs.YtplmkighekjipaaDoor

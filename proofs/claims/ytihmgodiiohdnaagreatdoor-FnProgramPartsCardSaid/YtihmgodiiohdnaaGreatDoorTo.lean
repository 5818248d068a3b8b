/- laws.toTerm, laws.toTermS: a term of the model's type made of the law's own. Condition: no more than the law's budget. -/
import Derived.Test.YtihmgodiiohdnaaGreatDoorProg
import Derived.Test.YtihmgodiiohdnaaGreatDoorOwn
import Derived.Test.YtihmgodiiohdnaaGreatDoorSz
import Derived.WalkKit
import Derived.WalkSpells
import Derived.Outline
import Derived.OwnWalk
namespace Go.Proofs.YtihmgodiiohdnaaGreatDoor
open Go.RowKit

theorem infoT : (Tryz.prog.info? 30).map (fun i => (i.zero, i.size, i.bytes)) = some (some (.agg #[.int .i64 0, .int .i64 0, .string ByteArray.empty, .slice none 0 0]), 4, 56) := by kernel_rfl

def MadeS (w : World) (f : Fr) (e : Ending) (w' : World) : Prop := ∃ A cap, e = .returned (.slice A f.len cap) ∧ Made w f A cap w'
def MadeT (w : World) (k n : Int) (s : ByteArray) (f : Fr) (e : Ending) (w' : World) : Prop := ∃ A cap, e = .returned (.agg #[.int .i64 k, .int .i64 n, .string s, .slice A f.len cap]) ∧ Made w f A cap w'
theorem wt_elem (i : Nat) : ∀ (f : Fr) {k n : Int} {s : ByteArray} {kids rest : Fr}, f.drop i = .cons k n s kids rest → s.size + kids.len + wt kids ≤ wt f := by
  induction i with
  | zero =>
    intro f k n s kids rest h
    cases f with
    | nil => cases h
    | cons k' n' s' kids' rest' =>
      injection h with h1 h2 h3 h4 h5
      subst h3 h4
      simp only [wt]; omega
  | succ i ih =>
    intro f k n s kids rest h
    cases f with
    | nil => cases h
    | cons k' n' s' kids' rest' =>
      have := ih rest' h
      simp only [wt]; omega

/-- The loop's relation: k terms are made, in block g. -/
def Part (w : World) (f : Fr) (g k : Nat) (wr : World) : Prop :=
  ∃ cur L, Blk wr g 30 cur ∧ cur.size = f.len * 4 ∧ OwnAt wr (f.take k) g 0 L ∧ L.Nodup ∧ (∀ x ∈ L, g < x ∧ x < wr.heap.size) ∧ w.heap.size ≤ g ∧ Below w.heap.size w wr
theorem Part.lt {w wr : World} {f : Fr} {g k : Nat} (h : Part w f g k wr) : g < wr.heap.size := by
  obtain ⟨cur, L, hb, _⟩ := h; exact hb.lt
theorem Part.below {w wr : World} {f : Fr} {g k : Nat} (h : Part w f g k wr) : Below w.heap.size w wr := by
  obtain ⟨cur, L, _, _, _, _, _, _, hb⟩ := h; exact hb
/-- What the store into element k asks. -/
theorem Part.cells {w wr w2 : World} {f : Fr} {g k : Nat} (h : Part w f g k wr) (hk : k < f.len) (hb : Below wr.heap.size wr w2) (j : Nat) (hj : j < 4) :
    (∃ v, w2.cell? ⟨g, k * 4 + j, none⟩ = some v) ∧ w2.frozen? ⟨g, k * 4 + j, none⟩ = false := by
  obtain ⟨cur, L, hblk, hs, _⟩ := h
  have hb2 := hblk.below hb hblk.lt
  refine ⟨?_, hb2.frozen _⟩
  rw [hb2.cell]
  exact ⟨_, Array.getElem?_eq_getElem (by omega)⟩
/-- One term more. -/
theorem Part.step {w wr w2 : World} {f : Fr} {g i : Nat} {k n : Int} {s : ByteArray} {kids rest : Fr} {A : Option Addr} {cap : Nat} (h : Part w f g i wr) (hd : f.drop i = .cons k n s kids rest) (hi : i < f.len) (hf : Fits k n s) (hm : Made wr kids A cap w2) :
    Part w f g (i + 1) ((((w2.setCell ⟨g, i * 4, none⟩ (.int .i64 k)).setCell ⟨g, i * 4 + 1, none⟩ (.int .i64 n)).setCell ⟨g, i * 4 + 2, none⟩ (.string s)).setCell ⟨g, i * 4 + 3, none⟩ (.slice A kids.len cap)) := by
  obtain ⟨cur, L, hblk, hs, ho, hn, hL, hg, hb⟩ := h
  obtain ⟨L', ho', hn', hL', hb'⟩ := hm
  have hblk2 := hblk.below hb' hblk.lt
  have hlt := hblk.lt
  have b1 := (((hblk2.set_ (i * 4) (.int .i64 k)).set_ (i * 4 + 1) (.int .i64 n)).set_ (i * 4 + 2) (.string s)).set_ (i * 4 + 3) (.slice A kids.len cap)
  have far : ∀ x, x ≠ g → ((((w2.setCell ⟨g, i * 4, none⟩ (.int .i64 k)).setCell ⟨g, i * 4 + 1, none⟩ (.int .i64 n)).setCell ⟨g, i * 4 + 2, none⟩ (.string s)).setCell ⟨g, i * 4 + 3, none⟩ (.slice A kids.len cap)).heap[x]? = w2.heap[x]? := fun x hx => by
    rw [heap_setCell_other _ _ _ _ (show x ≠ g from hx), heap_setCell_other _ _ _ _ (show x ≠ g from hx), heap_setCell_other _ _ _ _ (show x ≠ g from hx), heap_setCell_other _ _ _ _ (show x ≠ g from hx)]
  have hsz : ((((w2.setCell ⟨g, i * 4, none⟩ (.int .i64 k)).setCell ⟨g, i * 4 + 1, none⟩ (.int .i64 n)).setCell ⟨g, i * 4 + 2, none⟩ (.string s)).setCell ⟨g, i * 4 + 3, none⟩ (.slice A kids.len cap)).heap.size = w2.heap.size := by simp [World.setCell]
  generalize hw3 : (((w2.setCell ⟨g, i * 4, none⟩ (.int .i64 k)).setCell ⟨g, i * 4 + 1, none⟩ (.int .i64 n)).setCell ⟨g, i * 4 + 2, none⟩ (.string s)).setCell ⟨g, i * 4 + 3, none⟩ (.slice A kids.len cap) = w3 at *
  have hb3 : Below w.heap.size w w3 := by
    subst hw3
    exact ((((hb.trans (hb'.mono hb.size)).setCell hg _).setCell hg _).setCell hg _).setCell hg _
  have hlen : (f.take i).len = i := Fr.len_take i f (by omega)
  refine ⟨_, L ++ L', b1, by simpa using hs, ?_, ?_, ?_, hg, hb3⟩
  · rw [Fr.take_succ i f hd]
    have own2 : OwnS w3 kids A cap L' := ho'.keep fun x hx => far x (by have := (hL' x hx).1; omega)
    refine OwnAt.snoc (f.take i) hf own2 g 0 L ?_ ?_ ?_ ?_ ?_
    · refine OwnAt.keep (f.take i) g 0 L ho (fun j hj => ?_) fun x hx => ?_
      · rw [hlen] at hj
        rw [b1.cell, hblk.cell]
        simp only [Array.getElem?_setIfInBounds]
        rw [if_neg (by omega), if_neg (by omega), if_neg (by omega), if_neg (by omega)]
      · rw [far x (by have := (hL x hx).1; omega)]
        exact hb'.block x (hL x hx).2
    all_goals
      rw [hlen, b1.cell]
      simp [Array.getElem?_setIfInBounds]
      omega
  · refine List.nodup_append.2 ⟨hn, hn', fun a ha b hb => ?_⟩
    have := (hL a ha).2
    have := (hL' b hb).1
    omega
  · intro x hx
    rw [hsz]
    rcases List.mem_append.1 hx with hx | hx
    · have := (hL x hx); have := hb'.size; omega
    · have := hL' x hx; omega
theorem Part.start {w w1 : World} {f : Fr} {base : Nat} {xs : List Value} (hown : w1.ownsRow base 30 4 (.slice (some ⟨w.heap.size, 0, none⟩) f.len f.len) f.len xs) (hg : w.grownBy w1 none) : Part w f w.heap.size 0 w1 := by
  rcases hown.2 with ⟨h', _⟩ | ⟨g', cap', cur, h', _, hb, _, _, hs, _⟩
  · simp at h'
  · simp only [Value.slice.injEq, Option.some.injEq, Addr.mk.injEq, and_true, true_and] at h'
    obtain ⟨rfl, rfl⟩ := h'
    exact ⟨cur, [], hb, hs, rfl, List.nodup_nil, fun x hx => by simp at hx, Nat.le_refl _, (Below.refl _ _).grown hg (Nat.le_refl _) (fun k hk => by cases hk)⟩
theorem Part.done {w wr : World} {f : Fr} {g : Nat} (h : Part w f g f.len wr) (hl : f.len ≤ maxLen) : ∃ L, OwnS wr f (some ⟨g, 0, none⟩) f.len L ∧ L.Nodup ∧ (∀ x ∈ L, w.heap.size ≤ x ∧ x < wr.heap.size) ∧ Below w.heap.size w wr := by
  obtain ⟨cur, L, hblk, hs, ho, hn, hL, hg, hb⟩ := h
  rw [Fr.take_len] at ho
  refine ⟨g :: L, ⟨Nat.le_refl _, hl, .inr ⟨g, L, cur, rfl, rfl, hblk, hs, ho⟩⟩, List.nodup_cons.2 ⟨fun hx => ?_, hn⟩, fun x hx => ?_, hb⟩
  · have := (hL g hx).1; omega
  · rcases List.mem_cons.1 hx with rfl | hx
    · exact ⟨hg, hblk.lt⟩
    · have := hL x hx; omega

/-- Stores into blocks between the old heap and the made row leave the made row. -/
theorem Made.lift {w w3 w2 w4 : World} {f : Fr} {A : Option Addr} {cap : Nat} (hm : Made w3 f A cap w2) (hb : Below w.heap.size w w3) (hb4 : Below w.heap.size w2 w4) (hk : ∀ x, w3.heap.size ≤ x → w4.heap[x]? = w2.heap[x]?) : Made w f A cap w4 := by
  obtain ⟨L, ho, hn, hL, hb2⟩ := hm
  exact ⟨L, ho.keep fun x hx => hk x (hL x hx).1, hn, fun x hx => ⟨Nat.le_trans hb.size (hL x hx).1, Nat.lt_of_lt_of_le (hL x hx).2 hb4.size⟩, (hb.trans (hb2.mono hb.size)).trans hb4⟩

end Go.Proofs.YtihmgodiiohdnaaGreatDoor

/- laws.szBind, szBindS, toBind, toBindS. Condition: the bindings lie in memory; no more than the law's budget. -/
import Derived.Test.YtnkaafimnkigpaaDoorProg
import Derived.Test.YtnkaafimnkigpaaDoorBd
import Derived.Test.YtnkaafimnkigpaaDoorSz
import Derived.OwnWalk
namespace Go.Proofs.YtnkaafimnkigpaaDoor
open Go.RowKit

theorem infoB : (Tryd.prog.info? 60).map (fun i => (i.zero, i.size, i.bytes)) = some (some (.agg #[.int .i64 0, .int .i64 0, .int .i64 0, .string ByteArray.empty, .slice none 0 0]), 5, 64) := by kernel_rfl

theorem set5 {w : World} {g : Nat} {t : TypeId} {x0 x1 x2 x3 x4 : Value} (h : Blk w g t #[x0, x1, x2, x3, x4]) (a b c d e : Value) : Blk (((((w.setCell ⟨g, 0, none⟩ a).setCell ⟨g, 1, none⟩ b).setCell ⟨g, 2, none⟩ c).setCell ⟨g, 3, none⟩ d).setCell ⟨g, 4, none⟩ e) g t #[a, b, c, d, e] := ((((h.set_ 0 a).set_ 1 b).set_ 2 c).set_ 3 d).set_ 4 e
theorem cells5i {w : World} {g : Nat} {t : TypeId} {a b c d e : Value} (h : Blk w g t #[a, b, c, d, e]) :
    w.cell? ⟨g, 0, none⟩ = some a ∧ w.cell? ⟨g, 1, none⟩ = some b ∧ w.cell? ⟨g, 2, none⟩ = some c ∧ w.cell? ⟨g, 3, none⟩ = some d ∧ w.cell? ⟨g, 4, none⟩ = some e := ⟨h.cell 0, h.cell 1, h.cell 2, h.cell 3, h.cell 4⟩
theorem frozen5 {w : World} {g : Nat} {t : TypeId} {cs : Array Value} (h : Blk w g t cs) :
    w.frozen? ⟨g, 0, none⟩ = false ∧ w.frozen? ⟨g, 1, none⟩ = false ∧ w.frozen? ⟨g, 2, none⟩ = false ∧ w.frozen? ⟨g, 3, none⟩ = false ∧ w.frozen? ⟨g, 4, none⟩ = false := ⟨h.frozen 0, h.frozen 1, h.frozen 2, h.frozen 3, h.frozen 4⟩

/-- The loop's relation: k bindings are made, in block g. -/
def PartB (w : World) (ns : List Int) (f : Fr) (g k : Nat) (wr : World) : Prop :=
  ∃ cur L, Blk wr g 60 cur ∧ cur.size = f.len * 5 ∧ OwnB wr (ns.take k) (f.take k) g 0 L ∧ L.Nodup ∧ (∀ x ∈ L, g < x ∧ x < wr.heap.size) ∧ w.heap.size ≤ g ∧ Below w.heap.size w wr
theorem PartB.below {w wr : World} {ns : List Int} {f : Fr} {g k : Nat} (h : PartB w ns f g k wr) : Below w.heap.size w wr := by
  obtain ⟨cur, L, _, _, _, _, _, _, hb⟩ := h; exact hb
/-- What the store into element k asks. -/
theorem PartB.cells {w wr w2 : World} {ns : List Int} {f : Fr} {g k : Nat} (h : PartB w ns f g k wr) (hk : k < f.len) (hb : Below wr.heap.size wr w2) (j : Nat) (hj : j < 5) :
    (∃ v, w2.cell? ⟨g, k * 5 + j, none⟩ = some v) ∧ w2.frozen? ⟨g, k * 5 + j, none⟩ = false := by
  obtain ⟨cur, L, hblk, hs, _⟩ := h
  have hb2 := hblk.below hb hblk.lt
  refine ⟨?_, hb2.frozen _⟩
  rw [hb2.cell]
  exact ⟨_, Array.getElem?_eq_getElem (by omega)⟩
theorem take_getD : ∀ (ns : List Int) (i : Nat), i < ns.length → ns.take (i + 1) = ns.take i ++ [ns.getD i 0]
  | [], _, h => absurd h (Nat.not_lt_zero _)
  | _ :: _, 0, _ => rfl
  | x :: ns, i + 1, h => by
    have := take_getD ns i (Nat.lt_of_succ_lt_succ h)
    simpa using this
/-- One binding more. -/
theorem PartB.step {w wr w2 : World} {ns : List Int} {f : Fr} {g i : Nat} {k n : Int} {s : ByteArray} {kids rest : Fr} {A : Option Addr} {cap : Nat} (h : PartB w ns f g i wr) (hns : ns.length = f.len) (hd : f.drop i = .cons k n s kids rest) (hi : i < f.len) (h0 : InI (ns.getD i 0)) (hf : Fits k n s) (hm : Made wr kids A cap w2) :
    PartB w ns f g (i + 1) (((((w2.setCell ⟨g, i * 5, none⟩ (.int .i64 (ns.getD i 0))).setCell ⟨g, i * 5 + 1, none⟩ (.int .i64 k)).setCell ⟨g, i * 5 + 2, none⟩ (.int .i64 n)).setCell ⟨g, i * 5 + 3, none⟩ (.string s)).setCell ⟨g, i * 5 + 4, none⟩ (.slice A kids.len cap)) := by
  obtain ⟨cur, L, hblk, hs, ho, hn, hL, hg, hb⟩ := h
  obtain ⟨L', ho', hn', hL', hb'⟩ := hm
  have hblk2 := hblk.below hb' hblk.lt
  have hlt := hblk.lt
  have b1 := ((((hblk2.set_ (i * 5) (.int .i64 (ns.getD i 0))).set_ (i * 5 + 1) (.int .i64 k)).set_ (i * 5 + 2) (.int .i64 n)).set_ (i * 5 + 3) (.string s)).set_ (i * 5 + 4) (.slice A kids.len cap)
  have far : ∀ x, x ≠ g → (((((w2.setCell ⟨g, i * 5, none⟩ (.int .i64 (ns.getD i 0))).setCell ⟨g, i * 5 + 1, none⟩ (.int .i64 k)).setCell ⟨g, i * 5 + 2, none⟩ (.int .i64 n)).setCell ⟨g, i * 5 + 3, none⟩ (.string s)).setCell ⟨g, i * 5 + 4, none⟩ (.slice A kids.len cap)).heap[x]? = w2.heap[x]? := fun x hx => by
    rw [heap_setCell_other _ _ _ _ (show x ≠ g from hx), heap_setCell_other _ _ _ _ (show x ≠ g from hx), heap_setCell_other _ _ _ _ (show x ≠ g from hx), heap_setCell_other _ _ _ _ (show x ≠ g from hx), heap_setCell_other _ _ _ _ (show x ≠ g from hx)]
  have hsz : (((((w2.setCell ⟨g, i * 5, none⟩ (.int .i64 (ns.getD i 0))).setCell ⟨g, i * 5 + 1, none⟩ (.int .i64 k)).setCell ⟨g, i * 5 + 2, none⟩ (.int .i64 n)).setCell ⟨g, i * 5 + 3, none⟩ (.string s)).setCell ⟨g, i * 5 + 4, none⟩ (.slice A kids.len cap)).heap.size = w2.heap.size := by simp [World.setCell]
  generalize hw3 : ((((w2.setCell ⟨g, i * 5, none⟩ (.int .i64 (ns.getD i 0))).setCell ⟨g, i * 5 + 1, none⟩ (.int .i64 k)).setCell ⟨g, i * 5 + 2, none⟩ (.int .i64 n)).setCell ⟨g, i * 5 + 3, none⟩ (.string s)).setCell ⟨g, i * 5 + 4, none⟩ (.slice A kids.len cap) = w3 at *
  have hb3 : Below w.heap.size w w3 := by
    subst hw3
    exact (((((hb.trans (hb'.mono hb.size)).setCell hg _).setCell hg _).setCell hg _).setCell hg _).setCell hg _
  have hlen : (f.take i).len = i := Fr.len_take i f (by omega)
  have htk := take_getD ns i (by omega)
  generalize ns.getD i 0 = n1 at *
  refine ⟨_, L ++ L', b1, by simpa using hs, ?_, ?_, ?_, hg, hb3⟩
  · rw [Fr.take_succ i f hd, htk]
    have own2 : OwnS w3 kids A cap L' := ho'.keep fun x hx => far x (by have := (hL' x hx).1; omega)
    refine OwnB.snoc h0 hf own2 (ns.take i) (f.take i) g 0 L ?_ ?_ ?_ ?_ ?_ ?_
    · refine OwnB.keep (ns.take i) (f.take i) g 0 L ho (fun j hj => ?_) fun x hx => ?_
      · rw [hlen] at hj
        rw [b1.cell, hblk.cell]
        simp only [Array.getElem?_setIfInBounds]
        rw [if_neg (by omega), if_neg (by omega), if_neg (by omega), if_neg (by omega), if_neg (by omega)]
      · rw [far x (by have := (hL x hx).1; omega)]
        exact hb'.block x (hL x hx).2
    all_goals
      rw [hlen, b1.cell]
      simp [Array.getElem?_setIfInBounds]
      omega
  · refine List.nodup_append.2 ⟨hn, hn', fun a ha b hb => ?_⟩
    have := (hL a ha).2
    have := (hL' b hb).1
    omega
  · intro x hx
    rw [hsz]
    rcases List.mem_append.1 hx with hx | hx
    · have := (hL x hx); have := hb'.size; omega
    · have := hL' x hx; omega
theorem PartB.start {w w1 : World} {ns : List Int} {f : Fr} {base : Nat} {xs : List Value} (hown : w1.ownsRow base 60 5 (.slice (some ⟨w.heap.size, 0, none⟩) f.len f.len) f.len xs) (hg : w.grownBy w1 none) : PartB w ns f w.heap.size 0 w1 := by
  rcases hown.2 with ⟨h', _⟩ | ⟨g', cap', cur, h', _, hb, _, _, hs, _⟩
  · simp at h'
  · simp only [Value.slice.injEq, Option.some.injEq, Addr.mk.injEq, and_true, true_and] at h'
    obtain ⟨rfl, rfl⟩ := h'
    exact ⟨cur, [], hb, hs, rfl, List.nodup_nil, fun x hx => by simp at hx, Nat.le_refl _, (Below.refl _ _).grown hg (Nat.le_refl _) (fun k hk => by cases hk)⟩
theorem PartB.done {w wr : World} {ns : List Int} {f : Fr} {g : Nat} (h : PartB w ns f g f.len wr) (hns : ns.length = f.len) (hl : f.len ≤ maxLen) : MadeB w ns f (some ⟨g, 0, none⟩) f.len wr := by
  obtain ⟨cur, L, hblk, hs, ho, hn, hL, hg, hb⟩ := h
  rw [Fr.take_len, ← hns, List.take_length] at ho
  refine ⟨g :: L, ⟨hns, Nat.le_refl _, hl, g, L, cur, rfl, rfl, hblk, hs, ho⟩, List.nodup_cons.2 ⟨fun hx => ?_, hn⟩, fun x hx => ?_, hb⟩
  · have := (hL g hx).1; omega
  · rcases List.mem_cons.1 hx with rfl | hx
    · exact ⟨hg, hblk.lt⟩
    · have := hL x hx; omega

end Go.Proofs.YtnkaafimnkigpaaDoor

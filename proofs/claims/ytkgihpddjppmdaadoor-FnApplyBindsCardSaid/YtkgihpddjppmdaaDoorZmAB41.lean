/- laws.szBind, szBindS, toBind, toBindS. Condition: the bindings lie in memory; no more than the law's budget. -/
import Derived.Test.YtkgihpddjppmdaaDoorProg
import Derived.Test.YtkgihpddjppmdaaDoorBd
import Derived.Test.YtkgihpddjppmdaaDoorSz
import Derived.OwnWalk
import Derived.Test.YtkgihpddjppmdaaDoorMk
import Derived.Laws.OwnMore
import Derived.Deep.AppendLies
import Derived.Deep.QuietTactic
import Derived.BigQuiet
import Derived.Test.YtkgihpddjppmdaaDoorSpecC
import Derived.Test.YtkgihpddjppmdaaDoorCopy
import Derived.Deep.RegionLaw
namespace Go.Proofs.YtkgihpddjppmdaaDoor
open Go.RowKit

theorem infoB : (Tryd.prog.info? 42).map (fun i => (i.zero, i.size, i.bytes)) = some (some (.agg #[.int .i64 0, .int .i64 0, .int .i64 0, .string ByteArray.empty, .slice none 0 0]), 5, 64) := by kernel_rfl

theorem set5 {w : World} {g : Nat} {t : TypeId} {x0 x1 x2 x3 x4 : Value} (h : Blk w g t #[x0, x1, x2, x3, x4]) (a b c d e : Value) : Blk (((((w.setCell ⟨g, 0, none⟩ a).setCell ⟨g, 1, none⟩ b).setCell ⟨g, 2, none⟩ c).setCell ⟨g, 3, none⟩ d).setCell ⟨g, 4, none⟩ e) g t #[a, b, c, d, e] := ((((h.set_ 0 a).set_ 1 b).set_ 2 c).set_ 3 d).set_ 4 e
theorem cells5i {w : World} {g : Nat} {t : TypeId} {a b c d e : Value} (h : Blk w g t #[a, b, c, d, e]) :
    w.cell? ⟨g, 0, none⟩ = some a ∧ w.cell? ⟨g, 1, none⟩ = some b ∧ w.cell? ⟨g, 2, none⟩ = some c ∧ w.cell? ⟨g, 3, none⟩ = some d ∧ w.cell? ⟨g, 4, none⟩ = some e := ⟨h.cell 0, h.cell 1, h.cell 2, h.cell 3, h.cell 4⟩
theorem frozen5 {w : World} {g : Nat} {t : TypeId} {cs : Array Value} (h : Blk w g t cs) :
    w.frozen? ⟨g, 0, none⟩ = false ∧ w.frozen? ⟨g, 1, none⟩ = false ∧ w.frozen? ⟨g, 2, none⟩ = false ∧ w.frozen? ⟨g, 3, none⟩ = false ∧ w.frozen? ⟨g, 4, none⟩ = false := ⟨h.frozen 0, h.frozen 1, h.frozen 2, h.frozen 3, h.frozen 4⟩

/-- The loop's relation: k bindings are made, in block g. -/
def PartB (w : World) (ns : List Int) (f : Fr) (g k : Nat) (wr : World) : Prop :=
  ∃ cur L, Blk wr g 42 cur ∧ cur.size = f.len * 5 ∧ OwnB wr (ns.take k) (f.take k) g 0 L ∧ L.Nodup ∧ (∀ x ∈ L, g < x ∧ x < wr.heap.size) ∧ w.heap.size ≤ g ∧ Below w.heap.size w wr
theorem PartB.below {w wr : World} {ns : List Int} {f : Fr} {g k : Nat} (h : PartB w ns f g k wr) : Below w.heap.size w wr := by
  obtain ⟨cur, L, _, _, _, _, _, _, hb⟩ := h; exact hb
/-- What the store into element k asks. -/
theorem PartB.cells {w wr w2 : World} {ns : List Int} {f : Fr} {g k : Nat} (h : PartB w ns f g k wr) (hk : k < f.len) (hb : Below wr.heap.size wr w2) (j : Nat) (hj : j < 5) :
    (∃ v, w2.cell? ⟨g, k * 5 + j, none⟩ = some v) ∧ w2.frozen? ⟨g, k * 5 + j, none⟩ = false := by
  obtain ⟨cur, L, hblk, hs, _⟩ := h
  have hb2 := hblk.below hb hblk.lt
  refine ⟨?_, hb2.frozen _⟩
  rw [hb2.cell]
  exact ⟨_, Array.getElem?_eq_getElem (by omega)⟩
theorem take_getD : ∀ (ns : List Int) (i : Nat), i < ns.length → ns.take (i + 1) = ns.take i ++ [ns.getD i 0]
  | [], _, h => absurd h (Nat.not_lt_zero _)
  | _ :: _, 0, _ => rfl
  | x :: ns, i + 1, h => by
    have := take_getD ns i (Nat.lt_of_succ_lt_succ h)
    simpa using this
/-- One binding more. -/
theorem PartB.step {w wr w2 : World} {ns : List Int} {f : Fr} {g i : Nat} {k n : Int} {s : ByteArray} {kids rest : Fr} {A : Option Addr} {cap : Nat} (h : PartB w ns f g i wr) (hns : ns.length = f.len) (hd : f.drop i = .cons k n s kids rest) (hi : i < f.len) (h0 : InI (ns.getD i 0)) (hf : Fits k n s) (hm : Made wr kids A cap w2) :
    PartB w ns f g (i + 1) (((((w2.setCell ⟨g, i * 5, none⟩ (.int .i64 (ns.getD i 0))).setCell ⟨g, i * 5 + 1, none⟩ (.int .i64 k)).setCell ⟨g, i * 5 + 2, none⟩ (.int .i64 n)).setCell ⟨g, i * 5 + 3, none⟩ (.string s)).setCell ⟨g, i * 5 + 4, none⟩ (.slice A kids.len cap)) := by
  obtain ⟨cur, L, hblk, hs, ho, hn, hL, hg, hb⟩ := h
  obtain ⟨L', ho', hn', hL', hb'⟩ := hm
  have hblk2 := hblk.below hb' hblk.lt
  have hlt := hblk.lt
  have b1 := ((((hblk2.set_ (i * 5) (.int .i64 (ns.getD i 0))).set_ (i * 5 + 1) (.int .i64 k)).set_ (i * 5 + 2) (.int .i64 n)).set_ (i * 5 + 3) (.string s)).set_ (i * 5 + 4) (.slice A kids.len cap)
  have far : ∀ x, x ≠ g → (((((w2.setCell ⟨g, i * 5, none⟩ (.int .i64 (ns.getD i 0))).setCell ⟨g, i * 5 + 1, none⟩ (.int .i64 k)).setCell ⟨g, i * 5 + 2, none⟩ (.int .i64 n)).setCell ⟨g, i * 5 + 3, none⟩ (.string s)).setCell ⟨g, i * 5 + 4, none⟩ (.slice A kids.len cap)).heap[x]? = w2.heap[x]? := fun x hx => by
    rw [heap_setCell_other _ _ _ _ (show x ≠ g from hx), heap_setCell_other _ _ _ _ (show x ≠ g from hx), heap_setCell_other _ _ _ _ (show x ≠ g from hx), heap_setCell_other _ _ _ _ (show x ≠ g from hx), heap_setCell_other _ _ _ _ (show x ≠ g from hx)]
  have hsz : (((((w2.setCell ⟨g, i * 5, none⟩ (.int .i64 (ns.getD i 0))).setCell ⟨g, i * 5 + 1, none⟩ (.int .i64 k)).setCell ⟨g, i * 5 + 2, none⟩ (.int .i64 n)).setCell ⟨g, i * 5 + 3, none⟩ (.string s)).setCell ⟨g, i * 5 + 4, none⟩ (.slice A kids.len cap)).heap.size = w2.heap.size := by simp [World.setCell]
  generalize hw3 : ((((w2.setCell ⟨g, i * 5, none⟩ (.int .i64 (ns.getD i 0))).setCell ⟨g, i * 5 + 1, none⟩ (.int .i64 k)).setCell ⟨g, i * 5 + 2, none⟩ (.int .i64 n)).setCell ⟨g, i * 5 + 3, none⟩ (.string s)).setCell ⟨g, i * 5 + 4, none⟩ (.slice A kids.len cap) = w3 at *
  have hb3 : Below w.heap.size w w3 := by
    subst hw3
    exact (((((hb.trans (hb'.mono hb.size)).setCell hg _).setCell hg _).setCell hg _).setCell hg _).setCell hg _
  have hlen : (f.take i).len = i := Fr.len_take i f (by omega)
  have htk := take_getD ns i (by omega)
  generalize ns.getD i 0 = n1 at *
  refine ⟨_, L ++ L', b1, by simpa using hs, ?_, ?_, ?_, hg, hb3⟩
  · rw [Fr.take_succ i f hd, htk]
    have own2 : OwnS w3 kids A cap L' := ho'.keep fun x hx => far x (by have := (hL' x hx).1; omega)
    refine OwnB.snoc h0 hf own2 (ns.take i) (f.take i) g 0 L ?_ ?_ ?_ ?_ ?_ ?_
    · refine OwnB.keep (ns.take i) (f.take i) g 0 L ho (fun j hj => ?_) fun x hx => ?_
      · rw [hlen] at hj
        rw [b1.cell, hblk.cell]
        simp only [Array.getElem?_setIfInBounds]
        rw [if_neg (by omega), if_neg (by omega), if_neg (by omega), if_neg (by omega), if_neg (by omega)]
      · rw [far x (by have := (hL x hx).1; omega)]
        exact hb'.block x (hL x hx).2
    all_goals
      rw [hlen, b1.cell]
      simp [Array.getElem?_setIfInBounds]
      omega
  · refine List.nodup_append.2 ⟨hn, hn', fun a ha b hb => ?_⟩
    have := (hL a ha).2
    have := (hL' b hb).1
    omega
  · intro x hx
    rw [hsz]
    rcases List.mem_append.1 hx with hx | hx
    · have := (hL x hx); have := hb'.size; omega
    · have := hL' x hx; omega
theorem PartB.start {w w1 : World} {ns : List Int} {f : Fr} {base : Nat} {xs : List Value} (hown : w1.ownsRow base 42 5 (.slice (some ⟨w.heap.size, 0, none⟩) f.len f.len) f.len xs) (hg : w.grownBy w1 none) : PartB w ns f w.heap.size 0 w1 := by
  rcases hown.2 with ⟨h', _⟩ | ⟨g', cap', cur, h', _, hb, _, _, hs, _⟩
  · simp at h'
  · simp only [Value.slice.injEq, Option.some.injEq, Addr.mk.injEq, and_true, true_and] at h'
    obtain ⟨rfl, rfl⟩ := h'
    exact ⟨cur, [], hb, hs, rfl, List.nodup_nil, fun x hx => by simp at hx, Nat.le_refl _, (Below.refl _ _).grown hg (Nat.le_refl _) (fun k hk => by cases hk)⟩
theorem PartB.done {w wr : World} {ns : List Int} {f : Fr} {g : Nat} (h : PartB w ns f g f.len wr) (hns : ns.length = f.len) (hl : f.len ≤ maxLen) : MadeB w ns f (some ⟨g, 0, none⟩) f.len wr := by
  obtain ⟨cur, L, hblk, hs, ho, hn, hL, hg, hb⟩ := h
  rw [Fr.take_len, ← hns, List.take_length] at ho
  refine ⟨g :: L, ⟨hns, Nat.le_refl _, hl, g, L, cur, rfl, rfl, hblk, hs, ho⟩, List.nodup_cons.2 ⟨fun hx => ?_, hn⟩, fun x hx => ?_, hb⟩
  · have := (hL g hx).1; omega
  · rcases List.mem_cons.1 hx with rfl | hx
    · exact ⟨hg, hblk.lt⟩
    · have := hL x hx; omega

end Go.Proofs.YtkgihpddjppmdaaDoor

/- Rows of integers that a call owns; laws.eqIntS, markIntS, heldIntS. Condition: the rows lie in memory. -/
namespace Go.Proofs.YtkgihpddjppmdaaDoor
open Go.RowKit

/-- The slice v reads as the integers xs; its block is the call's own, from base on. -/
def OwnI (w : World) (base : Nat) (v : Value) (xs : List Int) : Prop := w.ownsRow base 3 1 v xs.length (xs.map (Value.int .i64))
def ownV (v : Value) : List Nat := v.ownBlock.toList
section
variable {w w' : World} {base : Nat} {v : Value} {xs : List Int}
theorem Wrote.more_new {w w1 w2 : World} {L L' : List Nat} (h : Wrote L w w1) (k : Wrote L' w1 w2) (hL : ∀ x ∈ L', x ∈ L ∨ w.heap.size ≤ x) : Wrote L w w2 :=
  ⟨k.os.trans h.os, k.tape.trans h.tape, k.output.trans h.output, Nat.le_trans h.size k.size, fun x hx hn => (k.block x (Nat.lt_of_lt_of_le hx h.size) fun e => by
    rcases hL x e with h | h
    · exact hn h
    · omega).trans (h.block x hx hn)⟩
theorem Wrote.of_grown {L : List Nat} (h : w.grownBy w' v.ownBlock) (hL : ∀ x ∈ ownV v, x ∈ L) : Wrote L w w' :=
  ⟨h.os, h.tape, h.output, h.size, fun x hx hn => h.block x hx fun e => hn (hL x (by unfold ownV; rw [← e]; simp))⟩
theorem OwnI.lt (h : OwnI w base v xs) : ∀ x ∈ ownV v, base ≤ x ∧ x < w.heap.size := fun x hx => World.ownsRow.lt h x (by unfold ownV at hx; simpa using hx)
theorem OwnI.keep {L : List Nat} (h : OwnI w base v xs) (hb : Wrote L w w') (hL : ∀ x ∈ ownV v, x ∉ L) : OwnI w' base v xs := by
  have hlt := h.lt
  obtain ⟨h1, h2⟩ := h
  refine ⟨h1, ?_⟩
  rcases h2 with h2 | ⟨g, cap, cur, rfl, hg, hh, hr⟩
  · exact .inl h2
  · exact .inr ⟨g, cap, cur, rfl, hg, (hb.block g (hlt g (by simp [ownV, Value.ownBlock])).2 (hL g (by simp [ownV, Value.ownBlock]))).trans hh, hr⟩
theorem OwnI.below (h : OwnI w base v xs) (hb : Below w.heap.size w w') : OwnI w' base v xs := h.keep (.of_below hb []) fun _ _ => by simp
theorem OwnI.mono {base' : Nat} (h : OwnI w base v xs) (hb : base' ≤ base) : OwnI w base' v xs := by
  refine ⟨h.1, ?_⟩
  rcases h.2 with h2 | ⟨g, cap, cur, e, hg, hr⟩
  · exact .inl h2
  · exact .inr ⟨g, cap, cur, e, Nat.le_trans hb hg, hr⟩
theorem OwnI.nil (w : World) (base : Nat) : OwnI w base (.slice none 0 0) [] := World.ownsRow_nil w _ _ _
theorem OwnI.empty (w : World) {base : Nat} (hb : base ≤ w.heap.size) : OwnI (w.alloc (.cells #[] 3)) base (.slice (some ⟨w.heap.size, 0, none⟩) 0 0) [] :=
  ⟨rfl, .inr ⟨w.heap.size, 0, #[], rfl, hb, heap_alloc_new w _, Nat.le_refl _, Nat.zero_le _, rfl, rfl⟩⟩
/-- What reading wants. -/
theorem OwnI.read (h : OwnI w base v xs) : ∃ A cap, v = .slice A xs.length cap ∧ xs.length ≤ cap ∧ cap ≤ maxLen ∧ (0 < xs.length → ∃ g, A = some ⟨g, 0, none⟩ ∧ ownV v = [g] ∧
    ∀ j, j < xs.length → w.cell? ⟨g, j, none⟩ = some (.int .i64 (xs.getD j 0)) ∧ w.frozen? ⟨g, j, none⟩ = false) := by
  have h0 := h
  rcases h.2 with ⟨rfl, hn⟩ | ⟨g, cap, cur, rfl, hg, hh, hr1, hr2, _⟩
  · rw [hn]
    exact ⟨none, 0, rfl, Nat.le_refl _, Nat.zero_le _, fun h => absurd h (by omega)⟩
  · refine ⟨_, cap, rfl, hr1, hr2, fun _ => ⟨g, rfl, rfl, fun j hj => ⟨?_, World.ownsRow.frozenAt h0 j⟩⟩⟩
    rw [World.ownsRow.cellAt h0 j (by omega), List.getElem?_map, List.getElem?_eq_getElem hj]
    simp [List.getD, List.getElem?_eq_getElem hj]
theorem OwnI.stored {g n cap : Nat} (h : OwnI w base (.slice (some ⟨g, 0, none⟩) n cap) xs) (j : Nat) (x : Int) (hn : n = xs.length) : OwnI (w.setCell ⟨g, j, none⟩ (.int .i64 x)) base (.slice (some ⟨g, 0, none⟩) n cap) (xs.set j x) := by
  subst hn
  unfold OwnI at *
  have := World.ownsRow.stored h j (.int .i64 x)
  rw [List.length_set, List.map_set]
  exact this.1
end

/-- The marks k, k+1 .. -/
def mkI (k n : Nat) : List Int := (List.range n).map fun i => ((k + i : Nat) : Int)
theorem mkI_len (k n : Nat) : (mkI k n).length = n := by simp [mkI]
theorem mkI_at (k n j : Nat) (h : j < n) : (mkI k n).getD j 0 = ((k + j : Nat) : Int) := by simp [mkI, List.getD, h]
theorem mkI_step (k j : Nat) (xs : List Int) (h : j < xs.length) : (mkI k j ++ xs.drop j).set j ((k + j : Nat) : Int) = mkI k (j + 1) ++ xs.drop (j + 1) := by
  have e : mkI k (j + 1) = mkI k j ++ [((k + j : Nat) : Int)] := by unfold mkI; rw [List.range_succ]; simp
  rw [e, List.set_append_right _ _ (by rw [mkI_len]; exact Nat.le_refl _), mkI_len, Nat.sub_self, List.drop_eq_getElem_cons h, List.append_assoc]
  rfl

end Go.Proofs.YtkgihpddjppmdaaDoor

/- spec.l1Vars, spec.TermVars: the variables of a term. Condition: the term lies in memory. -/
namespace Go.Proofs.YtkgihpddjppmdaaDoor
open Go.RowKit

theorem infoI : (Tryd.prog.info? 3).map (fun i => (i.zero, i.size, i.bytes)) = some (some (.int .i64 0), 1, 8) := by kernel_rfl
/-- A variable is put behind those that were met. -/
def addV (acc : List Int) (n : Int) : List Int := if acc.contains n then acc else acc ++ [n]
def varsF : List Int → Fr → List Int
  | acc, .nil => acc
  | acc, .cons k n _ kids rest => varsF (if k = 1 then addV acc n else varsF acc kids) rest
def varsT (acc : List Int) (k n : Int) (f : Fr) : List Int := if k = 1 then addV acc n else varsF acc f
theorem addV_len (acc : List Int) (n : Int) : (addV acc n).length ≤ acc.length + 1 := by
  unfold addV
  split <;> simp
theorem varsF_len (f : Fr) : ∀ acc, (varsF acc f).length ≤ acc.length + nodes f := by
  induction f with
  | nil => intro acc; exact Nat.le_refl _
  | cons k n s kids rest ihk ihr =>
    intro acc
    have h1 := ihr (if k = 1 then addV acc n else varsF acc kids)
    have h2 : (if k = 1 then addV acc n else varsF acc kids).length ≤ acc.length + nodes kids + 1 := by
      split
      · have := addV_len acc n; omega
      · have := ihk acc; omega
    simp only [varsF, nodes]
    omega
theorem varsT_len (acc : List Int) (k n : Int) (f : Fr) : (varsT acc k n f).length ≤ acc.length + nodes f + 1 := by
  unfold varsT
  split
  · have := addV_len acc n; omega
  · have := varsF_len f acc; omega

def VaRes (w : World) (base : Nat) (v : Value) (xs : List Int) (e : Ending) (w' : World) : Prop :=
  ∃ v', e = .returned v' ∧ OwnI w' base v' xs ∧ Wrote (ownV v) w w' ∧ (∀ x ∈ ownV v', x ∈ ownV v ∨ w.heap.size ≤ x)
/-- One number more at the end of a row. -/
theorem OwnI.snoc {w w1 w6 : World} {base g cap4 H : Nat} {v : Value} {acc : List Int} {n : Int} (h01 : Wrote (ownV v) w w1) (hg : w1.grownBy w6 v.ownBlock)
    (ho : w6.ownsRow base 3 1 (.slice (some ⟨g, 0, none⟩) (acc.length + 1) cap4) (acc.length + 1) (acc.map (Value.int .i64) ++ [.int .i64 n])) (hat : v.ownBlock = some g ∨ g = H) (hH : w.heap.size ≤ H) :
    OwnI w6 base (.slice (some ⟨g, 0, none⟩) (acc.length + 1) cap4) (acc ++ [n]) ∧ Wrote (ownV v) w w6 ∧ (∀ x ∈ ownV (.slice (some ⟨g, 0, none⟩) (acc.length + 1) cap4), x ∈ ownV v ∨ w.heap.size ≤ x) := by
  refine ⟨?_, h01.trans (.of_grown hg fun _ h => h), fun x hx => ?_⟩
  · unfold OwnI
    rw [List.map_append, List.length_append]
    exact ho
  · have e : g = x := by simpa [ownV, Value.ownBlock, eq_comm] using hx
    subst e
    rcases hat with h | h
    · exact .inl (by unfold ownV; rw [h]; simp)
    · exact .inr (by omega)

/-- What both TermVars answer. -/
def varsB (k n : Int) (s : ByteArray) (f : Fr) : List Int := if validT k n s f = true then varsT [] k n f else []

end Go.Proofs.YtkgihpddjppmdaaDoor

/- spec.l1Rename: a term with its variables renamed by their places in a list. Condition: the term and the list lie in memory. -/
namespace Go.Proofs.YtkgihpddjppmdaaDoor
open Go.RowKit

/-- The new number of a variable; the row with all variables renamed. -/
def renN (V : List Int) (k n : Int) : Int := if k = 1 ∧ n ∈ V then (V.idxOf n : Int) else n
def renF (V : List Int) : Fr → Fr
  | .nil => .nil
  | .cons k n s kids rest => .cons k (renN V k n) s (renF V kids) (renF V rest)
theorem renF_len (V : List Int) (f : Fr) : (renF V f).len = f.len := by
  induction f with
  | nil => rfl
  | cons _ _ _ _ _ _ ih => simp only [renF, Fr.len, ih]
theorem renF_nodes (V : List Int) (f : Fr) : nodes (renF V f) = nodes f := by
  induction f with
  | nil => rfl
  | cons _ _ _ _ _ ihk ih => simp only [renF, nodes, ih, ihk]
theorem renF_drop (V : List Int) (f : Fr) : ∀ j, (renF V f).drop j = renF V (f.drop j) := by
  induction f with
  | nil => intro j; cases j <;> rfl
  | cons _ _ _ _ _ _ ih =>
    intro j
    cases j with
    | zero => rfl
    | succ j => exact ih j
theorem renF_take (V : List Int) (f : Fr) : ∀ j, (renF V f).take j = renF V (f.take j) := by
  induction f with
  | nil => intro j; cases j <;> rfl
  | cons _ _ _ _ _ _ ih =>
    intro j
    cases j with
    | zero => rfl
    | succ j => simp only [renF, Fr.take, ih]
/-- What the first loop has put, behind j rounds. -/
def midN (V : List Int) (k n : Int) (j : Nat) : Int := if k = 1 ∧ n ∈ V.take j then (V.idxOf n : Int) else n
theorem midN_all (V : List Int) (k n : Int) : midN V k n V.length = renN V k n := by unfold midN renN; rw [List.take_length]
theorem midN_other (V : List Int) (k n : Int) (j : Nat) (h : k ≠ 1) : midN V k n j = renN V k n := by unfold midN renN; rw [if_neg (fun e => h e.1), if_neg (fun e => h e.1)]
theorem midN_zero (V : List Int) (k n : Int) : midN V k n 0 = n := by unfold midN; rw [List.take_zero, if_neg (by simp)]
theorem midN_hit (V : List Int) (hV : V.Nodup) (n : Int) (j : Nat) (hj : j < V.length) (h : V.getD j 0 = n) : midN V 1 n (j + 1) = (j : Int) := by
  have e : V[j] = n := by rw [← h]; simp [List.getD, List.getElem?_eq_getElem hj]
  unfold midN
  rw [if_pos]
  · rw [← e, hV.idxOf_getElem j hj]
  · refine ⟨rfl, ?_⟩
    rw [List.take_add_one, List.getElem?_eq_getElem hj, List.mem_append]
    exact .inr (List.mem_singleton.2 e.symm)
theorem midN_miss (V : List Int) (n : Int) (j : Nat) (hj : j < V.length) (h : V.getD j 0 ≠ n) : midN V 1 n (j + 1) = midN V 1 n j := by
  have e : V[j] ≠ n := by
    intro e
    apply h
    rw [← e]; simp [List.getD, List.getElem?_eq_getElem hj]
  unfold midN
  have e2 : (n ∈ V.take (j + 1)) ↔ n ∈ V.take j := by
    rw [List.take_add_one, List.getElem?_eq_getElem hj, List.mem_append]
    exact ⟨fun h => h.elim id fun h => absurd (List.mem_singleton.1 h).symm e, .inl⟩
  simp only [e2]

theorem renN_fits {k n : Int} {s : ByteArray} (V : List Int) (h : Fits k n s) (hV : V.length ≤ 2097152) : Fits k (renN V k n) s := by
  obtain ⟨h1, h2, h3⟩ := h
  refine ⟨h1, ?_, h3⟩
  unfold renN
  split
  · rename_i hh
    have := List.idxOf_lt_length_iff.2 hh.2
    omega
  · exact h2
/-- The loop's relation: j arguments are copied; the box of the argument, the result's and the copy's blocks lie at H, H + 1, H + 2. -/
def RnP (w : World) (k n m : Int) (s : ByteArray) (len : Nat) (f : Fr) (A : Option Addr) (cap H j : Nat) (v : Value) (wr : World) : Prop :=
  Blk wr H 25 #[.int .i64 k, .int .i64 n, .string s, .slice A len cap] ∧ Blk wr (H + 1) 25 #[.int .i64 0, .int .i64 0, .string ⟨#[]⟩, .slice none 0 0] ∧
  Blk wr (H + 1 + 1) 25 #[.int .i64 k, .int .i64 m, .string s, v] ∧ RowP (H + 1 + 1 + 1) v (f.take j) wr ∧ Below w.heap.size w wr ∧ H + 1 + 1 + 1 ≤ wr.heap.size ∧ w.heap.size ≤ H

theorem RnP.step {w wr w1 w2 w4 : World} {k n m : Int} {s : ByteArray} {len : Nat} {f : Fr} {A : Option Addr} {cap H j : Nat} {v : Value} {xs : List Value} {L : List Nat} {kk nn : Int} {s' : ByteArray} {kids rest : Fr} {A' : Option Addr} {cap' g cap4 : Nat}
    (h : RnP w k n m s len f A cap H j v wr) (hd : f.drop j = .cons kk nn s' kids rest) (hj : j < f.len) (hD : Desc wr (f.take j) xs L) (hN : L.Nodup) (hL : ∀ x ∈ L, H + 1 + 1 + 1 ≤ x ∧ x < wr.heap.size) (hv : ∀ g, v.ownBlock = some g → g ∉ L)
    (hvl : ∀ g, v.ownBlock = some g → H + 1 + 1 + 1 ≤ g ∧ g < wr.heap.size) (hf : Fits kk nn s') (hm : Made wr kids A' cap' w1) (hb2 : Below w1.heap.size w1 w2) (hg : w2.grownBy w4 v.ownBlock)
    (ho : w4.ownsRow (H + 1 + 1 + 1) 25 4 (.slice (some ⟨g, 0, none⟩) (j + 1) cap4) (j + 1) (xs ++ [.int .i64 kk, .int .i64 nn, .string s', .slice A' kids.len cap'])) (hat : v.ownBlock = some g ∨ g = w2.heap.size) :
    RnP w k n m s len f A cap H (j + 1) (.slice (some ⟨g, 0, none⟩) (j + 1) cap4) (w4.setCell ⟨H + 1 + 1, 3, none⟩ (.slice (some ⟨g, 0, none⟩) (j + 1) cap4)) := by
  obtain ⟨b0, b1, b2, hr, hb, hs, hH⟩ := h
  have hlen : (f.take j).len = j := Fr.len_take j f (by omega)
  have hm' := hm
  obtain ⟨_, _, _, _, hb1⟩ := hm'
  have far : ∀ x, x < H + 1 + 1 + 1 → w4.heap[x]? = wr.heap[x]? := fun x hx => by
    have h1 := hb1.size
    have h2 := hb2.size
    rw [hg.block x (by omega) fun e => by have := (hvl x e.symm).1; omega, hb2.block x (by omega), hb1.block x (by omega)]
  have hbw : Below w.heap.size w w4 := by
    have h1 := hb1.trans (hb2.mono hb1.size)
    have h2 := hb.trans (h1.mono hb.size)
    refine h2.grown hg h2.size fun g hg => ?_
    have := (hvl g hg).1; omega
  have hst := RowP.step (base := H + 1 + 1 + 1) hD hN hL hv (fun g hg => (hvl g hg).2) hs hf hm hb2 hg (by rw [hlen]; exact ho) hat
  rw [hlen, ← Fr.take_succ j f hd] at hst
  refine ⟨(b0.keep (far H (by omega))).far (by simp; omega) _, (b1.keep (far (H + 1) (by omega))).far (by simp) _, (b2.keep (far (H + 1 + 1) (by omega))).set_ 3 _, hst.set_ (by simp) _, hbw.setCell (by simp; omega) _, ?_, hH⟩
  have h1 := hb1.size
  have h2 := hb2.size
  have h3 := hg.size
  simp only [World.setCell, Array.size_modify]
  omega


theorem RnP.below {w wr w1 : World} {k n m : Int} {s : ByteArray} {len : Nat} {f : Fr} {A : Option Addr} {cap H j : Nat} {v : Value} (h : RnP w k n m s len f A cap H j v wr) (hb : Below wr.heap.size wr w1) : RnP w k n m s len f A cap H j v w1 := by
  obtain ⟨b0, b1, b2, hr, hbw, hs, hH⟩ := h
  exact ⟨b0.below hb b0.lt, b1.below hb b1.lt, b2.below hb b2.lt, hr.below hb, hbw.trans (hb.mono hbw.size), Nat.le_trans hs hb.size, hH⟩
theorem RnP.put {w wr : World} {k n m : Int} {s : ByteArray} {len : Nat} {f : Fr} {A : Option Addr} {cap H j : Nat} {v : Value} (h : RnP w k n m s len f A cap H j v wr) (x : Int) : RnP w k n x s len f A cap H j v (wr.setCell ⟨H + 1 + 1, 1, none⟩ (.int .i64 x)) := by
  obtain ⟨b0, b1, b2, hr, hbw, hs, hH⟩ := h
  exact ⟨b0.far (by simp; omega) _, b1.far (by simp) _, b2.set_ 1 _, hr.set_ (by simp) _, hbw.setCell (by simp; omega) _, by simpa [World.setCell] using hs, hH⟩

end Go.Proofs.YtkgihpddjppmdaaDoor

/- Unification: the bindings in the order of their variables, out of the trail. No condition. -/
import Derived.Test.YtkefpickpjjllaaDoorZmUT39
import Derived.Test.YtkefpickpjjllaaDoorProg
import Derived.Test.YtkefpickpjjllaaDoorSz
import Derived.OwnWalk
import Derived.Test.YtkefpickpjjllaaDoorRep
import Derived.Test.YtkefpickpjjllaaDoorUn
namespace Go.Proofs.YtkefpickpjjllaaDoor
open Go.RowKit

/-- The bound ones of the first j variables, in order. -/
def bnd (σ : Sub) : Nat → List Int
  | 0 => []
  | j + 1 => if (lkS σ (j : Int)).isSome = true then bnd σ j ++ [(j : Int)] else bnd σ j
/-- What the variables stand for in the end, as a row. -/
def rwL (σ : Sub) : List Int → Fr
  | [] => .nil
  | n :: ns => .cons (fin σ n).k (fin σ n).n (fin σ n).s (fin σ n).f (rwL σ ns)
def okL (σ : Sub) (ns : List Int) : Bool := ns.all fun n => validT (fin σ n).k (fin σ n).n (fin σ n).s (fin σ n).f
theorem rwL_snoc (σ : Sub) (n : Int) : ∀ ns, rwL σ (ns ++ [n]) = (rwL σ ns).app (.cons (fin σ n).k (fin σ n).n (fin σ n).s (fin σ n).f .nil)
  | [] => rfl
  | m :: ns => by simp only [List.cons_append, rwL, rwL_snoc σ n ns, Fr.app]
theorem rwL_len (σ : Sub) : ∀ ns, (rwL σ ns).len = ns.length
  | [] => rfl
  | _ :: ns => by simp only [rwL, Fr.len, List.length_cons, rwL_len σ ns]
theorem okL_snoc (σ : Sub) (n : Int) (ns : List Int) : okL σ (ns ++ [n]) = (okL σ ns && validT (fin σ n).k (fin σ n).n (fin σ n).s (fin σ n).f) := by unfold okL; simp
/-- The model's bindings, in these words. -/
theorem unB_eq (σ : Sub) : ∀ j, unB σ j = if okL σ (bnd σ j) = true then some (bnd σ j, rwL σ (bnd σ j)) else none
  | 0 => rfl
  | j + 1 => by
    have ih := unB_eq σ j
    cases hl : lkS σ (j : Int) with
    | none =>
      have e : bnd σ (j + 1) = bnd σ j := by rw [bnd, hl]; rfl
      rw [e, ← ih, unB]
      cases unB σ j with
      | none => rfl
      | some r => simp only [hl]
    | some m =>
      have e : bnd σ (j + 1) = bnd σ j ++ [(j : Int)] := by rw [bnd, hl]; rfl
      rw [e, okL_snoc, rwL_snoc]
      by_cases h1 : okL σ (bnd σ j) = true
      · rw [if_pos h1] at ih
        cases hv : validT (fin σ (j : Int)).k (fin σ (j : Int)).n (fin σ (j : Int)).s (fin σ (j : Int)).f with
        | true => rw [unB_put ih hl hv, h1]; rfl
        | false => rw [unB_bad hl hv, h1]; rfl
      · rw [if_neg h1] at ih
        rw [unB, ih, if_neg (by rw [Bool.and_eq_true]; exact fun h => h1 h.1)]
theorem bnd_mem (σ : Sub) (x : Int) : ∀ j, x ∈ bnd σ j ↔ (∃ i : Nat, i < j ∧ x = (i : Int)) ∧ (lkS σ x).isSome = true
  | 0 => by simp [bnd]
  | j + 1 => by
    have ih := bnd_mem σ x j
    rw [bnd]
    by_cases hl : (lkS σ (j : Int)).isSome = true
    · rw [if_pos hl, List.mem_append, ih, List.mem_singleton]
      constructor
      · rintro (⟨⟨i, h1, h2⟩, h3⟩ | rfl)
        · exact ⟨⟨i, by omega, h2⟩, h3⟩
        · exact ⟨⟨j, by omega, rfl⟩, hl⟩
      · rintro ⟨⟨i, h1, h2⟩, h3⟩
        by_cases e : i = j
        · subst e; exact .inr h2
        · exact .inl ⟨⟨i, by omega, h2⟩, h3⟩
    · rw [if_neg hl, ih]
      constructor
      · rintro ⟨⟨i, h1, h2⟩, h3⟩
        exact ⟨⟨i, by omega, h2⟩, h3⟩
      · rintro ⟨⟨i, h1, h2⟩, h3⟩
        by_cases e : i = j
        · subst e; rw [h2] at h3; exact absurd h3 hl
        · exact ⟨⟨i, by omega, h2⟩, h3⟩
theorem bnd_sorted (σ : Sub) : ∀ j, (bnd σ j).Pairwise (· < ·)
  | 0 => List.Pairwise.nil
  | j + 1 => by
    have ih := bnd_sorted σ j
    rw [bnd]
    by_cases hl : (lkS σ (j : Int)).isSome = true
    · rw [if_pos hl, List.pairwise_append]
      refine ⟨ih, List.pairwise_singleton _ _, fun a ha b hb => ?_⟩
      rw [List.mem_singleton] at hb
      subst hb
      obtain ⟨⟨i, h1, rfl⟩, _⟩ := (bnd_mem σ a j).1 ha
      omega
    · rw [if_neg hl]; exact ih
/-- The trail, sorted. -/
theorem sort_bnd {σ : Sub} {T : List Int} (hT : T.Nodup) (hm : ∀ x, x ∈ T ↔ (lkS σ x).isSome = true) (hr : ∀ x ∈ T, 0 ≤ x ∧ x ≤ 25) : T.mergeSort (fun x y => decide (x ≤ y)) = bnd σ 26 := by
  have hs := bnd_sorted σ 26
  have hnd : (bnd σ 26).Nodup := hs.imp fun h => by omega
  have hp : T.mergeSort (fun x y => decide (x ≤ y)) |>.Perm (bnd σ 26) := by
    refine (List.mergeSort_perm T _).trans ((List.perm_ext_iff_of_nodup hT hnd).2 fun x => ?_)
    rw [bnd_mem, hm]
    constructor
    · intro h
      have := hr x ((hm x).2 h)
      exact ⟨⟨x.toNat, by omega, by omega⟩, h⟩
    · exact fun h => h.2
  refine List.Perm.eq_of_pairwise (le := (· ≤ ·)) (fun a b _ _ h1 h2 => by omega) ?_ (hs.imp fun h => by omega) hp
  have h1 := List.pairwise_mergeSort (le := fun x y : Int => decide (x ≤ y)) (fun a b c h1 h2 => by simp only [decide_eq_true_eq] at *; omega) (fun a b => by simp only [Bool.or_eq_true, decide_eq_true_eq]; omega) T
  exact h1.imp fun h => by simpa using h
end Go.Proofs.YtkefpickpjjllaaDoor

/- laws.szBind, szBindS, toBind, toBindS. Condition: the bindings lie in memory; no more than the law's budget. -/
namespace Go.Proofs.YtkefpickpjjllaaDoor
open Go.RowKit

theorem infoB : (Tryd.prog.info? 44).map (fun i => (i.zero, i.size, i.bytes)) = some (some (.agg #[.int .i64 0, .int .i64 0, .int .i64 0, .string ByteArray.empty, .slice none 0 0]), 5, 64) := by kernel_rfl

theorem set5 {w : World} {g : Nat} {t : TypeId} {x0 x1 x2 x3 x4 : Value} (h : Blk w g t #[x0, x1, x2, x3, x4]) (a b c d e : Value) : Blk (((((w.setCell ⟨g, 0, none⟩ a).setCell ⟨g, 1, none⟩ b).setCell ⟨g, 2, none⟩ c).setCell ⟨g, 3, none⟩ d).setCell ⟨g, 4, none⟩ e) g t #[a, b, c, d, e] := ((((h.set_ 0 a).set_ 1 b).set_ 2 c).set_ 3 d).set_ 4 e
theorem cells5i {w : World} {g : Nat} {t : TypeId} {a b c d e : Value} (h : Blk w g t #[a, b, c, d, e]) :
    w.cell? ⟨g, 0, none⟩ = some a ∧ w.cell? ⟨g, 1, none⟩ = some b ∧ w.cell? ⟨g, 2, none⟩ = some c ∧ w.cell? ⟨g, 3, none⟩ = some d ∧ w.cell? ⟨g, 4, none⟩ = some e := ⟨h.cell 0, h.cell 1, h.cell 2, h.cell 3, h.cell 4⟩
theorem frozen5 {w : World} {g : Nat} {t : TypeId} {cs : Array Value} (h : Blk w g t cs) :
    w.frozen? ⟨g, 0, none⟩ = false ∧ w.frozen? ⟨g, 1, none⟩ = false ∧ w.frozen? ⟨g, 2, none⟩ = false ∧ w.frozen? ⟨g, 3, none⟩ = false ∧ w.frozen? ⟨g, 4, none⟩ = false := ⟨h.frozen 0, h.frozen 1, h.frozen 2, h.frozen 3, h.frozen 4⟩

/-- The loop's relation: k bindings are made, in block g. -/
def PartB (w : World) (ns : List Int) (f : Fr) (g k : Nat) (wr : World) : Prop :=
  ∃ cur L, Blk wr g 44 cur ∧ cur.size = f.len * 5 ∧ OwnB wr (ns.take k) (f.take k) g 0 L ∧ L.Nodup ∧ (∀ x ∈ L, g < x ∧ x < wr.heap.size) ∧ w.heap.size ≤ g ∧ Below w.heap.size w wr
theorem PartB.below {w wr : World} {ns : List Int} {f : Fr} {g k : Nat} (h : PartB w ns f g k wr) : Below w.heap.size w wr := by
  obtain ⟨cur, L, _, _, _, _, _, _, hb⟩ := h; exact hb
/-- What the store into element k asks. -/
theorem PartB.cells {w wr w2 : World} {ns : List Int} {f : Fr} {g k : Nat} (h : PartB w ns f g k wr) (hk : k < f.len) (hb : Below wr.heap.size wr w2) (j : Nat) (hj : j < 5) :
    (∃ v, w2.cell? ⟨g, k * 5 + j, none⟩ = some v) ∧ w2.frozen? ⟨g, k * 5 + j, none⟩ = false := by
  obtain ⟨cur, L, hblk, hs, _⟩ := h
  have hb2 := hblk.below hb hblk.lt
  refine ⟨?_, hb2.frozen _⟩
  rw [hb2.cell]
  exact ⟨_, Array.getElem?_eq_getElem (by omega)⟩
theorem take_getD : ∀ (ns : List Int) (i : Nat), i < ns.length → ns.take (i + 1) = ns.take i ++ [ns.getD i 0]
  | [], _, h => absurd h (Nat.not_lt_zero _)
  | _ :: _, 0, _ => rfl
  | x :: ns, i + 1, h => by
    have := take_getD ns i (Nat.lt_of_succ_lt_succ h)
    simpa using this
/-- One binding more. -/
theorem PartB.step {w wr w2 : World} {ns : List Int} {f : Fr} {g i : Nat} {k n : Int} {s : ByteArray} {kids rest : Fr} {A : Option Addr} {cap : Nat} (h : PartB w ns f g i wr) (hns : ns.length = f.len) (hd : f.drop i = .cons k n s kids rest) (hi : i < f.len) (h0 : InI (ns.getD i 0)) (hf : Fits k n s) (hm : Made wr kids A cap w2) :
    PartB w ns f g (i + 1) (((((w2.setCell ⟨g, i * 5, none⟩ (.int .i64 (ns.getD i 0))).setCell ⟨g, i * 5 + 1, none⟩ (.int .i64 k)).setCell ⟨g, i * 5 + 2, none⟩ (.int .i64 n)).setCell ⟨g, i * 5 + 3, none⟩ (.string s)).setCell ⟨g, i * 5 + 4, none⟩ (.slice A kids.len cap)) := by
  obtain ⟨cur, L, hblk, hs, ho, hn, hL, hg, hb⟩ := h
  obtain ⟨L', ho', hn', hL', hb'⟩ := hm
  have hblk2 := hblk.below hb' hblk.lt
  have hlt := hblk.lt
  have b1 := ((((hblk2.set_ (i * 5) (.int .i64 (ns.getD i 0))).set_ (i * 5 + 1) (.int .i64 k)).set_ (i * 5 + 2) (.int .i64 n)).set_ (i * 5 + 3) (.string s)).set_ (i * 5 + 4) (.slice A kids.len cap)
  have far : ∀ x, x ≠ g → (((((w2.setCell ⟨g, i * 5, none⟩ (.int .i64 (ns.getD i 0))).setCell ⟨g, i * 5 + 1, none⟩ (.int .i64 k)).setCell ⟨g, i * 5 + 2, none⟩ (.int .i64 n)).setCell ⟨g, i * 5 + 3, none⟩ (.string s)).setCell ⟨g, i * 5 + 4, none⟩ (.slice A kids.len cap)).heap[x]? = w2.heap[x]? := fun x hx => by
    rw [heap_setCell_other _ _ _ _ (show x ≠ g from hx), heap_setCell_other _ _ _ _ (show x ≠ g from hx), heap_setCell_other _ _ _ _ (show x ≠ g from hx), heap_setCell_other _ _ _ _ (show x ≠ g from hx), heap_setCell_other _ _ _ _ (show x ≠ g from hx)]
  have hsz : (((((w2.setCell ⟨g, i * 5, none⟩ (.int .i64 (ns.getD i 0))).setCell ⟨g, i * 5 + 1, none⟩ (.int .i64 k)).setCell ⟨g, i * 5 + 2, none⟩ (.int .i64 n)).setCell ⟨g, i * 5 + 3, none⟩ (.string s)).setCell ⟨g, i * 5 + 4, none⟩ (.slice A kids.len cap)).heap.size = w2.heap.size := by simp [World.setCell]
  generalize hw3 : ((((w2.setCell ⟨g, i * 5, none⟩ (.int .i64 (ns.getD i 0))).setCell ⟨g, i * 5 + 1, none⟩ (.int .i64 k)).setCell ⟨g, i * 5 + 2, none⟩ (.int .i64 n)).setCell ⟨g, i * 5 + 3, none⟩ (.string s)).setCell ⟨g, i * 5 + 4, none⟩ (.slice A kids.len cap) = w3 at *
  have hb3 : Below w.heap.size w w3 := by
    subst hw3
    exact (((((hb.trans (hb'.mono hb.size)).setCell hg _).setCell hg _).setCell hg _).setCell hg _).setCell hg _
  have hlen : (f.take i).len = i := Fr.len_take i f (by omega)
  have htk := take_getD ns i (by omega)
  generalize ns.getD i 0 = n1 at *
  refine ⟨_, L ++ L', b1, by simpa using hs, ?_, ?_, ?_, hg, hb3⟩
  · rw [Fr.take_succ i f hd, htk]
    have own2 : OwnS w3 kids A cap L' := ho'.keep fun x hx => far x (by have := (hL' x hx).1; omega)
    refine OwnB.snoc h0 hf own2 (ns.take i) (f.take i) g 0 L ?_ ?_ ?_ ?_ ?_ ?_
    · refine OwnB.keep (ns.take i) (f.take i) g 0 L ho (fun j hj => ?_) fun x hx => ?_
      · rw [hlen] at hj
        rw [b1.cell, hblk.cell]
        simp only [Array.getElem?_setIfInBounds]
        rw [if_neg (by omega), if_neg (by omega), if_neg (by omega), if_neg (by omega), if_neg (by omega)]
      · rw [far x (by have := (hL x hx).1; omega)]
        exact hb'.block x (hL x hx).2
    all_goals
      rw [hlen, b1.cell]
      simp [Array.getElem?_setIfInBounds]
      omega
  · refine List.nodup_append.2 ⟨hn, hn', fun a ha b hb => ?_⟩
    have := (hL a ha).2
    have := (hL' b hb).1
    omega
  · intro x hx
    rw [hsz]
    rcases List.mem_append.1 hx with hx | hx
    · have := (hL x hx); have := hb'.size; omega
    · have := hL' x hx; omega
theorem PartB.start {w w1 : World} {ns : List Int} {f : Fr} {base : Nat} {xs : List Value} (hown : w1.ownsRow base 44 5 (.slice (some ⟨w.heap.size, 0, none⟩) f.len f.len) f.len xs) (hg : w.grownBy w1 none) : PartB w ns f w.heap.size 0 w1 := by
  rcases hown.2 with ⟨h', _⟩ | ⟨g', cap', cur, h', _, hb, _, _, hs, _⟩
  · simp at h'
  · simp only [Value.slice.injEq, Option.some.injEq, Addr.mk.injEq, and_true, true_and] at h'
    obtain ⟨rfl, rfl⟩ := h'
    exact ⟨cur, [], hb, hs, rfl, List.nodup_nil, fun x hx => by simp at hx, Nat.le_refl _, (Below.refl _ _).grown hg (Nat.le_refl _) (fun k hk => by cases hk)⟩
theorem PartB.done {w wr : World} {ns : List Int} {f : Fr} {g : Nat} (h : PartB w ns f g f.len wr) (hns : ns.length = f.len) (hl : f.len ≤ maxLen) : MadeB w ns f (some ⟨g, 0, none⟩) f.len wr := by
  obtain ⟨cur, L, hblk, hs, ho, hn, hL, hg, hb⟩ := h
  rw [Fr.take_len, ← hns, List.take_length] at ho
  refine ⟨g :: L, ⟨hns, Nat.le_refl _, hl, g, L, cur, rfl, rfl, hblk, hs, ho⟩, List.nodup_cons.2 ⟨fun hx => ?_, hn⟩, fun x hx => ?_, hb⟩
  · have := (hL g hx).1; omega
  · rcases List.mem_cons.1 hx with rfl | hx
    · exact ⟨hg, hblk.lt⟩
    · have := hL x hx; omega

end Go.Proofs.YtkefpickpjjllaaDoor

/- impl.replaceVars, for a function that is handed to it and that is asked of some variables only, and whose state holds nodes that it made (blocks G, which it only reads): impl.resolver's. Condition: the nodes lie in memory and are well-formed; the function meets its contract. -/
namespace Go.Proofs.YtkefpickpjjllaaDoor
open Go.RowKit

/-- Blocks of P0 or G, or new ones; none of Q. -/
def Fresh4 (P0 : Nat → Prop) (G : List Nat) (n0 n1 : Nat) (Q : List Nat) (x : Nat) : Prop := (P0 x ∨ x ∈ G ∨ n0 ≤ x) ∧ x < n1 ∧ x ∉ Q

/-- What the handed function kf with the captured values cp is asked: I is its state's place in memory (the state a, written in the blocks Q, only read in the blocks G), P0 the old blocks of what it hands back, Vp the variables that it is asked. -/
structure RepV {α : Type} (kf : Nat) (fs cp : Array Value) (I : World → α → List Nat → List Nat → Prop) (P0 : Nat → Prop) (B : Nat) (Vp : Int → Prop) (sz : α → Nat) (nx : α → Int → α) (out : α → Int → Nd) : Prop where
  keep : ∀ {w w' : World} {a : α} {Q G L : List Nat}, I w a Q G → Wrote L w w' → (∀ x ∈ L, x ∉ Q ∧ x ∉ G ∧ ¬ P0 x) → I w' a Q G
  lt : ∀ {w : World} {a : α} {Q G : List Nat}, I w a Q G → ∀ x, x ∈ Q ∨ x ∈ G → x < w.heap.size
  old : ∀ x, P0 x → x < B
  len : ∀ a n, sz (nx a n) ≤ sz a + 1
  call : ∀ (a : α) (Q G : List Nat) (n : Int) (w : World), I w a Q G → B ≤ w.heap.size → sz a ≤ 2097152 → (0 ≤ n ∧ n ≤ 25) → Vp n →
    Calls Tryd.prog kf (fs.push (.int .i64 n) ++ cp) w fun e w' => ∃ Q' G' v, e = .returned v ∧ I w' (nx a n) Q' G' ∧ Wrote Q w w' ∧ (∀ x ∈ Q', x ∈ Q ∨ w.heap.size ≤ x) ∧ (∀ x ∈ G', x ∈ G ∨ w.heap.size ≤ x) ∧ (∀ x ∈ G, x ∈ G') ∧ NdVIn w' (Fresh4 P0 G' w.heap.size w'.heap.size Q') (out a n).k (out a n).n (out a n).s (out a n).f v

section
variable {α : Type} {kf : Nat} {fs cp : Array Value} {I : World → α → List Nat → List Nat → Prop} {P0 : Nat → Prop} {B : Nat} {Vp : Int → Prop} {sz : α → Nat} {nx : α → Int → α} {out : α → Int → Nd}

theorem RepV.size (H : RepV kf fs cp I P0 B Vp sz nx out) (f : Fr) : ∀ a, sz (stF nx a f) ≤ sz a + nodes f := by
  induction f with
  | nil => intro a; exact Nat.le_refl _
  | cons k n s kids rest ihk ihr =>
    intro a
    simp only [stF, nodes]
    refine Nat.le_trans (ihr _) ?_
    split
    · have := H.len a n; omega
    · have := ihk a; omega
theorem RepV.sizeT (H : RepV kf fs cp I P0 B Vp sz nx out) (a : α) (k n : Int) (f : Fr) : sz (stT nx a k n f) ≤ sz a + 1 + nodes f := by
  unfold stT
  split
  · have := H.len a n; omega
  · have := H.size f a; omega

/-- What replaceVars leaves. -/
def RvRes (I : World → α → List Nat → List Nat → Prop) (P0 : Nat → Prop) (w : World) (Q G : List Nat) (b : α) (m : Nd) (e : Ending) (w' : World) : Prop :=
  ∃ Q' G' v', e = .returned v' ∧ I w' b Q' G' ∧ Wrote Q w w' ∧ (∀ x ∈ Q', x ∈ Q ∨ w.heap.size ≤ x) ∧ (∀ x ∈ G', x ∈ G ∨ w.heap.size ≤ x) ∧ (∀ x ∈ G, x ∈ G') ∧ NdVIn w' (Fresh4 P0 G' w.heap.size w'.heap.size Q') m.k m.n m.s m.f v'
def RvT (kf : Nat) (fs cp : Array Value) (I : World → α → List Nat → List Nat → Prop) (P0 : Nat → Prop) (B : Nat) (Vp : Int → Prop) (sz : α → Nat) (nx : α → Int → α) (out : α → Int → Nd) (s : ByteArray) (f : Fr) : Prop :=
  ∀ (k n d : Int) (v : Value) (lo hi : Nat) (a : α) (Q G : List Nat) (w : World), shapeT k n s f d = true → (∀ y, occN ⟨k, n, s, f⟩ y → Vp y) → NdV w lo hi k n s f v → hi ≤ w.heap.size → (∀ x ∈ Q, hi ≤ x) → I w a Q G → B ≤ w.heap.size → sz a + nodes f ≤ 2097152 →
  Calls Tryd.prog 35 #[v, .func (.func kf) fs cp] w fun e w' => RvRes I P0 w Q G (stT nx a k n f) (rpT nx out a k n s f) e w'

/-- The loop's relation: j kids are replaced; their new row is block g. -/
def RvP (I : World → α → List Nat → List Nat → Prop) (P0 : Nat → Prop) (sz : α → Nat) (nx : α → Int → α) (out : α → Int → Nd) (w : World) (Q G : List Nat) (a : α) (M : Nat) (f : Fr) (hx g : Nat) (cs : Array Value) (j : Nat) (wr : World) : Prop :=
  ∃ (Qj Gj : List Nat), I wr (stF nx a (f.take j)) Qj Gj ∧ sz (stF nx a (f.take j)) + nodes (f.drop j) ≤ M ∧ Wrote Q w wr ∧ (∀ x ∈ Qj, x ∈ Q ∨ w.heap.size ≤ x) ∧ (∀ x ∈ Gj, x ∈ G ∨ w.heap.size ≤ x) ∧ (∀ x ∈ G, x ∈ Gj) ∧ hx ∉ Qj ∧ g ∉ Qj ∧ g ∉ Gj ∧ Blk wr hx 105 cs ∧ (∃ cur, Blk wr g 53 cur ∧ cur.size = f.len) ∧ NdRowIn wr (Fresh4 P0 Gj (g + 1) wr.heap.size Qj) (rpF nx out a (f.take j)) g 0

theorem RvP.step (H : RepV kf fs cp I P0 B Vp sz nx out) {w wr w3 : World} {Q : List Nat} {a : α} {M : Nat} {f : Fr} {hx g : Nat} {cs : Array Value} {j : Nat} {G Qj Gj : List Nat} {k n : Int} {s : ByteArray} {kids : Fr}
    (hd : f.drop j = .cons k n s kids (f.drop (j + 1))) (hj : j < f.len) (hl : sz (stF nx a (f.take j)) + nodes (f.drop j) ≤ M) (hw : Wrote Q w wr) (hn : ∀ x ∈ Qj, x ∈ Q ∨ w.heap.size ≤ x) (hgn : ∀ x ∈ Gj, x ∈ G ∨ w.heap.size ≤ x) (hgm : ∀ x ∈ G, x ∈ Gj) (h1 : hx ∉ Qj) (h2 : g ∉ Qj) (h2g : g ∉ Gj)
    (hb1 : Blk wr hx 105 cs) {cur : Array Value} (hb2 : Blk wr g 53 cur) (hcs : cur.size = f.len) (hgw : w.heap.size ≤ g) (hgx : g ≠ hx) (hB : B ≤ g)
    (hrow : NdRowIn wr (Fresh4 P0 Gj (g + 1) wr.heap.size Qj) (rpF nx out a (f.take j)) g 0) {e : Ending}
    (hr : RvRes I P0 wr Qj Gj (stT nx (stF nx a (f.take j)) k n kids) (rpT nx out (stF nx a (f.take j)) k n s kids) e w3) : ∃ u T z, e = .returned u ∧ u = .iface T z ∧
    RvP I P0 sz nx out w Q G a M f hx g cs (j + 1) (w3.setCell ⟨g, j, none⟩ u) ∧ (∃ u', w3.cell? ⟨g, j, none⟩ = some u') ∧ w3.frozen? ⟨g, j, none⟩ = false := by
  obtain ⟨Q3, G3, u, rfl, hI3, hw3, hn3, hm3, hl3, hnode⟩ := hr
  obtain ⟨T, z, hu⟩ := hnode.iface
  refine ⟨u, T, z, rfl, hu, ?_⟩
  have q1 := hw3.blk hb1 h1
  have q2 := hw3.blk hb2 h2
  have hx3 : ∀ x, x < wr.heap.size → x ∉ Qj → x ∉ Q3 := fun x hx h e => by
    rcases hn3 x e with h' | h'
    · exact h h'
    · omega
  have hvl := H.sizeT (stF nx a (f.take j)) k n kids
  have e1 : nodes (f.drop j) = 1 + nodes kids + nodes (f.drop (j + 1)) := by rw [hd]; rfl
  have g3 := hx3 g hb2.lt h2
  have g3g : g ∉ G3 := fun e => by
    rcases hm3 g e with h' | h'
    · exact h2g h'
    · have := hb2.lt; omega
  have gP : ¬ P0 g := fun h => by have := H.old g h; omega
  have hgl := hb2.lt
  have hs3 := hw3.size
  have hsz : (w3.setCell ⟨g, j, none⟩ u).heap.size = w3.heap.size := by simp [World.setCell]
  have hW : Wrote [g] w3 (w3.setCell ⟨g, j, none⟩ u) := (Wrote.refl _ _).set_ (.inl (by simp)) u
  refine ⟨⟨Q3, G3, ?_, ?_, ?_, ?_, ?_, fun x hx => hl3 x (hgm x hx), hx3 hx hb1.lt h1, g3, g3g, q1.far (p := ⟨g, j, none⟩) (fun e => hgx e.symm) u, ⟨_, q2.set_ j u, by simpa using hcs⟩, ?_⟩, ⟨_, (q2.cell j).trans (Array.getElem?_eq_getElem (by omega))⟩, q2.frozen j⟩
  · rw [stF_take nx j f a hd]
    exact H.keep hI3 hW fun x hx => by simp at hx; subst hx; exact ⟨g3, g3g, gP⟩
  · rw [stF_take nx j f a hd]; omega
  · refine (hw.more_new hw3 fun x hx => ?_).set_ (.inr hgw) u
    exact hn x hx
  · intro x hx
    rcases hn3 x hx with h | h
    · exact hn x h
    · exact .inr (Nat.le_trans hw.size h)
  · intro x hx
    rcases hm3 x hx with h | h
    · exact hgn x h
    · exact .inr (Nat.le_trans hw.size h)
  · rw [hsz, rpF_take nx out j f a hd]
    have hlen : (rpF nx out a (f.take j)).len = j := by rw [rpF_len]; exact Fr.len_take j f (by omega)
    have far : ∀ p : Addr, p.block ≠ g → (w3.setCell ⟨g, j, none⟩ u).cell? p = w3.cell? p := fun p hp => World.cell?_of_block (heap_setCell_other w3 _ p.block u hp)
    have v1 : NdVIn (w3.setCell ⟨g, j, none⟩ u) (Fresh4 P0 G3 (g + 1) w3.heap.size Q3) (rpT nx out (stF nx a (f.take j)) k n s kids).k (rpT nx out (stF nx a (f.take j)) k n s kids).n (rpT nx out (stF nx a (f.take j)) k n s kids).s (rpT nx out (stF nx a (f.take j)) k n s kids).f u := by
      refine hnode.keep (fun p hp => far p fun e => ?_) fun x hx => ⟨?_, hx.2⟩
      · rcases hp.1 with h | h | h
        · exact gP (e ▸ h)
        · exact g3g (e ▸ h)
        · omega
      · rcases hx.1 with h | h | h
        · exact .inl h
        · exact .inr (.inl h)
        · exact .inr (.inr (by omega))
    have v2 : NdRowIn (w3.setCell ⟨g, j, none⟩ u) (Fresh4 P0 G3 (g + 1) w3.heap.size Q3) (rpF nx out a (f.take j)) g 0 := by
      refine NdRowIn.keep (fun p hp => ?_) (fun x hx => ⟨hx.1.imp id (Or.imp (hl3 x) id), by have := hx.2.1; omega, hx3 x hx.2.1 hx.2.2⟩) (rpF nx out a (f.take j)) g 0 (fun i hi => ?_) hrow
      · have hne : p.block ≠ g := fun e => by
          rcases hp.1 with h | h | h
          · exact gP (e ▸ h)
          · exact h2g (e ▸ h)
          · omega
        exact (far p hne).trans (hw3.cell hp.2.1 hp.2.2)
      · rw [hlen] at hi
        rw [World.cell?_setCell_other w3 _ _ _ (fun e => by injection e with _ e _; omega), q2.cell, hb2.cell]
    refine NdRowIn.snoc _ v1 g 0 v2 ?_
    rw [hlen, Nat.zero_add]
    exact World.cell?_setCell_same w3 _ _ ((q2.cell j).trans (Array.getElem?_eq_getElem (by omega)))

set_option maxRecDepth 100000 in
set_option maxHeartbeats 2000000 in
theorem rvT_of (ef : ∀ args w, (callFunc kf args).run Tryd.prog w = .ok (.enter kf args) w) (H : RepV kf fs cp I P0 B Vp sz nx out) (s : ByteArray) (f : Fr) (h : ∀ i k n s kids rest, f.drop i = .cons k n s kids rest → RvT kf fs cp I P0 B Vp sz nx out s kids) : RvT kf fs cp I P0 B Vp sz nx out s f := by
  intro k n d v lo hi a Q G w hs hoc hv hh hQ hI hB hsz
  rcases hv with ⟨rfl, rfl⟩ | ⟨rfl, rfl⟩ | ⟨rfl, A, cap, rfl, hk⟩
  · obtain ⟨rfl, rfl, hn⟩ := shapeT_var hs
    have C1 := H.call a Q G n w hI hB (by simp only [nodes] at hsz; omega) hn (hoc n (by unfold occN; rw [if_pos rfl]))
    have H1 := Lib.hid C1
    clear h hs hI C1
    go_enter Tryd.func35, Tryd.ntmps35
    go_wp2_with fail
    refine H1.out.mono ?_
    rintro e w2 ⟨Q2, G2, v2, rfl, g1, g2, g3, g5, g6, g4⟩
    obtain ⟨T2, z2, rfl⟩ := g4.iface
    have HR : Hid (RvRes I P0 w Q G (stT nx a 1 n .nil) (rpT nx out a 1 n ⟨#[]⟩ .nil) (.returned (.iface T2 z2)) w2) := Lib.hid ⟨Q2, G2, _, rfl, g1, g2, g3, g5, g6, g4⟩
    clear g1 g2 g3 g4 g5 g6 H1
    go_wp2_with fail
    go_ret
    exact HR.out
  · obtain ⟨rfl, rfl, hn⟩ := shapeT_leaf hs (by omega)
    have HR : Hid (RvRes I P0 w Q G (stT nx a 2 n .nil) (rpT nx out a 2 n ⟨#[]⟩ .nil) (.returned (.iface 112 (.int .i64 n))) w) := Lib.hid ⟨Q, G, _, rfl, hI, .refl _ _, fun x h => .inl h, fun x h => .inl h, fun x h => h, .inr (.inl ⟨rfl, rfl⟩)⟩
    clear h hs hI
    go_enter Tryd.func35, Tryd.ntmps35
    go_wp2_with fail
    go_ret
    exact HR.out
  · obtain ⟨rfl, hname, hlen, hsf⟩ := shapeT_struct hs
    have hl := hk.1
    have hm := hk.2.1
    unfold maxLen at hm
    have hqlt := H.lt hI
    have HQ := Lib.hid hQ
    have HST : Hid (∀ w3 xs, w3.ownsRow (w.heap.size + 1) 53 1 (.slice (some ⟨w.heap.size + 1, 0, none⟩) f.len f.len) f.len xs → (w.alloc (.cells #[.string s, .slice A f.len cap] 105)).grownBy w3 none →
        RvP I P0 sz nx out w Q G a (sz a + nodes f) f w.heap.size (w.heap.size + 1) #[.string s, .slice A f.len cap] 0 w3 ∧ w3.cell? ⟨w.heap.size, 1, none⟩ = some (.slice A f.len cap)) := Lib.hid fun w3 xs ho hg => by
      have hb3 : Below w.heap.size w w3 := by
        have h1 : Below w.heap.size w (w.alloc (.cells #[.string s, .slice A f.len cap] 105)) := (Below.refl _ _).alloc (Nat.le_refl _) _
        exact h1.grown hg h1.size fun g hg => by cases hg
      have hq : Blk w3 w.heap.size 105 #[.string s, .slice A f.len cap] := (Blk.new w _ _).keep (hg.block _ (by simp) (by simp))
      have hcur : ∃ cur, Blk w3 (w.heap.size + 1) 53 cur ∧ cur.size = f.len := by
        rcases ho.2 with ⟨h', _⟩ | ⟨g', cap', cur, h', _, hb, _, _, hs, _⟩
        · simp at h'
        · simp only [Value.slice.injEq, Option.some.injEq, Addr.mk.injEq, and_true, true_and] at h'
          obtain ⟨rfl, rfl⟩ := h'
          exact ⟨cur, hb, by simpa using hs⟩
      have e0 : f.take 0 = .nil := by cases f <;> rfl
      refine ⟨⟨Q, G, ?_, ?_, .of_below hb3 _, fun x h => .inl h, fun x h => .inl h, fun x h => h, fun e => by have := hqlt _ (.inl e); omega, fun e => by have := hqlt _ (.inl e); omega, fun e => by have := hqlt _ (.inr e); omega, hq, hcur, ?_⟩, hq.cell 1⟩
      · rw [e0]; exact H.keep hI (.of_below hb3 []) fun x hx => by simp at hx
      · rw [e0]; exact Nat.le_refl _
      · rw [e0]; trivial
    have HQL := Lib.hid hqlt
    have HK := Lib.hid hk
    have HH := Lib.hid h
    have HSF := Lib.hid hsf
    have HSZ := Lib.hid hsz
    have HRC := Lib.hid H
    have HOC := Lib.hid hoc
    have HFN : Hid (∀ (Qj Gj : List Nat) (j : Nat) wr, f.len = j → I wr (stF nx a (f.take j)) Qj Gj → Wrote Q w wr → (∀ x ∈ Qj, x ∈ Q ∨ w.heap.size ≤ x) → (∀ x ∈ Gj, x ∈ G ∨ w.heap.size ≤ x) → (∀ x ∈ G, x ∈ Gj) → w.heap.size + 1 ∉ Qj → w.heap.size + 1 < wr.heap.size → NdRowIn wr (Fresh4 P0 Gj (w.heap.size + 1 + 1) wr.heap.size Qj) (rpF nx out a (f.take j)) (w.heap.size + 1) 0 →
        RvRes I P0 w Q G (stT nx a 3 0 f) (rpT nx out a 3 0 s f) (.returned (.iface 105 (.agg #[.string s, .slice (some ⟨w.heap.size + 1, 0, none⟩) j j]))) wr) := Lib.hid fun Qj Gj j wr hj h1 h2 h3 hg3 hg4 h4 h5 h6 => by
      subst hj
      rw [Fr.take_len] at h1 h6
      have e1 : stT nx a 3 0 f = stF nx a f := by unfold stT; rw [if_neg (by omega)]
      have e2 : rpT nx out a 3 0 s f = ⟨3, 0, s, rpF nx out a f⟩ := by unfold rpT; rw [if_neg (by omega)]
      rw [e1, e2]
      refine ⟨Qj, Gj, _, rfl, h1, h2, h3, hg3, hg4, .inr (.inr ⟨rfl, some ⟨w.heap.size + 1, 0, none⟩, f.len, by rw [rpF_len], by rw [rpF_len]; exact Nat.le_refl _, by unfold maxLen; omega, fun _ => ⟨w.heap.size + 1, rfl, ⟨.inr (.inr (by omega)), h5, h4⟩, ?_⟩⟩)⟩
      exact NdRowIn.keep (fun _ _ => rfl) (fun x hx => ⟨by rcases hx.1 with h | h | h; exact .inl h; exact .inr (.inl h); exact .inr (.inr (by omega)), hx.2⟩) _ _ 0 (fun _ _ => rfl) h6
    generalize hn : f.len = len at *
    have HN := Lib.hid hn
    clear hk h hs hI hname hsf hn hqlt hsz hQ H hoc
    obtain ⟨i0, hi0, hz0, hz1, hz2⟩ := info_parts infoN
    go_enter Tryd.func35, Tryd.ntmps35
    go_wp2_with (at_make; go_must (refine wpList_make_full _ rfl _ _ 103 rfl (w.heap.size + 1) 53 i0 _ 1 Tryd.underlying103 hi0 hz0 hz1 .i64 .i64 _ _ len rfl rfl rfl rfl (by rw [hz2]; omega) (by unfold maxLen; omega) (by simp) ?_); intro w3 hown hgrow; rw [show (w.alloc (.cells #[.string s, .slice A len cap] 105)).heap.size = w.heap.size + 1 by simp] at hown; obtain ⟨hp, x1⟩ := HST.out w3 _ hown hgrow; have HP := Lib.hid hp; clear hp hown hgrow)
    have HWS : Hid (w.heap.size < w3.heap.size) := Lib.hid (by obtain ⟨_, _, _, _, _, _, _, _, _, _, _, hb, _, _⟩ := HP.out; exact hb.lt)
    clear hi0 hz0 hz1 hz2 HST
    go_loopw [27] (fun i wr => ∃ (j : Nat), j ≤ len ∧ i = .int .i64 j ∧ shapeF (f.drop j) (d - 1) = true ∧ (∀ y, occF (f.drop j) y → Vp y) ∧ RvP I P0 sz nx out w Q G a (sz a + nodes f) f w.heap.size (w.heap.size + 1) #[.string s, .slice A len cap] j wr) (fun i _ => len - (intOf i).toNat)
    case atStart => exact ⟨0, Nat.zero_le _, rfl, HSF.out, fun y hy => HOC.out y (by unfold occN; rw [if_neg (show (3 : Int) ≠ 1 by omega)]; exact hy), HP.out⟩
    case round =>
      obtain ⟨j, hj, rfl, hsh, hoj, hp⟩ := hrel
      obtain ⟨Qj, Gj, hIj, hla, hw, hnw, hgn, hgm, hh1, hh2, hhg, hq1, ⟨cur, hq2, hcs⟩, hrw⟩ := hp
      by_cases hlt : j < len
      · obtain ⟨kk, nn, s', kids, hd⟩ := Fr.drop_cons j f (by rw [HN.out]; exact hlt)
        obtain ⟨b, rfl, hlb, hbb, hrow⟩ := HK.out.2.2 (by rw [HN.out]; omega)
        obtain ⟨vv, hcell, hnv⟩ := hrow.elem hd
        rw [Nat.zero_add] at hcell
        rw [hd, shapeF_cons, Bool.and_eq_true] at hsh
        rw [hd] at hoj
        have hkeep : ∀ p : Addr, p.block < hi → wr.cell? p = w.cell? p := fun p hp => hw.cell (by omega) fun e => by have := HQ.out _ e; omega
        have k0 := (hkeep ⟨b, j, none⟩ hbb).trans hcell
        have hnv' := hnv.keep (fun p _ hp => hkeep p hp) (Nat.le_refl _) (Nat.le_refl _)
        have e1 : nodes (f.drop j) = 1 + nodes kids + nodes (f.drop (j + 1)) := by rw [hd]; rfl
        have C1 := HH.out _ _ _ _ _ _ hd kk nn (d - 1) vv lo hi (stF nx a (f.take j)) Qj Gj wr hsh.1 (fun y hy => hoj y (.inl hy)) hnv' (Nat.le_trans hh hw.size) (fun x hx => by
          rcases hnw x hx with h | h
          · exact HQ.out x h
          · omega) hIj (Nat.le_trans hB hw.size) (by have := HSZ.out; omega)
        have STEP := fun (w3 : World) (e : Ending) hr => RvP.step HRC.out (w3 := w3) (e := e) hd (by rw [HN.out]; exact hlt) hla hw hnw hgn hgm hh1 hh2 hhg hq1 hq2 hcs (by omega) (by omega) (by omega) hrw hr
        obtain ⟨T1, z1, rfl⟩ := hnv.iface
        have H1 := Lib.hid C1
        have HSTEP := Lib.hid STEP
        have HS2 := Lib.hid hsh.2
        have HO2 : Hid (∀ y, occF (f.drop (j + 1)) y → Vp y) := Lib.hid fun y hy => hoj y (.inr hy)
        clear C1 STEP hsh hoj hIj hla hw hnw hgn hgm hh1 hh2 hhg hq1 hq2 hcs hrw hd hrow hcell hnv hnv' hkeep e1
        go_wp2_with fail
        refine H1.out.mono ?_
        rintro e w4 h2
        obtain ⟨u, T2, z2, rfl, rfl, hst, ⟨u', y1⟩, yf⟩ := HSTEP.out w4 e h2
        have HNX := Lib.hid hst
        clear h2 hst
        go_wp2_with fail
        go_roundw
        case rel => exact ⟨j + 1, by omega, by go_num, HS2.out, HO2.out, HNX.out⟩
        case measure => simp [intOf]; omega
      · obtain rfl : j = len := by omega
        have HF := Lib.hid (HFN.out Qj Gj j wr rfl hIj hw hnw hgn hgm hh2 hq2.lt hrw)
        have a0 := hq1.cell 0
        simp only [List.getElem?_toArray, List.getElem?_cons_zero] at a0
        clear hIj hla hw hnw hgn hgm hhg hoj hq1 hq2 hcs hsh hh1 hh2 hrw
        go_wp2_with fail
        go_ret
        exact HF.out
theorem rv_all (ef : ∀ args w, (callFunc kf args).run Tryd.prog w = .ok (.enter kf args) w) (H : RepV kf fs cp I P0 B Vp sz nx out) (N : Nat) : ∀ (s : ByteArray) (f : Fr), f.size ≤ N → RvT kf fs cp I P0 B Vp sz nx out s f := by
  induction N with
  | zero =>
    intro s f hf
    refine rvT_of ef H s f fun i k n s kids rest hd => ?_
    have h1 := Fr.size_drop i f
    rw [hd] at h1
    simp only [Fr.size] at h1
    omega
  | succ N ih =>
    intro s f hf
    refine rvT_of ef H s f fun i k n s kids rest hd => ih s kids ?_
    have h1 := Fr.size_drop i f
    rw [hd] at h1
    simp only [Fr.size] at h1
    omega
/-- impl.replaceVars. -/
theorem rvT_any (ef : ∀ args w, (callFunc kf args).run Tryd.prog w = .ok (.enter kf args) w) (H : RepV kf fs cp I P0 B Vp sz nx out) (s : ByteArray) (f : Fr) : RvT kf fs cp I P0 B Vp sz nx out s f := rv_all ef H f.size s f (Nat.le_refl _)
end
end Go.Proofs.YtkefpickpjjllaaDoor

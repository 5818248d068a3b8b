/- Matching a general term with a special one: plain mathematics, and the model's table in memory. No condition. -/
import Derived.Test.YtkefpickpjjllaaDoorProg
import Derived.Test.YtkefpickpjjllaaDoorTb
import Derived.Test.YtkefpickpjjllaaDoorEq
import Derived.Test.YtkefpickpjjllaaDoorAs
import Derived.Test.YtkefpickpjjllaaDoorTermOf
namespace Go.Proofs.YtkefpickpjjllaaDoor
open Go.RowKit

/-- What is known about variables, the newest first. -/
abbrev St := List (Int × Nd)
def lkS (st : St) (n : Int) : Option Nd := (st.find? fun p => p.1 == n).map (·.2)
theorem lkS_same (st : St) (n : Int) (m : Nd) : lkS ((n, m) :: st) n = some m := by simp [lkS, List.find?]
theorem lkS_other (st : St) (n n' : Int) (m : Nd) (h : n' ≠ n) : lkS ((n, m) :: st) n' = lkS st n' := by
  unfold lkS
  rw [List.find?_cons, show ((n, m) : Int × Nd).1 = n from rfl, show (n == n') = false by rw [beq_eq_false_iff_ne]; exact fun e => h e.symm]
def mtV (st : St) (n : Int) (m : Nd) : Option St :=
  match lkS st n with
  | some o => if eqT o.k o.n o.s o.f m.k m.n m.s m.f = true then some st else none
  | none => some ((n, m) :: st)
def hdB (k n : Int) (s : ByteArray) (l : Nat) (k' n' : Int) (s' : ByteArray) (l' : Nat) : Bool := k == k' && (n == n' && (s.data.toList == s'.data.toList && l == l'))
def mtF : St → Fr → Fr → Option St
  | st, .cons k n s kids rest, .cons k' n' s' kids' rest' =>
    match (if k = 1 then mtV st n ⟨k', n', s', kids'⟩ else if hdB k n s kids.len k' n' s' kids'.len = true then mtF st kids kids' else none) with
    | some st' => mtF st' rest rest'
    | none => none
  | st, .nil, _ => some st
  | st, .cons _ _ _ _ _, .nil => some st
def mtT (st : St) (k n : Int) (s : ByteArray) (f : Fr) (k' n' : Int) (s' : ByteArray) (f' : Fr) : Option St :=
  if k = 1 then mtV st n ⟨k', n', s', f'⟩ else if hdB k n s f.len k' n' s' f'.len = true then mtF st f f' else none
theorem mtF_cons (st : St) (k n : Int) (s : ByteArray) (kids rest : Fr) (k' n' : Int) (s' : ByteArray) (kids' rest' : Fr) :
    mtF st (.cons k n s kids rest) (.cons k' n' s' kids' rest') = match mtT st k n s kids k' n' s' kids' with | some st' => mtF st' rest rest' | none => none := rfl
theorem mtF_nil (st : St) (g : Fr) : mtF st .nil g = some st := by cases g <;> rfl
theorem shapeT_mono {k n : Int} {s : ByteArray} {f : Fr} {d d' : Int} (hd : d ≤ d') (h : shapeT k n s f d = true) : shapeT k n s f d' = true := by
  have h1 := shapeF_mono (.cons k n s f .nil) d d' hd (by rw [shapeF_cons, h]; rfl)
  rw [shapeF_cons, Bool.and_eq_true] at h1
  exact h1.1

/-- The model's table: 26 terms in block g; those that are known read as st says. -/
def KnS (w : World) (lo hi g : Nat) (st : St) : Prop := ∃ cs, Blk w g 31 cs ∧ cs.size = 104 ∧ ∀ i : Nat, i < 26 →
  (lkS st (i : Int) = none → cs[i * 4]? = some (.int .i64 0)) ∧
  ∀ m, lkS st (i : Int) = some m → m.k ≠ 0 ∧ (-9223372036854775808 ≤ m.k ∧ m.k ≤ 9223372036854775807) ∧ ∃ (A : Option Addr) (c : Nat), cs[i * 4]? = some (.int .i64 m.k) ∧ cs[i * 4 + 1]? = some (.int .i64 m.n) ∧ cs[i * 4 + 2]? = some (.string m.s) ∧ cs[i * 4 + 3]? = some (.slice A m.f.len c) ∧ KidsAt w lo hi m.f A c
theorem KnS.wrote {w w' : World} {lo hi g : Nat} {st : St} {L : List Nat} (h : KnS w lo hi g st) (hb : Wrote L w w') (hg : g ∉ L) (hh : hi ≤ w.heap.size) (hL : ∀ x ∈ L, hi ≤ x) : KnS w' lo hi g st := by
  obtain ⟨cs, h1, h2, h3⟩ := h
  refine ⟨cs, hb.blk h1 hg, h2, fun i hi' => ⟨(h3 i hi').1, fun m hm => ?_⟩⟩
  obtain ⟨a, b, A, c, c0, c1, c2, c3, hk⟩ := (h3 i hi').2 m hm
  exact ⟨a, b, A, c, c0, c1, c2, c3, hk.keep fun p _ hp => hb.cell (by omega) fun e => by have := hL _ e; omega⟩
theorem KnS.below {w w' : World} {lo hi g : Nat} {st : St} (h : KnS w lo hi g st) (hb : Below w.heap.size w w') (hh : hi ≤ w.heap.size) : KnS w' lo hi g st :=
  h.wrote (.of_below hb []) (by simp) hh (by simp)
theorem KnS.lt {w : World} {lo hi g : Nat} {st : St} (h : KnS w lo hi g st) : g < w.heap.size := by
  obtain ⟨cs, h1, _⟩ := h
  exact h1.lt
/-- A term is put at the variable i. -/
theorem KnS.put {w : World} {lo hi g i : Nat} {st : St} {k n : Int} {s : ByteArray} {f : Fr} {A : Option Addr} {c : Nat} (h : KnS w lo hi g st) (hi' : i < 26) (hg : hi ≤ g) (hk0 : k ≠ 0) (hkr : -9223372036854775808 ≤ k ∧ k ≤ 9223372036854775807) (hk : KidsAt w lo hi f A c) :
    KnS ((((w.setCell ⟨g, i * 4, none⟩ (.int .i64 k)).setCell ⟨g, i * 4 + 1, none⟩ (.int .i64 n)).setCell ⟨g, i * 4 + 2, none⟩ (.string s)).setCell ⟨g, i * 4 + 3, none⟩ (.slice A f.len c)) lo hi g (((i : Int), ⟨k, n, s, f⟩) :: st) := by
  obtain ⟨cs, h1, h2, h3⟩ := h
  have q := (((h1.set_ (i * 4) (.int .i64 k)).set_ (i * 4 + 1) (.int .i64 n)).set_ (i * 4 + 2) (.string s)).set_ (i * 4 + 3) (.slice A f.len c)
  have far : ∀ p : Addr, p.block < hi → ((((w.setCell ⟨g, i * 4, none⟩ (.int .i64 k)).setCell ⟨g, i * 4 + 1, none⟩ (.int .i64 n)).setCell ⟨g, i * 4 + 2, none⟩ (.string s)).setCell ⟨g, i * 4 + 3, none⟩ (.slice A f.len c)).cell? p = w.cell? p := fun p hp => World.cell?_of_block (by
    rw [heap_setCell_other _ _ _ _ (show p.block ≠ g by omega), heap_setCell_other _ _ _ _ (show p.block ≠ g by omega), heap_setCell_other _ _ _ _ (show p.block ≠ g by omega), heap_setCell_other _ _ _ _ (show p.block ≠ g by omega)])
  refine ⟨_, q, by simpa using h2, fun j hj => ?_⟩
  by_cases e : j = i
  · subst e
    rw [lkS_same]
    refine ⟨fun h => (by cases h), fun m hm => ?_⟩
    injection hm with hm
    subst hm
    refine ⟨hk0, hkr, A, c, ?_, ?_, ?_, ?_, hk.keep fun p _ hp => far p hp⟩
    · simp only [Array.getElem?_setIfInBounds, Array.size_setIfInBounds]
      rw [if_neg (by omega), if_neg (by omega), if_neg (by omega), if_pos trivial, if_pos (by omega)]
    · simp only [Array.getElem?_setIfInBounds, Array.size_setIfInBounds]
      rw [if_neg (by omega), if_neg (by omega), if_pos trivial, if_pos (by omega)]
    · simp only [Array.getElem?_setIfInBounds, Array.size_setIfInBounds]
      rw [if_neg (by omega), if_pos trivial, if_pos (by omega)]
    · simp only [Array.getElem?_setIfInBounds, Array.size_setIfInBounds]
      rw [if_pos trivial, if_pos (by omega)]
  · rw [lkS_other _ _ _ _ (by omega)]
    have hc : ∀ x, x < 4 → ((((cs.setIfInBounds (i * 4) (.int .i64 k)).setIfInBounds (i * 4 + 1) (.int .i64 n)).setIfInBounds (i * 4 + 2) (.string s)).setIfInBounds (i * 4 + 3) (.slice A f.len c))[j * 4 + x]? = cs[j * 4 + x]? := fun x hx => by
      simp only [Array.getElem?_setIfInBounds, Array.size_setIfInBounds]
      rw [if_neg (by omega), if_neg (by omega), if_neg (by omega), if_neg (by omega)]
    have h0 := hc 0 (by omega)
    rw [Nat.add_zero] at h0
    refine ⟨fun h => h0.trans ((h3 j hj).1 h), fun m hm => ?_⟩
    obtain ⟨a, b, A', c', c0, c1, c2, c3, hk'⟩ := (h3 j hj).2 m hm
    exact ⟨a, b, A', c', h0.trans c0, (hc 1 (by omega)).trans c1, (hc 2 (by omega)).trans c2, (hc 3 (by omega)).trans c3, hk'.keep fun p _ hp => far p hp⟩
end Go.Proofs.YtkefpickpjjllaaDoor

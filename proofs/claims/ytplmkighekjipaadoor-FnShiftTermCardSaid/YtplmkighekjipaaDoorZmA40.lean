/- impl.replaceVars with a numbering's place; impl.TermVars. Condition: the nodes lie in memory and are well-formed. -/
import Derived.Test.YtplmkighekjipaaDoorProg
import Derived.Test.YtplmkighekjipaaDoorZmA39
import Derived.Test.YtplmkighekjipaaDoorZmA33
import Derived.Test.YtplmkighekjipaaDoorZmA27
import Derived.Test.YtplmkighekjipaaDoorZmA38
import Derived.Test.YtplmkighekjipaaDoorZmA28
import Derived.Test.YtplmkighekjipaaDoorTb
import Derived.Deep.RegionHeld3
namespace Go.Proofs.YtplmkighekjipaaDoor
open Go.RowKit Go.Maps

/-- Blocks that are new since w and no part of the row of numbers. -/
def Fresh (n0 n1 : Nat) (vo : Value) (x : Nat) : Prop := n0 ≤ x ∧ x < n1 ∧ x ∉ ownV vo
theorem addV_pre (a : List Int) (n : Int) : a <+: addV a n := by
  unfold addV
  split
  · exact List.prefix_refl a
  · exact List.prefix_append a [n]
theorem varsF_pre (f : Fr) : ∀ a, a <+: varsF a f := by
  induction f with
  | nil => intro a; exact List.prefix_refl a
  | cons k n s kids rest ihk ihr =>
    intro a
    simp only [varsF]
    refine List.IsPrefix.trans ?_ (ihr _)
    split
    · exact addV_pre a n
    · exact ihk a
theorem varsT_pre (a : List Int) (k n : Int) (f : Fr) : a <+: varsT a k n f := by
  unfold varsT
  split
  · exact addV_pre a n
  · exact varsF_pre f a
theorem renN_pre {a W : List Int} {n : Int} (h : addV a n <+: W) : renN W 1 n = ((addV a n).idxOf n : Int) := by
  obtain ⟨t, rfl⟩ := h
  have hm : n ∈ addV a n := by
    unfold addV
    split
    · rename_i h; exact List.contains_iff_mem.1 h
    · simp
  unfold renN
  rw [if_pos ⟨rfl, List.mem_append.2 (.inl hm)⟩, List.idxOf_append, if_pos hm]
/-- What renumber leaves. -/
def NsRes (w : World) (base mb bm : Nat) (vo : Value) (xs : List Int) (k n : Int) (s : ByteArray) (f : Fr) (e : Ending) (w' : World) : Prop :=
  ∃ vo' v', e = .returned v' ∧ Num w' base mb bm vo' xs ∧ Wrote (mb :: bm :: ownV vo) w w' ∧ (∀ x ∈ ownV vo', x ∈ ownV vo ∨ w.heap.size ≤ x) ∧ (∀ W, xs <+: W → NdVIn w' (Fresh w.heap.size w'.heap.size vo') k (renN W k n) s (renF W f) v')

theorem rp_num (f : Fr) : ∀ (a : List Int) (d : Int) (W : List Int), shapeF f d = true → varsF a f <+: W → rpF addV numOut a f = renF W f := by
  induction f with
  | nil => intro a d W _ _; rfl
  | cons k n s kids rest ihk ihr =>
    intro a d W h hW
    rw [shapeF_cons, Bool.and_eq_true] at h
    rw [rpF_cons, stT_num]
    have hW2 : varsF (varsT a k n kids) rest <+: W := hW
    have h2 := ihr (varsT a k n kids) d W h.2 hW2
    have h3 : varsT a k n kids <+: W := (varsF_pre rest _).trans hW2
    rw [h2]
    by_cases hk : k = 1
    · subst hk
      obtain ⟨rfl, rfl, _⟩ := shapeT_leaf h.1 (by omega)
      have e : varsT a 1 n .nil = addV a n := by unfold varsT; rw [if_pos rfl]
      rw [e] at h3
      show _ = Fr.cons 1 (renN W 1 n) ⟨#[]⟩ .nil (renF W rest)
      unfold rpT
      rw [if_pos rfl, renN_pre h3]
      rfl
    · have e : varsT a k n kids = varsF a kids := by unfold varsT; rw [if_neg hk]
      rw [e] at h3
      have h4 := ihk a (d - 1) W (shapeT_kids h.1) h3
      show _ = Fr.cons k (renN W k n) s (renF W kids) (renF W rest)
      unfold rpT
      rw [if_neg hk, h4]
      unfold renN
      rw [if_neg (fun e => hk e.1)]
theorem rpT_num {a : List Int} {k n : Int} {s : ByteArray} {f : Fr} {d : Int} {W : List Int} (h : shapeT k n s f d = true) (hW : varsT a k n f <+: W) : rpT addV numOut a k n s f = ⟨k, renN W k n, s, renF W f⟩ := by
  by_cases hk : k = 1
  · subst hk
    obtain ⟨rfl, rfl, _⟩ := shapeT_leaf h (by omega)
    have e : varsT a 1 n .nil = addV a n := by unfold varsT; rw [if_pos rfl]
    rw [e] at hW
    unfold rpT
    rw [if_pos rfl, renN_pre hW]; rfl
  · have e : varsT a k n f = varsF a f := by unfold varsT; rw [if_neg hk]
    rw [e] at hW
    unfold rpT
    rw [if_neg hk, rp_num f a (d - 1) W (shapeT_kids h) hW]
    unfold renN
    rw [if_neg (fun e => hk e.1)]
/-- impl.replaceVars with a numbering's place. -/
theorem nsT_any (k n d : Int) (s : ByteArray) (f : Fr) (v : Value) (lo hi base mb bm : Nat) (vo : Value) (acc : List Int) (w : World) (hs : shapeT k n s f d = true) (hv : NdV w lo hi k n s f v) (hmb : hi ≤ mb) (hbm : hi ≤ bm) (hN : Num w base mb bm vo acc) (hbs : base ≤ w.heap.size) (hacc : acc.length + nodes f ≤ 2097152) :
    Calls Tryd.prog 40 #[v, .func (.func 42) #[.pointer (some ⟨mb, 0, none⟩)] #[]] w fun e w' => NsRes w base mb bm vo (varsT acc k n f) k n s f e w' := by
  have hlo := hN.2.2.1.lt
  have hml := hN.1.lt
  refine (rpT_any place_ef (place_rep base mb bm) s f k n d v lo hi acc (mb :: bm :: ownV vo) w hs hv (by omega) (fun x hx => ?_) ⟨vo, hN, rfl⟩ hbs hacc).mono ?_
  · simp only [List.mem_cons] at hx
    rcases hx with rfl | rfl | hx
    · exact hmb
    · exact hbm
    · have := (hlo x hx).1; have := hN.2.2.2.1; omega
  · rintro e w' ⟨Q', v', rfl, ⟨vo', h1, rfl⟩, h2, h3, h4⟩
    rw [stT_num] at h1
    have hlo' := h1.2.2.1.lt
    have b1 := h1.2.2.2.1
    have b2 := h1.2.2.2.2.1
    refine ⟨vo', v', rfl, h1, h2, fun x hx => ?_, fun W hW => ?_⟩
    · have h5 := (hlo' x hx).1
      rcases h3 x (by simp [hx]) with h | h
      · simp only [List.mem_cons] at h
        rcases h with h | h | h
        · omega
        · omega
        · exact .inl h
      · exact .inr h
    · rw [rpT_num hs hW] at h4
      refine NdVIn.keep h4 (fun _ _ => rfl) fun x hx => ?_
      have hq := hx.2.2
      simp only [List.mem_cons, not_or] at hq
      rcases hx.1 with h | h
      · exact h.elim
      · exact ⟨h, hx.2.1, hq.2.2⟩

end Go.Proofs.YtplmkighekjipaaDoor

/- impl.nodesOf with the row that it makes; shapes of renamed terms. Condition: the row lies in memory, the table of signs in its variable. -/
namespace Go.Proofs.YtplmkighekjipaaDoor
open Go.RowKit

theorem shape_of_valid {k n : Int} {s : ByteArray} {f : Fr} (h : validT k n s f = true) : shapeT k n s f 30 = true := by
  unfold validT at h
  rw [Bool.and_eq_true] at h
  exact h.1

/-- What nodesOf answers. -/
def NodesRes2 (w : World) (f : Fr) (e : Ending) (w' : World) : Prop :=
  Below w.heap.size w w' ∧ ((allV f = true ∧ e = .returned (.tuple #[.slice (some ⟨w.heap.size, 0, none⟩) f.len f.len, .bool true]) ∧ NPart w f w.heap.size f.len w') ∨ (allV f = false ∧ e = .returned (.tuple #[.slice none 0 0, .bool false])))
theorem nodup_len (N : Nat) : ∀ l : List Int, l.Nodup → (∀ x ∈ l, 0 ≤ x ∧ x < N) → l.length ≤ N := by
  induction N with
  | zero =>
    intro l _ h
    cases l with
    | nil => exact Nat.le_refl _
    | cons x _ => have := h x (by simp); omega
  | succ N ih =>
    intro l hn h
    have h1 := ih (l.erase (N : Int)) (hn.erase _) fun x hx => by
      have h2 := (hn.mem_erase_iff).1 hx
      have h3 := h x h2.2
      have h4 := h2.1
      omega
    rw [List.length_erase] at h1
    split at h1 <;> omega
theorem vars_range (f : Fr) : ∀ (d : Int) (acc : List Int), shapeF f d = true → (∀ x ∈ acc, 0 ≤ x ∧ x < (26 : Nat)) → ∀ x ∈ varsF acc f, 0 ≤ x ∧ x < (26 : Nat) := by
  induction f with
  | nil => intro d acc _ h; exact h
  | cons k n s kids rest ihk ihr =>
    intro d acc hs h
    rw [shapeF_cons, Bool.and_eq_true] at hs
    simp only [varsF]
    refine ihr d _ hs.2 ?_
    split
    · rename_i hk
      subst hk
      have h0 := hs.1
      unfold shapeT ownB at h0
      simp only [Bool.and_eq_true, Bool.or_eq_true, decide_eq_true_eq, beq_iff_eq] at h0
      unfold addV
      split
      · exact h
      · intro x hx
        rcases List.mem_append.1 hx with hx | hx
        · exact h x hx
        · have : x = n := by simpa using hx
          omega
    · exact ihk _ _ (shapeT_kids hs.1) h
theorem shapeF_ren (V : List Int) (hV : V.length ≤ 26) (f : Fr) : ∀ d, shapeF f d = true → shapeF (renF V f) d = true := by
  induction f with
  | nil => intro d h; exact h
  | cons k n s kids rest ihk ihr =>
    intro d hs
    rw [shapeF_cons, Bool.and_eq_true] at hs
    simp only [renF]
    rw [shapeF_cons, Bool.and_eq_true]
    refine ⟨?_, ihr d hs.2⟩
    have hk := ihk _ (shapeT_kids hs.1)
    have h0 := hs.1
    unfold shapeT ownB at h0 ⊢
    simp only [Bool.and_eq_true, Bool.or_eq_true, decide_eq_true_eq, beq_iff_eq, renF_len] at h0 ⊢
    refine ⟨h0.1, ?_, hk⟩
    by_cases h1 : k = 1
    · have hr : 0 ≤ renN V k n ∧ renN V k n ≤ 25 := by
        unfold renN
        split
        · rename_i hh
          have := List.idxOf_lt_length_iff.2 hh.2
          omega
        · omega
      rcases h0.2.1 with (h | h) | h
      · exact .inl (.inl ⟨h.1, ⟨⟨hr, h.2.1.2⟩, h.2.2⟩⟩)
      · omega
      · omega
    · have e : renN V k n = n := by unfold renN; rw [if_neg (fun e => h1 e.1)]
      rw [e]
      exact h0.2.1
theorem allV_shape (f : Fr) (h : allV f = true) : shapeF f 30 = true := by
  induction f with
  | nil => rfl
  | cons k n s kids rest _ ihr =>
    simp only [allV, Bool.and_eq_true] at h
    rw [shapeF_cons, Bool.and_eq_true]
    exact ⟨shape_of_valid h.1, ihr h.2⟩
theorem allVars_small (f : Fr) (h : allV f = true) : (allVars f).length ≤ 26 := by
  unfold allVars
  exact nodup_len 26 _ (varsF_nodup f [] List.nodup_nil) (vars_range f 30 [] (allV_shape f h) fun x hx => by simp at hx)

end Go.Proofs.YtplmkighekjipaaDoor

/- spec.l3Canon. Condition: the term lies in memory. -/
namespace Go.Proofs.YtplmkighekjipaaDoor
open Go.RowKit

/-- The variables of one term; the term with them numbered. -/
def canV (k n : Int) (f : Fr) : List Int := varsT [] k n f
theorem canV_nodup (k n : Int) (s : ByteArray) (f : Fr) : (canV k n f).Nodup := varsF_nodup (.cons k n s f .nil) [] List.nodup_nil
theorem canV_len (k n : Int) (f : Fr) : (canV k n f).length ≤ nodes f + 1 := by
  have := varsT_len [] k n f
  simpa [canV] using this
theorem canV_small {k n : Int} {s : ByteArray} {f : Fr} {d : Int} (h : shapeT k n s f d = true) : (canV k n f).length ≤ 26 :=
  nodup_len 26 _ (canV_nodup k n s f) (vars_range (.cons k n s f .nil) d [] (by rw [shapeF_cons, h]; rfl) fun x hx => by simp at hx)
theorem shapeT_ren {V : List Int} (hV : V.length ≤ 26) {k n : Int} {s : ByteArray} {f : Fr} {d : Int} (h : shapeT k n s f d = true) : shapeT k (renN V k n) s (renF V f) d = true := by
  have h1 := shapeF_ren V hV (.cons k n s f .nil) d (by rw [shapeF_cons, h]; rfl)
  simp only [renF] at h1
  rw [shapeF_cons, Bool.and_eq_true] at h1
  exact h1.1

end Go.Proofs.YtplmkighekjipaaDoor

/- impl.replaceVars with a numbering's place; impl.TermVars. Condition: the nodes lie in memory and are well-formed. -/
import Derived.Test.YtejflpmecpmhkaaDoorProg
import Derived.Test.YtejflpmecpmhkaaDoorNumb
import Derived.Test.YtejflpmecpmhkaaDoorRen
namespace Go.Proofs.YtejflpmecpmhkaaDoor
open Go.RowKit Go.Maps

/-- Blocks that are new since w and no part of the row of numbers. -/
def Fresh (n0 n1 : Nat) (vo : Value) (x : Nat) : Prop := n0 ≤ x ∧ x < n1 ∧ x ∉ ownV vo
theorem addV_pre (a : List Int) (n : Int) : a <+: addV a n := by
  unfold addV
  split
  · exact List.prefix_refl a
  · exact List.prefix_append a [n]
theorem varsF_pre (f : Fr) : ∀ a, a <+: varsF a f := by
  induction f with
  | nil => intro a; exact List.prefix_refl a
  | cons k n s kids rest ihk ihr =>
    intro a
    simp only [varsF]
    refine List.IsPrefix.trans ?_ (ihr _)
    split
    · exact addV_pre a n
    · exact ihk a
theorem varsT_pre (a : List Int) (k n : Int) (f : Fr) : a <+: varsT a k n f := by
  unfold varsT
  split
  · exact addV_pre a n
  · exact varsF_pre f a
theorem renN_pre {a W : List Int} {n : Int} (h : addV a n <+: W) : renN W 1 n = ((addV a n).idxOf n : Int) := by
  obtain ⟨t, rfl⟩ := h
  have hm : n ∈ addV a n := by
    unfold addV
    split
    · rename_i h; exact List.contains_iff_mem.1 h
    · simp
  unfold renN
  rw [if_pos ⟨rfl, List.mem_append.2 (.inl hm)⟩, List.idxOf_append, if_pos hm]
/-- What renumber leaves. -/
def NsRes (w : World) (base mb bm : Nat) (vo : Value) (xs : List Int) (k n : Int) (s : ByteArray) (f : Fr) (e : Ending) (w' : World) : Prop :=
  ∃ vo' v', e = .returned v' ∧ Num w' base mb bm vo' xs ∧ Wrote (mb :: bm :: ownV vo) w w' ∧ (∀ x ∈ ownV vo', x ∈ ownV vo ∨ w.heap.size ≤ x) ∧ (∀ W, xs <+: W → NdVIn w' (Fresh w.heap.size w'.heap.size vo') k (renN W k n) s (renF W f) v')

theorem rp_num (f : Fr) : ∀ (a : List Int) (d : Int) (W : List Int), shapeF f d = true → varsF a f <+: W → rpF addV numOut a f = renF W f := by
  induction f with
  | nil => intro a d W _ _; rfl
  | cons k n s kids rest ihk ihr =>
    intro a d W h hW
    rw [shapeF_cons, Bool.and_eq_true] at h
    rw [rpF_cons, stT_num]
    have hW2 : varsF (varsT a k n kids) rest <+: W := hW
    have h2 := ihr (varsT a k n kids) d W h.2 hW2
    have h3 : varsT a k n kids <+: W := (varsF_pre rest _).trans hW2
    rw [h2]
    by_cases hk : k = 1
    · subst hk
      obtain ⟨rfl, rfl, _⟩ := shapeT_leaf h.1 (by omega)
      have e : varsT a 1 n .nil = addV a n := by unfold varsT; rw [if_pos rfl]
      rw [e] at h3
      show _ = Fr.cons 1 (renN W 1 n) ⟨#[]⟩ .nil (renF W rest)
      unfold rpT
      rw [if_pos rfl, renN_pre h3]
      rfl
    · have e : varsT a k n kids = varsF a kids := by unfold varsT; rw [if_neg hk]
      rw [e] at h3
      have h4 := ihk a (d - 1) W (shapeT_kids h.1) h3
      show _ = Fr.cons k (renN W k n) s (renF W kids) (renF W rest)
      unfold rpT
      rw [if_neg hk, h4]
      unfold renN
      rw [if_neg (fun e => hk e.1)]
theorem rpT_num {a : List Int} {k n : Int} {s : ByteArray} {f : Fr} {d : Int} {W : List Int} (h : shapeT k n s f d = true) (hW : varsT a k n f <+: W) : rpT addV numOut a k n s f = ⟨k, renN W k n, s, renF W f⟩ := by
  by_cases hk : k = 1
  · subst hk
    obtain ⟨rfl, rfl, _⟩ := shapeT_leaf h (by omega)
    have e : varsT a 1 n .nil = addV a n := by unfold varsT; rw [if_pos rfl]
    rw [e] at hW
    unfold rpT
    rw [if_pos rfl, renN_pre hW]; rfl
  · have e : varsT a k n f = varsF a f := by unfold varsT; rw [if_neg hk]
    rw [e] at hW
    unfold rpT
    rw [if_neg hk, rp_num f a (d - 1) W (shapeT_kids h) hW]
    unfold renN
    rw [if_neg (fun e => hk e.1)]
/-- impl.replaceVars with a numbering's place. -/
theorem nsT_any (k n d : Int) (s : ByteArray) (f : Fr) (v : Value) (lo hi base mb bm : Nat) (vo : Value) (acc : List Int) (w : World) (hs : shapeT k n s f d = true) (hv : NdV w lo hi k n s f v) (hmb : hi ≤ mb) (hbm : hi ≤ bm) (hN : Num w base mb bm vo acc) (hbs : base ≤ w.heap.size) (hacc : acc.length + nodes f ≤ 2097152) :
    Calls Tryd.prog 47 #[v, .func (.func 53) #[.pointer (some ⟨mb, 0, none⟩)] #[]] w fun e w' => NsRes w base mb bm vo (varsT acc k n f) k n s f e w' := by
  have hlo := hN.2.2.1.lt
  have hml := hN.1.lt
  refine (rpT_any place_ef (place_rep base mb bm) s f k n d v lo hi acc (mb :: bm :: ownV vo) w hs hv (by omega) (fun x hx => ?_) ⟨vo, hN, rfl⟩ hbs hacc).mono ?_
  · simp only [List.mem_cons] at hx
    rcases hx with rfl | rfl | hx
    · exact hmb
    · exact hbm
    · have := (hlo x hx).1; have := hN.2.2.2.1; omega
  · rintro e w' ⟨Q', v', rfl, ⟨vo', h1, rfl⟩, h2, h3, h4⟩
    rw [stT_num] at h1
    have hlo' := h1.2.2.1.lt
    have b1 := h1.2.2.2.1
    have b2 := h1.2.2.2.2.1
    refine ⟨vo', v', rfl, h1, h2, fun x hx => ?_, fun W hW => ?_⟩
    · have h5 := (hlo' x hx).1
      rcases h3 x (by simp [hx]) with h | h
      · simp only [List.mem_cons] at h
        rcases h with h | h | h
        · omega
        · omega
        · exact .inl h
      · exact .inr h
    · rw [rpT_num hs hW] at h4
      refine NdVIn.keep h4 (fun _ _ => rfl) fun x hx => ?_
      have hq := hx.2.2
      simp only [List.mem_cons, not_or] at hq
      rcases hx.1 with h | h
      · exact h.elim
      · exact ⟨h, hx.2.1, hq.2.2⟩

end Go.Proofs.YtejflpmecpmhkaaDoor

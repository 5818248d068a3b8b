/- Unification: bindings as plain data, and what they stand for in the end. No condition. -/
import Derived.Test.YtkefpickpjjllaaDoorProg
import Derived.Test.YtkefpickpjjllaaDoorRep
import Derived.Test.YtkefpickpjjllaaDoorMatch
namespace Go.Proofs.YtkefpickpjjllaaDoor
open Go.RowKit

/-- The node of a variable. -/
def vNd (n : Int) : Nd := ⟨1, n, ⟨#[]⟩, .nil⟩
/-- A row, a node with its variables replaced. -/
def suF (τ : Int → Nd) : Fr → Fr
  | .nil => .nil
  | .cons k n s kids rest => if k = 1 then .cons (τ n).k (τ n).n (τ n).s (τ n).f (suF τ rest) else .cons k n s (suF τ kids) (suF τ rest)
def suN (τ : Int → Nd) (m : Nd) : Nd := if m.k = 1 then τ m.n else ⟨m.k, m.n, m.s, suF τ m.f⟩
theorem suF_cons (τ : Int → Nd) (k n : Int) (s : ByteArray) (kids rest : Fr) : suF τ (.cons k n s kids rest) = .cons (suN τ ⟨k, n, s, kids⟩).k (suN τ ⟨k, n, s, kids⟩).n (suN τ ⟨k, n, s, kids⟩).s (suN τ ⟨k, n, s, kids⟩).f (suF τ rest) := by
  simp only [suF, suN]
  split <;> rfl
theorem suF_rp (τ : Int → Nd) (f : Fr) : suF τ f = rpF (fun (a : Unit) _ => a) (fun _ n => τ n) () f := by
  induction f with
  | nil => rfl
  | cons k n s kids rest ihk ihr =>
    simp only [suF, rpF, ihk, ihr]
theorem suF_len (τ : Int → Nd) (f : Fr) : (suF τ f).len = f.len := by
  induction f with
  | nil => rfl
  | cons k n s kids rest _ ih => rw [suF_cons]; simp only [Fr.len, ih]
/-- The variables that occur in a row, in a node. -/
def occF : Fr → Int → Prop
  | .nil, _ => False
  | .cons k n _ kids rest, x => (if k = 1 then x = n else occF kids x) ∨ occF rest x
def occN (m : Nd) (x : Int) : Prop := if m.k = 1 then x = m.n else occF m.f x
theorem occF_cons (k n : Int) (s : ByteArray) (kids rest : Fr) (x : Int) : occF (.cons k n s kids rest) x ↔ occN ⟨k, n, s, kids⟩ x ∨ occF rest x := Iff.rfl
theorem occN_var (n x : Int) : occN (vNd n) x ↔ x = n := by unfold occN vNd; simp
theorem su_congr (τ τ' : Int → Nd) (f : Fr) (h : ∀ x, occF f x → τ x = τ' x) : suF τ f = suF τ' f := by
  induction f with
  | nil => rfl
  | cons k n s kids rest ihk ihr =>
    have hr := ihr fun x hx => h x (.inr hx)
    by_cases hk : k = 1
    · subst hk
      have h1 := h n (.inl (by rw [if_pos rfl]))
      simp only [suF, if_true, h1, hr]
    · have h1 := ihk fun x hx => h x (.inl (by rw [if_neg hk]; exact hx))
      simp only [suF, if_neg hk, h1, hr]
theorem suN_congr (τ τ' : Int → Nd) (m : Nd) (h : ∀ x, occN m x → τ x = τ' x) : suN τ m = suN τ' m := by
  unfold suN
  split
  · next hk => exact h m.n (by unfold occN; rw [if_pos hk])
  · next hk => rw [su_congr τ τ' m.f fun x hx => h x (by unfold occN; rw [if_neg hk]; exact hx)]
theorem su_comp (τ τ' : Int → Nd) (f : Fr) : suF τ' (suF τ f) = suF (fun n => suN τ' (τ n)) f := by
  induction f with
  | nil => rfl
  | cons k n s kids rest ihk ihr =>
    by_cases hk : k = 1
    · subst hk
      simp only [suF, if_true]
      rw [ihr]
      unfold suN
      split <;> rfl
    · simp only [suF, if_neg hk]
      rw [ihk, ihr]
theorem suN_comp (τ τ' : Int → Nd) (m : Nd) : suN τ' (suN τ m) = suN (fun n => suN τ' (τ n)) m := by
  by_cases hk : m.k = 1
  · have e1 : suN τ m = τ m.n := by unfold suN; rw [if_pos hk]
    have e2 : suN (fun n => suN τ' (τ n)) m = suN τ' (τ m.n) := by
      show (if m.k = 1 then _ else _) = _
      rw [if_pos hk]
    rw [e1, e2]
  · have e1 : suN τ m = ⟨m.k, m.n, m.s, suF τ m.f⟩ := by unfold suN; rw [if_neg hk]
    have e2 : suN (fun n => suN τ' (τ n)) m = ⟨m.k, m.n, m.s, suF (fun n => suN τ' (τ n)) m.f⟩ := by
      show (if m.k = 1 then _ else _) = _
      rw [if_neg hk]
    rw [e1, e2]
    show (if m.k = 1 then _ else _) = _
    rw [if_neg hk, su_comp]
theorem occ_suF (τ : Int → Nd) (f : Fr) (y : Int) : occF (suF τ f) y ↔ ∃ x, occF f x ∧ occN (τ x) y := by
  induction f with
  | nil => exact ⟨fun h => h.elim, fun ⟨_, h, _⟩ => h.elim⟩
  | cons k n s kids rest ihk ihr =>
    by_cases hk : k = 1
    · subst hk
      simp only [suF, if_true, occF, ihr]
      constructor
      · rintro (h | ⟨x, h1, h2⟩)
        · exact ⟨n, .inl rfl, h⟩
        · exact ⟨x, .inr h1, h2⟩
      · rintro ⟨x, rfl | h1, h2⟩
        · exact .inl h2
        · exact .inr ⟨x, h1, h2⟩
    · simp only [suF, if_neg hk, occF, ihk, ihr]
      constructor
      · rintro (⟨x, h1, h2⟩ | ⟨x, h1, h2⟩)
        · exact ⟨x, .inl h1, h2⟩
        · exact ⟨x, .inr h1, h2⟩
      · rintro ⟨x, h1 | h1, h2⟩
        · exact .inl ⟨x, h1, h2⟩
        · exact .inr ⟨x, h1, h2⟩
theorem occ_suN (τ : Int → Nd) (m : Nd) (y : Int) : occN (suN τ m) y ↔ ∃ x, occN m x ∧ occN (τ x) y := by
  by_cases hk : m.k = 1
  · have e1 : suN τ m = τ m.n := by unfold suN; rw [if_pos hk]
    rw [e1]
    have e2 : ∀ x, occN m x ↔ x = m.n := fun x => by unfold occN; rw [if_pos hk]
    constructor
    · exact fun h => ⟨m.n, (e2 _).2 rfl, h⟩
    · rintro ⟨x, h1, h2⟩
      rw [(e2 x).1 h1] at h2
      exact h2
  · have e1 : suN τ m = ⟨m.k, m.n, m.s, suF τ m.f⟩ := by unfold suN; rw [if_neg hk]
    have e2 : ∀ x, occN m x ↔ occF m.f x := fun x => by unfold occN; rw [if_neg hk]
    have e3 : occN (⟨m.k, m.n, m.s, suF τ m.f⟩ : Nd) y ↔ occF (suF τ m.f) y := by unfold occN; rw [if_neg hk]
    rw [e1, e3, occ_suF]
    exact ⟨fun ⟨x, h1, h2⟩ => ⟨x, (e2 x).2 h1, h2⟩, fun ⟨x, h1, h2⟩ => ⟨x, (e2 x).1 h1, h2⟩⟩
/-- Well-formed variables: a node of kind 1 is the node of its variable. -/
def wvF : Fr → Prop
  | .nil => True
  | .cons k n s kids rest => (if k = 1 then (⟨k, n, s, kids⟩ : Nd) = vNd n else wvF kids) ∧ wvF rest
def wvN (m : Nd) : Prop := if m.k = 1 then m = vNd m.n else wvF m.f
theorem wv_shape (f : Fr) : ∀ d, shapeF f d = true → wvF f := by
  induction f with
  | nil => intro d _; trivial
  | cons k n s kids rest ihk ihr =>
    intro d h
    rw [shapeF_cons, Bool.and_eq_true] at h
    refine ⟨?_, ihr d h.2⟩
    split
    · next hk =>
      subst hk
      obtain ⟨h1, h2, _⟩ := shapeT_var h.1
      rw [h1, h2]; rfl
    · exact ihk (d - 1) (shapeT_kids h.1)
theorem su_id (f : Fr) (h : wvF f) : suF vNd f = f := by
  induction f with
  | nil => rfl
  | cons k n s kids rest ihk ihr =>
    obtain ⟨h1, h2⟩ := h
    by_cases hk : k = 1
    · subst hk
      rw [if_pos rfl] at h1
      injection h1 with _ _ h3 h4
      simp only [suF, if_true, ihr h2]
      rw [h3, h4]; rfl
    · rw [if_neg hk] at h1
      simp only [suF, if_neg hk, ihk h1, ihr h2]
theorem suN_id (m : Nd) (h : wvN m) : suN vNd m = m := by
  unfold suN
  unfold wvN at h
  split
  · next hk => rw [if_pos hk] at h; exact h.symm
  · next hk => rw [if_neg hk] at h; rw [su_id m.f h]
theorem wv_su (τ : Int → Nd) (hτ : ∀ x, wvN (τ x)) (f : Fr) (h : wvF f) : wvF (suF τ f) := by
  induction f with
  | nil => trivial
  | cons k n s kids rest ihk ihr =>
    obtain ⟨h1, h2⟩ := h
    by_cases hk : k = 1
    · subst hk
      simp only [suF, if_true]
      have h3 := hτ n
      refine ⟨?_, ihr h2⟩
      unfold wvN at h3
      split
      · next hk => rw [if_pos hk] at h3; exact h3
      · next hk => rw [if_neg hk] at h3; exact h3
    · rw [if_neg hk] at h1
      simp only [suF, if_neg hk]
      exact ⟨by rw [if_neg hk]; exact ihk h1, ihr h2⟩
theorem wv_suN (τ : Int → Nd) (hτ : ∀ x, wvN (τ x)) (m : Nd) (h : wvN m) : wvN (suN τ m) := by
  unfold suN
  split
  · exact hτ _
  · next hk =>
    unfold wvN at h ⊢
    rw [if_neg hk] at h
    rw [if_neg hk]
    exact wv_su τ hτ m.f h
theorem wv_vNd (n : Int) : wvN (vNd n) := by unfold wvN vNd; rw [if_pos rfl]

/-- Bindings, newest first; what each variable stands for in the end. -/
abbrev Sub := St
abbrev lk (σ : Sub) (x : Int) : Option Nd := lkS σ x
theorem lk_same (σ : Sub) (v : Int) (m : Nd) : lk ((v, m) :: σ) v = some m := lkS_same σ v m
theorem lk_other (σ : Sub) (v x : Int) (m : Nd) (h : x ≠ v) : lk ((v, m) :: σ) x = lk σ x := lkS_other σ v x m h
def one (v : Int) (m : Nd) : Int → Nd := fun x => if x = v then m else vNd x
def fin : Sub → Int → Nd
  | [], x => vNd x
  | (v, m) :: σ, x => suN (one v (suN (fin σ) m)) (fin σ x)
/-- Bindings that were made one after the other: each variable was not bound, and did not occur. -/
def Ok : Sub → Prop
  | [] => True
  | (v, m) :: σ => lk σ v = none ∧ wvN m ∧ ¬ occN (suN (fin σ) m) v ∧ Ok σ
structure Inv (σ : Sub) : Prop where
  free : ∀ x, lk σ x = none → fin σ x = vNd x
  bound : ∀ x m, lk σ x = some m → fin σ x = suN (fin σ) m
  idem : ∀ x y, occN (fin σ x) y → lk σ y = none
  wv : ∀ x, wvN (fin σ x)
  wvb : ∀ x m, lk σ x = some m → wvN m
theorem one_free (v : Int) (m : Nd) (a : Nd) (h : ¬ occN a v) (ha : wvN a) : suN (one v m) a = a := by
  rw [suN_congr (one v m) vNd a fun x hx => by
    unfold one
    rw [if_neg]
    rintro rfl
    exact h hx]
  exact suN_id a ha
theorem inv_of : ∀ σ : Sub, Ok σ → Inv σ
  | [], _ => ⟨fun x _ => rfl, (fun x m h => by cases h), fun x y _ => rfl, fun x => wv_vNd x, (fun x m h => by cases h)⟩
  | (v, m) :: σ, ⟨h1, h2, h3, h4⟩ => by
    obtain ⟨i1, i2, i3, i4, i5⟩ := inv_of σ h4
    have hv : fin σ v = vNd v := i1 v h1
    have hm : wvN (suN (fin σ) m) := wv_suN _ i4 m h2
    have key : ∀ a : Nd, suN (fin ((v, m) :: σ)) a = suN (one v (suN (fin σ) m)) (suN (fin σ) a) := fun a => (suN_comp (fin σ) (one v (suN (fin σ) m)) a).symm
    have hfix : suN (one v (suN (fin σ) m)) (suN (fin σ) m) = suN (fin σ) m := one_free v _ _ h3 hm
    have hw1 : ∀ x, wvN (one v (suN (fin σ) m) x) := fun x => by
      unfold one
      split
      · exact hm
      · exact wv_vNd x
    refine ⟨fun x hx => ?_, fun x n hx => ?_, fun x y hy => ?_, fun x => wv_suN _ hw1 _ (i4 x), fun x n hx => ?_⟩
    · have hne : x ≠ v := fun e => by subst e; rw [lk_same] at hx; cases hx
      rw [lk_other _ _ _ _ hne] at hx
      show suN _ (fin σ x) = _
      rw [i1 x hx]
      refine one_free v _ _ ?_ (wv_vNd x)
      rw [occN_var]
      exact fun e => hne e.symm
    · by_cases e : x = v
      · subst e
        rw [lk_same] at hx
        injection hx with hx
        subst hx
        rw [key, hfix]
        show suN _ (fin σ x) = _
        rw [hv]
        show one x _ x = _
        unfold one
        rw [if_pos rfl]
      · rw [lk_other _ _ _ _ e] at hx
        rw [key]
        show suN _ (fin σ x) = _
        rw [i2 x n hx]
    · have hy' : occN (suN (one v (suN (fin σ) m)) (fin σ x)) y := hy
      rw [occ_suN] at hy'
      obtain ⟨z, hz, hyz⟩ := hy'
      unfold one at hyz
      have hlz := i3 x z hz
      split at hyz
      · next e =>
        have hne : y ≠ v := fun e2 => by subst e2; exact h3 hyz
        rw [lk_other _ _ _ _ hne]
        rw [occ_suN] at hyz
        obtain ⟨u, _, hu2⟩ := hyz
        exact i3 u y hu2
      · next e =>
        rw [occN_var] at hyz
        subst hyz
        rw [lk_other _ _ _ _ e]
        exact hlz
    · by_cases e : x = v
      · subst e
        rw [lk_same] at hx
        injection hx with hx
        subst hx
        exact h2
      · rw [lk_other _ _ _ _ e] at hx
        exact i5 x n hx
end Go.Proofs.YtkefpickpjjllaaDoor

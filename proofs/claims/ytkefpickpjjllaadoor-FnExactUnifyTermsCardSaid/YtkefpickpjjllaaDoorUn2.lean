/- Unification: walking variables, and unification as a relation. No condition. -/
import Derived.Test.YtkefpickpjjllaaDoorProg
import Derived.Test.YtkefpickpjjllaaDoorUn
namespace Go.Proofs.YtkefpickpjjllaaDoor
open Go.RowKit

/-- Bindings whose terms are no bound variables when they are made. -/
def Ok2 : Sub → Prop
  | [] => True
  | (v, m) :: σ => lk σ v = none ∧ wvN m ∧ ¬ occN (suN (fin σ) m) v ∧ (m.k = 1 → lk σ m.n = none) ∧ Ok2 σ
theorem Ok2.ok : ∀ {σ : Sub}, Ok2 σ → Ok σ
  | [], _ => trivial
  | _ :: _, ⟨h1, h2, h3, _, h5⟩ => ⟨h1, h2, h3, h5.ok⟩
theorem Ok2.inv {σ : Sub} (h : Ok2 σ) : Inv σ := inv_of σ h.ok
/-- What a node is walked to, and in how many steps. -/
def wk : Sub → Nd → Nd
  | [], m => m
  | (v, t) :: σ, m => if (wk σ m).k = 1 ∧ (wk σ m).n = v then t else wk σ m
def wl : Sub → Nd → Nat
  | [], _ => 0
  | (v, _) :: σ, m => wl σ m + if (wk σ m).k = 1 ∧ (wk σ m).n = v then 1 else 0
theorem wk_stop (σ : Sub) (m : Nd) (h : m.k ≠ 1 ∨ lk σ m.n = none) : wk σ m = m ∧ wl σ m = 0 := by
  induction σ with
  | nil => exact ⟨rfl, rfl⟩
  | cons p σ ih =>
    obtain ⟨v, t⟩ := p
    have hn : ¬ (m.k = 1 ∧ m.n = v) := by
      rintro ⟨h1, h2⟩
      rcases h with h | h
      · exact h h1
      · subst h2; rw [lk_same] at h; cases h
    have h' : m.k ≠ 1 ∨ lk σ m.n = none := by
      rcases h with h | h
      · exact .inl h
      · by_cases hk : m.k = 1
        · right
          have hne : m.n ≠ v := fun e => hn ⟨hk, e⟩
          rwa [lk_other _ _ _ _ hne] at h
        · exact .inl hk
    obtain ⟨e1, e2⟩ := ih h'
    simp only [wk, wl, e1, e2, if_neg hn]
    first | exact ⟨trivial, trivial⟩ | exact ⟨trivial, rfl⟩ | exact ⟨rfl, rfl⟩
theorem occ_self {σ : Sub} (hi : Inv σ) {m : Nd} (hk : m.k = 1) (hl : lk σ m.n = none) : occN (suN (fin σ) m) m.n := by
  have e : suN (fin σ) m = fin σ m.n := by unfold suN; rw [if_pos hk]
  rw [e, hi.free _ hl, occN_var]
/-- One step of the walk. -/
theorem wk_step : ∀ (σ : Sub) (m t : Nd), Ok2 σ → m.k = 1 → lk σ m.n = some t → wk σ m = wk σ t ∧ wl σ m = wl σ t + 1
  | [], m, t, _, _, hl => by cases hl
  | (v, t0) :: σ, m, t, ⟨h1, h2, h3, h4, h5⟩, hk, hl => by
    by_cases e : m.n = v
    · rw [e, lk_same] at hl
      injection hl with hl
      subst hl
      have s1 := wk_stop σ m (.inr (by rw [e]; exact h1))
      have s2 := wk_stop σ t0 (by
        by_cases hk0 : t0.k = 1
        · exact .inr (h4 hk0)
        · exact .inl hk0)
      have hne : ¬ (t0.k = 1 ∧ t0.n = v) := by
        rintro ⟨a1, a2⟩
        have := occ_self h5.inv a1 (h4 a1)
        rw [a2] at this
        exact h3 this
      simp only [wk, wl, s1.1, s1.2, s2.1, s2.2, if_pos (show m.k = 1 ∧ m.n = v from ⟨hk, e⟩), if_neg hne]
      exact ⟨trivial, trivial⟩
    · rw [lk_other _ _ _ _ e] at hl
      obtain ⟨e1, e2⟩ := wk_step σ m t h5 hk hl
      simp only [wk, wl, e1, e2]
      exact ⟨trivial, by omega⟩
theorem wk_end : ∀ (σ : Sub) (m : Nd), Ok2 σ → (wk σ m).k ≠ 1 ∨ lk σ (wk σ m).n = none
  | [], _, _ => .inr rfl
  | (v, t) :: σ, m, ⟨h1, h2, h3, h4, h5⟩ => by
    have ih := wk_end σ m h5
    by_cases hc : (wk σ m).k = 1 ∧ (wk σ m).n = v
    · simp only [wk, if_pos hc]
      by_cases hk : t.k = 1
      · right
        have hne : t.n ≠ v := fun e => by
          have := occ_self h5.inv hk (h4 hk)
          rw [e] at this
          exact h3 this
        rw [lk_other _ _ _ _ hne]
        exact h4 hk
      · exact .inl hk
    · simp only [wk, if_neg hc]
      rcases ih with h | h
      · exact .inl h
      · by_cases hk : (wk σ m).k = 1
        · right
          rw [lk_other _ _ _ _ fun e => hc ⟨hk, e⟩]
          exact h
        · exact .inl hk
/-- Walking does not turn what a node stands for. -/
theorem wk_fin : ∀ (σ : Sub) (m : Nd), Ok2 σ → suN (fin σ) (wk σ m) = suN (fin σ) m
  | [], _, _ => rfl
  | (v, t) :: σ, m, h => by
    obtain ⟨h1, h2, h3, h4, h5⟩ := h
    have ih := wk_fin σ m h5
    have key : ∀ a : Nd, suN (fin ((v, t) :: σ)) a = suN (one v (suN (fin σ) t)) (suN (fin σ) a) := fun a => (suN_comp (fin σ) (one v (suN (fin σ) t)) a).symm
    by_cases hc : (wk σ m).k = 1 ∧ (wk σ m).n = v
    · simp only [wk, if_pos hc]
      rw [key, key, ← ih]
      have e : suN (fin σ) (wk σ m) = vNd v := by
        have e1 : suN (fin σ) (wk σ m) = fin σ (wk σ m).n := by unfold suN; rw [if_pos hc.1]
        rw [e1, hc.2, h5.inv.free v h1]
      rw [e]
      have e2 : suN (one v (suN (fin σ) t)) (vNd v) = suN (fin σ) t := by
        show one v _ v = _
        unfold one
        rw [if_pos rfl]
      rw [e2]
      exact one_free v _ _ h3 (wv_suN _ h5.inv.wv t h2)
    · simp only [wk, if_neg hc]
      rw [key, key, ih]
theorem wk_wv : ∀ (σ : Sub) (m : Nd), Ok2 σ → wvN m → wvN (wk σ m)
  | [], _, _, h => h
  | (v, t) :: σ, m, ⟨_, h2, _, _, h5⟩, h => by
    by_cases hc : (wk σ m).k = 1 ∧ (wk σ m).n = v
    · simp only [wk, if_pos hc]; exact h2
    · simp only [wk, if_neg hc]; exact wk_wv σ m h5 h

/-- The heads are alike. -/
def hdE (x y : Nd) : Prop := x.k = y.k ∧ x.n = y.n ∧ x.s = y.s ∧ x.f.len = y.f.len
/-- Rows are unified one by one, each by u. -/
def unRow (u : Sub → Nd → Nd → Option (Option Sub)) : Sub → Fr → Fr → Option (Option Sub)
  | σ, .cons k n s f rest, .cons k' n' s' f' rest' => match u σ ⟨k, n, s, f⟩ ⟨k', n', s', f'⟩ with
    | none => none
    | some none => some none
    | some (some σ') => unRow u σ' rest rest'
  | σ, _, _ => some (some σ)
open Classical in
/-- Unification, to a depth: the bindings after it, or none; nothing where the depth did not do. -/
noncomputable def unT : Nat → Sub → Nd → Nd → Option (Option Sub)
  | 0, _, _, _ => none
  | N + 1, σ, a, b =>
    if (wk σ a).k = 1 then
      if (wk σ b).k = 1 ∧ (wk σ a).n = (wk σ b).n then some (some σ)
      else if occN (suN (fin σ) (wk σ b)) (wk σ a).n then some none
      else some (some (((wk σ a).n, wk σ b) :: σ))
    else if (wk σ b).k = 1 then
      if occN (suN (fin σ) (wk σ a)) (wk σ b).n then some none
      else some (some (((wk σ b).n, wk σ a) :: σ))
    else if hdE (wk σ a) (wk σ b) then unRow (unT N) σ (wk σ a).f (wk σ b).f
    else some none
def Un (σ : Sub) (a b : Nd) (r : Option Sub) : Prop := ∃ N, unT N σ a b = some r
def UnF (σ : Sub) (f g : Fr) (r : Option Sub) : Prop := ∃ N, unRow (unT N) σ f g = some r
theorem unRow_more {u u' : Sub → Nd → Nd → Option (Option Sub)} (h : ∀ σ a b r, u σ a b = some r → u' σ a b = some r) : ∀ (f : Fr) (σ : Sub) (g : Fr) (r : Option Sub), unRow u σ f g = some r → unRow u' σ f g = some r := by
  intro f
  induction f with
  | nil => intro σ g r hr; cases g <;> exact hr
  | cons k n s f rest _ ihr =>
    intro σ g r hr
    cases g with
    | nil => exact hr
    | cons k' n' s' f' rest' =>
      simp only [unRow] at hr ⊢
      cases hu : u σ ⟨k, n, s, f⟩ ⟨k', n', s', f'⟩ with
      | none => rw [hu] at hr; cases hr
      | some o =>
        rw [hu] at hr
        rw [h _ _ _ _ hu]
        cases o with
        | none => exact hr
        | some σ' => exact ihr σ' rest' r hr
theorem unT_succ (N : Nat) : ∀ (σ : Sub) (a b : Nd) (r : Option Sub), unT N σ a b = some r → unT (N + 1) σ a b = some r := by
  induction N with
  | zero => intro σ a b r h; cases h
  | succ N ih =>
    intro σ a b r h
    rw [unT] at h ⊢
    split at h
    · next h1 => rw [if_pos h1]; exact h
    · next h1 =>
      rw [if_neg h1]
      split at h
      · next h2 => rw [if_pos h2]; exact h
      · next h2 =>
        rw [if_neg h2]
        split at h
        · next h3 => rw [if_pos h3]; exact unRow_more ih _ _ _ _ h
        · next h3 => rw [if_neg h3]; exact h
theorem unT_le {N M : Nat} (h : N ≤ M) {σ : Sub} {a b : Nd} {r : Option Sub} (hr : unT N σ a b = some r) : unT M σ a b = some r := by
  induction h with
  | refl => exact hr
  | step _ ih => exact unT_succ _ _ _ _ _ ih
theorem Un.det {σ : Sub} {a b : Nd} {r r' : Option Sub} (h : Un σ a b r) (h' : Un σ a b r') : r = r' := by
  obtain ⟨N, h⟩ := h
  obtain ⟨M, h'⟩ := h'
  have e1 := unT_le (Nat.le_max_left N M) h
  have e2 := unT_le (Nat.le_max_right N M) h'
  rw [e1] at e2
  injection e2
theorem UnF.up {N M : Nat} (h : N ≤ M) {σ : Sub} {f g : Fr} {r : Option Sub} (hr : unRow (unT N) σ f g = some r) : unRow (unT M) σ f g = some r := unRow_more (fun _ _ _ _ h' => unT_le h h') f σ g r hr
/-! How it is put together: the rules. -/
theorem Un.same {σ : Sub} {a b : Nd} (h1 : (wk σ a).k = 1) (h2 : (wk σ b).k = 1) (h3 : (wk σ a).n = (wk σ b).n) : Un σ a b (some σ) := ⟨1, by rw [unT, if_pos h1, if_pos ⟨h2, h3⟩]⟩
theorem Un.left {σ : Sub} {a b : Nd} (h1 : (wk σ a).k = 1) (h2 : ¬ ((wk σ b).k = 1 ∧ (wk σ a).n = (wk σ b).n)) (h3 : ¬ occN (suN (fin σ) (wk σ b)) (wk σ a).n) : Un σ a b (some (((wk σ a).n, wk σ b) :: σ)) := ⟨1, by rw [unT, if_pos h1, if_neg h2, if_neg h3]⟩
theorem Un.leftNo {σ : Sub} {a b : Nd} (h1 : (wk σ a).k = 1) (h2 : ¬ ((wk σ b).k = 1 ∧ (wk σ a).n = (wk σ b).n)) (h3 : occN (suN (fin σ) (wk σ b)) (wk σ a).n) : Un σ a b none := ⟨1, by rw [unT, if_pos h1, if_neg h2, if_pos h3]⟩
theorem Un.right {σ : Sub} {a b : Nd} (h1 : (wk σ a).k ≠ 1) (h2 : (wk σ b).k = 1) (h3 : ¬ occN (suN (fin σ) (wk σ a)) (wk σ b).n) : Un σ a b (some (((wk σ b).n, wk σ a) :: σ)) := ⟨1, by rw [unT, if_neg h1, if_pos h2, if_neg h3]⟩
theorem Un.rightNo {σ : Sub} {a b : Nd} (h1 : (wk σ a).k ≠ 1) (h2 : (wk σ b).k = 1) (h3 : occN (suN (fin σ) (wk σ a)) (wk σ b).n) : Un σ a b none := ⟨1, by rw [unT, if_neg h1, if_pos h2, if_pos h3]⟩
theorem Un.headNo {σ : Sub} {a b : Nd} (h1 : (wk σ a).k ≠ 1) (h2 : (wk σ b).k ≠ 1) (h3 : ¬ hdE (wk σ a) (wk σ b)) : Un σ a b none := ⟨1, by rw [unT, if_neg h1, if_neg h2, if_neg h3]⟩
theorem Un.kids {σ : Sub} {a b : Nd} {r : Option Sub} (h1 : (wk σ a).k ≠ 1) (h2 : (wk σ b).k ≠ 1) (h3 : hdE (wk σ a) (wk σ b)) (h4 : UnF σ (wk σ a).f (wk σ b).f r) : Un σ a b r := by
  obtain ⟨N, h4⟩ := h4
  exact ⟨N + 1, by rw [unT, if_neg h1, if_neg h2, if_pos h3]; exact h4⟩
theorem UnF.nil (σ : Sub) : UnF σ .nil .nil (some σ) := ⟨0, rfl⟩
theorem UnF.no {σ : Sub} {k n : Int} {s : ByteArray} {f rest : Fr} {k' n' : Int} {s' : ByteArray} {f' rest' : Fr} (h : Un σ ⟨k, n, s, f⟩ ⟨k', n', s', f'⟩ none) : UnF σ (.cons k n s f rest) (.cons k' n' s' f' rest') none := by
  obtain ⟨N, h⟩ := h
  exact ⟨N, by rw [unRow, h]⟩
theorem UnF.cons {σ σ' : Sub} {k n : Int} {s : ByteArray} {f rest : Fr} {k' n' : Int} {s' : ByteArray} {f' rest' : Fr} {r : Option Sub} (h : Un σ ⟨k, n, s, f⟩ ⟨k', n', s', f'⟩ (some σ')) (h2 : UnF σ' rest rest' r) : UnF σ (.cons k n s f rest) (.cons k' n' s' f' rest') r := by
  obtain ⟨N, h⟩ := h
  obtain ⟨M, h2⟩ := h2
  refine ⟨max N M, ?_⟩
  rw [unRow, unT_le (Nat.le_max_left N M) h]
  exact UnF.up (Nat.le_max_right N M) h2
end Go.Proofs.YtkefpickpjjllaaDoor

/- Unification: walking variables, and unification as a relation. No condition. -/
import Derived.Test.YtnkaafimnkigpaaDoorProg
import Derived.Test.YtnkaafimnkigpaaDoorZmAG42
namespace Go.Proofs.YtnkaafimnkigpaaDoor
open Go.RowKit

/-- Bindings whose terms are no bound variables when they are made. -/
def Ok2 : Sub → Prop
  | [] => True
  | (v, m) :: σ => lk σ v = none ∧ wvN m ∧ ¬ occN (suN (fin σ) m) v ∧ (m.k = 1 → lk σ m.n = none) ∧ Ok2 σ
theorem Ok2.ok : ∀ {σ : Sub}, Ok2 σ → Ok σ
  | [], _ => trivial
  | _ :: _, ⟨h1, h2, h3, _, h5⟩ => ⟨h1, h2, h3, h5.ok⟩
theorem Ok2.inv {σ : Sub} (h : Ok2 σ) : Inv σ := inv_of σ h.ok
/-- What a node is walked to, and in how many steps. -/
def wk : Sub → Nd → Nd
  | [], m => m
  | (v, t) :: σ, m => if (wk σ m).k = 1 ∧ (wk σ m).n = v then t else wk σ m
def wl : Sub → Nd → Nat
  | [], _ => 0
  | (v, _) :: σ, m => wl σ m + if (wk σ m).k = 1 ∧ (wk σ m).n = v then 1 else 0
theorem wk_stop (σ : Sub) (m : Nd) (h : m.k ≠ 1 ∨ lk σ m.n = none) : wk σ m = m ∧ wl σ m = 0 := by
  induction σ with
  | nil => exact ⟨rfl, rfl⟩
  | cons p σ ih =>
    obtain ⟨v, t⟩ := p
    have hn : ¬ (m.k = 1 ∧ m.n = v) := by
      rintro ⟨h1, h2⟩
      rcases h with h | h
      · exact h h1
      · subst h2; rw [lk_same] at h; cases h
    have h' : m.k ≠ 1 ∨ lk σ m.n = none := by
      rcases h with h | h
      · exact .inl h
      · by_cases hk : m.k = 1
        · right
          have hne : m.n ≠ v := fun e => hn ⟨hk, e⟩
          rwa [lk_other _ _ _ _ hne] at h
        · exact .inl hk
    obtain ⟨e1, e2⟩ := ih h'
    simp only [wk, wl, e1, e2, if_neg hn]
    first | exact ⟨trivial, trivial⟩ | exact ⟨trivial, rfl⟩ | exact ⟨rfl, rfl⟩
theorem occ_self {σ : Sub} (hi : Inv σ) {m : Nd} (hk : m.k = 1) (hl : lk σ m.n = none) : occN (suN (fin σ) m) m.n := by
  have e : suN (fin σ) m = fin σ m.n := by unfold suN; rw [if_pos hk]
  rw [e, hi.free _ hl, occN_var]
/-- One step of the walk. -/
theorem wk_step : ∀ (σ : Sub) (m t : Nd), Ok2 σ → m.k = 1 → lk σ m.n = some t → wk σ m = wk σ t ∧ wl σ m = wl σ t + 1
  | [], m, t, _, _, hl => by cases hl
  | (v, t0) :: σ, m, t, ⟨h1, h2, h3, h4, h5⟩, hk, hl => by
    by_cases e : m.n = v
    · rw [e, lk_same] at hl
      injection hl with hl
      subst hl
      have s1 := wk_stop σ m (.inr (by rw [e]; exact h1))
      have s2 := wk_stop σ t0 (by
        by_cases hk0 : t0.k = 1
        · exact .inr (h4 hk0)
        · exact .inl hk0)
      have hne : ¬ (t0.k = 1 ∧ t0.n = v) := by
        rintro ⟨a1, a2⟩
        have := occ_self h5.inv a1 (h4 a1)
        rw [a2] at this
        exact h3 this
      simp only [wk, wl, s1.1, s1.2, s2.1, s2.2, if_pos (show m.k = 1 ∧ m.n = v from ⟨hk, e⟩), if_neg hne]
      exact ⟨trivial, trivial⟩
    · rw [lk_other _ _ _ _ e] at hl
      obtain ⟨e1, e2⟩ := wk_step σ m t h5 hk hl
      simp only [wk, wl, e1, e2]
      exact ⟨trivial, by omega⟩
theorem wk_end : ∀ (σ : Sub) (m : Nd), Ok2 σ → (wk σ m).k ≠ 1 ∨ lk σ (wk σ m).n = none
  | [], _, _ => .inr rfl
  | (v, t) :: σ, m, ⟨h1, h2, h3, h4, h5⟩ => by
    have ih := wk_end σ m h5
    by_cases hc : (wk σ m).k = 1 ∧ (wk σ m).n = v
    · simp only [wk, if_pos hc]
      by_cases hk : t.k = 1
      · right
        have hne : t.n ≠ v := fun e => by
          have := occ_self h5.inv hk (h4 hk)
          rw [e] at this
          exact h3 this
        rw [lk_other _ _ _ _ hne]
        exact h4 hk
      · exact .inl hk
    · simp only [wk, if_neg hc]
      rcases ih with h | h
      · exact .inl h
      · by_cases hk : (wk σ m).k = 1
        · right
          rw [lk_other _ _ _ _ fun e => hc ⟨hk, e⟩]
          exact h
        · exact .inl hk
/-- Walking does not turn what a node stands for. -/
theorem wk_fin : ∀ (σ : Sub) (m : Nd), Ok2 σ → suN (fin σ) (wk σ m) = suN (fin σ) m
  | [], _, _ => rfl
  | (v, t) :: σ, m, h => by
    obtain ⟨h1, h2, h3, h4, h5⟩ := h
    have ih := wk_fin σ m h5
    have key : ∀ a : Nd, suN (fin ((v, t) :: σ)) a = suN (one v (suN (fin σ) t)) (suN (fin σ) a) := fun a => (suN_comp (fin σ) (one v (suN (fin σ) t)) a).symm
    by_cases hc : (wk σ m).k = 1 ∧ (wk σ m).n = v
    · simp only [wk, if_pos hc]
      rw [key, key, ← ih]
      have e : suN (fin σ) (wk σ m) = vNd v := by
        have e1 : suN (fin σ) (wk σ m) = fin σ (wk σ m).n := by unfold suN; rw [if_pos hc.1]
        rw [e1, hc.2, h5.inv.free v h1]
      rw [e]
      have e2 : suN (one v (suN (fin σ) t)) (vNd v) = suN (fin σ) t := by
        show one v _ v = _
        unfold one
        rw [if_pos rfl]
      rw [e2]
      exact one_free v _ _ h3 (wv_suN _ h5.inv.wv t h2)
    · simp only [wk, if_neg hc]
      rw [key, key, ih]
theorem wk_wv : ∀ (σ : Sub) (m : Nd), Ok2 σ → wvN m → wvN (wk σ m)
  | [], _, _, h => h
  | (v, t) :: σ, m, ⟨_, h2, _, _, h5⟩, h => by
    by_cases hc : (wk σ m).k = 1 ∧ (wk σ m).n = v
    · simp only [wk, if_pos hc]; exact h2
    · simp only [wk, if_neg hc]; exact wk_wv σ m h5 h

/-- The heads are alike. -/
def hdE (x y : Nd) : Prop := x.k = y.k ∧ x.n = y.n ∧ x.s = y.s ∧ x.f.len = y.f.len
/-- Rows are unified one by one, each by u. -/
def unRow (u : Sub → Nd → Nd → Option (Option Sub)) : Sub → Fr → Fr → Option (Option Sub)
  | σ, .cons k n s f rest, .cons k' n' s' f' rest' => match u σ ⟨k, n, s, f⟩ ⟨k', n', s', f'⟩ with
    | none => none
    | some none => some none
    | some (some σ') => unRow u σ' rest rest'
  | σ, _, _ => some (some σ)
open Classical in
/-- Unification, to a depth: the bindings after it, or none; nothing where the depth did not do. -/
noncomputable def unT : Nat → Sub → Nd → Nd → Option (Option Sub)
  | 0, _, _, _ => none
  | N + 1, σ, a, b =>
    if (wk σ a).k = 1 then
      if (wk σ b).k = 1 ∧ (wk σ a).n = (wk σ b).n then some (some σ)
      else if occN (suN (fin σ) (wk σ b)) (wk σ a).n then some none
      else some (some (((wk σ a).n, wk σ b) :: σ))
    else if (wk σ b).k = 1 then
      if occN (suN (fin σ) (wk σ a)) (wk σ b).n then some none
      else some (some (((wk σ b).n, wk σ a) :: σ))
    else if hdE (wk σ a) (wk σ b) then unRow (unT N) σ (wk σ a).f (wk σ b).f
    else some none
def Un (σ : Sub) (a b : Nd) (r : Option Sub) : Prop := ∃ N, unT N σ a b = some r
def UnF (σ : Sub) (f g : Fr) (r : Option Sub) : Prop := ∃ N, unRow (unT N) σ f g = some r
theorem unRow_more {u u' : Sub → Nd → Nd → Option (Option Sub)} (h : ∀ σ a b r, u σ a b = some r → u' σ a b = some r) : ∀ (f : Fr) (σ : Sub) (g : Fr) (r : Option Sub), unRow u σ f g = some r → unRow u' σ f g = some r := by
  intro f
  induction f with
  | nil => intro σ g r hr; cases g <;> exact hr
  | cons k n s f rest _ ihr =>
    intro σ g r hr
    cases g with
    | nil => exact hr
    | cons k' n' s' f' rest' =>
      simp only [unRow] at hr ⊢
      cases hu : u σ ⟨k, n, s, f⟩ ⟨k', n', s', f'⟩ with
      | none => rw [hu] at hr; cases hr
      | some o =>
        rw [hu] at hr
        rw [h _ _ _ _ hu]
        cases o with
        | none => exact hr
        | some σ' => exact ihr σ' rest' r hr
theorem unT_succ (N : Nat) : ∀ (σ : Sub) (a b : Nd) (r : Option Sub), unT N σ a b = some r → unT (N + 1) σ a b = some r := by
  induction N with
  | zero => intro σ a b r h; cases h
  | succ N ih =>
    intro σ a b r h
    rw [unT] at h ⊢
    split at h
    · next h1 => rw [if_pos h1]; exact h
    · next h1 =>
      rw [if_neg h1]
      split at h
      · next h2 => rw [if_pos h2]; exact h
      · next h2 =>
        rw [if_neg h2]
        split at h
        · next h3 => rw [if_pos h3]; exact unRow_more ih _ _ _ _ h
        · next h3 => rw [if_neg h3]; exact h
theorem unT_le {N M : Nat} (h : N ≤ M) {σ : Sub} {a b : Nd} {r : Option Sub} (hr : unT N σ a b = some r) : unT M σ a b = some r := by
  induction h with
  | refl => exact hr
  | step _ ih => exact unT_succ _ _ _ _ _ ih
theorem Un.det {σ : Sub} {a b : Nd} {r r' : Option Sub} (h : Un σ a b r) (h' : Un σ a b r') : r = r' := by
  obtain ⟨N, h⟩ := h
  obtain ⟨M, h'⟩ := h'
  have e1 := unT_le (Nat.le_max_left N M) h
  have e2 := unT_le (Nat.le_max_right N M) h'
  rw [e1] at e2
  injection e2
theorem UnF.up {N M : Nat} (h : N ≤ M) {σ : Sub} {f g : Fr} {r : Option Sub} (hr : unRow (unT N) σ f g = some r) : unRow (unT M) σ f g = some r := unRow_more (fun _ _ _ _ h' => unT_le h h') f σ g r hr
/-! How it is put together: the rules. -/
theorem Un.same {σ : Sub} {a b : Nd} (h1 : (wk σ a).k = 1) (h2 : (wk σ b).k = 1) (h3 : (wk σ a).n = (wk σ b).n) : Un σ a b (some σ) := ⟨1, by rw [unT, if_pos h1, if_pos ⟨h2, h3⟩]⟩
theorem Un.left {σ : Sub} {a b : Nd} (h1 : (wk σ a).k = 1) (h2 : ¬ ((wk σ b).k = 1 ∧ (wk σ a).n = (wk σ b).n)) (h3 : ¬ occN (suN (fin σ) (wk σ b)) (wk σ a).n) : Un σ a b (some (((wk σ a).n, wk σ b) :: σ)) := ⟨1, by rw [unT, if_pos h1, if_neg h2, if_neg h3]⟩
theorem Un.leftNo {σ : Sub} {a b : Nd} (h1 : (wk σ a).k = 1) (h2 : ¬ ((wk σ b).k = 1 ∧ (wk σ a).n = (wk σ b).n)) (h3 : occN (suN (fin σ) (wk σ b)) (wk σ a).n) : Un σ a b none := ⟨1, by rw [unT, if_pos h1, if_neg h2, if_pos h3]⟩
theorem Un.right {σ : Sub} {a b : Nd} (h1 : (wk σ a).k ≠ 1) (h2 : (wk σ b).k = 1) (h3 : ¬ occN (suN (fin σ) (wk σ a)) (wk σ b).n) : Un σ a b (some (((wk σ b).n, wk σ a) :: σ)) := ⟨1, by rw [unT, if_neg h1, if_pos h2, if_neg h3]⟩
theorem Un.rightNo {σ : Sub} {a b : Nd} (h1 : (wk σ a).k ≠ 1) (h2 : (wk σ b).k = 1) (h3 : occN (suN (fin σ) (wk σ a)) (wk σ b).n) : Un σ a b none := ⟨1, by rw [unT, if_neg h1, if_pos h2, if_pos h3]⟩
theorem Un.headNo {σ : Sub} {a b : Nd} (h1 : (wk σ a).k ≠ 1) (h2 : (wk σ b).k ≠ 1) (h3 : ¬ hdE (wk σ a) (wk σ b)) : Un σ a b none := ⟨1, by rw [unT, if_neg h1, if_neg h2, if_neg h3]⟩
theorem Un.kids {σ : Sub} {a b : Nd} {r : Option Sub} (h1 : (wk σ a).k ≠ 1) (h2 : (wk σ b).k ≠ 1) (h3 : hdE (wk σ a) (wk σ b)) (h4 : UnF σ (wk σ a).f (wk σ b).f r) : Un σ a b r := by
  obtain ⟨N, h4⟩ := h4
  exact ⟨N + 1, by rw [unT, if_neg h1, if_neg h2, if_pos h3]; exact h4⟩
theorem UnF.nil (σ : Sub) : UnF σ .nil .nil (some σ) := ⟨0, rfl⟩
theorem UnF.no {σ : Sub} {k n : Int} {s : ByteArray} {f rest : Fr} {k' n' : Int} {s' : ByteArray} {f' rest' : Fr} (h : Un σ ⟨k, n, s, f⟩ ⟨k', n', s', f'⟩ none) : UnF σ (.cons k n s f rest) (.cons k' n' s' f' rest') none := by
  obtain ⟨N, h⟩ := h
  exact ⟨N, by rw [unRow, h]⟩
theorem UnF.cons {σ σ' : Sub} {k n : Int} {s : ByteArray} {f rest : Fr} {k' n' : Int} {s' : ByteArray} {f' rest' : Fr} {r : Option Sub} (h : Un σ ⟨k, n, s, f⟩ ⟨k', n', s', f'⟩ (some σ')) (h2 : UnF σ' rest rest' r) : UnF σ (.cons k n s f rest) (.cons k' n' s' f' rest') r := by
  obtain ⟨N, h⟩ := h
  obtain ⟨M, h2⟩ := h2
  refine ⟨max N M, ?_⟩
  rw [unRow, unT_le (Nat.le_max_left N M) h]
  exact UnF.up (Nat.le_max_right N M) h2
end Go.Proofs.YtnkaafimnkigpaaDoor

/- Unification: what it leaves where it succeeds; terms that stand for the same are unified without bindings. No condition. -/
namespace Go.Proofs.YtnkaafimnkigpaaDoor
open Go.RowKit

theorem fin_cons (v : Int) (m : Nd) (σ : Sub) (a : Nd) : suN (fin ((v, m) :: σ)) a = suN (one v (suN (fin σ) m)) (suN (fin σ) a) := (suN_comp (fin σ) (one v (suN (fin σ) m)) a).symm
/-- What stood for the same does so behind more bindings. -/
theorem keep_eq (l : Sub) : ∀ (σ : Sub) (a b : Nd), suN (fin σ) a = suN (fin σ) b → suN (fin (l ++ σ)) a = suN (fin (l ++ σ)) b := by
  induction l with
  | nil => intro σ a b h; exact h
  | cons p l ih =>
    intro σ a b h
    obtain ⟨v, m⟩ := p
    show suN (fin ((v, m) :: (l ++ σ))) a = suN (fin ((v, m) :: (l ++ σ))) b
    rw [fin_cons, fin_cons, ih σ a b h]
theorem suF_comp' (v : Int) (m : Nd) (σ : Sub) (f : Fr) : suF (fin ((v, m) :: σ)) f = suF (one v (suN (fin σ) m)) (suF (fin σ) f) := (su_comp (fin σ) (one v (suN (fin σ) m)) f).symm
theorem keep_eqF (l : Sub) : ∀ (σ : Sub) (f g : Fr), suF (fin σ) f = suF (fin σ) g → suF (fin (l ++ σ)) f = suF (fin (l ++ σ)) g := by
  induction l with
  | nil => intro σ f g h; exact h
  | cons p l ih =>
    intro σ f g h
    obtain ⟨v, m⟩ := p
    show suF (fin ((v, m) :: (l ++ σ))) f = suF (fin ((v, m) :: (l ++ σ))) g
    rw [suF_comp', suF_comp', ih σ f g h]
theorem suN_var {σ : Sub} {m : Nd} (h : m.k = 1) : suN (fin σ) m = fin σ m.n := by unfold suN; rw [if_pos h]
theorem suN_str {σ : Sub} {m : Nd} (h : m.k ≠ 1) : suN (fin σ) m = ⟨m.k, m.n, m.s, suF (fin σ) m.f⟩ := by unfold suN; rw [if_neg h]
/-- One binding more. -/
theorem bind_ok {σ : Sub} {v : Int} {m : Nd} (h : Ok2 σ) (hv : lk σ v = none) (hm : wvN m) (ho : ¬ occN (suN (fin σ) m) v) (hk : m.k = 1 → lk σ m.n = none) : Ok2 ((v, m) :: σ) ∧ suN (fin ((v, m) :: σ)) (vNd v) = suN (fin ((v, m) :: σ)) m := by
  have h2 : Ok2 ((v, m) :: σ) := ⟨hv, hm, ho, hk, h⟩
  refine ⟨h2, ?_⟩
  have e : suN (fin ((v, m) :: σ)) (vNd v) = fin ((v, m) :: σ) v := suN_var rfl
  rw [e]
  exact h2.inv.bound v m (lk_same σ v m)
theorem wv_var {m : Nd} (h : wvN m) (hk : m.k = 1) : m = vNd m.n := by unfold wvN at h; rwa [if_pos hk] at h
theorem wvF_of {m : Nd} (h : wvN m) (hk : m.k ≠ 1) : wvF m.f := by unfold wvN at h; rwa [if_neg hk] at h
/-- What success leaves. -/
def UnOk (σ σ' : Sub) : Prop := Ok2 σ' ∧ ∃ l, σ' = l ++ σ
theorem UnOk.refl {σ : Sub} (h : Ok2 σ) : UnOk σ σ := ⟨h, [], rfl⟩
theorem UnOk.trans {σ σ' σ'' : Sub} (h : UnOk σ σ') (h' : UnOk σ' σ'') : UnOk σ σ'' := by
  obtain ⟨_, l, rfl⟩ := h
  obtain ⟨h2, l', rfl⟩ := h'
  exact ⟨h2, l' ++ l, by rw [List.append_assoc]⟩
theorem good_all (N : Nat) : ∀ (σ : Sub) (a b : Nd) (σ' : Sub), unT N σ a b = some (some σ') → Ok2 σ → wvN a → wvN b → UnOk σ σ' ∧ suN (fin σ') a = suN (fin σ') b := by
  induction N with
  | zero => intro σ a b σ' h; cases h
  | succ N ih =>
    have row : ∀ (f : Fr) (σ : Sub) (g : Fr) (σ' : Sub), unRow (unT N) σ f g = some (some σ') → f.len = g.len → Ok2 σ → wvF f → wvF g → UnOk σ σ' ∧ suF (fin σ') f = suF (fin σ') g := by
      intro f
      induction f with
      | nil =>
        intro σ g σ' h hl hσ _ _
        cases g with
        | nil => injection h with h; injection h with h; subst h; exact ⟨.refl hσ, rfl⟩
        | cons => simp [Fr.len] at hl
      | cons k n s f rest _ ihr =>
        intro σ g σ' h hl hσ hf hg
        cases g with
        | nil => simp [Fr.len] at hl
        | cons k' n' s' f' rest' =>
          simp only [unRow] at h
          cases hu : unT N σ ⟨k, n, s, f⟩ ⟨k', n', s', f'⟩ with
          | none => rw [hu] at h; cases h
          | some o =>
            rw [hu] at h
            cases o with
            | none => cases h
            | some σ1 =>
              obtain ⟨u1, e1⟩ := ih σ _ _ σ1 hu hσ hf.1 hg.1
              obtain ⟨u2, e2⟩ := ihr σ1 rest' σ' h (by simpa [Fr.len] using hl) u1.1 hf.2 hg.2
              refine ⟨u1.trans u2, ?_⟩
              obtain ⟨_, l, rfl⟩ := u2
              have e3 := keep_eq l σ1 _ _ e1
              rw [suF_cons, suF_cons, e3, e2]
    intro σ a b σ' h hσ ha hb
    have wa := wk_wv σ a hσ ha
    have wb := wk_wv σ b hσ hb
    have ea := wk_end σ a hσ
    have eb := wk_end σ b hσ
    have fa := wk_fin σ a hσ
    have fb := wk_fin σ b hσ
    rw [unT] at h
    split at h
    · next h1 =>
      split at h
      · next h2 =>
        injection h with h; injection h with h; subst h
        refine ⟨.refl hσ, ?_⟩
        rw [← fa, ← fb, suN_var h1, suN_var h2.1, h2.2]
      · next h2 =>
        split at h
        · cases h
        · next h3 =>
          injection h with h; injection h with h; subst h
          have hl : lk σ (wk σ a).n = none := by rcases ea with h | h; exact absurd h1 h; exact h
          obtain ⟨k1, k2⟩ := bind_ok hσ hl wb h3 fun hk => by rcases eb with h | h; exact absurd hk h; exact h
          rw [← wv_var wa h1] at k2
          refine ⟨⟨k1, [_], rfl⟩, ?_⟩
          have e1 := keep_eq [((wk σ a).n, wk σ b)] σ _ _ fa
          have e2 := keep_eq [((wk σ a).n, wk σ b)] σ _ _ fb
          exact e1.symm.trans (k2.trans e2)
    · next h1 =>
      split at h
      · next h2 =>
        split at h
        · cases h
        · next h3 =>
          injection h with h; injection h with h; subst h
          have hl : lk σ (wk σ b).n = none := by rcases eb with h | h; exact absurd h2 h; exact h
          obtain ⟨k1, k2⟩ := bind_ok hσ hl wa h3 fun hk => absurd hk h1
          rw [← wv_var wb h2] at k2
          refine ⟨⟨k1, [_], rfl⟩, ?_⟩
          have e1 := keep_eq [((wk σ b).n, wk σ a)] σ _ _ fa
          have e2 := keep_eq [((wk σ b).n, wk σ a)] σ _ _ fb
          exact e1.symm.trans (k2.symm.trans e2)
      · next h2 =>
        split at h
        · next h3 =>
          obtain ⟨k1, k2⟩ := row _ σ _ σ' h h3.2.2.2 hσ (wvF_of wa h1) (wvF_of wb h2)
          refine ⟨k1, ?_⟩
          obtain ⟨_, l, rfl⟩ := k1
          have e1 := keep_eq l σ _ _ fa
          have e2 := keep_eq l σ _ _ fb
          rw [← e1, ← e2, suN_str h1, suN_str h2, k2, h3.1, h3.2.1, h3.2.2.1]
        · cases h
theorem Un.good {σ σ' : Sub} {a b : Nd} (h : Un σ a b (some σ')) (hσ : Ok2 σ) (ha : wvN a) (hb : wvN b) : UnOk σ σ' ∧ suN (fin σ') a = suN (fin σ') b := by
  obtain ⟨N, h⟩ := h
  exact good_all N σ a b σ' h hσ ha hb
/-- Terms that stand for the same are unified without bindings. -/
theorem same_all (σ : Sub) (hσ : Ok2 σ) (N : Nat) : (∀ a b : Nd, wvN a → wvN b → 1 + nodes (suN (fin σ) a).f ≤ N → suN (fin σ) a = suN (fin σ) b → Un σ a b (some σ)) ∧
    (∀ f g : Fr, wvF f → wvF g → nodes (suF (fin σ) f) ≤ N → suF (fin σ) f = suF (fin σ) g → UnF σ f g (some σ)) := by
  induction N with
  | zero =>
    refine ⟨fun a b _ _ h => by omega, fun f g hf hg h e => ?_⟩
    cases f with
    | nil =>
      cases g with
      | nil => exact .nil σ
      | cons => have := congrArg Fr.len e; rw [suF_len, suF_len] at this; simp [Fr.len] at this
    | cons => rw [suF_cons] at h; simp [nodes] at h
  | succ N ih =>
    have P : ∀ a b : Nd, wvN a → wvN b → 1 + nodes (suN (fin σ) a).f ≤ N + 1 → suN (fin σ) a = suN (fin σ) b → Un σ a b (some σ) := by
      intro a b ha hb hN e
      have wa := wk_wv σ a hσ ha
      have wb := wk_wv σ b hσ hb
      have ea := wk_end σ a hσ
      have eb := wk_end σ b hσ
      have fa := wk_fin σ a hσ
      have fb := wk_fin σ b hσ
      have e' : suN (fin σ) (wk σ a) = suN (fin σ) (wk σ b) := fa.trans (e.trans fb.symm)
      by_cases h1 : (wk σ a).k = 1
      · have hl : lk σ (wk σ a).n = none := by rcases ea with h | h; exact absurd h1 h; exact h
        have e1 : suN (fin σ) (wk σ a) = vNd (wk σ a).n := by rw [suN_var h1, hσ.inv.free _ hl]
        by_cases h2 : (wk σ b).k = 1
        · have hl2 : lk σ (wk σ b).n = none := by rcases eb with h | h; exact absurd h2 h; exact h
          have e2 : suN (fin σ) (wk σ b) = vNd (wk σ b).n := by rw [suN_var h2, hσ.inv.free _ hl2]
          rw [e1, e2] at e'
          injection e' with _ e3
          exact .same h1 h2 e3
        · rw [e1, suN_str h2] at e'
          injection e' with e3
          exact absurd e3.symm h2
      · by_cases h2 : (wk σ b).k = 1
        · have hl2 : lk σ (wk σ b).n = none := by rcases eb with h | h; exact absurd h2 h; exact h
          have e2 : suN (fin σ) (wk σ b) = vNd (wk σ b).n := by rw [suN_var h2, hσ.inv.free _ hl2]
          rw [e2, suN_str h1] at e'
          injection e' with e3
          exact absurd e3 h1
        · rw [suN_str h1, suN_str h2] at e'
          injection e' with q1 q2 q3 q4
          have hlen : (wk σ a).f.len = (wk σ b).f.len := by have := congrArg Fr.len q4; rwa [suF_len, suF_len] at this
          refine .kids h1 h2 ⟨q1, q2, q3, hlen⟩ (ih.2 _ _ (wvF_of wa h1) (wvF_of wb h2) ?_ q4)
          rw [← fa, suN_str h1] at hN
          have hN' : 1 + nodes (suF (fin σ) (wk σ a).f) ≤ N + 1 := hN
          omega
    refine ⟨P, ?_⟩
    intro f
    induction f with
    | nil =>
      intro g _ _ _ e
      cases g with
      | nil => exact .nil σ
      | cons => have := congrArg Fr.len e; rw [suF_len, suF_len] at this; simp [Fr.len] at this
    | cons k n s kids rest _ ihr =>
      intro g hf hg hN e
      cases g with
      | nil => have := congrArg Fr.len e; rw [suF_len, suF_len] at this; simp [Fr.len] at this
      | cons k' n' s' kids' rest' =>
        rw [suF_cons, suF_cons] at e
        rw [suF_cons] at hN
        simp only [nodes] at hN
        injection e with e1 e2 e3 e4 e5
        have eN : suN (fin σ) ⟨k, n, s, kids⟩ = suN (fin σ) ⟨k', n', s', kids'⟩ := by
          have hx : ∀ x y : Nd, x.k = y.k → x.n = y.n → x.s = y.s → x.f = y.f → x = y := by
            rintro ⟨_, _, _, _⟩ ⟨_, _, _, _⟩ h1 h2 h3 h4
            simp only at h1 h2 h3 h4
            subst h1 h2 h3 h4
            rfl
          exact hx _ _ e1 e2 e3 e4
        exact .cons (P _ _ hf.1 hg.1 (by omega) eN) (ihr rest' hf.2 hg.2 (by omega) e5)
theorem un_same {σ : Sub} (hσ : Ok2 σ) {f g : Fr} (hf : wvF f) (hg : wvF g) (e : suF (fin σ) f = suF (fin σ) g) : UnF σ f g (some σ) := (same_all σ hσ _).2 f g hf hg (Nat.le_refl _) e
end Go.Proofs.YtnkaafimnkigpaaDoor

/- Unification: which variables a node stands for, by steps along the bindings. No condition. -/
namespace Go.Proofs.YtnkaafimnkigpaaDoor
open Go.RowKit

/-- v is reached from x along the bindings. -/
inductive Rch (σ : Sub) (v : Int) : Int → Prop where
  | here : lk σ v = none → Rch σ v v
  | step (x y : Int) (t : Nd) : lk σ x = some t → occN t y → Rch σ v y → Rch σ v x
theorem rch_occ {σ : Sub} (hi : Inv σ) {v x : Int} (h : Rch σ v x) : occN (fin σ x) v := by
  induction h with
  | here h => rw [hi.free v h, occN_var]
  | step x y t h1 h2 _ ih =>
    rw [hi.bound x t h1, occ_suN]
    exact ⟨y, h2, ih⟩
theorem occF_nodes (τ : Int → Nd) (f : Fr) (y : Int) (h : occF f y) : 1 + nodes (τ y).f ≤ nodes (suF τ f) := by
  induction f with
  | nil => exact h.elim
  | cons k n s kids rest ihk ihr =>
    rcases h with h | h
    · by_cases hk : k = 1
      · subst hk
        rw [if_pos rfl] at h
        subst h
        simp only [suF, if_true, nodes]
        omega
      · rw [if_neg hk] at h
        simp only [suF, if_neg hk, nodes]
        have := ihk h
        omega
    · have := ihr h
      rw [suF_cons]
      simp only [nodes]
      omega
theorem occ_rch {σ : Sub} (hσ : Ok2 σ) {v : Int} (hv : lk σ v = none) : ∀ (N M : Nat) (x : Int), nodes (fin σ x).f ≤ N → wl σ (vNd x) ≤ M → occN (fin σ x) v → Rch σ v x := by
  intro N
  induction N with
  | zero =>
    intro M
    induction M with
    | zero =>
      intro x hN hM h
      cases hx : lk σ x with
      | none =>
        rw [hσ.inv.free x hx, occN_var] at h
        subst h
        exact .here hv
      | some t =>
        have := (wk_step σ (vNd x) t hσ rfl hx).2
        omega
    | succ M ihM =>
      intro x hN hM h
      cases hx : lk σ x with
      | none =>
        rw [hσ.inv.free x hx, occN_var] at h
        subst h
        exact .here hv
      | some t =>
        have hst := (wk_step σ (vNd x) t hσ rfl hx).2
        have hb := hσ.inv.bound x t hx
        by_cases hk : t.k = 1
        · have hwv := wv_var (hσ.inv.wvb x t hx) hk
          have e : fin σ x = fin σ t.n := by rw [hb, suN_var hk]
          rw [e] at h hN
          rw [hwv] at hst
          exact .step x t.n t hx (by rw [hwv, occN_var]; rfl) (ihM t.n hN (by omega) h)
        · rw [hb, suN_str hk] at hN
          rw [hb, occ_suN] at h
          obtain ⟨y, hy, hyv⟩ := h
          have hy' : occF t.f y := by unfold occN at hy; rwa [if_neg hk] at hy
          have := occF_nodes (fin σ) t.f y hy'
          have hN' : nodes (suF (fin σ) t.f) ≤ 0 := hN
          omega
  | succ N ihN =>
    intro M
    induction M with
    | zero =>
      intro x hN hM h
      cases hx : lk σ x with
      | none =>
        rw [hσ.inv.free x hx, occN_var] at h
        subst h
        exact .here hv
      | some t =>
        have := (wk_step σ (vNd x) t hσ rfl hx).2
        omega
    | succ M ihM =>
      intro x hN hM h
      cases hx : lk σ x with
      | none =>
        rw [hσ.inv.free x hx, occN_var] at h
        subst h
        exact .here hv
      | some t =>
        have hst := (wk_step σ (vNd x) t hσ rfl hx).2
        have hb := hσ.inv.bound x t hx
        by_cases hk : t.k = 1
        · have hwv := wv_var (hσ.inv.wvb x t hx) hk
          have e : fin σ x = fin σ t.n := by rw [hb, suN_var hk]
          rw [e] at h hN
          rw [hwv] at hst
          exact .step x t.n t hx (by rw [hwv, occN_var]; rfl) (ihM t.n hN (by omega) h)
        · rw [hb, suN_str hk] at hN
          rw [hb, occ_suN] at h
          obtain ⟨y, hy, hyv⟩ := h
          have hy' : occF t.f y := by unfold occN at hy; rwa [if_neg hk] at hy
          have := occF_nodes (fin σ) t.f y hy'
          have hN' : nodes (suF (fin σ) t.f) ≤ N + 1 := hN
          exact .step x y t hx hy (ihN _ y (by omega) (Nat.le_refl _) hyv)
/-- A free variable occurs in what a node stands for, if and only if it is reached. -/
theorem occ_iff {σ : Sub} (hσ : Ok2 σ) {v : Int} (hv : lk σ v = none) (m : Nd) : occN (suN (fin σ) m) v ↔ ∃ x, occN m x ∧ Rch σ v x := by
  rw [occ_suN]
  constructor
  · rintro ⟨x, h1, h2⟩
    exact ⟨x, h1, occ_rch hσ hv _ _ x (Nat.le_refl _) (Nat.le_refl _) h2⟩
  · rintro ⟨x, h1, h2⟩
    exact ⟨x, h1, rch_occ hσ.inv h2⟩
/-- x is settled by the seen variables: it is seen, or free and not v. -/
def Stl (σ : Sub) (v : Int) (S : List Int) (x : Int) : Prop := x ∈ S ∨ (lk σ x = none ∧ x ≠ v)
/-- What is seen beyond S0 is bound, and leads only to what is settled. -/
def Closed (σ : Sub) (v : Int) (S0 S : List Int) : Prop := ∀ y ∈ S, y ∉ S0 → ∃ t, lk σ y = some t ∧ ∀ z, occN t z → Stl σ v S z
theorem stl_more {σ : Sub} {v : Int} {S S' : List Int} (h : ∀ x ∈ S, x ∈ S') {x : Int} (hx : Stl σ v S x) : Stl σ v S' x := by
  rcases hx with hx | hx
  · exact .inl (h x hx)
  · exact .inr hx
theorem closed_trans {σ : Sub} {v : Int} {S0 S1 S2 : List Int} (h1 : Closed σ v S0 S1) (h2 : Closed σ v S1 S2) (hs : ∀ x ∈ S1, x ∈ S2) : Closed σ v S0 S2 := by
  intro y hy hy0
  by_cases h : y ∈ S1
  · obtain ⟨t, ht, hz⟩ := h1 y h hy0
    exact ⟨t, ht, fun z hzz => stl_more hs (hz z hzz)⟩
  · exact h2 y hy h
/-- Nothing that is settled by a closed set reaches v. -/
theorem closed_no {σ : Sub} {v : Int} {S : List Int} (hv : lk σ v = none) (h : Closed σ v [] S) {x : Int} (hr : Rch σ v x) : ¬ Stl σ v S x := by
  induction hr with
  | here h0 =>
    rintro (hx | ⟨_, hx⟩)
    · obtain ⟨t, ht, _⟩ := h v hx (by simp)
      rw [hv] at ht; cases ht
    · exact hx rfl
  | step x y t h1 h2 _ ih =>
    rintro (hx | ⟨hx, _⟩)
    · obtain ⟨t', ht', hz⟩ := h x hx (by simp)
      rw [h1] at ht'
      injection ht' with ht'
      subst ht'
      exact ih (hz y h2)
    · rw [h1] at hx; cases hx
end Go.Proofs.YtnkaafimnkigpaaDoor

/- Unification: induction along the bindings; how many bindings there can be; the measure of unification. No condition. -/
import Derived.Test.YtkefpickpjjllaaDoorProg
import Derived.Test.YtkefpickpjjllaaDoorZmUT34
import Derived.Test.YtkefpickpjjllaaDoorVars
namespace Go.Proofs.YtkefpickpjjllaaDoor
open Go.RowKit

/-- Induction along the bindings: what holds of a variable if it holds of all the variables of the node that it is bound to. -/
theorem sub_ind {σ : Sub} (hσ : Ok2 σ) {P : Int → Prop} (h : ∀ x, (∀ t y, lk σ x = some t → occN t y → P y) → P x) : ∀ x, P x := by
  have main : ∀ (N M : Nat) (x : Int), nodes (fin σ x).f ≤ N → wl σ (vNd x) ≤ M → P x := by
    intro N
    induction N with
    | zero =>
      intro M
      induction M with
      | zero =>
        intro x _ hM
        refine h x fun t y ht _ => ?_
        have := (wk_step σ (vNd x) t hσ rfl ht).2
        omega
      | succ M ihM =>
        intro x hN hM
        refine h x fun t y ht hy => ?_
        have hst := (wk_step σ (vNd x) t hσ rfl ht).2
        have hb := hσ.inv.bound x t ht
        by_cases hk : t.k = 1
        · have hwv := wv_var (hσ.inv.wvb x t ht) hk
          have hyt : y = t.n := by unfold occN at hy; rwa [if_pos hk] at hy
          have e : fin σ x = fin σ t.n := by rw [hb, suN_var hk]
          rw [e] at hN
          rw [hwv] at hst
          rw [hyt]
          exact ihM t.n hN (by omega)
        · rw [hb, suN_str hk] at hN
          have hy' : occF t.f y := by unfold occN at hy; rwa [if_neg hk] at hy
          have := occF_nodes (fin σ) t.f y hy'
          have hN' : nodes (suF (fin σ) t.f) ≤ 0 := hN
          omega
    | succ N ihN =>
      intro M
      induction M with
      | zero =>
        intro x _ hM
        refine h x fun t y ht _ => ?_
        have := (wk_step σ (vNd x) t hσ rfl ht).2
        omega
      | succ M ihM =>
        intro x hN hM
        refine h x fun t y ht hy => ?_
        have hst := (wk_step σ (vNd x) t hσ rfl ht).2
        have hb := hσ.inv.bound x t ht
        by_cases hk : t.k = 1
        · have hwv := wv_var (hσ.inv.wvb x t ht) hk
          have hyt : y = t.n := by unfold occN at hy; rwa [if_pos hk] at hy
          have e : fin σ x = fin σ t.n := by rw [hb, suN_var hk]
          rw [e] at hN
          rw [hwv] at hst
          rw [hyt]
          exact ihM t.n hN (by omega)
        · rw [hb, suN_str hk] at hN
          have hy' : occF t.f y := by unfold occN at hy; rwa [if_neg hk] at hy
          have := occF_nodes (fin σ) t.f y hy'
          have hN' : nodes (suF (fin σ) t.f) ≤ N + 1 := hN
          exact ihN _ y (by omega) (Nat.le_refl _)
  exact fun x => main _ _ x (Nat.le_refl _) (Nat.le_refl _)
/-- The variables that are bound. -/
def keysS (σ : Sub) : List Int := σ.map (·.1)
theorem lk_key : ∀ (σ : Sub) (x : Int), lk σ x = none ↔ x ∉ keysS σ
  | [], x => ⟨fun _ h => (by simp [keysS] at h), fun _ => rfl⟩
  | (v, m) :: σ, x => by
    by_cases e : x = v
    · subst e
      rw [lk_same]
      exact ⟨fun h => (by cases h), fun h => (h (by simp [keysS])).elim⟩
    · rw [lk_other _ _ _ _ e, lk_key σ x]
      simp only [keysS, List.map_cons, List.mem_cons, e, false_or]
theorem Ok2.nodup : ∀ {σ : Sub}, Ok2 σ → (keysS σ).Nodup
  | [], _ => List.nodup_nil
  | (v, m) :: σ, ⟨h1, _, _, _, h5⟩ => by
    rw [keysS, List.map_cons, List.nodup_cons]
    exact ⟨(lk_key σ v).1 h1, h5.nodup⟩
/-- The variables of a row, of a node, and all that are bound, are from 0 on and below B. -/
def InB (B : Nat) (x : Int) : Prop := 0 ≤ x ∧ x < B
def BiS (B : Nat) (σ : Sub) : Prop := ∀ v m, (v, m) ∈ σ → InB B v ∧ ∀ y, occN m y → InB B y
theorem BiS.keys {B : Nat} {σ : Sub} (h : BiS B σ) : ∀ x ∈ keysS σ, 0 ≤ x ∧ x < B := by
  intro x hx
  obtain ⟨⟨v, m⟩, hp, rfl⟩ := List.mem_map.1 hx
  exact (h v m hp).1
theorem BiS.len {B : Nat} {σ : Sub} (h : BiS B σ) (hσ : Ok2 σ) : σ.length ≤ B := by
  have := nodup_len B (keysS σ) hσ.nodup h.keys
  simpa [keysS] using this
theorem BiS.cons {B : Nat} {σ : Sub} (h : BiS B σ) {v : Int} {m : Nd} (hv : InB B v) (hm : ∀ y, occN m y → InB B y) : BiS B ((v, m) :: σ) := by
  intro v' m' hp
  rcases List.mem_cons.1 hp with hp | hp
  · injection hp with e1 e2
    subst e1 e2
    exact ⟨hv, hm⟩
  · exact h v' m' hp
/-- Walking stays among the bounded variables. -/
theorem wk_bd {B : Nat} : ∀ (σ : Sub) (m : Nd), BiS B σ → (∀ y, occN m y → InB B y) → ∀ y, occN (wk σ m) y → InB B y
  | [], _, _, hm => hm
  | (v, t) :: σ, m, h, hm => by
    have h' : BiS B σ := fun v' m' hp => h v' m' (List.mem_cons_of_mem _ hp)
    by_cases hc : (wk σ m).k = 1 ∧ (wk σ m).n = v
    · simp only [wk, if_pos hc]
      exact (h v t (List.mem_cons_self ..)).2
    · simp only [wk, if_neg hc]
      exact wk_bd σ m h' hm
theorem occ_var {m : Nd} (h : m.k = 1) : occN m m.n := by unfold occN; rw [if_pos h]
theorem occ_kids {m : Nd} (h : m.k ≠ 1) (y : Int) : occN m y ↔ occF m.f y := by unfold occN; rw [if_neg h]
/-- What is unified stays among the bounded variables. -/
theorem unT_bd {B : Nat} (N : Nat) : ∀ (σ : Sub) (a b : Nd) (σ' : Sub), unT N σ a b = some (some σ') → BiS B σ → (∀ y, occN a y → InB B y) → (∀ y, occN b y → InB B y) → BiS B σ' := by
  induction N with
  | zero => intro σ a b σ' h; cases h
  | succ N ih =>
    have row : ∀ (f : Fr) (σ : Sub) (g : Fr) (σ' : Sub), unRow (unT N) σ f g = some (some σ') → BiS B σ → (∀ y, occF f y → InB B y) → (∀ y, occF g y → InB B y) → BiS B σ' := by
      intro f
      induction f with
      | nil =>
        intro σ g σ' h hσ _ _
        cases g with
        | nil => injection h with h; injection h with h; subst h; exact hσ
        | cons => injection h with h; injection h with h; subst h; exact hσ
      | cons k n s f rest _ ihr =>
        intro σ g σ' h hσ hf hg
        cases g with
        | nil => injection h with h; injection h with h; subst h; exact hσ
        | cons k' n' s' f' rest' =>
          simp only [unRow] at h
          cases hu : unT N σ ⟨k, n, s, f⟩ ⟨k', n', s', f'⟩ with
          | none => rw [hu] at h; cases h
          | some o =>
            rw [hu] at h
            cases o with
            | none => cases h
            | some σ1 =>
              have h1 := ih σ _ _ σ1 hu hσ (fun y hy => hf y (.inl hy)) fun y hy => hg y (.inl hy)
              exact ihr σ1 rest' σ' h h1 (fun y hy => hf y (.inr hy)) fun y hy => hg y (.inr hy)
    intro σ a b σ' h hσ ha hb
    have wa := wk_bd σ a hσ ha
    have wb := wk_bd σ b hσ hb
    rw [unT] at h
    split at h
    · next h1 =>
      split at h
      · injection h with h; injection h with h; subst h; exact hσ
      · split at h
        · cases h
        · injection h with h; injection h with h; subst h
          exact hσ.cons (wa _ (occ_var h1)) wb
    · next h1 =>
      split at h
      · next h2 =>
        split at h
        · cases h
        · injection h with h; injection h with h; subst h
          exact hσ.cons (wb _ (occ_var h2)) wa
      · next h2 =>
        split at h
        · exact row _ σ _ σ' h hσ (fun y hy => wa y ((occ_kids h1 y).2 hy)) fun y hy => wb y ((occ_kids h2 y).2 hy)
        · cases h
/-- There is an answer wherever at most K variables can still be bound and the first term stands for at most S nodes. -/
def EndsAt (B K S : Nat) : Prop := ∀ (σ : Sub) (a b : Nd), Ok2 σ → BiS B σ → B ≤ σ.length + K → wvN a → wvN b → (∀ y, occN a y → InB B y) → (∀ y, occN b y → InB B y) →
    1 + nodes (suN (fin σ) a).f ≤ S → ∃ r, Un σ a b r
theorem un_bd {B : Nat} {σ σ' : Sub} {a b : Nd} (h : Un σ a b (some σ')) (hσ : BiS B σ) (ha : ∀ y, occN a y → InB B y) (hb : ∀ y, occN b y → InB B y) : BiS B σ' := by
  obtain ⟨N, h⟩ := h
  exact unT_bd N σ a b σ' h hσ ha hb
theorem ends_row {B K S : Nat} (h1 : ∀ K', K' < K → ∀ S, EndsAt B K' S) (h2 : EndsAt B K S) (σ0 : Sub) (h0 : B ≤ σ0.length + K) :
    ∀ (f : Fr) (σ : Sub) (g : Fr), f.len = g.len → Ok2 σ → BiS B σ → wvF f → wvF g → (∀ y, occF f y → InB B y) → (∀ y, occF g y → InB B y) →
      (σ = σ0 ∧ nodes (suF (fin σ) f) ≤ S) ∨ σ0.length < σ.length → ∃ r, UnF σ f g r := by
  intro f
  induction f with
  | nil =>
    intro σ g hl _ _ _ _ _ _ _
    cases g with
    | nil => exact ⟨_, .nil σ⟩
    | cons => simp [Fr.len] at hl
  | cons k n s f rest _ ihr =>
    intro σ g hl hσ hd hf hg bf bg hc
    cases g with
    | nil => simp [Fr.len] at hl
    | cons k' n' s' f' rest' =>
      have hhead : ∃ r, Un σ ⟨k, n, s, f⟩ ⟨k', n', s', f'⟩ r := by
        rcases hc with ⟨rfl, hc⟩ | hc
        · rw [suF_cons] at hc
          simp only [nodes] at hc
          exact h2 σ _ _ hσ hd h0 hf.1 hg.1 (fun y hy => bf y (.inl hy)) (fun y hy => bg y (.inl hy)) (by omega)
        · have := hd.len hσ
          exact h1 (K - 1) (by omega) _ σ _ _ hσ hd (by omega) hf.1 hg.1 (fun y hy => bf y (.inl hy)) (fun y hy => bg y (.inl hy)) (Nat.le_refl _)
      obtain ⟨r, hr⟩ := hhead
      cases r with
      | none => exact ⟨none, .no hr⟩
      | some σ1 =>
        obtain ⟨u1, _⟩ := hr.good hσ hf.1 hg.1
        have hd1 := un_bd hr hd (fun y hy => bf y (.inl hy)) fun y hy => bg y (.inl hy)
        obtain ⟨k1, l, hl1⟩ := u1
        have hc1 : (σ1 = σ0 ∧ nodes (suF (fin σ1) rest) ≤ S) ∨ σ0.length < σ1.length := by
          cases l with
          | nil =>
            have e : σ1 = σ := hl1
            subst e
            rcases hc with ⟨e0, hc⟩ | hc
            · rw [suF_cons] at hc
              simp only [nodes] at hc
              exact .inl ⟨e0, by omega⟩
            · exact .inr hc
          | cons p l =>
            have e : σ1.length = l.length + 1 + σ.length := by rw [hl1]; simp; omega
            right
            rcases hc with ⟨e0, _⟩ | hc
            · rw [e0] at e; omega
            · omega
        obtain ⟨r, hr2⟩ := ihr σ1 rest' (by simpa [Fr.len] using hl) k1 hd1 hf.2 hg.2 (fun y hy => bf y (.inr hy)) (fun y hy => bg y (.inr hy)) hc1
        exact ⟨r, .cons hr hr2⟩
theorem ends_step {B K S : Nat} (h1 : ∀ K', K' < K → ∀ S, EndsAt B K' S) (h2 : EndsAt B K S) : EndsAt B K (S + 1) := by
  intro σ a b hσ hd hK ha hb ba bb hS
  have wa := wk_wv σ a hσ ha
  have wb := wk_wv σ b hσ hb
  have fa := wk_fin σ a hσ
  have va := wk_bd σ a hd ba
  have vb := wk_bd σ b hd bb
  by_cases c1 : (wk σ a).k = 1
  · by_cases c2 : (wk σ b).k = 1 ∧ (wk σ a).n = (wk σ b).n
    · exact ⟨_, .same c1 c2.1 c2.2⟩
    · by_cases c3 : occN (suN (fin σ) (wk σ b)) (wk σ a).n
      · exact ⟨_, .leftNo c1 c2 c3⟩
      · exact ⟨_, .left c1 c2 c3⟩
  · by_cases c2 : (wk σ b).k = 1
    · by_cases c3 : occN (suN (fin σ) (wk σ a)) (wk σ b).n
      · exact ⟨_, .rightNo c1 c2 c3⟩
      · exact ⟨_, .right c1 c2 c3⟩
    · by_cases c3 : hdE (wk σ a) (wk σ b)
      · rw [← fa, suN_str c1] at hS
        have hS' : 1 + nodes (suF (fin σ) (wk σ a).f) ≤ S + 1 := hS
        obtain ⟨r, hr⟩ := ends_row h1 h2 σ hK (wk σ a).f σ (wk σ b).f c3.2.2.2 hσ hd (wvF_of wa c1) (wvF_of wb c2) (fun y hy => va y ((occ_kids c1 y).2 hy)) (fun y hy => vb y ((occ_kids c2 y).2 hy)) (.inl ⟨rfl, by omega⟩)
        exact ⟨r, .kids c1 c2 c3 hr⟩
      · exact ⟨_, .headNo c1 c2 c3⟩
/-- Unification ends. -/
theorem un_ends (B K : Nat) : ∀ S, EndsAt B K S := by
  induction K using Nat.strongRecOn with
  | _ K ih =>
    intro S
    induction S with
    | zero => intro σ a b _ _ _ _ _ _ _ h; omega
    | succ S ihS => exact ends_step ih ihS
end Go.Proofs.YtkefpickpjjllaaDoor

/- Unification: the work list of spec.l3Within, as plain data. No condition. -/
namespace Go.Proofs.YtkefpickpjjllaaDoor
open Go.RowKit

theorem addV_iff (a : List Int) (n x : Int) : x ∈ addV a n ↔ x ∈ a ∨ x = n := by
  unfold addV
  by_cases h : n ∈ a
  · rw [if_pos (by simpa using h)]
    constructor
    · exact .inl
    · rintro (h1 | rfl)
      · exact h1
      · exact h
  · rw [if_neg (by simpa using h)]
    simp
theorem varsF_iff (f : Fr) : ∀ (a : List Int) (x : Int), x ∈ varsF a f ↔ x ∈ a ∨ occF f x := by
  induction f with
  | nil => intro a x; simp [varsF, occF]
  | cons k n s kids rest ihk ihr =>
    intro a x
    simp only [varsF, occF]
    by_cases hk : k = 1
    · rw [if_pos hk, if_pos hk, ihr, addV_iff, or_assoc]
    · rw [if_neg hk, if_neg hk, ihr, ihk, or_assoc]
theorem varsT_iff (a : List Int) (m : Nd) (x : Int) : x ∈ varsT a m.k m.n m.f ↔ x ∈ a ∨ occN m x := by
  unfold varsT occN
  by_cases hk : m.k = 1
  · rw [if_pos hk, if_pos hk, addV_iff]
  · rw [if_neg hk, if_neg hk, varsF_iff]
/-- The work list V of looking for v in m, looked at up to i. -/
structure Wrk (σ : Sub) (v : Int) (m : Nd) (V : List Int) (i : Nat) : Prop where
  from_ : ∀ x ∈ V, Rch σ v x → ∃ y, occN m y ∧ Rch σ v y
  has : ∀ y, occN m y → y ∈ V
  seen : ∀ j, j < i → ∀ x, V[j]? = some x → x ≠ v ∧ ∀ t, lk σ x = some t → ∀ z, occN t z → z ∈ V
theorem Wrk.start (σ : Sub) (v : Int) (m : Nd) : Wrk σ v m (varsT [] m.k m.n m.f) 0 :=
  ⟨fun x hx hr => ⟨x, by simpa using (varsT_iff [] m x).1 hx, hr⟩, fun y hy => (varsT_iff [] m y).2 (.inr hy), fun j hj => absurd hj (Nat.not_lt_zero j)⟩
/-- A free variable is looked at. -/
theorem Wrk.free {σ : Sub} {v : Int} {m : Nd} {V : List Int} {i : Nat} (h : Wrk σ v m V i) {x : Int} (hx : V[i]? = some x) (hv : x ≠ v) (hl : lk σ x = none) : Wrk σ v m V (i + 1) := by
  refine ⟨h.from_, h.has, fun j hj y hy => ?_⟩
  rcases Nat.lt_or_ge j i with hj' | hj'
  · exact h.seen j hj' y hy
  · have e : j = i := by omega
    subst e
    rw [hx] at hy
    injection hy with hy
    subst hy
    exact ⟨hv, fun t ht => by rw [hl] at ht; cases ht⟩
/-- A bound variable is looked at. -/
theorem Wrk.bound {σ : Sub} {v : Int} {m : Nd} {V : List Int} {i : Nat} (h : Wrk σ v m V i) {x : Int} {t : Nd} (hx : V[i]? = some x) (hv : x ≠ v) (hl : lk σ x = some t) : Wrk σ v m (varsT V t.k t.n t.f) (i + 1) := by
  have hin : ∀ {z : Int}, z ∈ V → z ∈ varsT V t.k t.n t.f := fun hz => (varsT_iff V t _).2 (.inl hz)
  have hxV : x ∈ V := List.mem_of_getElem? hx
  refine ⟨fun y hy hr => ?_, fun y hy => hin (h.has y hy), fun j hj y hy => ?_⟩
  · rcases (varsT_iff V t y).1 hy with hy | hy
    · exact h.from_ y hy hr
    · exact h.from_ x hxV (.step x y t hl hy hr)
  · have hjV : j < V.length := by
      have := (List.getElem?_eq_some_iff.1 hx).1
      omega
    have hy' : V[j]? = some y := by
      obtain ⟨l, hl2⟩ := varsT_pre V t.k t.n t.f
      rw [← hl2, List.getElem?_append_left hjV] at hy
      exact hy
    rcases Nat.lt_or_ge j i with hj' | hj'
    · obtain ⟨h1, h2⟩ := h.seen j hj' y hy'
      exact ⟨h1, fun t' ht' z hz => hin (h2 t' ht' z hz)⟩
    · have e : j = i := by omega
      subst e
      rw [hx] at hy'
      injection hy' with hy'
      subst hy'
      refine ⟨hv, fun t' ht' z hz => ?_⟩
      rw [hl] at ht'
      injection ht' with ht'
      subst ht'
      exact (varsT_iff V t z).2 (.inr hz)
theorem Wrk.found {σ : Sub} (hσ : Ok2 σ) {v : Int} (hf : lk σ v = none) {m : Nd} {V : List Int} {i : Nat} (h : Wrk σ v m V i) (hx : V[i]? = some v) : occN (suN (fin σ) m) v :=
  (occ_iff hσ hf m).2 (h.from_ v (List.mem_of_getElem? hx) (.here hf))
theorem Wrk.done {σ : Sub} (hσ : Ok2 σ) {v : Int} (hf : lk σ v = none) {m : Nd} {V : List Int} {i : Nat} (h : Wrk σ v m V i) (hi : V.length ≤ i) : ¬ occN (suN (fin σ) m) v := by
  intro ho
  obtain ⟨y, hy, hr⟩ := (occ_iff hσ hf m).1 ho
  have key : ∀ x, Rch σ v x → x ∈ V → False := by
    intro x hr
    induction hr with
    | here _ =>
      intro hx
      obtain ⟨j, hj⟩ := List.getElem?_of_mem hx
      have hjl := (List.getElem?_eq_some_iff.1 hj).1
      exact (h.seen j (by omega) v hj).1 rfl
    | step x y t h1 h2 _ ih =>
      intro hx
      obtain ⟨j, hj⟩ := List.getElem?_of_mem hx
      have hjl := (List.getElem?_eq_some_iff.1 hj).1
      exact ih ((h.seen j (by omega) x hj).2 t h1 y h2)
  exact key y hr (h.has y hy)
end Go.Proofs.YtkefpickpjjllaaDoor

/- spec.l3Within. Condition: the term and the table lie in memory; the terms are well-formed. -/
namespace Go.Proofs.YtkefpickpjjllaaDoor
open Go.RowKit

theorem varsT_range {m : Nd} (h : Tm m) (acc : List Int) (ha : ∀ x ∈ acc, 0 ≤ x ∧ x < (26 : Nat)) : ∀ x ∈ varsT acc m.k m.n m.f, 0 ≤ x ∧ x < (26 : Nat) := by
  have h1 : shapeF (.cons m.k m.n m.s m.f .nil) 30 = true := by rw [shapeF_cons, h.1]; rfl
  exact vars_range _ 30 acc h1 ha
theorem varsT_nodup (m : Nd) (acc : List Int) (ha : acc.Nodup) : (varsT acc m.k m.n m.f).Nodup := varsF_nodup (.cons m.k m.n m.s m.f .nil) acc ha
set_option maxRecDepth 100000 in
set_option maxHeartbeats 4000000 in
theorem within_any (σ : Sub) (hσ : Ok2 σ) (hsσ : ShS σ) (v : Int) (hv : lk σ v = none) (m : Nd) (A : Option Addr) (cap lo hi g : Nat) (w : World) (hk : KidsAt w lo hi m.f A cap) (hh : hi ≤ w.heap.size) (hg : hi ≤ g) (hK : KnS w lo hi g σ) (hs : Tm m) :
    Calls Tryd.prog 40 #[.int .i64 v, .agg #[.int .i64 m.k, .int .i64 m.n, .string m.s, .slice A m.f.len cap], .slice (some ⟨g, 0, none⟩) 26 26] w fun e w' => ∃ b, e = .returned (.bool b) ∧ (b = true ↔ occN (suN (fin σ) m) v) ∧ Below w.heap.size w w' := by
  have hgl := hK.lt
  have hb0 : Below w.heap.size w (w.alloc (.cells #[.int .i64 m.k, .int .i64 m.n, .string m.s, .slice A m.f.len cap] 31)) := (Below.refl _ _).alloc (Nat.le_refl _) _
  have b0 := (Blk.new w 31 #[.int .i64 m.k, .int .i64 m.n, .string m.s, .slice A m.f.len cap])
  have a0 := b0.cell 0
  have a1 := b0.cell 1
  have a2 := b0.cell 2
  have a3 := b0.cell 3
  simp only [List.getElem?_toArray, List.getElem?_cons_zero, List.getElem?_cons_succ] at a0 a1 a2 a3
  have hs1 := hb0.size
  have hk1 := hk.below hb0 hh
  have hK1 := hK.below hb0 hh
  have HSS := Lib.hid hsσ
  have HOK := Lib.hid hσ
  have HFR := Lib.hid hv
  have HB0 := Lib.hid hb0
  have C0 := va_all _ m.s m.f (Nat.le_refl _) m.k m.n A cap lo hi (w.alloc (.cells #[.int .i64 m.k, .int .i64 m.n, .string m.s, .slice A m.f.len cap] 31)).heap.size [] (.slice none 0 0) (w.alloc (.cells #[.int .i64 m.k, .int .i64 m.n, .string m.s, .slice A m.f.len cap] 31)) hk1 (by omega) (Nat.le_refl _) (OwnI.nil _ _) (by have := hs.2; simp; omega)
  have HC0 := Lib.hid C0
  have HST : Hid (Wrk σ v m (varsT [] m.k m.n m.f) 0 ∧ (varsT [] m.k m.n m.f).Nodup ∧ ∀ x ∈ varsT [] m.k m.n m.f, 0 ≤ x ∧ x < (26 : Nat)) := Lib.hid ⟨.start σ v m, varsT_nodup m [] List.nodup_nil, varsT_range hs [] (by simp)⟩
  have HK1 := Lib.hid hK1
  clear hk hK hs hb0 b0 hsσ hσ hv hk1 hK1 C0
  go_enter Tryd.func40, Tryd.ntmps40
  go_wp2_with fail
  generalize (w.alloc (.cells #[.int .i64 m.k, .int .i64 m.n, .string m.s, .slice A m.f.len cap] 31)) = w1 at *
  refine HC0.out.mono ?_
  rintro e w2 ⟨v2, rfl, ho2, hw2, hn2⟩
  have hb2 : Below w1.heap.size w1 w2 := hw2.below (Nat.le_refl _) (by simp [ownV, Value.ownBlock])
  have HK2 := Lib.hid (HK1.out.below hb2 (by omega))
  have HO2 := Lib.hid ho2
  have HB2 := Lib.hid hb2
  clear ho2 hw2 hn2 hb2 a0 a1 a2 a3
  go_wp2_with fail
  go_loopg [7, 8] 26 (fun gk vv i wr => ∃ (V : List Int) (j : Nat) (v' : Value), v' = vv ∧ i = .int .i64 j ∧ 26 ≤ j + gk ∧ j ≤ V.length ∧ Wrk σ v m V j ∧ V.Nodup ∧ (∀ x ∈ V, 0 ≤ x ∧ x < (26 : Nat)) ∧ OwnI wr w1.heap.size v' V ∧ KnS wr lo hi g σ ∧ Below w1.heap.size w1 wr)
  case atStart => exact ⟨_, 0, v2, rfl, rfl, by omega, Nat.zero_le _, HST.out.1, HST.out.2.1, HST.out.2.2, HO2.out, HK2.out, HB2.out⟩
  case round =>
    obtain ⟨V, j, v', rfl, rfl, hgk, hj, hW, hnd, hrg, ho, hK, hb⟩ := hrel
    have hV26 := nodup_len 26 V hnd hrg
    obtain ⟨A0, cap0, hform, hc0, hm0, hr0⟩ := ho.read
    have hol := ho.lt
    subst hform
    unfold maxLen at hm0
    by_cases hlt : j < V.length
    · obtain ⟨q, rfl, hown, hq⟩ := hr0 (by omega)
      have e1 := (hq j hlt).1
      have hxj : V[j]? = some (V.getD j 0) := by simp [List.getD, List.getElem?_eq_getElem hlt]
      have hxr := hrg _ (List.mem_of_getElem? hxj)
      obtain ⟨i, hiv⟩ : ∃ i : Nat, V.getD j 0 = (i : Int) := ⟨(V.getD j 0).toNat, by omega⟩
      rw [hiv] at e1 hxj hxr
      have hi26 : i < 26 := by omega
      by_cases hxv : (i : Int) = v
      · have HF := Lib.hid (hW.found HOK.out HFR.out (by rw [hxj, hxv]))
        have tx : ((i : Int) == v) = true := by rw [hxv]; simp
        have HB := Lib.hid (HB0.out.trans (hb.mono HB0.out.size))
        clear hW hnd hrg ho hK hb hol hq hown hxj
        go_wp2_with fail
        go_ret
        exact ⟨true, rfl, ⟨fun _ => HF.out, fun _ => rfl⟩, HB.out⟩
      · have tx : ((i : Int) == v) = false := by rw [beq_eq_false_iff_ne]; exact hxv
        have ii0 : (0 : Int) ≤ (i : Int) := Int.natCast_nonneg _
        have ii1 : (i : Int) < 26 := by omega
        have HKK := Lib.hid hK
        obtain ⟨cs, k0, hcs, hcell⟩ := hK
        have hci := hcell i hi26
        have y0 := k0.cell (i * 4)
        have hqw : q < wr.heap.size := (hol q (by rw [hown]; simp)).2
        cases hlk : lkS σ (i : Int) with
        | none =>
          have y1 := y0.trans (hci.1 hlk)
          have HNX := Lib.hid (show Wrk σ v m V (j + 1) from hW.free hxj hxv hlk)
          have HND := Lib.hid hnd
          have HRG := Lib.hid hrg
          have HO := Lib.hid ho
          have HB := Lib.hid hb
          clear hW hnd hrg ho hb hol hq hown hxj hr0 hci hcell k0 y0
          go_wp2_with fail
          go_roundg (gk - 1)
          case measure => omega
          case rel => exact ⟨V, j + 1, _, rfl, by go_num, by omega, by omega, HNX.out, HND.out, HRG.out, HO.out, HKK.out, HB.out⟩
        | some t =>
          obtain ⟨ht0, htr, At, ct, c0, c1, c2, c3, hkt⟩ := hci.2 t hlk
          have y1 := y0.trans c0
          have y2 := (k0.cell (i * 4 + 1)).trans c1
          have y3 := (k0.cell (i * 4 + 2)).trans c2
          have y4 := (k0.cell (i * 4 + 3)).trans c3
          have ht1 : (t.k != 0) = true := by simpa using ht0
          have hsr := hb.size
          have hTt := HSS.out _ t hlk
          have CV := fun w3 (hd : Below wr.heap.size wr w3) => va_all _ t.s t.f (Nat.le_refl _) t.k t.n At ct lo hi w1.heap.size V (.slice (some ⟨q, 0, none⟩) V.length cap0) w3 (hkt.below hd (by omega)) (by omega) (by have := hd.size; omega) (ho.below hd) (by have := hTt.2; omega)
          have HCV := Lib.hid CV
          have HNX := Lib.hid (show Wrk σ v m _ (j + 1) from hW.bound hxj hxv hlk)
          have HND := Lib.hid (varsT_nodup t V hnd)
          have HRG := Lib.hid (varsT_range hTt V hrg)
          have HB := Lib.hid hb
          have HOL := Lib.hid hol
          clear hW hnd hrg ho hb hol hq hown hxj hr0 hci hcell k0 y0 CV hkt c0 c1 c2 c3
          go_wp2_with fail
          refine (HCV.out wr (Below.refl _ _)).mono ?_
          rintro e w3 ⟨v3, rfl, ho3, hw3, hn3⟩
          have hb3 := hw3.below hsr fun x hx => (HOL.out x hx).1
          have HK3 := Lib.hid (HKK.out.wrote hw3 (fun e => by have := (HOL.out g e).1; omega) (by omega) fun x hx => by have := (HOL.out x hx).1; omega)
          have HO3 := Lib.hid ho3
          have HB3 := Lib.hid (HB.out.trans hb3)
          have hjl : j + 1 ≤ (varsT V t.k t.n t.f).length := by
            have := (varsT_pre V t.k t.n t.f).length_le
            omega
          clear ho3 hw3 hn3 hb3
          go_wp2_with fail
          go_roundg (gk - 1)
          case measure => omega
          case rel => exact ⟨_, j + 1, v3, rfl, by go_num, by omega, hjl, HNX.out, HND.out, HRG.out, HO3.out, HK3.out, HB3.out⟩
    · have HF := Lib.hid (hW.done HOK.out HFR.out (by omega))
      have HB := Lib.hid (HB0.out.trans (hb.mono HB0.out.size))
      obtain rfl : j = V.length := by omega
      clear hW hnd hrg ho hK hb hol hr0
      go_wp2_with fail
      go_ret
      exact ⟨false, rfl, ⟨fun h => (by cases h), fun h => absurd h HF.out⟩, HB.out⟩
end Go.Proofs.YtkefpickpjjllaaDoor

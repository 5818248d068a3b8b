/- Unification: induction along the bindings; how many bindings there can be; the measure of unification. No condition. -/
import Derived.Test.YtnkaafimnkigpaaDoorProg
import Derived.Test.YtnkaafimnkigpaaDoorZmAG42
import Derived.Test.YtnkaafimnkigpaaDoorZmAG43
import Derived.Test.YtnkaafimnkigpaaDoorZmAG38
import Derived.Test.YtnkaafimnkigpaaDoorZmAG41
namespace Go.Proofs.YtnkaafimnkigpaaDoor
open Go.RowKit

/-- Induction along the bindings: what holds of a variable if it holds of all the variables of the node that it is bound to. -/
theorem sub_ind {σ : Sub} (hσ : Ok2 σ) {P : Int → Prop} (h : ∀ x, (∀ t y, lk σ x = some t → occN t y → P y) → P x) : ∀ x, P x := by
  have main : ∀ (N M : Nat) (x : Int), nodes (fin σ x).f ≤ N → wl σ (vNd x) ≤ M → P x := by
    intro N
    induction N with
    | zero =>
      intro M
      induction M with
      | zero =>
        intro x _ hM
        refine h x fun t y ht _ => ?_
        have := (wk_step σ (vNd x) t hσ rfl ht).2
        omega
      | succ M ihM =>
        intro x hN hM
        refine h x fun t y ht hy => ?_
        have hst := (wk_step σ (vNd x) t hσ rfl ht).2
        have hb := hσ.inv.bound x t ht
        by_cases hk : t.k = 1
        · have hwv := wv_var (hσ.inv.wvb x t ht) hk
          have hyt : y = t.n := by unfold occN at hy; rwa [if_pos hk] at hy
          have e : fin σ x = fin σ t.n := by rw [hb, suN_var hk]
          rw [e] at hN
          rw [hwv] at hst
          rw [hyt]
          exact ihM t.n hN (by omega)
        · rw [hb, suN_str hk] at hN
          have hy' : occF t.f y := by unfold occN at hy; rwa [if_neg hk] at hy
          have := occF_nodes (fin σ) t.f y hy'
          have hN' : nodes (suF (fin σ) t.f) ≤ 0 := hN
          omega
    | succ N ihN =>
      intro M
      induction M with
      | zero =>
        intro x _ hM
        refine h x fun t y ht _ => ?_
        have := (wk_step σ (vNd x) t hσ rfl ht).2
        omega
      | succ M ihM =>
        intro x hN hM
        refine h x fun t y ht hy => ?_
        have hst := (wk_step σ (vNd x) t hσ rfl ht).2
        have hb := hσ.inv.bound x t ht
        by_cases hk : t.k = 1
        · have hwv := wv_var (hσ.inv.wvb x t ht) hk
          have hyt : y = t.n := by unfold occN at hy; rwa [if_pos hk] at hy
          have e : fin σ x = fin σ t.n := by rw [hb, suN_var hk]
          rw [e] at hN
          rw [hwv] at hst
          rw [hyt]
          exact ihM t.n hN (by omega)
        · rw [hb, suN_str hk] at hN
          have hy' : occF t.f y := by unfold occN at hy; rwa [if_neg hk] at hy
          have := occF_nodes (fin σ) t.f y hy'
          have hN' : nodes (suF (fin σ) t.f) ≤ N + 1 := hN
          exact ihN _ y (by omega) (Nat.le_refl _)
  exact fun x => main _ _ x (Nat.le_refl _) (Nat.le_refl _)
/-- The variables that are bound. -/
def keysS (σ : Sub) : List Int := σ.map (·.1)
theorem lk_key : ∀ (σ : Sub) (x : Int), lk σ x = none ↔ x ∉ keysS σ
  | [], x => ⟨fun _ h => (by simp [keysS] at h), fun _ => rfl⟩
  | (v, m) :: σ, x => by
    by_cases e : x = v
    · subst e
      rw [lk_same]
      exact ⟨fun h => (by cases h), fun h => (h (by simp [keysS])).elim⟩
    · rw [lk_other _ _ _ _ e, lk_key σ x]
      simp only [keysS, List.map_cons, List.mem_cons, e, false_or]
theorem Ok2.nodup : ∀ {σ : Sub}, Ok2 σ → (keysS σ).Nodup
  | [], _ => List.nodup_nil
  | (v, m) :: σ, ⟨h1, _, _, _, h5⟩ => by
    rw [keysS, List.map_cons, List.nodup_cons]
    exact ⟨(lk_key σ v).1 h1, h5.nodup⟩
/-- The variables of a row, of a node, and all that are bound, are from 0 on and below B. -/
def InB (B : Nat) (x : Int) : Prop := 0 ≤ x ∧ x < B
def BiS (B : Nat) (σ : Sub) : Prop := ∀ v m, (v, m) ∈ σ → InB B v ∧ ∀ y, occN m y → InB B y
theorem BiS.keys {B : Nat} {σ : Sub} (h : BiS B σ) : ∀ x ∈ keysS σ, 0 ≤ x ∧ x < B := by
  intro x hx
  obtain ⟨⟨v, m⟩, hp, rfl⟩ := List.mem_map.1 hx
  exact (h v m hp).1
theorem BiS.len {B : Nat} {σ : Sub} (h : BiS B σ) (hσ : Ok2 σ) : σ.length ≤ B := by
  have := nodup_len B (keysS σ) hσ.nodup h.keys
  simpa [keysS] using this
theorem BiS.cons {B : Nat} {σ : Sub} (h : BiS B σ) {v : Int} {m : Nd} (hv : InB B v) (hm : ∀ y, occN m y → InB B y) : BiS B ((v, m) :: σ) := by
  intro v' m' hp
  rcases List.mem_cons.1 hp with hp | hp
  · injection hp with e1 e2
    subst e1 e2
    exact ⟨hv, hm⟩
  · exact h v' m' hp
/-- Walking stays among the bounded variables. -/
theorem wk_bd {B : Nat} : ∀ (σ : Sub) (m : Nd), BiS B σ → (∀ y, occN m y → InB B y) → ∀ y, occN (wk σ m) y → InB B y
  | [], _, _, hm => hm
  | (v, t) :: σ, m, h, hm => by
    have h' : BiS B σ := fun v' m' hp => h v' m' (List.mem_cons_of_mem _ hp)
    by_cases hc : (wk σ m).k = 1 ∧ (wk σ m).n = v
    · simp only [wk, if_pos hc]
      exact (h v t (List.mem_cons_self ..)).2
    · simp only [wk, if_neg hc]
      exact wk_bd σ m h' hm
theorem occ_var {m : Nd} (h : m.k = 1) : occN m m.n := by unfold occN; rw [if_pos h]
theorem occ_kids {m : Nd} (h : m.k ≠ 1) (y : Int) : occN m y ↔ occF m.f y := by unfold occN; rw [if_neg h]
/-- What is unified stays among the bounded variables. -/
theorem unT_bd {B : Nat} (N : Nat) : ∀ (σ : Sub) (a b : Nd) (σ' : Sub), unT N σ a b = some (some σ') → BiS B σ → (∀ y, occN a y → InB B y) → (∀ y, occN b y → InB B y) → BiS B σ' := by
  induction N with
  | zero => intro σ a b σ' h; cases h
  | succ N ih =>
    have row : ∀ (f : Fr) (σ : Sub) (g : Fr) (σ' : Sub), unRow (unT N) σ f g = some (some σ') → BiS B σ → (∀ y, occF f y → InB B y) → (∀ y, occF g y → InB B y) → BiS B σ' := by
      intro f
      induction f with
      | nil =>
        intro σ g σ' h hσ _ _
        cases g with
        | nil => injection h with h; injection h with h; subst h; exact hσ
        | cons => injection h with h; injection h with h; subst h; exact hσ
      | cons k n s f rest _ ihr =>
        intro σ g σ' h hσ hf hg
        cases g with
        | nil => injection h with h; injection h with h; subst h; exact hσ
        | cons k' n' s' f' rest' =>
          simp only [unRow] at h
          cases hu : unT N σ ⟨k, n, s, f⟩ ⟨k', n', s', f'⟩ with
          | none => rw [hu] at h; cases h
          | some o =>
            rw [hu] at h
            cases o with
            | none => cases h
            | some σ1 =>
              have h1 := ih σ _ _ σ1 hu hσ (fun y hy => hf y (.inl hy)) fun y hy => hg y (.inl hy)
              exact ihr σ1 rest' σ' h h1 (fun y hy => hf y (.inr hy)) fun y hy => hg y (.inr hy)
    intro σ a b σ' h hσ ha hb
    have wa := wk_bd σ a hσ ha
    have wb := wk_bd σ b hσ hb
    rw [unT] at h
    split at h
    · next h1 =>
      split at h
      · injection h with h; injection h with h; subst h; exact hσ
      · split at h
        · cases h
        · injection h with h; injection h with h; subst h
          exact hσ.cons (wa _ (occ_var h1)) wb
    · next h1 =>
      split at h
      · next h2 =>
        split at h
        · cases h
        · injection h with h; injection h with h; subst h
          exact hσ.cons (wb _ (occ_var h2)) wa
      · next h2 =>
        split at h
        · exact row _ σ _ σ' h hσ (fun y hy => wa y ((occ_kids h1 y).2 hy)) fun y hy => wb y ((occ_kids h2 y).2 hy)
        · cases h
/-- There is an answer wherever at most K variables can still be bound and the first term stands for at most S nodes. -/
def EndsAt (B K S : Nat) : Prop := ∀ (σ : Sub) (a b : Nd), Ok2 σ → BiS B σ → B ≤ σ.length + K → wvN a → wvN b → (∀ y, occN a y → InB B y) → (∀ y, occN b y → InB B y) →
    1 + nodes (suN (fin σ) a).f ≤ S → ∃ r, Un σ a b r
theorem un_bd {B : Nat} {σ σ' : Sub} {a b : Nd} (h : Un σ a b (some σ')) (hσ : BiS B σ) (ha : ∀ y, occN a y → InB B y) (hb : ∀ y, occN b y → InB B y) : BiS B σ' := by
  obtain ⟨N, h⟩ := h
  exact unT_bd N σ a b σ' h hσ ha hb
theorem ends_row {B K S : Nat} (h1 : ∀ K', K' < K → ∀ S, EndsAt B K' S) (h2 : EndsAt B K S) (σ0 : Sub) (h0 : B ≤ σ0.length + K) :
    ∀ (f : Fr) (σ : Sub) (g : Fr), f.len = g.len → Ok2 σ → BiS B σ → wvF f → wvF g → (∀ y, occF f y → InB B y) → (∀ y, occF g y → InB B y) →
      (σ = σ0 ∧ nodes (suF (fin σ) f) ≤ S) ∨ σ0.length < σ.length → ∃ r, UnF σ f g r := by
  intro f
  induction f with
  | nil =>
    intro σ g hl _ _ _ _ _ _ _
    cases g with
    | nil => exact ⟨_, .nil σ⟩
    | cons => simp [Fr.len] at hl
  | cons k n s f rest _ ihr =>
    intro σ g hl hσ hd hf hg bf bg hc
    cases g with
    | nil => simp [Fr.len] at hl
    | cons k' n' s' f' rest' =>
      have hhead : ∃ r, Un σ ⟨k, n, s, f⟩ ⟨k', n', s', f'⟩ r := by
        rcases hc with ⟨rfl, hc⟩ | hc
        · rw [suF_cons] at hc
          simp only [nodes] at hc
          exact h2 σ _ _ hσ hd h0 hf.1 hg.1 (fun y hy => bf y (.inl hy)) (fun y hy => bg y (.inl hy)) (by omega)
        · have := hd.len hσ
          exact h1 (K - 1) (by omega) _ σ _ _ hσ hd (by omega) hf.1 hg.1 (fun y hy => bf y (.inl hy)) (fun y hy => bg y (.inl hy)) (Nat.le_refl _)
      obtain ⟨r, hr⟩ := hhead
      cases r with
      | none => exact ⟨none, .no hr⟩
      | some σ1 =>
        obtain ⟨u1, _⟩ := hr.good hσ hf.1 hg.1
        have hd1 := un_bd hr hd (fun y hy => bf y (.inl hy)) fun y hy => bg y (.inl hy)
        obtain ⟨k1, l, hl1⟩ := u1
        have hc1 : (σ1 = σ0 ∧ nodes (suF (fin σ1) rest) ≤ S) ∨ σ0.length < σ1.length := by
          cases l with
          | nil =>
            have e : σ1 = σ := hl1
            subst e
            rcases hc with ⟨e0, hc⟩ | hc
            · rw [suF_cons] at hc
              simp only [nodes] at hc
              exact .inl ⟨e0, by omega⟩
            · exact .inr hc
          | cons p l =>
            have e : σ1.length = l.length + 1 + σ.length := by rw [hl1]; simp; omega
            right
            rcases hc with ⟨e0, _⟩ | hc
            · rw [e0] at e; omega
            · omega
        obtain ⟨r, hr2⟩ := ihr σ1 rest' (by simpa [Fr.len] using hl) k1 hd1 hf.2 hg.2 (fun y hy => bf y (.inr hy)) (fun y hy => bg y (.inr hy)) hc1
        exact ⟨r, .cons hr hr2⟩
theorem ends_step {B K S : Nat} (h1 : ∀ K', K' < K → ∀ S, EndsAt B K' S) (h2 : EndsAt B K S) : EndsAt B K (S + 1) := by
  intro σ a b hσ hd hK ha hb ba bb hS
  have wa := wk_wv σ a hσ ha
  have wb := wk_wv σ b hσ hb
  have fa := wk_fin σ a hσ
  have va := wk_bd σ a hd ba
  have vb := wk_bd σ b hd bb
  by_cases c1 : (wk σ a).k = 1
  · by_cases c2 : (wk σ b).k = 1 ∧ (wk σ a).n = (wk σ b).n
    · exact ⟨_, .same c1 c2.1 c2.2⟩
    · by_cases c3 : occN (suN (fin σ) (wk σ b)) (wk σ a).n
      · exact ⟨_, .leftNo c1 c2 c3⟩
      · exact ⟨_, .left c1 c2 c3⟩
  · by_cases c2 : (wk σ b).k = 1
    · by_cases c3 : occN (suN (fin σ) (wk σ a)) (wk σ b).n
      · exact ⟨_, .rightNo c1 c2 c3⟩
      · exact ⟨_, .right c1 c2 c3⟩
    · by_cases c3 : hdE (wk σ a) (wk σ b)
      · rw [← fa, suN_str c1] at hS
        have hS' : 1 + nodes (suF (fin σ) (wk σ a).f) ≤ S + 1 := hS
        obtain ⟨r, hr⟩ := ends_row h1 h2 σ hK (wk σ a).f σ (wk σ b).f c3.2.2.2 hσ hd (wvF_of wa c1) (wvF_of wb c2) (fun y hy => va y ((occ_kids c1 y).2 hy)) (fun y hy => vb y ((occ_kids c2 y).2 hy)) (.inl ⟨rfl, by omega⟩)
        exact ⟨r, .kids c1 c2 c3 hr⟩
      · exact ⟨_, .headNo c1 c2 c3⟩
/-- Unification ends. -/
theorem un_ends (B K : Nat) : ∀ S, EndsAt B K S := by
  induction K using Nat.strongRecOn with
  | _ K ih =>
    intro S
    induction S with
    | zero => intro σ a b _ _ _ _ _ _ _ h; omega
    | succ S ihS => exact ends_step ih ihS
end Go.Proofs.YtnkaafimnkigpaaDoor

/- Unification: the work list of spec.l3Within, as plain data. No condition. -/
namespace Go.Proofs.YtnkaafimnkigpaaDoor
open Go.RowKit

theorem addV_iff (a : List Int) (n x : Int) : x ∈ addV a n ↔ x ∈ a ∨ x = n := by
  unfold addV
  by_cases h : n ∈ a
  · rw [if_pos (by simpa using h)]
    constructor
    · exact .inl
    · rintro (h1 | rfl)
      · exact h1
      · exact h
  · rw [if_neg (by simpa using h)]
    simp
theorem varsF_iff (f : Fr) : ∀ (a : List Int) (x : Int), x ∈ varsF a f ↔ x ∈ a ∨ occF f x := by
  induction f with
  | nil => intro a x; simp [varsF, occF]
  | cons k n s kids rest ihk ihr =>
    intro a x
    simp only [varsF, occF]
    by_cases hk : k = 1
    · rw [if_pos hk, if_pos hk, ihr, addV_iff, or_assoc]
    · rw [if_neg hk, if_neg hk, ihr, ihk, or_assoc]
theorem varsT_iff (a : List Int) (m : Nd) (x : Int) : x ∈ varsT a m.k m.n m.f ↔ x ∈ a ∨ occN m x := by
  unfold varsT occN
  by_cases hk : m.k = 1
  · rw [if_pos hk, if_pos hk, addV_iff]
  · rw [if_neg hk, if_neg hk, varsF_iff]
/-- The work list V of looking for v in m, looked at up to i. -/
structure Wrk (σ : Sub) (v : Int) (m : Nd) (V : List Int) (i : Nat) : Prop where
  from_ : ∀ x ∈ V, Rch σ v x → ∃ y, occN m y ∧ Rch σ v y
  has : ∀ y, occN m y → y ∈ V
  seen : ∀ j, j < i → ∀ x, V[j]? = some x → x ≠ v ∧ ∀ t, lk σ x = some t → ∀ z, occN t z → z ∈ V
theorem Wrk.start (σ : Sub) (v : Int) (m : Nd) : Wrk σ v m (varsT [] m.k m.n m.f) 0 :=
  ⟨fun x hx hr => ⟨x, by simpa using (varsT_iff [] m x).1 hx, hr⟩, fun y hy => (varsT_iff [] m y).2 (.inr hy), fun j hj => absurd hj (Nat.not_lt_zero j)⟩
/-- A free variable is looked at. -/
theorem Wrk.free {σ : Sub} {v : Int} {m : Nd} {V : List Int} {i : Nat} (h : Wrk σ v m V i) {x : Int} (hx : V[i]? = some x) (hv : x ≠ v) (hl : lk σ x = none) : Wrk σ v m V (i + 1) := by
  refine ⟨h.from_, h.has, fun j hj y hy => ?_⟩
  rcases Nat.lt_or_ge j i with hj' | hj'
  · exact h.seen j hj' y hy
  · have e : j = i := by omega
    subst e
    rw [hx] at hy
    injection hy with hy
    subst hy
    exact ⟨hv, fun t ht => by rw [hl] at ht; cases ht⟩
/-- A bound variable is looked at. -/
theorem Wrk.bound {σ : Sub} {v : Int} {m : Nd} {V : List Int} {i : Nat} (h : Wrk σ v m V i) {x : Int} {t : Nd} (hx : V[i]? = some x) (hv : x ≠ v) (hl : lk σ x = some t) : Wrk σ v m (varsT V t.k t.n t.f) (i + 1) := by
  have hin : ∀ {z : Int}, z ∈ V → z ∈ varsT V t.k t.n t.f := fun hz => (varsT_iff V t _).2 (.inl hz)
  have hxV : x ∈ V := List.mem_of_getElem? hx
  refine ⟨fun y hy hr => ?_, fun y hy => hin (h.has y hy), fun j hj y hy => ?_⟩
  · rcases (varsT_iff V t y).1 hy with hy | hy
    · exact h.from_ y hy hr
    · exact h.from_ x hxV (.step x y t hl hy hr)
  · have hjV : j < V.length := by
      have := (List.getElem?_eq_some_iff.1 hx).1
      omega
    have hy' : V[j]? = some y := by
      obtain ⟨l, hl2⟩ := varsT_pre V t.k t.n t.f
      rw [← hl2, List.getElem?_append_left hjV] at hy
      exact hy
    rcases Nat.lt_or_ge j i with hj' | hj'
    · obtain ⟨h1, h2⟩ := h.seen j hj' y hy'
      exact ⟨h1, fun t' ht' z hz => hin (h2 t' ht' z hz)⟩
    · have e : j = i := by omega
      subst e
      rw [hx] at hy'
      injection hy' with hy'
      subst hy'
      refine ⟨hv, fun t' ht' z hz => ?_⟩
      rw [hl] at ht'
      injection ht' with ht'
      subst ht'
      exact (varsT_iff V t z).2 (.inr hz)
theorem Wrk.found {σ : Sub} (hσ : Ok2 σ) {v : Int} (hf : lk σ v = none) {m : Nd} {V : List Int} {i : Nat} (h : Wrk σ v m V i) (hx : V[i]? = some v) : occN (suN (fin σ) m) v :=
  (occ_iff hσ hf m).2 (h.from_ v (List.mem_of_getElem? hx) (.here hf))
theorem Wrk.done {σ : Sub} (hσ : Ok2 σ) {v : Int} (hf : lk σ v = none) {m : Nd} {V : List Int} {i : Nat} (h : Wrk σ v m V i) (hi : V.length ≤ i) : ¬ occN (suN (fin σ) m) v := by
  intro ho
  obtain ⟨y, hy, hr⟩ := (occ_iff hσ hf m).1 ho
  have key : ∀ x, Rch σ v x → x ∈ V → False := by
    intro x hr
    induction hr with
    | here _ =>
      intro hx
      obtain ⟨j, hj⟩ := List.getElem?_of_mem hx
      have hjl := (List.getElem?_eq_some_iff.1 hj).1
      exact (h.seen j (by omega) v hj).1 rfl
    | step x y t h1 h2 _ ih =>
      intro hx
      obtain ⟨j, hj⟩ := List.getElem?_of_mem hx
      have hjl := (List.getElem?_eq_some_iff.1 hj).1
      exact ih ((h.seen j (by omega) x hj).2 t h1 y h2)
  exact key y hr (h.has y hy)
end Go.Proofs.YtnkaafimnkigpaaDoor

/- AnswerGoals: what both answer; rows of bindings by append out of terms that lie in memory. No condition. -/
namespace Go.Proofs.YtnkaafimnkigpaaDoor
open Go.RowKit

/-- All terms of the row are valid once their variables are replaced. -/
def agV (ns : List Int) (g : Fr) : Fr → Bool
  | .nil => true
  | .cons k n s kids rest => vtB (apT ns g k n s kids) && agV ns g rest
def agB (f g : Fr) : Bool := goalsV f && (decide ((varsF [] f).length = g.len) && (allB g && agV (varsF [] f) g f))
def agR (f g : Fr) : Fr := if agB f g = true then apF (varsF [] f) g f else .nil
theorem agV_cons (ns : List Int) (g : Fr) (k n : Int) (s : ByteArray) (kids rest : Fr) : agV ns g (.cons k n s kids rest) = (vtB (apT ns g k n s kids) && agV ns g rest) := rfl
theorem ag_not {f g : Fr} (h : agB f g = false) : agR f g = .nil := by unfold agR; rw [h]; rfl
theorem ag_yes {f g : Fr} (h : agB f g = true) : agR f g = apF (varsF [] f) g f := by unfold agR; rw [h]; rfl
theorem ag_bad1 {f g : Fr} (h : goalsV f = false) : agB f g = false := by unfold agB; rw [h]; rfl
theorem ag_bad2 {f g : Fr} (h : ¬ (varsF [] f).length = g.len) : agB f g = false := by unfold agB; rw [decide_eq_false h]; simp
theorem ag_bad3 {f g : Fr} (h : allB g = false) : agB f g = false := by unfold agB; rw [h]; simp
theorem ag_bad4 {f g : Fr} (h : agV (varsF [] f) g f = false) : agB f g = false := by unfold agB; rw [h]; simp
theorem ag_good {f g : Fr} (h1 : goalsV f = true) (h2 : (varsF [] f).length = g.len) (h3 : allB g = true) (h4 : agV (varsF [] f) g f = true) : agB f g = true := by unfold agB; rw [h1, decide_eq_true h2, h3, h4]; rfl
/-- What AnswerGoals leaves. -/
def AgRes (w : World) (f g : Fr) (e : Ending) (w' : World) : Prop := ∃ A c, e = .returned (.tuple #[.slice A (agR f g).len c, .bool (agB f g)]) ∧ Made w (agR f g) A c w'
theorem ag_no {w w' : World} {f g : Fr} (h : agB f g = false) (hb : Below w.heap.size w w') : AgRes w f g (.returned (.tuple #[.slice none 0 0, .bool false])) w' := by
  unfold AgRes
  rw [ag_not h, h]
  exact ⟨none, 0, rfl, made_nil hb⟩
theorem ag_no2 {w w' : World} {f g : Fr} (h : agB f g = false) (hb : Below w.heap.size w w') : AgRes w f g (.returned (.tuple #[.slice (some ⟨w'.heap.size, 0, none⟩) 0 0, .bool false])) (w'.alloc (.cells #[] 31)) := by
  unfold AgRes
  rw [ag_not h, h]
  exact ⟨_, 0, rfl, (RowP.empty (w := w') (base := w'.heap.size) (Nat.le_refl _)).done (f := .nil) (w0 := w) (hb.alloc hb.size _) hb.size⟩

/-- The cells xs are the rows ns and f, whose terms' arguments lie in memory at w0. -/
def DescO (w0 : World) : List Int → Fr → List Value → Prop
  | [], .nil, xs => xs = []
  | n0 :: ns, .cons k n s kids rest, xs => ∃ (A : Option Addr) (cap : Nat) (ys : List Value), xs = .int .i64 n0 :: .int .i64 k :: .int .i64 n :: .string s :: .slice A kids.len cap :: ys ∧ InI n0 ∧ Fits k n s ∧ KidsAt w0 0 w0.heap.size kids A cap ∧ DescO w0 ns rest ys
  | _, _, _ => False
section
variable {w0 w w' : World}
theorem DescO.snoc {n1 k n : Int} {s : ByteArray} {kids : Fr} {A : Option Addr} {cap : Nat} (h1 : InI n1) (hf : Fits k n s) (hs : KidsAt w0 0 w0.heap.size kids A cap) :
    ∀ (ns : List Int) (f : Fr) (xs : List Value), DescO w0 ns f xs → DescO w0 (ns ++ [n1]) (f.app (.cons k n s kids .nil)) (xs ++ [.int .i64 n1, .int .i64 k, .int .i64 n, .string s, .slice A kids.len cap])
  | [], .nil, _, h => by
    obtain rfl := h
    exact ⟨A, cap, [], rfl, h1, hf, hs, rfl⟩
  | n0 :: ns, .cons k' n' s' kids' rest', _, h => by
    obtain ⟨A', cap', ys, rfl, h0, hf', ho, hd⟩ := h
    exact ⟨A', cap', _, rfl, h0, hf', ho, DescO.snoc h1 hf hs ns rest' ys hd⟩
  | [], .cons _ _ _ _ _, _, h => h.elim
  | _ :: _, .nil, _, h => h.elim
theorem DescO.at_ {g : Nat} (hb : Below w0.heap.size w0 w) : ∀ (ns : List Int) (f : Fr) (xs : List Value) (o : Nat), DescO w0 ns f xs → (∀ j u, xs[j]? = some u → w.cell? ⟨g, o + j, none⟩ = some u) → BdAt w 0 w.heap.size ns f g o
  | [], .nil, _, _, _, _ => trivial
  | n0 :: ns, .cons k n s kids rest, _, o, h, hc => by
    obtain ⟨A, cap, ys, rfl, h0, hf, ho, hd⟩ := h
    refine ⟨h0, hf, ⟨A, cap, ⟨hc 0 _ rfl, hc 1 _ rfl, hc 2 _ rfl, hc 3 _ rfl, hc 4 _ rfl⟩, (ho.below hb (Nat.le_refl _)).more (Nat.le_refl _) hb.size⟩, DescO.at_ hb ns rest ys (o + 5) hd fun j u hu => ?_⟩
    have := hc (j + 5) u (by simpa using hu)
    rwa [show o + (j + 5) = o + 5 + j by omega] at this
  | [], .cons _ _ _ _ _, _, _, h, _ => h.elim
  | _ :: _, .nil, _, _, h, _ => h.elim
theorem DescO.len : ∀ (ns : List Int) (f : Fr) (xs : List Value), DescO w0 ns f xs → ns.length = f.len
  | [], .nil, _, _ => rfl
  | n0 :: ns, .cons k n s kids rest, _, h => by
    obtain ⟨A, cap, ys, rfl, h0, hf, ho, hd⟩ := h
    simp only [List.length_cons, Fr.len, DescO.len ns rest ys hd]
  | [], .cons _ _ _ _ _, _, h => h.elim
  | _ :: _, .nil, _, h => h.elim
/-- The slice v reads as the rows ns and f; its block is the call's own, from base on. -/
def RowO (w0 : World) (base : Nat) (v : Value) (ns : List Int) (f : Fr) (w : World) : Prop :=
  ∃ xs, w.ownsRow base 60 5 v f.len xs ∧ DescO w0 ns f xs
variable {base : Nat} {v : Value} {ns : List Int} {f : Fr}
theorem RowO.empty {w : World} (hb : base ≤ w.heap.size) : RowO w0 base (.slice (some ⟨w.heap.size, 0, none⟩) 0 0) [] .nil (w.alloc (.cells #[] 60)) :=
  ⟨[], ⟨rfl, .inr ⟨w.heap.size, 0, #[], rfl, hb, heap_alloc_new w _, Nat.le_refl _, Nat.zero_le _, rfl, rfl⟩⟩, rfl⟩
theorem RowO.below (h : RowO w0 base v ns f w) (hb : Below w.heap.size w w') : RowO w0 base v ns f w' := by
  obtain ⟨xs, ho, hd⟩ := h
  refine ⟨xs, ho.kept (row := none) ⟨hb.os, hb.tape, hb.output, hb.size, fun k hk _ => hb.block k hk⟩ ?_, hd⟩
  cases h : v.ownBlock with
  | none => exact .inl rfl
  | some g => exact .inr (by simp)
theorem RowO.form (h : RowO w0 base v ns f w) : ∃ A cap, v = .slice A f.len cap := by
  obtain ⟨xs, ho, _⟩ := h
  rcases ho.2 with ⟨rfl, h0⟩ | ⟨g, cap, cur, rfl, _⟩
  · exact ⟨none, 0, by rw [h0]⟩
  · exact ⟨_, cap, rfl⟩
theorem RowO.bds {A : Option Addr} {cap : Nat} (h : RowO w0 base (.slice A f.len cap) ns f w) (hb : Below w0.heap.size w0 w) : BdS w 0 w.heap.size ns f A cap := by
  obtain ⟨xs, ho, hd⟩ := h
  rcases ho.2 with ⟨h0, h1⟩ | ⟨g, cap', cur, h0, hbg, hg, hnc, hcm, hcs, htake⟩
  · injection h0 with h0 h2 h3
    exact ⟨DescO.len ns f xs hd, by omega, by unfold maxLen; omega, fun hp => by omega⟩
  · injection h0 with h0 h2 h3
    subst h0 h3
    have hgl := Blk.lt hg
    refine ⟨DescO.len ns f xs hd, by omega, hcm, fun _ => ⟨g, 0, rfl, Nat.zero_le _, hgl, DescO.at_ hb ns f xs 0 hd fun j u hu => ?_⟩⟩
    have h3 := (World.ownsRow.cells ho (g := g) rfl) j u hu
    have e : (⟨g, 0, none⟩ : Addr).add j = ⟨g, 0 + j, none⟩ := by unfold Addr.add; split <;> simp_all
    rwa [e] at h3
end
theorem take_snoc {ns : List Int} {j : Nat} (h : j < ns.length) : ns.take (j + 1) = ns.take j ++ [ns.getD j 0] := by
  rw [List.take_add_one, List.getElem?_eq_getElem h]
  simp [List.getD, List.getElem?_eq_getElem h]
theorem occ_shape (f : Fr) : ∀ (d y : Int), shapeF f d = true → occF f y → 0 ≤ y ∧ y ≤ 25 := by
  induction f with
  | nil => intro d y _ h; exact h.elim
  | cons k n s kids rest ihk ihr =>
    intro d y h ho
    rw [shapeF_cons, Bool.and_eq_true] at h
    rcases (occF_cons k n s kids rest y).1 ho with ho | ho
    · unfold occN at ho
      by_cases hk : k = 1
      · subst hk
        rw [if_pos rfl] at ho
        obtain ⟨_, _, hn⟩ := shapeT_var h.1
        simp only at ho
        omega
      · rw [if_neg hk] at ho
        exact ihk (d - 1) y (shapeT_kids h.1) ho
    · exact ihr d y h.2 ho
theorem allG_shape (f : Fr) : allG f = true → shapeF f 30 = true := by
  induction f with
  | nil => intro _; rfl
  | cons k n s kids rest _ ihr =>
    intro h
    have h2 : goalV k n s kids = true ∧ allG rest = true := by simpa [allG] using h
    rw [shapeF_cons, ihr h2.2]
    have h3 := h2.1
    unfold goalV at h3
    rw [Bool.and_eq_true] at h3
    rw [(validT_fits h3.1).1]
    rfl
theorem goals_all {f : Fr} (h : goalsV f = true) : allG f = true := by
  unfold goalsV at h
  rw [Bool.and_eq_true] at h
  exact h.2
/-- The variables of a query are in range. -/
theorem qv_range {f : Fr} (h : goalsV f = true) {y : Int} (hy : y ∈ varsF [] f) : 0 ≤ y ∧ y ≤ 25 := by
  rcases (varsF_iff f [] y).1 hy with h1 | h1
  · cases h1
  · exact occ_shape f 30 y (allG_shape f (goals_all h)) h1
theorem getD_mem {ns : List Int} {j : Nat} (h : j < ns.length) : ns.getD j 0 ∈ ns := by
  rw [List.getD, List.getElem?_eq_getElem h]
  exact List.getElem_mem h
/-- One binding more, out of a term that lies in memory. -/
theorem RowO.step {w0 w x w5 : World} {base g9 cap9 j : Nat} {v : Value} {ns : List Int} {g : Fr} {xs : List Value} {k n : Int} {s : ByteArray} {kids rest : Fr} {A : Option Addr} {cap : Nat}
    (hd : DescO w0 (ns.take j) (g.take j) xs) (hdr : g.drop j = .cons k n s kids rest) (hj : j < ns.length) (hg : j < g.len) (hi : InI (ns.getD j 0)) (hf : Fits k n s) (hk : KidsAt w0 0 w0.heap.size kids A cap)
    (hb : Below w.heap.size w x) (hgr : x.grownBy w5 v.ownBlock) (hvl : ∀ g, v.ownBlock = some g → base ≤ g)
    (ho : w5.ownsRow base 60 5 (.slice (some ⟨g9, 0, none⟩) (j + 1) cap9) (j + 1) (xs ++ [.int .i64 (ns.getD j 0), .int .i64 k, .int .i64 n, .string s, .slice A kids.len cap])) {wb : World} (hwb : Below wb.heap.size wb w) (hsz : wb.heap.size = base) :
    RowO w0 base (.slice (some ⟨g9, 0, none⟩) (j + 1) cap9) (ns.take (j + 1)) (g.take (j + 1)) w5 ∧ Below wb.heap.size wb w5 := by
  have e1 := Fr.take_succ j g hdr
  have hlen : (g.take (j + 1)).len = j + 1 := Fr.len_take (j + 1) g hg
  refine ⟨⟨_, by rw [hlen]; exact ho, ?_⟩, ?_⟩
  · rw [take_snoc hj, e1]
    exact DescO.snoc hi hf hk _ _ _ hd
  · have h1 : Below wb.heap.size wb x := hwb.trans (hb.mono hwb.size)
    exact h1.grown hgr h1.size fun g hg => by have := hvl g hg; omega
end Go.Proofs.YtnkaafimnkigpaaDoor

/- Matching a general term with a special one: plain mathematics, and the model's table in memory. No condition. -/
import Derived.Test.YtohkpgpcipjpkaaGreatDoorProg
import Derived.Test.YtohkpgpcipjpkaaGreatDoorTb
import Derived.Test.YtohkpgpcipjpkaaGreatDoorEq
import Derived.Test.YtohkpgpcipjpkaaGreatDoorAs
import Derived.Test.YtohkpgpcipjpkaaGreatDoorTermOf
import Derived.Test.YtohkpgpcipjpkaaGreatDoorRep
import Derived.Test.YtohkpgpcipjpkaaGreatDoorZmFA44
import Derived.Test.YtohkpgpcipjpkaaGreatDoorZmFA43
import Derived.Test.YtohkpgpcipjpkaaGreatDoorImplV
import Derived.Test.YtohkpgpcipjpkaaGreatDoorTo
import Derived.Deep.RegionHeld3
import Derived.Maps.Own
import Derived.Maps.OwnOps
import Derived.Maps.OwnSet
import Derived.Test.YtohkpgpcipjpkaaGreatDoorMake
namespace Go.Proofs.YtohkpgpcipjpkaaGreatDoor
open Go.RowKit

/-- What is known about variables, the newest first. -/
abbrev St := List (Int × Nd)
def lkS (st : St) (n : Int) : Option Nd := (st.find? fun p => p.1 == n).map (·.2)
theorem lkS_same (st : St) (n : Int) (m : Nd) : lkS ((n, m) :: st) n = some m := by simp [lkS, List.find?]
theorem lkS_other (st : St) (n n' : Int) (m : Nd) (h : n' ≠ n) : lkS ((n, m) :: st) n' = lkS st n' := by
  unfold lkS
  rw [List.find?_cons, show ((n, m) : Int × Nd).1 = n from rfl, show (n == n') = false by rw [beq_eq_false_iff_ne]; exact fun e => h e.symm]
def mtV (st : St) (n : Int) (m : Nd) : Option St :=
  match lkS st n with
  | some o => if eqT o.k o.n o.s o.f m.k m.n m.s m.f = true then some st else none
  | none => some ((n, m) :: st)
def hdB (k n : Int) (s : ByteArray) (l : Nat) (k' n' : Int) (s' : ByteArray) (l' : Nat) : Bool := k == k' && (n == n' && (s.data.toList == s'.data.toList && l == l'))
def mtF : St → Fr → Fr → Option St
  | st, .cons k n s kids rest, .cons k' n' s' kids' rest' =>
    match (if k = 1 then mtV st n ⟨k', n', s', kids'⟩ else if hdB k n s kids.len k' n' s' kids'.len = true then mtF st kids kids' else none) with
    | some st' => mtF st' rest rest'
    | none => none
  | st, .nil, _ => some st
  | st, .cons _ _ _ _ _, .nil => some st
def mtT (st : St) (k n : Int) (s : ByteArray) (f : Fr) (k' n' : Int) (s' : ByteArray) (f' : Fr) : Option St :=
  if k = 1 then mtV st n ⟨k', n', s', f'⟩ else if hdB k n s f.len k' n' s' f'.len = true then mtF st f f' else none
theorem mtF_cons (st : St) (k n : Int) (s : ByteArray) (kids rest : Fr) (k' n' : Int) (s' : ByteArray) (kids' rest' : Fr) :
    mtF st (.cons k n s kids rest) (.cons k' n' s' kids' rest') = match mtT st k n s kids k' n' s' kids' with | some st' => mtF st' rest rest' | none => none := rfl
theorem mtF_nil (st : St) (g : Fr) : mtF st .nil g = some st := by cases g <;> rfl
theorem shapeT_mono {k n : Int} {s : ByteArray} {f : Fr} {d d' : Int} (hd : d ≤ d') (h : shapeT k n s f d = true) : shapeT k n s f d' = true := by
  have h1 := shapeF_mono (.cons k n s f .nil) d d' hd (by rw [shapeF_cons, h]; rfl)
  rw [shapeF_cons, Bool.and_eq_true] at h1
  exact h1.1

/-- The model's table: 26 terms in block g; those that are known read as st says. -/
def KnS (w : World) (lo hi g : Nat) (st : St) : Prop := ∃ cs, Blk w g 44 cs ∧ cs.size = 104 ∧ ∀ i : Nat, i < 26 →
  (lkS st (i : Int) = none → cs[i * 4]? = some (.int .i64 0)) ∧
  ∀ m, lkS st (i : Int) = some m → m.k ≠ 0 ∧ (-9223372036854775808 ≤ m.k ∧ m.k ≤ 9223372036854775807) ∧ ∃ (A : Option Addr) (c : Nat), cs[i * 4]? = some (.int .i64 m.k) ∧ cs[i * 4 + 1]? = some (.int .i64 m.n) ∧ cs[i * 4 + 2]? = some (.string m.s) ∧ cs[i * 4 + 3]? = some (.slice A m.f.len c) ∧ KidsAt w lo hi m.f A c
theorem KnS.wrote {w w' : World} {lo hi g : Nat} {st : St} {L : List Nat} (h : KnS w lo hi g st) (hb : Wrote L w w') (hg : g ∉ L) (hh : hi ≤ w.heap.size) (hL : ∀ x ∈ L, hi ≤ x) : KnS w' lo hi g st := by
  obtain ⟨cs, h1, h2, h3⟩ := h
  refine ⟨cs, hb.blk h1 hg, h2, fun i hi' => ⟨(h3 i hi').1, fun m hm => ?_⟩⟩
  obtain ⟨a, b, A, c, c0, c1, c2, c3, hk⟩ := (h3 i hi').2 m hm
  exact ⟨a, b, A, c, c0, c1, c2, c3, hk.keep fun p _ hp => hb.cell (by omega) fun e => by have := hL _ e; omega⟩
theorem KnS.below {w w' : World} {lo hi g : Nat} {st : St} (h : KnS w lo hi g st) (hb : Below w.heap.size w w') (hh : hi ≤ w.heap.size) : KnS w' lo hi g st :=
  h.wrote (.of_below hb []) (by simp) hh (by simp)
theorem KnS.lt {w : World} {lo hi g : Nat} {st : St} (h : KnS w lo hi g st) : g < w.heap.size := by
  obtain ⟨cs, h1, _⟩ := h
  exact h1.lt
/-- A term is put at the variable i. -/
theorem KnS.put {w : World} {lo hi g i : Nat} {st : St} {k n : Int} {s : ByteArray} {f : Fr} {A : Option Addr} {c : Nat} (h : KnS w lo hi g st) (hi' : i < 26) (hg : hi ≤ g) (hk0 : k ≠ 0) (hkr : -9223372036854775808 ≤ k ∧ k ≤ 9223372036854775807) (hk : KidsAt w lo hi f A c) :
    KnS ((((w.setCell ⟨g, i * 4, none⟩ (.int .i64 k)).setCell ⟨g, i * 4 + 1, none⟩ (.int .i64 n)).setCell ⟨g, i * 4 + 2, none⟩ (.string s)).setCell ⟨g, i * 4 + 3, none⟩ (.slice A f.len c)) lo hi g (((i : Int), ⟨k, n, s, f⟩) :: st) := by
  obtain ⟨cs, h1, h2, h3⟩ := h
  have q := (((h1.set_ (i * 4) (.int .i64 k)).set_ (i * 4 + 1) (.int .i64 n)).set_ (i * 4 + 2) (.string s)).set_ (i * 4 + 3) (.slice A f.len c)
  have far : ∀ p : Addr, p.block < hi → ((((w.setCell ⟨g, i * 4, none⟩ (.int .i64 k)).setCell ⟨g, i * 4 + 1, none⟩ (.int .i64 n)).setCell ⟨g, i * 4 + 2, none⟩ (.string s)).setCell ⟨g, i * 4 + 3, none⟩ (.slice A f.len c)).cell? p = w.cell? p := fun p hp => World.cell?_of_block (by
    rw [heap_setCell_other _ _ _ _ (show p.block ≠ g by omega), heap_setCell_other _ _ _ _ (show p.block ≠ g by omega), heap_setCell_other _ _ _ _ (show p.block ≠ g by omega), heap_setCell_other _ _ _ _ (show p.block ≠ g by omega)])
  refine ⟨_, q, by simpa using h2, fun j hj => ?_⟩
  by_cases e : j = i
  · subst e
    rw [lkS_same]
    refine ⟨fun h => (by cases h), fun m hm => ?_⟩
    injection hm with hm
    subst hm
    refine ⟨hk0, hkr, A, c, ?_, ?_, ?_, ?_, hk.keep fun p _ hp => far p hp⟩
    · simp only [Array.getElem?_setIfInBounds, Array.size_setIfInBounds]
      rw [if_neg (by omega), if_neg (by omega), if_neg (by omega), if_pos trivial, if_pos (by omega)]
    · simp only [Array.getElem?_setIfInBounds, Array.size_setIfInBounds]
      rw [if_neg (by omega), if_neg (by omega), if_pos trivial, if_pos (by omega)]
    · simp only [Array.getElem?_setIfInBounds, Array.size_setIfInBounds]
      rw [if_neg (by omega), if_pos trivial, if_pos (by omega)]
    · simp only [Array.getElem?_setIfInBounds, Array.size_setIfInBounds]
      rw [if_pos trivial, if_pos (by omega)]
  · rw [lkS_other _ _ _ _ (by omega)]
    have hc : ∀ x, x < 4 → ((((cs.setIfInBounds (i * 4) (.int .i64 k)).setIfInBounds (i * 4 + 1) (.int .i64 n)).setIfInBounds (i * 4 + 2) (.string s)).setIfInBounds (i * 4 + 3) (.slice A f.len c))[j * 4 + x]? = cs[j * 4 + x]? := fun x hx => by
      simp only [Array.getElem?_setIfInBounds, Array.size_setIfInBounds]
      rw [if_neg (by omega), if_neg (by omega), if_neg (by omega), if_neg (by omega)]
    have h0 := hc 0 (by omega)
    rw [Nat.add_zero] at h0
    refine ⟨fun h => h0.trans ((h3 j hj).1 h), fun m hm => ?_⟩
    obtain ⟨a, b, A', c', c0, c1, c2, c3, hk'⟩ := (h3 j hj).2 m hm
    exact ⟨a, b, A', c', h0.trans c0, (hc 1 (by omega)).trans c1, (hc 2 (by omega)).trans c2, (hc 3 (by omega)).trans c3, hk'.keep fun p _ hp => far p hp⟩
end Go.Proofs.YtohkpgpcipjpkaaGreatDoor

/- Unification: bindings as plain data, and what they stand for in the end. No condition. -/
namespace Go.Proofs.YtohkpgpcipjpkaaGreatDoor
open Go.RowKit

/-- The node of a variable. -/
def vNd (n : Int) : Nd := ⟨1, n, ⟨#[]⟩, .nil⟩
/-- A row, a node with its variables replaced. -/
def suF (τ : Int → Nd) : Fr → Fr
  | .nil => .nil
  | .cons k n s kids rest => if k = 1 then .cons (τ n).k (τ n).n (τ n).s (τ n).f (suF τ rest) else .cons k n s (suF τ kids) (suF τ rest)
def suN (τ : Int → Nd) (m : Nd) : Nd := if m.k = 1 then τ m.n else ⟨m.k, m.n, m.s, suF τ m.f⟩
theorem suF_cons (τ : Int → Nd) (k n : Int) (s : ByteArray) (kids rest : Fr) : suF τ (.cons k n s kids rest) = .cons (suN τ ⟨k, n, s, kids⟩).k (suN τ ⟨k, n, s, kids⟩).n (suN τ ⟨k, n, s, kids⟩).s (suN τ ⟨k, n, s, kids⟩).f (suF τ rest) := by
  simp only [suF, suN]
  split <;> rfl
theorem suF_rp (τ : Int → Nd) (f : Fr) : suF τ f = rpF (fun (a : Unit) _ => a) (fun _ n => τ n) () f := by
  induction f with
  | nil => rfl
  | cons k n s kids rest ihk ihr =>
    simp only [suF, rpF, ihk, ihr]
theorem suF_len (τ : Int → Nd) (f : Fr) : (suF τ f).len = f.len := by
  induction f with
  | nil => rfl
  | cons k n s kids rest _ ih => rw [suF_cons]; simp only [Fr.len, ih]
/-- The variables that occur in a row, in a node. -/
def occF : Fr → Int → Prop
  | .nil, _ => False
  | .cons k n _ kids rest, x => (if k = 1 then x = n else occF kids x) ∨ occF rest x
def occN (m : Nd) (x : Int) : Prop := if m.k = 1 then x = m.n else occF m.f x
theorem occF_cons (k n : Int) (s : ByteArray) (kids rest : Fr) (x : Int) : occF (.cons k n s kids rest) x ↔ occN ⟨k, n, s, kids⟩ x ∨ occF rest x := Iff.rfl
theorem occN_var (n x : Int) : occN (vNd n) x ↔ x = n := by unfold occN vNd; simp
theorem su_congr (τ τ' : Int → Nd) (f : Fr) (h : ∀ x, occF f x → τ x = τ' x) : suF τ f = suF τ' f := by
  induction f with
  | nil => rfl
  | cons k n s kids rest ihk ihr =>
    have hr := ihr fun x hx => h x (.inr hx)
    by_cases hk : k = 1
    · subst hk
      have h1 := h n (.inl (by rw [if_pos rfl]))
      simp only [suF, if_true, h1, hr]
    · have h1 := ihk fun x hx => h x (.inl (by rw [if_neg hk]; exact hx))
      simp only [suF, if_neg hk, h1, hr]
theorem suN_congr (τ τ' : Int → Nd) (m : Nd) (h : ∀ x, occN m x → τ x = τ' x) : suN τ m = suN τ' m := by
  unfold suN
  split
  · next hk => exact h m.n (by unfold occN; rw [if_pos hk])
  · next hk => rw [su_congr τ τ' m.f fun x hx => h x (by unfold occN; rw [if_neg hk]; exact hx)]
theorem su_comp (τ τ' : Int → Nd) (f : Fr) : suF τ' (suF τ f) = suF (fun n => suN τ' (τ n)) f := by
  induction f with
  | nil => rfl
  | cons k n s kids rest ihk ihr =>
    by_cases hk : k = 1
    · subst hk
      simp only [suF, if_true]
      rw [ihr]
      unfold suN
      split <;> rfl
    · simp only [suF, if_neg hk]
      rw [ihk, ihr]
theorem suN_comp (τ τ' : Int → Nd) (m : Nd) : suN τ' (suN τ m) = suN (fun n => suN τ' (τ n)) m := by
  by_cases hk : m.k = 1
  · have e1 : suN τ m = τ m.n := by unfold suN; rw [if_pos hk]
    have e2 : suN (fun n => suN τ' (τ n)) m = suN τ' (τ m.n) := by
      show (if m.k = 1 then _ else _) = _
      rw [if_pos hk]
    rw [e1, e2]
  · have e1 : suN τ m = ⟨m.k, m.n, m.s, suF τ m.f⟩ := by unfold suN; rw [if_neg hk]
    have e2 : suN (fun n => suN τ' (τ n)) m = ⟨m.k, m.n, m.s, suF (fun n => suN τ' (τ n)) m.f⟩ := by
      show (if m.k = 1 then _ else _) = _
      rw [if_neg hk]
    rw [e1, e2]
    show (if m.k = 1 then _ else _) = _
    rw [if_neg hk, su_comp]
theorem occ_suF (τ : Int → Nd) (f : Fr) (y : Int) : occF (suF τ f) y ↔ ∃ x, occF f x ∧ occN (τ x) y := by
  induction f with
  | nil => exact ⟨fun h => h.elim, fun ⟨_, h, _⟩ => h.elim⟩
  | cons k n s kids rest ihk ihr =>
    by_cases hk : k = 1
    · subst hk
      simp only [suF, if_true, occF, ihr]
      constructor
      · rintro (h | ⟨x, h1, h2⟩)
        · exact ⟨n, .inl rfl, h⟩
        · exact ⟨x, .inr h1, h2⟩
      · rintro ⟨x, rfl | h1, h2⟩
        · exact .inl h2
        · exact .inr ⟨x, h1, h2⟩
    · simp only [suF, if_neg hk, occF, ihk, ihr]
      constructor
      · rintro (⟨x, h1, h2⟩ | ⟨x, h1, h2⟩)
        · exact ⟨x, .inl h1, h2⟩
        · exact ⟨x, .inr h1, h2⟩
      · rintro ⟨x, h1 | h1, h2⟩
        · exact .inl ⟨x, h1, h2⟩
        · exact .inr ⟨x, h1, h2⟩
theorem occ_suN (τ : Int → Nd) (m : Nd) (y : Int) : occN (suN τ m) y ↔ ∃ x, occN m x ∧ occN (τ x) y := by
  by_cases hk : m.k = 1
  · have e1 : suN τ m = τ m.n := by unfold suN; rw [if_pos hk]
    rw [e1]
    have e2 : ∀ x, occN m x ↔ x = m.n := fun x => by unfold occN; rw [if_pos hk]
    constructor
    · exact fun h => ⟨m.n, (e2 _).2 rfl, h⟩
    · rintro ⟨x, h1, h2⟩
      rw [(e2 x).1 h1] at h2
      exact h2
  · have e1 : suN τ m = ⟨m.k, m.n, m.s, suF τ m.f⟩ := by unfold suN; rw [if_neg hk]
    have e2 : ∀ x, occN m x ↔ occF m.f x := fun x => by unfold occN; rw [if_neg hk]
    have e3 : occN (⟨m.k, m.n, m.s, suF τ m.f⟩ : Nd) y ↔ occF (suF τ m.f) y := by unfold occN; rw [if_neg hk]
    rw [e1, e3, occ_suF]
    exact ⟨fun ⟨x, h1, h2⟩ => ⟨x, (e2 x).2 h1, h2⟩, fun ⟨x, h1, h2⟩ => ⟨x, (e2 x).1 h1, h2⟩⟩
/-- Well-formed variables: a node of kind 1 is the node of its variable. -/
def wvF : Fr → Prop
  | .nil => True
  | .cons k n s kids rest => (if k = 1 then (⟨k, n, s, kids⟩ : Nd) = vNd n else wvF kids) ∧ wvF rest
def wvN (m : Nd) : Prop := if m.k = 1 then m = vNd m.n else wvF m.f
theorem wv_shape (f : Fr) : ∀ d, shapeF f d = true → wvF f := by
  induction f with
  | nil => intro d _; trivial
  | cons k n s kids rest ihk ihr =>
    intro d h
    rw [shapeF_cons, Bool.and_eq_true] at h
    refine ⟨?_, ihr d h.2⟩
    split
    · next hk =>
      subst hk
      obtain ⟨h1, h2, _⟩ := shapeT_var h.1
      rw [h1, h2]; rfl
    · exact ihk (d - 1) (shapeT_kids h.1)
theorem su_id (f : Fr) (h : wvF f) : suF vNd f = f := by
  induction f with
  | nil => rfl
  | cons k n s kids rest ihk ihr =>
    obtain ⟨h1, h2⟩ := h
    by_cases hk : k = 1
    · subst hk
      rw [if_pos rfl] at h1
      injection h1 with _ _ h3 h4
      simp only [suF, if_true, ihr h2]
      rw [h3, h4]; rfl
    · rw [if_neg hk] at h1
      simp only [suF, if_neg hk, ihk h1, ihr h2]
theorem suN_id (m : Nd) (h : wvN m) : suN vNd m = m := by
  unfold suN
  unfold wvN at h
  split
  · next hk => rw [if_pos hk] at h; exact h.symm
  · next hk => rw [if_neg hk] at h; rw [su_id m.f h]
theorem wv_su (τ : Int → Nd) (hτ : ∀ x, wvN (τ x)) (f : Fr) (h : wvF f) : wvF (suF τ f) := by
  induction f with
  | nil => trivial
  | cons k n s kids rest ihk ihr =>
    obtain ⟨h1, h2⟩ := h
    by_cases hk : k = 1
    · subst hk
      simp only [suF, if_true]
      have h3 := hτ n
      refine ⟨?_, ihr h2⟩
      unfold wvN at h3
      split
      · next hk => rw [if_pos hk] at h3; exact h3
      · next hk => rw [if_neg hk] at h3; exact h3
    · rw [if_neg hk] at h1
      simp only [suF, if_neg hk]
      exact ⟨by rw [if_neg hk]; exact ihk h1, ihr h2⟩
theorem wv_suN (τ : Int → Nd) (hτ : ∀ x, wvN (τ x)) (m : Nd) (h : wvN m) : wvN (suN τ m) := by
  unfold suN
  split
  · exact hτ _
  · next hk =>
    unfold wvN at h ⊢
    rw [if_neg hk] at h
    rw [if_neg hk]
    exact wv_su τ hτ m.f h
theorem wv_vNd (n : Int) : wvN (vNd n) := by unfold wvN vNd; rw [if_pos rfl]

/-- Bindings, newest first; what each variable stands for in the end. -/
abbrev Sub := St
abbrev lk (σ : Sub) (x : Int) : Option Nd := lkS σ x
theorem lk_same (σ : Sub) (v : Int) (m : Nd) : lk ((v, m) :: σ) v = some m := lkS_same σ v m
theorem lk_other (σ : Sub) (v x : Int) (m : Nd) (h : x ≠ v) : lk ((v, m) :: σ) x = lk σ x := lkS_other σ v x m h
def one (v : Int) (m : Nd) : Int → Nd := fun x => if x = v then m else vNd x
def fin : Sub → Int → Nd
  | [], x => vNd x
  | (v, m) :: σ, x => suN (one v (suN (fin σ) m)) (fin σ x)
/-- Bindings that were made one after the other: each variable was not bound, and did not occur. -/
def Ok : Sub → Prop
  | [] => True
  | (v, m) :: σ => lk σ v = none ∧ wvN m ∧ ¬ occN (suN (fin σ) m) v ∧ Ok σ
structure Inv (σ : Sub) : Prop where
  free : ∀ x, lk σ x = none → fin σ x = vNd x
  bound : ∀ x m, lk σ x = some m → fin σ x = suN (fin σ) m
  idem : ∀ x y, occN (fin σ x) y → lk σ y = none
  wv : ∀ x, wvN (fin σ x)
  wvb : ∀ x m, lk σ x = some m → wvN m
theorem one_free (v : Int) (m : Nd) (a : Nd) (h : ¬ occN a v) (ha : wvN a) : suN (one v m) a = a := by
  rw [suN_congr (one v m) vNd a fun x hx => by
    unfold one
    rw [if_neg]
    rintro rfl
    exact h hx]
  exact suN_id a ha
theorem inv_of : ∀ σ : Sub, Ok σ → Inv σ
  | [], _ => ⟨fun x _ => rfl, (fun x m h => by cases h), fun x y _ => rfl, fun x => wv_vNd x, (fun x m h => by cases h)⟩
  | (v, m) :: σ, ⟨h1, h2, h3, h4⟩ => by
    obtain ⟨i1, i2, i3, i4, i5⟩ := inv_of σ h4
    have hv : fin σ v = vNd v := i1 v h1
    have hm : wvN (suN (fin σ) m) := wv_suN _ i4 m h2
    have key : ∀ a : Nd, suN (fin ((v, m) :: σ)) a = suN (one v (suN (fin σ) m)) (suN (fin σ) a) := fun a => (suN_comp (fin σ) (one v (suN (fin σ) m)) a).symm
    have hfix : suN (one v (suN (fin σ) m)) (suN (fin σ) m) = suN (fin σ) m := one_free v _ _ h3 hm
    have hw1 : ∀ x, wvN (one v (suN (fin σ) m) x) := fun x => by
      unfold one
      split
      · exact hm
      · exact wv_vNd x
    refine ⟨fun x hx => ?_, fun x n hx => ?_, fun x y hy => ?_, fun x => wv_suN _ hw1 _ (i4 x), fun x n hx => ?_⟩
    · have hne : x ≠ v := fun e => by subst e; rw [lk_same] at hx; cases hx
      rw [lk_other _ _ _ _ hne] at hx
      show suN _ (fin σ x) = _
      rw [i1 x hx]
      refine one_free v _ _ ?_ (wv_vNd x)
      rw [occN_var]
      exact fun e => hne e.symm
    · by_cases e : x = v
      · subst e
        rw [lk_same] at hx
        injection hx with hx
        subst hx
        rw [key, hfix]
        show suN _ (fin σ x) = _
        rw [hv]
        show one x _ x = _
        unfold one
        rw [if_pos rfl]
      · rw [lk_other _ _ _ _ e] at hx
        rw [key]
        show suN _ (fin σ x) = _
        rw [i2 x n hx]
    · have hy' : occN (suN (one v (suN (fin σ) m)) (fin σ x)) y := hy
      rw [occ_suN] at hy'
      obtain ⟨z, hz, hyz⟩ := hy'
      unfold one at hyz
      have hlz := i3 x z hz
      split at hyz
      · next e =>
        have hne : y ≠ v := fun e2 => by subst e2; exact h3 hyz
        rw [lk_other _ _ _ _ hne]
        rw [occ_suN] at hyz
        obtain ⟨u, _, hu2⟩ := hyz
        exact i3 u y hu2
      · next e =>
        rw [occN_var] at hyz
        subst hyz
        rw [lk_other _ _ _ _ e]
        exact hlz
    · by_cases e : x = v
      · subst e
        rw [lk_same] at hx
        injection hx with hx
        subst hx
        exact h2
      · rw [lk_other _ _ _ _ e] at hx
        exact i5 x n hx
end Go.Proofs.YtohkpgpcipjpkaaGreatDoor

/- Unification: walking variables, and unification as a relation. No condition. -/
namespace Go.Proofs.YtohkpgpcipjpkaaGreatDoor
open Go.RowKit

/-- Bindings whose terms are no bound variables when they are made. -/
def Ok2 : Sub → Prop
  | [] => True
  | (v, m) :: σ => lk σ v = none ∧ wvN m ∧ ¬ occN (suN (fin σ) m) v ∧ (m.k = 1 → lk σ m.n = none) ∧ Ok2 σ
theorem Ok2.ok : ∀ {σ : Sub}, Ok2 σ → Ok σ
  | [], _ => trivial
  | _ :: _, ⟨h1, h2, h3, _, h5⟩ => ⟨h1, h2, h3, h5.ok⟩
theorem Ok2.inv {σ : Sub} (h : Ok2 σ) : Inv σ := inv_of σ h.ok
/-- What a node is walked to, and in how many steps. -/
def wk : Sub → Nd → Nd
  | [], m => m
  | (v, t) :: σ, m => if (wk σ m).k = 1 ∧ (wk σ m).n = v then t else wk σ m
def wl : Sub → Nd → Nat
  | [], _ => 0
  | (v, _) :: σ, m => wl σ m + if (wk σ m).k = 1 ∧ (wk σ m).n = v then 1 else 0
theorem wk_stop (σ : Sub) (m : Nd) (h : m.k ≠ 1 ∨ lk σ m.n = none) : wk σ m = m ∧ wl σ m = 0 := by
  induction σ with
  | nil => exact ⟨rfl, rfl⟩
  | cons p σ ih =>
    obtain ⟨v, t⟩ := p
    have hn : ¬ (m.k = 1 ∧ m.n = v) := by
      rintro ⟨h1, h2⟩
      rcases h with h | h
      · exact h h1
      · subst h2; rw [lk_same] at h; cases h
    have h' : m.k ≠ 1 ∨ lk σ m.n = none := by
      rcases h with h | h
      · exact .inl h
      · by_cases hk : m.k = 1
        · right
          have hne : m.n ≠ v := fun e => hn ⟨hk, e⟩
          rwa [lk_other _ _ _ _ hne] at h
        · exact .inl hk
    obtain ⟨e1, e2⟩ := ih h'
    simp only [wk, wl, e1, e2, if_neg hn]
    first | exact ⟨trivial, trivial⟩ | exact ⟨trivial, rfl⟩ | exact ⟨rfl, rfl⟩
theorem occ_self {σ : Sub} (hi : Inv σ) {m : Nd} (hk : m.k = 1) (hl : lk σ m.n = none) : occN (suN (fin σ) m) m.n := by
  have e : suN (fin σ) m = fin σ m.n := by unfold suN; rw [if_pos hk]
  rw [e, hi.free _ hl, occN_var]
/-- One step of the walk. -/
theorem wk_step : ∀ (σ : Sub) (m t : Nd), Ok2 σ → m.k = 1 → lk σ m.n = some t → wk σ m = wk σ t ∧ wl σ m = wl σ t + 1
  | [], m, t, _, _, hl => by cases hl
  | (v, t0) :: σ, m, t, ⟨h1, h2, h3, h4, h5⟩, hk, hl => by
    by_cases e : m.n = v
    · rw [e, lk_same] at hl
      injection hl with hl
      subst hl
      have s1 := wk_stop σ m (.inr (by rw [e]; exact h1))
      have s2 := wk_stop σ t0 (by
        by_cases hk0 : t0.k = 1
        · exact .inr (h4 hk0)
        · exact .inl hk0)
      have hne : ¬ (t0.k = 1 ∧ t0.n = v) := by
        rintro ⟨a1, a2⟩
        have := occ_self h5.inv a1 (h4 a1)
        rw [a2] at this
        exact h3 this
      simp only [wk, wl, s1.1, s1.2, s2.1, s2.2, if_pos (show m.k = 1 ∧ m.n = v from ⟨hk, e⟩), if_neg hne]
      exact ⟨trivial, trivial⟩
    · rw [lk_other _ _ _ _ e] at hl
      obtain ⟨e1, e2⟩ := wk_step σ m t h5 hk hl
      simp only [wk, wl, e1, e2]
      exact ⟨trivial, by omega⟩
theorem wk_end : ∀ (σ : Sub) (m : Nd), Ok2 σ → (wk σ m).k ≠ 1 ∨ lk σ (wk σ m).n = none
  | [], _, _ => .inr rfl
  | (v, t) :: σ, m, ⟨h1, h2, h3, h4, h5⟩ => by
    have ih := wk_end σ m h5
    by_cases hc : (wk σ m).k = 1 ∧ (wk σ m).n = v
    · simp only [wk, if_pos hc]
      by_cases hk : t.k = 1
      · right
        have hne : t.n ≠ v := fun e => by
          have := occ_self h5.inv hk (h4 hk)
          rw [e] at this
          exact h3 this
        rw [lk_other _ _ _ _ hne]
        exact h4 hk
      · exact .inl hk
    · simp only [wk, if_neg hc]
      rcases ih with h | h
      · exact .inl h
      · by_cases hk : (wk σ m).k = 1
        · right
          rw [lk_other _ _ _ _ fun e => hc ⟨hk, e⟩]
          exact h
        · exact .inl hk
/-- Walking does not turn what a node stands for. -/
theorem wk_fin : ∀ (σ : Sub) (m : Nd), Ok2 σ → suN (fin σ) (wk σ m) = suN (fin σ) m
  | [], _, _ => rfl
  | (v, t) :: σ, m, h => by
    obtain ⟨h1, h2, h3, h4, h5⟩ := h
    have ih := wk_fin σ m h5
    have key : ∀ a : Nd, suN (fin ((v, t) :: σ)) a = suN (one v (suN (fin σ) t)) (suN (fin σ) a) := fun a => (suN_comp (fin σ) (one v (suN (fin σ) t)) a).symm
    by_cases hc : (wk σ m).k = 1 ∧ (wk σ m).n = v
    · simp only [wk, if_pos hc]
      rw [key, key, ← ih]
      have e : suN (fin σ) (wk σ m) = vNd v := by
        have e1 : suN (fin σ) (wk σ m) = fin σ (wk σ m).n := by unfold suN; rw [if_pos hc.1]
        rw [e1, hc.2, h5.inv.free v h1]
      rw [e]
      have e2 : suN (one v (suN (fin σ) t)) (vNd v) = suN (fin σ) t := by
        show one v _ v = _
        unfold one
        rw [if_pos rfl]
      rw [e2]
      exact one_free v _ _ h3 (wv_suN _ h5.inv.wv t h2)
    · simp only [wk, if_neg hc]
      rw [key, key, ih]
theorem wk_wv : ∀ (σ : Sub) (m : Nd), Ok2 σ → wvN m → wvN (wk σ m)
  | [], _, _, h => h
  | (v, t) :: σ, m, ⟨_, h2, _, _, h5⟩, h => by
    by_cases hc : (wk σ m).k = 1 ∧ (wk σ m).n = v
    · simp only [wk, if_pos hc]; exact h2
    · simp only [wk, if_neg hc]; exact wk_wv σ m h5 h

/-- The heads are alike. -/
def hdE (x y : Nd) : Prop := x.k = y.k ∧ x.n = y.n ∧ x.s = y.s ∧ x.f.len = y.f.len
/-- Rows are unified one by one, each by u. -/
def unRow (u : Sub → Nd → Nd → Option (Option Sub)) : Sub → Fr → Fr → Option (Option Sub)
  | σ, .cons k n s f rest, .cons k' n' s' f' rest' => match u σ ⟨k, n, s, f⟩ ⟨k', n', s', f'⟩ with
    | none => none
    | some none => some none
    | some (some σ') => unRow u σ' rest rest'
  | σ, _, _ => some (some σ)
open Classical in
/-- Unification, to a depth: the bindings after it, or none; nothing where the depth did not do. -/
noncomputable def unT : Nat → Sub → Nd → Nd → Option (Option Sub)
  | 0, _, _, _ => none
  | N + 1, σ, a, b =>
    if (wk σ a).k = 1 then
      if (wk σ b).k = 1 ∧ (wk σ a).n = (wk σ b).n then some (some σ)
      else if occN (suN (fin σ) (wk σ b)) (wk σ a).n then some none
      else some (some (((wk σ a).n, wk σ b) :: σ))
    else if (wk σ b).k = 1 then
      if occN (suN (fin σ) (wk σ a)) (wk σ b).n then some none
      else some (some (((wk σ b).n, wk σ a) :: σ))
    else if hdE (wk σ a) (wk σ b) then unRow (unT N) σ (wk σ a).f (wk σ b).f
    else some none
def Un (σ : Sub) (a b : Nd) (r : Option Sub) : Prop := ∃ N, unT N σ a b = some r
def UnF (σ : Sub) (f g : Fr) (r : Option Sub) : Prop := ∃ N, unRow (unT N) σ f g = some r
theorem unRow_more {u u' : Sub → Nd → Nd → Option (Option Sub)} (h : ∀ σ a b r, u σ a b = some r → u' σ a b = some r) : ∀ (f : Fr) (σ : Sub) (g : Fr) (r : Option Sub), unRow u σ f g = some r → unRow u' σ f g = some r := by
  intro f
  induction f with
  | nil => intro σ g r hr; cases g <;> exact hr
  | cons k n s f rest _ ihr =>
    intro σ g r hr
    cases g with
    | nil => exact hr
    | cons k' n' s' f' rest' =>
      simp only [unRow] at hr ⊢
      cases hu : u σ ⟨k, n, s, f⟩ ⟨k', n', s', f'⟩ with
      | none => rw [hu] at hr; cases hr
      | some o =>
        rw [hu] at hr
        rw [h _ _ _ _ hu]
        cases o with
        | none => exact hr
        | some σ' => exact ihr σ' rest' r hr
theorem unT_succ (N : Nat) : ∀ (σ : Sub) (a b : Nd) (r : Option Sub), unT N σ a b = some r → unT (N + 1) σ a b = some r := by
  induction N with
  | zero => intro σ a b r h; cases h
  | succ N ih =>
    intro σ a b r h
    rw [unT] at h ⊢
    split at h
    · next h1 => rw [if_pos h1]; exact h
    · next h1 =>
      rw [if_neg h1]
      split at h
      · next h2 => rw [if_pos h2]; exact h
      · next h2 =>
        rw [if_neg h2]
        split at h
        · next h3 => rw [if_pos h3]; exact unRow_more ih _ _ _ _ h
        · next h3 => rw [if_neg h3]; exact h
theorem unT_le {N M : Nat} (h : N ≤ M) {σ : Sub} {a b : Nd} {r : Option Sub} (hr : unT N σ a b = some r) : unT M σ a b = some r := by
  induction h with
  | refl => exact hr
  | step _ ih => exact unT_succ _ _ _ _ _ ih
theorem Un.det {σ : Sub} {a b : Nd} {r r' : Option Sub} (h : Un σ a b r) (h' : Un σ a b r') : r = r' := by
  obtain ⟨N, h⟩ := h
  obtain ⟨M, h'⟩ := h'
  have e1 := unT_le (Nat.le_max_left N M) h
  have e2 := unT_le (Nat.le_max_right N M) h'
  rw [e1] at e2
  injection e2
theorem UnF.up {N M : Nat} (h : N ≤ M) {σ : Sub} {f g : Fr} {r : Option Sub} (hr : unRow (unT N) σ f g = some r) : unRow (unT M) σ f g = some r := unRow_more (fun _ _ _ _ h' => unT_le h h') f σ g r hr
/-! How it is put together: the rules. -/
theorem Un.same {σ : Sub} {a b : Nd} (h1 : (wk σ a).k = 1) (h2 : (wk σ b).k = 1) (h3 : (wk σ a).n = (wk σ b).n) : Un σ a b (some σ) := ⟨1, by rw [unT, if_pos h1, if_pos ⟨h2, h3⟩]⟩
theorem Un.left {σ : Sub} {a b : Nd} (h1 : (wk σ a).k = 1) (h2 : ¬ ((wk σ b).k = 1 ∧ (wk σ a).n = (wk σ b).n)) (h3 : ¬ occN (suN (fin σ) (wk σ b)) (wk σ a).n) : Un σ a b (some (((wk σ a).n, wk σ b) :: σ)) := ⟨1, by rw [unT, if_pos h1, if_neg h2, if_neg h3]⟩
theorem Un.leftNo {σ : Sub} {a b : Nd} (h1 : (wk σ a).k = 1) (h2 : ¬ ((wk σ b).k = 1 ∧ (wk σ a).n = (wk σ b).n)) (h3 : occN (suN (fin σ) (wk σ b)) (wk σ a).n) : Un σ a b none := ⟨1, by rw [unT, if_pos h1, if_neg h2, if_pos h3]⟩
theorem Un.right {σ : Sub} {a b : Nd} (h1 : (wk σ a).k ≠ 1) (h2 : (wk σ b).k = 1) (h3 : ¬ occN (suN (fin σ) (wk σ a)) (wk σ b).n) : Un σ a b (some (((wk σ b).n, wk σ a) :: σ)) := ⟨1, by rw [unT, if_neg h1, if_pos h2, if_neg h3]⟩
theorem Un.rightNo {σ : Sub} {a b : Nd} (h1 : (wk σ a).k ≠ 1) (h2 : (wk σ b).k = 1) (h3 : occN (suN (fin σ) (wk σ a)) (wk σ b).n) : Un σ a b none := ⟨1, by rw [unT, if_neg h1, if_pos h2, if_pos h3]⟩
theorem Un.headNo {σ : Sub} {a b : Nd} (h1 : (wk σ a).k ≠ 1) (h2 : (wk σ b).k ≠ 1) (h3 : ¬ hdE (wk σ a) (wk σ b)) : Un σ a b none := ⟨1, by rw [unT, if_neg h1, if_neg h2, if_neg h3]⟩
theorem Un.kids {σ : Sub} {a b : Nd} {r : Option Sub} (h1 : (wk σ a).k ≠ 1) (h2 : (wk σ b).k ≠ 1) (h3 : hdE (wk σ a) (wk σ b)) (h4 : UnF σ (wk σ a).f (wk σ b).f r) : Un σ a b r := by
  obtain ⟨N, h4⟩ := h4
  exact ⟨N + 1, by rw [unT, if_neg h1, if_neg h2, if_pos h3]; exact h4⟩
theorem UnF.nil (σ : Sub) : UnF σ .nil .nil (some σ) := ⟨0, rfl⟩
theorem UnF.no {σ : Sub} {k n : Int} {s : ByteArray} {f rest : Fr} {k' n' : Int} {s' : ByteArray} {f' rest' : Fr} (h : Un σ ⟨k, n, s, f⟩ ⟨k', n', s', f'⟩ none) : UnF σ (.cons k n s f rest) (.cons k' n' s' f' rest') none := by
  obtain ⟨N, h⟩ := h
  exact ⟨N, by rw [unRow, h]⟩
theorem UnF.cons {σ σ' : Sub} {k n : Int} {s : ByteArray} {f rest : Fr} {k' n' : Int} {s' : ByteArray} {f' rest' : Fr} {r : Option Sub} (h : Un σ ⟨k, n, s, f⟩ ⟨k', n', s', f'⟩ (some σ')) (h2 : UnF σ' rest rest' r) : UnF σ (.cons k n s f rest) (.cons k' n' s' f' rest') r := by
  obtain ⟨N, h⟩ := h
  obtain ⟨M, h2⟩ := h2
  refine ⟨max N M, ?_⟩
  rw [unRow, unT_le (Nat.le_max_left N M) h]
  exact UnF.up (Nat.le_max_right N M) h2
end Go.Proofs.YtohkpgpcipjpkaaGreatDoor

/- Unification: what it leaves where it succeeds; terms that stand for the same are unified without bindings. No condition. -/
namespace Go.Proofs.YtohkpgpcipjpkaaGreatDoor
open Go.RowKit

theorem fin_cons (v : Int) (m : Nd) (σ : Sub) (a : Nd) : suN (fin ((v, m) :: σ)) a = suN (one v (suN (fin σ) m)) (suN (fin σ) a) := (suN_comp (fin σ) (one v (suN (fin σ) m)) a).symm
/-- What stood for the same does so behind more bindings. -/
theorem keep_eq (l : Sub) : ∀ (σ : Sub) (a b : Nd), suN (fin σ) a = suN (fin σ) b → suN (fin (l ++ σ)) a = suN (fin (l ++ σ)) b := by
  induction l with
  | nil => intro σ a b h; exact h
  | cons p l ih =>
    intro σ a b h
    obtain ⟨v, m⟩ := p
    show suN (fin ((v, m) :: (l ++ σ))) a = suN (fin ((v, m) :: (l ++ σ))) b
    rw [fin_cons, fin_cons, ih σ a b h]
theorem suF_comp' (v : Int) (m : Nd) (σ : Sub) (f : Fr) : suF (fin ((v, m) :: σ)) f = suF (one v (suN (fin σ) m)) (suF (fin σ) f) := (su_comp (fin σ) (one v (suN (fin σ) m)) f).symm
theorem keep_eqF (l : Sub) : ∀ (σ : Sub) (f g : Fr), suF (fin σ) f = suF (fin σ) g → suF (fin (l ++ σ)) f = suF (fin (l ++ σ)) g := by
  induction l with
  | nil => intro σ f g h; exact h
  | cons p l ih =>
    intro σ f g h
    obtain ⟨v, m⟩ := p
    show suF (fin ((v, m) :: (l ++ σ))) f = suF (fin ((v, m) :: (l ++ σ))) g
    rw [suF_comp', suF_comp', ih σ f g h]
theorem suN_var {σ : Sub} {m : Nd} (h : m.k = 1) : suN (fin σ) m = fin σ m.n := by unfold suN; rw [if_pos h]
theorem suN_str {σ : Sub} {m : Nd} (h : m.k ≠ 1) : suN (fin σ) m = ⟨m.k, m.n, m.s, suF (fin σ) m.f⟩ := by unfold suN; rw [if_neg h]
/-- One binding more. -/
theorem bind_ok {σ : Sub} {v : Int} {m : Nd} (h : Ok2 σ) (hv : lk σ v = none) (hm : wvN m) (ho : ¬ occN (suN (fin σ) m) v) (hk : m.k = 1 → lk σ m.n = none) : Ok2 ((v, m) :: σ) ∧ suN (fin ((v, m) :: σ)) (vNd v) = suN (fin ((v, m) :: σ)) m := by
  have h2 : Ok2 ((v, m) :: σ) := ⟨hv, hm, ho, hk, h⟩
  refine ⟨h2, ?_⟩
  have e : suN (fin ((v, m) :: σ)) (vNd v) = fin ((v, m) :: σ) v := suN_var rfl
  rw [e]
  exact h2.inv.bound v m (lk_same σ v m)
theorem wv_var {m : Nd} (h : wvN m) (hk : m.k = 1) : m = vNd m.n := by unfold wvN at h; rwa [if_pos hk] at h
theorem wvF_of {m : Nd} (h : wvN m) (hk : m.k ≠ 1) : wvF m.f := by unfold wvN at h; rwa [if_neg hk] at h
/-- What success leaves. -/
def UnOk (σ σ' : Sub) : Prop := Ok2 σ' ∧ ∃ l, σ' = l ++ σ
theorem UnOk.refl {σ : Sub} (h : Ok2 σ) : UnOk σ σ := ⟨h, [], rfl⟩
theorem UnOk.trans {σ σ' σ'' : Sub} (h : UnOk σ σ') (h' : UnOk σ' σ'') : UnOk σ σ'' := by
  obtain ⟨_, l, rfl⟩ := h
  obtain ⟨h2, l', rfl⟩ := h'
  exact ⟨h2, l' ++ l, by rw [List.append_assoc]⟩
theorem good_all (N : Nat) : ∀ (σ : Sub) (a b : Nd) (σ' : Sub), unT N σ a b = some (some σ') → Ok2 σ → wvN a → wvN b → UnOk σ σ' ∧ suN (fin σ') a = suN (fin σ') b := by
  induction N with
  | zero => intro σ a b σ' h; cases h
  | succ N ih =>
    have row : ∀ (f : Fr) (σ : Sub) (g : Fr) (σ' : Sub), unRow (unT N) σ f g = some (some σ') → f.len = g.len → Ok2 σ → wvF f → wvF g → UnOk σ σ' ∧ suF (fin σ') f = suF (fin σ') g := by
      intro f
      induction f with
      | nil =>
        intro σ g σ' h hl hσ _ _
        cases g with
        | nil => injection h with h; injection h with h; subst h; exact ⟨.refl hσ, rfl⟩
        | cons => simp [Fr.len] at hl
      | cons k n s f rest _ ihr =>
        intro σ g σ' h hl hσ hf hg
        cases g with
        | nil => simp [Fr.len] at hl
        | cons k' n' s' f' rest' =>
          simp only [unRow] at h
          cases hu : unT N σ ⟨k, n, s, f⟩ ⟨k', n', s', f'⟩ with
          | none => rw [hu] at h; cases h
          | some o =>
            rw [hu] at h
            cases o with
            | none => cases h
            | some σ1 =>
              obtain ⟨u1, e1⟩ := ih σ _ _ σ1 hu hσ hf.1 hg.1
              obtain ⟨u2, e2⟩ := ihr σ1 rest' σ' h (by simpa [Fr.len] using hl) u1.1 hf.2 hg.2
              refine ⟨u1.trans u2, ?_⟩
              obtain ⟨_, l, rfl⟩ := u2
              have e3 := keep_eq l σ1 _ _ e1
              rw [suF_cons, suF_cons, e3, e2]
    intro σ a b σ' h hσ ha hb
    have wa := wk_wv σ a hσ ha
    have wb := wk_wv σ b hσ hb
    have ea := wk_end σ a hσ
    have eb := wk_end σ b hσ
    have fa := wk_fin σ a hσ
    have fb := wk_fin σ b hσ
    rw [unT] at h
    split at h
    · next h1 =>
      split at h
      · next h2 =>
        injection h with h; injection h with h; subst h
        refine ⟨.refl hσ, ?_⟩
        rw [← fa, ← fb, suN_var h1, suN_var h2.1, h2.2]
      · next h2 =>
        split at h
        · cases h
        · next h3 =>
          injection h with h; injection h with h; subst h
          have hl : lk σ (wk σ a).n = none := by rcases ea with h | h; exact absurd h1 h; exact h
          obtain ⟨k1, k2⟩ := bind_ok hσ hl wb h3 fun hk => by rcases eb with h | h; exact absurd hk h; exact h
          rw [← wv_var wa h1] at k2
          refine ⟨⟨k1, [_], rfl⟩, ?_⟩
          have e1 := keep_eq [((wk σ a).n, wk σ b)] σ _ _ fa
          have e2 := keep_eq [((wk σ a).n, wk σ b)] σ _ _ fb
          exact e1.symm.trans (k2.trans e2)
    · next h1 =>
      split at h
      · next h2 =>
        split at h
        · cases h
        · next h3 =>
          injection h with h; injection h with h; subst h
          have hl : lk σ (wk σ b).n = none := by rcases eb with h | h; exact absurd h2 h; exact h
          obtain ⟨k1, k2⟩ := bind_ok hσ hl wa h3 fun hk => absurd hk h1
          rw [← wv_var wb h2] at k2
          refine ⟨⟨k1, [_], rfl⟩, ?_⟩
          have e1 := keep_eq [((wk σ b).n, wk σ a)] σ _ _ fa
          have e2 := keep_eq [((wk σ b).n, wk σ a)] σ _ _ fb
          exact e1.symm.trans (k2.symm.trans e2)
      · next h2 =>
        split at h
        · next h3 =>
          obtain ⟨k1, k2⟩ := row _ σ _ σ' h h3.2.2.2 hσ (wvF_of wa h1) (wvF_of wb h2)
          refine ⟨k1, ?_⟩
          obtain ⟨_, l, rfl⟩ := k1
          have e1 := keep_eq l σ _ _ fa
          have e2 := keep_eq l σ _ _ fb
          rw [← e1, ← e2, suN_str h1, suN_str h2, k2, h3.1, h3.2.1, h3.2.2.1]
        · cases h
theorem Un.good {σ σ' : Sub} {a b : Nd} (h : Un σ a b (some σ')) (hσ : Ok2 σ) (ha : wvN a) (hb : wvN b) : UnOk σ σ' ∧ suN (fin σ') a = suN (fin σ') b := by
  obtain ⟨N, h⟩ := h
  exact good_all N σ a b σ' h hσ ha hb
/-- Terms that stand for the same are unified without bindings. -/
theorem same_all (σ : Sub) (hσ : Ok2 σ) (N : Nat) : (∀ a b : Nd, wvN a → wvN b → 1 + nodes (suN (fin σ) a).f ≤ N → suN (fin σ) a = suN (fin σ) b → Un σ a b (some σ)) ∧
    (∀ f g : Fr, wvF f → wvF g → nodes (suF (fin σ) f) ≤ N → suF (fin σ) f = suF (fin σ) g → UnF σ f g (some σ)) := by
  induction N with
  | zero =>
    refine ⟨fun a b _ _ h => by omega, fun f g hf hg h e => ?_⟩
    cases f with
    | nil =>
      cases g with
      | nil => exact .nil σ
      | cons => have := congrArg Fr.len e; rw [suF_len, suF_len] at this; simp [Fr.len] at this
    | cons => rw [suF_cons] at h; simp [nodes] at h
  | succ N ih =>
    have P : ∀ a b : Nd, wvN a → wvN b → 1 + nodes (suN (fin σ) a).f ≤ N + 1 → suN (fin σ) a = suN (fin σ) b → Un σ a b (some σ) := by
      intro a b ha hb hN e
      have wa := wk_wv σ a hσ ha
      have wb := wk_wv σ b hσ hb
      have ea := wk_end σ a hσ
      have eb := wk_end σ b hσ
      have fa := wk_fin σ a hσ
      have fb := wk_fin σ b hσ
      have e' : suN (fin σ) (wk σ a) = suN (fin σ) (wk σ b) := fa.trans (e.trans fb.symm)
      by_cases h1 : (wk σ a).k = 1
      · have hl : lk σ (wk σ a).n = none := by rcases ea with h | h; exact absurd h1 h; exact h
        have e1 : suN (fin σ) (wk σ a) = vNd (wk σ a).n := by rw [suN_var h1, hσ.inv.free _ hl]
        by_cases h2 : (wk σ b).k = 1
        · have hl2 : lk σ (wk σ b).n = none := by rcases eb with h | h; exact absurd h2 h; exact h
          have e2 : suN (fin σ) (wk σ b) = vNd (wk σ b).n := by rw [suN_var h2, hσ.inv.free _ hl2]
          rw [e1, e2] at e'
          injection e' with _ e3
          exact .same h1 h2 e3
        · rw [e1, suN_str h2] at e'
          injection e' with e3
          exact absurd e3.symm h2
      · by_cases h2 : (wk σ b).k = 1
        · have hl2 : lk σ (wk σ b).n = none := by rcases eb with h | h; exact absurd h2 h; exact h
          have e2 : suN (fin σ) (wk σ b) = vNd (wk σ b).n := by rw [suN_var h2, hσ.inv.free _ hl2]
          rw [e2, suN_str h1] at e'
          injection e' with e3
          exact absurd e3 h1
        · rw [suN_str h1, suN_str h2] at e'
          injection e' with q1 q2 q3 q4
          have hlen : (wk σ a).f.len = (wk σ b).f.len := by have := congrArg Fr.len q4; rwa [suF_len, suF_len] at this
          refine .kids h1 h2 ⟨q1, q2, q3, hlen⟩ (ih.2 _ _ (wvF_of wa h1) (wvF_of wb h2) ?_ q4)
          rw [← fa, suN_str h1] at hN
          have hN' : 1 + nodes (suF (fin σ) (wk σ a).f) ≤ N + 1 := hN
          omega
    refine ⟨P, ?_⟩
    intro f
    induction f with
    | nil =>
      intro g _ _ _ e
      cases g with
      | nil => exact .nil σ
      | cons => have := congrArg Fr.len e; rw [suF_len, suF_len] at this; simp [Fr.len] at this
    | cons k n s kids rest _ ihr =>
      intro g hf hg hN e
      cases g with
      | nil => have := congrArg Fr.len e; rw [suF_len, suF_len] at this; simp [Fr.len] at this
      | cons k' n' s' kids' rest' =>
        rw [suF_cons, suF_cons] at e
        rw [suF_cons] at hN
        simp only [nodes] at hN
        injection e with e1 e2 e3 e4 e5
        have eN : suN (fin σ) ⟨k, n, s, kids⟩ = suN (fin σ) ⟨k', n', s', kids'⟩ := by
          have hx : ∀ x y : Nd, x.k = y.k → x.n = y.n → x.s = y.s → x.f = y.f → x = y := by
            rintro ⟨_, _, _, _⟩ ⟨_, _, _, _⟩ h1 h2 h3 h4
            simp only at h1 h2 h3 h4
            subst h1 h2 h3 h4
            rfl
          exact hx _ _ e1 e2 e3 e4
        exact .cons (P _ _ hf.1 hg.1 (by omega) eN) (ihr rest' hf.2 hg.2 (by omega) e5)
theorem un_same {σ : Sub} (hσ : Ok2 σ) {f g : Fr} (hf : wvF f) (hg : wvF g) (e : suF (fin σ) f = suF (fin σ) g) : UnF σ f g (some σ) := (same_all σ hσ _).2 f g hf hg (Nat.le_refl _) e
end Go.Proofs.YtohkpgpcipjpkaaGreatDoor

/- Unification: which variables a node stands for, by steps along the bindings. No condition. -/
namespace Go.Proofs.YtohkpgpcipjpkaaGreatDoor
open Go.RowKit

/-- v is reached from x along the bindings. -/
inductive Rch (σ : Sub) (v : Int) : Int → Prop where
  | here : lk σ v = none → Rch σ v v
  | step (x y : Int) (t : Nd) : lk σ x = some t → occN t y → Rch σ v y → Rch σ v x
theorem rch_occ {σ : Sub} (hi : Inv σ) {v x : Int} (h : Rch σ v x) : occN (fin σ x) v := by
  induction h with
  | here h => rw [hi.free v h, occN_var]
  | step x y t h1 h2 _ ih =>
    rw [hi.bound x t h1, occ_suN]
    exact ⟨y, h2, ih⟩
theorem occF_nodes (τ : Int → Nd) (f : Fr) (y : Int) (h : occF f y) : 1 + nodes (τ y).f ≤ nodes (suF τ f) := by
  induction f with
  | nil => exact h.elim
  | cons k n s kids rest ihk ihr =>
    rcases h with h | h
    · by_cases hk : k = 1
      · subst hk
        rw [if_pos rfl] at h
        subst h
        simp only [suF, if_true, nodes]
        omega
      · rw [if_neg hk] at h
        simp only [suF, if_neg hk, nodes]
        have := ihk h
        omega
    · have := ihr h
      rw [suF_cons]
      simp only [nodes]
      omega
theorem occ_rch {σ : Sub} (hσ : Ok2 σ) {v : Int} (hv : lk σ v = none) : ∀ (N M : Nat) (x : Int), nodes (fin σ x).f ≤ N → wl σ (vNd x) ≤ M → occN (fin σ x) v → Rch σ v x := by
  intro N
  induction N with
  | zero =>
    intro M
    induction M with
    | zero =>
      intro x hN hM h
      cases hx : lk σ x with
      | none =>
        rw [hσ.inv.free x hx, occN_var] at h
        subst h
        exact .here hv
      | some t =>
        have := (wk_step σ (vNd x) t hσ rfl hx).2
        omega
    | succ M ihM =>
      intro x hN hM h
      cases hx : lk σ x with
      | none =>
        rw [hσ.inv.free x hx, occN_var] at h
        subst h
        exact .here hv
      | some t =>
        have hst := (wk_step σ (vNd x) t hσ rfl hx).2
        have hb := hσ.inv.bound x t hx
        by_cases hk : t.k = 1
        · have hwv := wv_var (hσ.inv.wvb x t hx) hk
          have e : fin σ x = fin σ t.n := by rw [hb, suN_var hk]
          rw [e] at h hN
          rw [hwv] at hst
          exact .step x t.n t hx (by rw [hwv, occN_var]; rfl) (ihM t.n hN (by omega) h)
        · rw [hb, suN_str hk] at hN
          rw [hb, occ_suN] at h
          obtain ⟨y, hy, hyv⟩ := h
          have hy' : occF t.f y := by unfold occN at hy; rwa [if_neg hk] at hy
          have := occF_nodes (fin σ) t.f y hy'
          have hN' : nodes (suF (fin σ) t.f) ≤ 0 := hN
          omega
  | succ N ihN =>
    intro M
    induction M with
    | zero =>
      intro x hN hM h
      cases hx : lk σ x with
      | none =>
        rw [hσ.inv.free x hx, occN_var] at h
        subst h
        exact .here hv
      | some t =>
        have := (wk_step σ (vNd x) t hσ rfl hx).2
        omega
    | succ M ihM =>
      intro x hN hM h
      cases hx : lk σ x with
      | none =>
        rw [hσ.inv.free x hx, occN_var] at h
        subst h
        exact .here hv
      | some t =>
        have hst := (wk_step σ (vNd x) t hσ rfl hx).2
        have hb := hσ.inv.bound x t hx
        by_cases hk : t.k = 1
        · have hwv := wv_var (hσ.inv.wvb x t hx) hk
          have e : fin σ x = fin σ t.n := by rw [hb, suN_var hk]
          rw [e] at h hN
          rw [hwv] at hst
          exact .step x t.n t hx (by rw [hwv, occN_var]; rfl) (ihM t.n hN (by omega) h)
        · rw [hb, suN_str hk] at hN
          rw [hb, occ_suN] at h
          obtain ⟨y, hy, hyv⟩ := h
          have hy' : occF t.f y := by unfold occN at hy; rwa [if_neg hk] at hy
          have := occF_nodes (fin σ) t.f y hy'
          have hN' : nodes (suF (fin σ) t.f) ≤ N + 1 := hN
          exact .step x y t hx hy (ihN _ y (by omega) (Nat.le_refl _) hyv)
/-- A free variable occurs in what a node stands for, if and only if it is reached. -/
theorem occ_iff {σ : Sub} (hσ : Ok2 σ) {v : Int} (hv : lk σ v = none) (m : Nd) : occN (suN (fin σ) m) v ↔ ∃ x, occN m x ∧ Rch σ v x := by
  rw [occ_suN]
  constructor
  · rintro ⟨x, h1, h2⟩
    exact ⟨x, h1, occ_rch hσ hv _ _ x (Nat.le_refl _) (Nat.le_refl _) h2⟩
  · rintro ⟨x, h1, h2⟩
    exact ⟨x, h1, rch_occ hσ.inv h2⟩
/-- x is settled by the seen variables: it is seen, or free and not v. -/
def Stl (σ : Sub) (v : Int) (S : List Int) (x : Int) : Prop := x ∈ S ∨ (lk σ x = none ∧ x ≠ v)
/-- What is seen beyond S0 is bound, and leads only to what is settled. -/
def Closed (σ : Sub) (v : Int) (S0 S : List Int) : Prop := ∀ y ∈ S, y ∉ S0 → ∃ t, lk σ y = some t ∧ ∀ z, occN t z → Stl σ v S z
theorem stl_more {σ : Sub} {v : Int} {S S' : List Int} (h : ∀ x ∈ S, x ∈ S') {x : Int} (hx : Stl σ v S x) : Stl σ v S' x := by
  rcases hx with hx | hx
  · exact .inl (h x hx)
  · exact .inr hx
theorem closed_trans {σ : Sub} {v : Int} {S0 S1 S2 : List Int} (h1 : Closed σ v S0 S1) (h2 : Closed σ v S1 S2) (hs : ∀ x ∈ S1, x ∈ S2) : Closed σ v S0 S2 := by
  intro y hy hy0
  by_cases h : y ∈ S1
  · obtain ⟨t, ht, hz⟩ := h1 y h hy0
    exact ⟨t, ht, fun z hzz => stl_more hs (hz z hzz)⟩
  · exact h2 y hy h
/-- Nothing that is settled by a closed set reaches v. -/
theorem closed_no {σ : Sub} {v : Int} {S : List Int} (hv : lk σ v = none) (h : Closed σ v [] S) {x : Int} (hr : Rch σ v x) : ¬ Stl σ v S x := by
  induction hr with
  | here h0 =>
    rintro (hx | ⟨_, hx⟩)
    · obtain ⟨t, ht, _⟩ := h v hx (by simp)
      rw [hv] at ht; cases ht
    · exact hx rfl
  | step x y t h1 h2 _ ih =>
    rintro (hx | ⟨hx, _⟩)
    · obtain ⟨t', ht', hz⟩ := h x hx (by simp)
      rw [h1] at ht'
      injection ht' with ht'
      subst ht'
      exact ih (hz y h2)
    · rw [h1] at hx; cases hx
end Go.Proofs.YtohkpgpcipjpkaaGreatDoor

/- Unification: induction along the bindings; how many bindings there can be; the measure of unification. No condition. -/
namespace Go.Proofs.YtohkpgpcipjpkaaGreatDoor
open Go.RowKit

/-- Induction along the bindings: what holds of a variable if it holds of all the variables of the node that it is bound to. -/
theorem sub_ind {σ : Sub} (hσ : Ok2 σ) {P : Int → Prop} (h : ∀ x, (∀ t y, lk σ x = some t → occN t y → P y) → P x) : ∀ x, P x := by
  have main : ∀ (N M : Nat) (x : Int), nodes (fin σ x).f ≤ N → wl σ (vNd x) ≤ M → P x := by
    intro N
    induction N with
    | zero =>
      intro M
      induction M with
      | zero =>
        intro x _ hM
        refine h x fun t y ht _ => ?_
        have := (wk_step σ (vNd x) t hσ rfl ht).2
        omega
      | succ M ihM =>
        intro x hN hM
        refine h x fun t y ht hy => ?_
        have hst := (wk_step σ (vNd x) t hσ rfl ht).2
        have hb := hσ.inv.bound x t ht
        by_cases hk : t.k = 1
        · have hwv := wv_var (hσ.inv.wvb x t ht) hk
          have hyt : y = t.n := by unfold occN at hy; rwa [if_pos hk] at hy
          have e : fin σ x = fin σ t.n := by rw [hb, suN_var hk]
          rw [e] at hN
          rw [hwv] at hst
          rw [hyt]
          exact ihM t.n hN (by omega)
        · rw [hb, suN_str hk] at hN
          have hy' : occF t.f y := by unfold occN at hy; rwa [if_neg hk] at hy
          have := occF_nodes (fin σ) t.f y hy'
          have hN' : nodes (suF (fin σ) t.f) ≤ 0 := hN
          omega
    | succ N ihN =>
      intro M
      induction M with
      | zero =>
        intro x _ hM
        refine h x fun t y ht _ => ?_
        have := (wk_step σ (vNd x) t hσ rfl ht).2
        omega
      | succ M ihM =>
        intro x hN hM
        refine h x fun t y ht hy => ?_
        have hst := (wk_step σ (vNd x) t hσ rfl ht).2
        have hb := hσ.inv.bound x t ht
        by_cases hk : t.k = 1
        · have hwv := wv_var (hσ.inv.wvb x t ht) hk
          have hyt : y = t.n := by unfold occN at hy; rwa [if_pos hk] at hy
          have e : fin σ x = fin σ t.n := by rw [hb, suN_var hk]
          rw [e] at hN
          rw [hwv] at hst
          rw [hyt]
          exact ihM t.n hN (by omega)
        · rw [hb, suN_str hk] at hN
          have hy' : occF t.f y := by unfold occN at hy; rwa [if_neg hk] at hy
          have := occF_nodes (fin σ) t.f y hy'
          have hN' : nodes (suF (fin σ) t.f) ≤ N + 1 := hN
          exact ihN _ y (by omega) (Nat.le_refl _)
  exact fun x => main _ _ x (Nat.le_refl _) (Nat.le_refl _)
/-- The variables that are bound. -/
def keysS (σ : Sub) : List Int := σ.map (·.1)
theorem lk_key : ∀ (σ : Sub) (x : Int), lk σ x = none ↔ x ∉ keysS σ
  | [], x => ⟨fun _ h => (by simp [keysS] at h), fun _ => rfl⟩
  | (v, m) :: σ, x => by
    by_cases e : x = v
    · subst e
      rw [lk_same]
      exact ⟨fun h => (by cases h), fun h => (h (by simp [keysS])).elim⟩
    · rw [lk_other _ _ _ _ e, lk_key σ x]
      simp only [keysS, List.map_cons, List.mem_cons, e, false_or]
theorem Ok2.nodup : ∀ {σ : Sub}, Ok2 σ → (keysS σ).Nodup
  | [], _ => List.nodup_nil
  | (v, m) :: σ, ⟨h1, _, _, _, h5⟩ => by
    rw [keysS, List.map_cons, List.nodup_cons]
    exact ⟨(lk_key σ v).1 h1, h5.nodup⟩
/-- The variables of a row, of a node, and all that are bound, are from 0 on and below B. -/
def InB (B : Nat) (x : Int) : Prop := 0 ≤ x ∧ x < B
def BiS (B : Nat) (σ : Sub) : Prop := ∀ v m, (v, m) ∈ σ → InB B v ∧ ∀ y, occN m y → InB B y
theorem BiS.keys {B : Nat} {σ : Sub} (h : BiS B σ) : ∀ x ∈ keysS σ, 0 ≤ x ∧ x < B := by
  intro x hx
  obtain ⟨⟨v, m⟩, hp, rfl⟩ := List.mem_map.1 hx
  exact (h v m hp).1
theorem BiS.len {B : Nat} {σ : Sub} (h : BiS B σ) (hσ : Ok2 σ) : σ.length ≤ B := by
  have := nodup_len B (keysS σ) hσ.nodup h.keys
  simpa [keysS] using this
theorem BiS.cons {B : Nat} {σ : Sub} (h : BiS B σ) {v : Int} {m : Nd} (hv : InB B v) (hm : ∀ y, occN m y → InB B y) : BiS B ((v, m) :: σ) := by
  intro v' m' hp
  rcases List.mem_cons.1 hp with hp | hp
  · injection hp with e1 e2
    subst e1 e2
    exact ⟨hv, hm⟩
  · exact h v' m' hp
/-- Walking stays among the bounded variables. -/
theorem wk_bd {B : Nat} : ∀ (σ : Sub) (m : Nd), BiS B σ → (∀ y, occN m y → InB B y) → ∀ y, occN (wk σ m) y → InB B y
  | [], _, _, hm => hm
  | (v, t) :: σ, m, h, hm => by
    have h' : BiS B σ := fun v' m' hp => h v' m' (List.mem_cons_of_mem _ hp)
    by_cases hc : (wk σ m).k = 1 ∧ (wk σ m).n = v
    · simp only [wk, if_pos hc]
      exact (h v t (List.mem_cons_self ..)).2
    · simp only [wk, if_neg hc]
      exact wk_bd σ m h' hm
theorem occ_var {m : Nd} (h : m.k = 1) : occN m m.n := by unfold occN; rw [if_pos h]
theorem occ_kids {m : Nd} (h : m.k ≠ 1) (y : Int) : occN m y ↔ occF m.f y := by unfold occN; rw [if_neg h]
/-- What is unified stays among the bounded variables. -/
theorem unT_bd {B : Nat} (N : Nat) : ∀ (σ : Sub) (a b : Nd) (σ' : Sub), unT N σ a b = some (some σ') → BiS B σ → (∀ y, occN a y → InB B y) → (∀ y, occN b y → InB B y) → BiS B σ' := by
  induction N with
  | zero => intro σ a b σ' h; cases h
  | succ N ih =>
    have row : ∀ (f : Fr) (σ : Sub) (g : Fr) (σ' : Sub), unRow (unT N) σ f g = some (some σ') → BiS B σ → (∀ y, occF f y → InB B y) → (∀ y, occF g y → InB B y) → BiS B σ' := by
      intro f
      induction f with
      | nil =>
        intro σ g σ' h hσ _ _
        cases g with
        | nil => injection h with h; injection h with h; subst h; exact hσ
        | cons => injection h with h; injection h with h; subst h; exact hσ
      | cons k n s f rest _ ihr =>
        intro σ g σ' h hσ hf hg
        cases g with
        | nil => injection h with h; injection h with h; subst h; exact hσ
        | cons k' n' s' f' rest' =>
          simp only [unRow] at h
          cases hu : unT N σ ⟨k, n, s, f⟩ ⟨k', n', s', f'⟩ with
          | none => rw [hu] at h; cases h
          | some o =>
            rw [hu] at h
            cases o with
            | none => cases h
            | some σ1 =>
              have h1 := ih σ _ _ σ1 hu hσ (fun y hy => hf y (.inl hy)) fun y hy => hg y (.inl hy)
              exact ihr σ1 rest' σ' h h1 (fun y hy => hf y (.inr hy)) fun y hy => hg y (.inr hy)
    intro σ a b σ' h hσ ha hb
    have wa := wk_bd σ a hσ ha
    have wb := wk_bd σ b hσ hb
    rw [unT] at h
    split at h
    · next h1 =>
      split at h
      · injection h with h; injection h with h; subst h; exact hσ
      · split at h
        · cases h
        · injection h with h; injection h with h; subst h
          exact hσ.cons (wa _ (occ_var h1)) wb
    · next h1 =>
      split at h
      · next h2 =>
        split at h
        · cases h
        · injection h with h; injection h with h; subst h
          exact hσ.cons (wb _ (occ_var h2)) wa
      · next h2 =>
        split at h
        · exact row _ σ _ σ' h hσ (fun y hy => wa y ((occ_kids h1 y).2 hy)) fun y hy => wb y ((occ_kids h2 y).2 hy)
        · cases h
/-- There is an answer wherever at most K variables can still be bound and the first term stands for at most S nodes. -/
def EndsAt (B K S : Nat) : Prop := ∀ (σ : Sub) (a b : Nd), Ok2 σ → BiS B σ → B ≤ σ.length + K → wvN a → wvN b → (∀ y, occN a y → InB B y) → (∀ y, occN b y → InB B y) →
    1 + nodes (suN (fin σ) a).f ≤ S → ∃ r, Un σ a b r
theorem un_bd {B : Nat} {σ σ' : Sub} {a b : Nd} (h : Un σ a b (some σ')) (hσ : BiS B σ) (ha : ∀ y, occN a y → InB B y) (hb : ∀ y, occN b y → InB B y) : BiS B σ' := by
  obtain ⟨N, h⟩ := h
  exact unT_bd N σ a b σ' h hσ ha hb
theorem ends_row {B K S : Nat} (h1 : ∀ K', K' < K → ∀ S, EndsAt B K' S) (h2 : EndsAt B K S) (σ0 : Sub) (h0 : B ≤ σ0.length + K) :
    ∀ (f : Fr) (σ : Sub) (g : Fr), f.len = g.len → Ok2 σ → BiS B σ → wvF f → wvF g → (∀ y, occF f y → InB B y) → (∀ y, occF g y → InB B y) →
      (σ = σ0 ∧ nodes (suF (fin σ) f) ≤ S) ∨ σ0.length < σ.length → ∃ r, UnF σ f g r := by
  intro f
  induction f with
  | nil =>
    intro σ g hl _ _ _ _ _ _ _
    cases g with
    | nil => exact ⟨_, .nil σ⟩
    | cons => simp [Fr.len] at hl
  | cons k n s f rest _ ihr =>
    intro σ g hl hσ hd hf hg bf bg hc
    cases g with
    | nil => simp [Fr.len] at hl
    | cons k' n' s' f' rest' =>
      have hhead : ∃ r, Un σ ⟨k, n, s, f⟩ ⟨k', n', s', f'⟩ r := by
        rcases hc with ⟨rfl, hc⟩ | hc
        · rw [suF_cons] at hc
          simp only [nodes] at hc
          exact h2 σ _ _ hσ hd h0 hf.1 hg.1 (fun y hy => bf y (.inl hy)) (fun y hy => bg y (.inl hy)) (by omega)
        · have := hd.len hσ
          exact h1 (K - 1) (by omega) _ σ _ _ hσ hd (by omega) hf.1 hg.1 (fun y hy => bf y (.inl hy)) (fun y hy => bg y (.inl hy)) (Nat.le_refl _)
      obtain ⟨r, hr⟩ := hhead
      cases r with
      | none => exact ⟨none, .no hr⟩
      | some σ1 =>
        obtain ⟨u1, _⟩ := hr.good hσ hf.1 hg.1
        have hd1 := un_bd hr hd (fun y hy => bf y (.inl hy)) fun y hy => bg y (.inl hy)
        obtain ⟨k1, l, hl1⟩ := u1
        have hc1 : (σ1 = σ0 ∧ nodes (suF (fin σ1) rest) ≤ S) ∨ σ0.length < σ1.length := by
          cases l with
          | nil =>
            have e : σ1 = σ := hl1
            subst e
            rcases hc with ⟨e0, hc⟩ | hc
            · rw [suF_cons] at hc
              simp only [nodes] at hc
              exact .inl ⟨e0, by omega⟩
            · exact .inr hc
          | cons p l =>
            have e : σ1.length = l.length + 1 + σ.length := by rw [hl1]; simp; omega
            right
            rcases hc with ⟨e0, _⟩ | hc
            · rw [e0] at e; omega
            · omega
        obtain ⟨r, hr2⟩ := ihr σ1 rest' (by simpa [Fr.len] using hl) k1 hd1 hf.2 hg.2 (fun y hy => bf y (.inr hy)) (fun y hy => bg y (.inr hy)) hc1
        exact ⟨r, .cons hr hr2⟩
theorem ends_step {B K S : Nat} (h1 : ∀ K', K' < K → ∀ S, EndsAt B K' S) (h2 : EndsAt B K S) : EndsAt B K (S + 1) := by
  intro σ a b hσ hd hK ha hb ba bb hS
  have wa := wk_wv σ a hσ ha
  have wb := wk_wv σ b hσ hb
  have fa := wk_fin σ a hσ
  have va := wk_bd σ a hd ba
  have vb := wk_bd σ b hd bb
  by_cases c1 : (wk σ a).k = 1
  · by_cases c2 : (wk σ b).k = 1 ∧ (wk σ a).n = (wk σ b).n
    · exact ⟨_, .same c1 c2.1 c2.2⟩
    · by_cases c3 : occN (suN (fin σ) (wk σ b)) (wk σ a).n
      · exact ⟨_, .leftNo c1 c2 c3⟩
      · exact ⟨_, .left c1 c2 c3⟩
  · by_cases c2 : (wk σ b).k = 1
    · by_cases c3 : occN (suN (fin σ) (wk σ a)) (wk σ b).n
      · exact ⟨_, .rightNo c1 c2 c3⟩
      · exact ⟨_, .right c1 c2 c3⟩
    · by_cases c3 : hdE (wk σ a) (wk σ b)
      · rw [← fa, suN_str c1] at hS
        have hS' : 1 + nodes (suF (fin σ) (wk σ a).f) ≤ S + 1 := hS
        obtain ⟨r, hr⟩ := ends_row h1 h2 σ hK (wk σ a).f σ (wk σ b).f c3.2.2.2 hσ hd (wvF_of wa c1) (wvF_of wb c2) (fun y hy => va y ((occ_kids c1 y).2 hy)) (fun y hy => vb y ((occ_kids c2 y).2 hy)) (.inl ⟨rfl, by omega⟩)
        exact ⟨r, .kids c1 c2 c3 hr⟩
      · exact ⟨_, .headNo c1 c2 c3⟩
/-- Unification ends. -/
theorem un_ends (B K : Nat) : ∀ S, EndsAt B K S := by
  induction K using Nat.strongRecOn with
  | _ K ih =>
    intro S
    induction S with
    | zero => intro σ a b _ _ _ _ _ _ _ h; omega
    | succ S ihS => exact ends_step ih ihS
end Go.Proofs.YtohkpgpcipjpkaaGreatDoor

/- Unification: the work list of spec.l3Within, as plain data. No condition. -/
namespace Go.Proofs.YtohkpgpcipjpkaaGreatDoor
open Go.RowKit

theorem addV_iff (a : List Int) (n x : Int) : x ∈ addV a n ↔ x ∈ a ∨ x = n := by
  unfold addV
  by_cases h : n ∈ a
  · rw [if_pos (by simpa using h)]
    constructor
    · exact .inl
    · rintro (h1 | rfl)
      · exact h1
      · exact h
  · rw [if_neg (by simpa using h)]
    simp
theorem varsF_iff (f : Fr) : ∀ (a : List Int) (x : Int), x ∈ varsF a f ↔ x ∈ a ∨ occF f x := by
  induction f with
  | nil => intro a x; simp [varsF, occF]
  | cons k n s kids rest ihk ihr =>
    intro a x
    simp only [varsF, occF]
    by_cases hk : k = 1
    · rw [if_pos hk, if_pos hk, ihr, addV_iff, or_assoc]
    · rw [if_neg hk, if_neg hk, ihr, ihk, or_assoc]
theorem varsT_iff (a : List Int) (m : Nd) (x : Int) : x ∈ varsT a m.k m.n m.f ↔ x ∈ a ∨ occN m x := by
  unfold varsT occN
  by_cases hk : m.k = 1
  · rw [if_pos hk, if_pos hk, addV_iff]
  · rw [if_neg hk, if_neg hk, varsF_iff]
/-- The work list V of looking for v in m, looked at up to i. -/
structure Wrk (σ : Sub) (v : Int) (m : Nd) (V : List Int) (i : Nat) : Prop where
  from_ : ∀ x ∈ V, Rch σ v x → ∃ y, occN m y ∧ Rch σ v y
  has : ∀ y, occN m y → y ∈ V
  seen : ∀ j, j < i → ∀ x, V[j]? = some x → x ≠ v ∧ ∀ t, lk σ x = some t → ∀ z, occN t z → z ∈ V
theorem Wrk.start (σ : Sub) (v : Int) (m : Nd) : Wrk σ v m (varsT [] m.k m.n m.f) 0 :=
  ⟨fun x hx hr => ⟨x, by simpa using (varsT_iff [] m x).1 hx, hr⟩, fun y hy => (varsT_iff [] m y).2 (.inr hy), fun j hj => absurd hj (Nat.not_lt_zero j)⟩
/-- A free variable is looked at. -/
theorem Wrk.free {σ : Sub} {v : Int} {m : Nd} {V : List Int} {i : Nat} (h : Wrk σ v m V i) {x : Int} (hx : V[i]? = some x) (hv : x ≠ v) (hl : lk σ x = none) : Wrk σ v m V (i + 1) := by
  refine ⟨h.from_, h.has, fun j hj y hy => ?_⟩
  rcases Nat.lt_or_ge j i with hj' | hj'
  · exact h.seen j hj' y hy
  · have e : j = i := by omega
    subst e
    rw [hx] at hy
    injection hy with hy
    subst hy
    exact ⟨hv, fun t ht => by rw [hl] at ht; cases ht⟩
/-- A bound variable is looked at. -/
theorem Wrk.bound {σ : Sub} {v : Int} {m : Nd} {V : List Int} {i : Nat} (h : Wrk σ v m V i) {x : Int} {t : Nd} (hx : V[i]? = some x) (hv : x ≠ v) (hl : lk σ x = some t) : Wrk σ v m (varsT V t.k t.n t.f) (i + 1) := by
  have hin : ∀ {z : Int}, z ∈ V → z ∈ varsT V t.k t.n t.f := fun hz => (varsT_iff V t _).2 (.inl hz)
  have hxV : x ∈ V := List.mem_of_getElem? hx
  refine ⟨fun y hy hr => ?_, fun y hy => hin (h.has y hy), fun j hj y hy => ?_⟩
  · rcases (varsT_iff V t y).1 hy with hy | hy
    · exact h.from_ y hy hr
    · exact h.from_ x hxV (.step x y t hl hy hr)
  · have hjV : j < V.length := by
      have := (List.getElem?_eq_some_iff.1 hx).1
      omega
    have hy' : V[j]? = some y := by
      obtain ⟨l, hl2⟩ := varsT_pre V t.k t.n t.f
      rw [← hl2, List.getElem?_append_left hjV] at hy
      exact hy
    rcases Nat.lt_or_ge j i with hj' | hj'
    · obtain ⟨h1, h2⟩ := h.seen j hj' y hy'
      exact ⟨h1, fun t' ht' z hz => hin (h2 t' ht' z hz)⟩
    · have e : j = i := by omega
      subst e
      rw [hx] at hy'
      injection hy' with hy'
      subst hy'
      refine ⟨hv, fun t' ht' z hz => ?_⟩
      rw [hl] at ht'
      injection ht' with ht'
      subst ht'
      exact (varsT_iff V t z).2 (.inr hz)
theorem Wrk.found {σ : Sub} (hσ : Ok2 σ) {v : Int} (hf : lk σ v = none) {m : Nd} {V : List Int} {i : Nat} (h : Wrk σ v m V i) (hx : V[i]? = some v) : occN (suN (fin σ) m) v :=
  (occ_iff hσ hf m).2 (h.from_ v (List.mem_of_getElem? hx) (.here hf))
theorem Wrk.done {σ : Sub} (hσ : Ok2 σ) {v : Int} (hf : lk σ v = none) {m : Nd} {V : List Int} {i : Nat} (h : Wrk σ v m V i) (hi : V.length ≤ i) : ¬ occN (suN (fin σ) m) v := by
  intro ho
  obtain ⟨y, hy, hr⟩ := (occ_iff hσ hf m).1 ho
  have key : ∀ x, Rch σ v x → x ∈ V → False := by
    intro x hr
    induction hr with
    | here _ =>
      intro hx
      obtain ⟨j, hj⟩ := List.getElem?_of_mem hx
      have hjl := (List.getElem?_eq_some_iff.1 hj).1
      exact (h.seen j (by omega) v hj).1 rfl
    | step x y t h1 h2 _ ih =>
      intro hx
      obtain ⟨j, hj⟩ := List.getElem?_of_mem hx
      have hjl := (List.getElem?_eq_some_iff.1 hj).1
      exact ih ((h.seen j (by omega) x hj).2 t h1 y h2)
  exact key y hr (h.has y hy)
end Go.Proofs.YtohkpgpcipjpkaaGreatDoor

/- AnswerGoals: what both answer; rows of bindings by append out of terms that lie in memory. No condition. -/
namespace Go.Proofs.YtohkpgpcipjpkaaGreatDoor
open Go.RowKit

/-- All terms of the row are valid once their variables are replaced. -/
def agV (ns : List Int) (g : Fr) : Fr → Bool
  | .nil => true
  | .cons k n s kids rest => vtB (apT ns g k n s kids) && agV ns g rest
def agB (f g : Fr) : Bool := goalsV f && (decide ((varsF [] f).length = g.len) && (allB g && agV (varsF [] f) g f))
def agR (f g : Fr) : Fr := if agB f g = true then apF (varsF [] f) g f else .nil
theorem agV_cons (ns : List Int) (g : Fr) (k n : Int) (s : ByteArray) (kids rest : Fr) : agV ns g (.cons k n s kids rest) = (vtB (apT ns g k n s kids) && agV ns g rest) := rfl
theorem ag_not {f g : Fr} (h : agB f g = false) : agR f g = .nil := by unfold agR; rw [h]; rfl
theorem ag_yes {f g : Fr} (h : agB f g = true) : agR f g = apF (varsF [] f) g f := by unfold agR; rw [h]; rfl
theorem ag_bad1 {f g : Fr} (h : goalsV f = false) : agB f g = false := by unfold agB; rw [h]; rfl
theorem ag_bad2 {f g : Fr} (h : ¬ (varsF [] f).length = g.len) : agB f g = false := by unfold agB; rw [decide_eq_false h]; simp
theorem ag_bad3 {f g : Fr} (h : allB g = false) : agB f g = false := by unfold agB; rw [h]; simp
theorem ag_bad4 {f g : Fr} (h : agV (varsF [] f) g f = false) : agB f g = false := by unfold agB; rw [h]; simp
theorem ag_good {f g : Fr} (h1 : goalsV f = true) (h2 : (varsF [] f).length = g.len) (h3 : allB g = true) (h4 : agV (varsF [] f) g f = true) : agB f g = true := by unfold agB; rw [h1, decide_eq_true h2, h3, h4]; rfl
/-- What AnswerGoals leaves. -/
def AgRes (w : World) (f g : Fr) (e : Ending) (w' : World) : Prop := ∃ A c, e = .returned (.tuple #[.slice A (agR f g).len c, .bool (agB f g)]) ∧ Made w (agR f g) A c w'
theorem ag_no {w w' : World} {f g : Fr} (h : agB f g = false) (hb : Below w.heap.size w w') : AgRes w f g (.returned (.tuple #[.slice none 0 0, .bool false])) w' := by
  unfold AgRes
  rw [ag_not h, h]
  exact ⟨none, 0, rfl, made_nil hb⟩
theorem ag_no2 {w w' : World} {f g : Fr} (h : agB f g = false) (hb : Below w.heap.size w w') : AgRes w f g (.returned (.tuple #[.slice (some ⟨w'.heap.size, 0, none⟩) 0 0, .bool false])) (w'.alloc (.cells #[] 44)) := by
  unfold AgRes
  rw [ag_not h, h]
  exact ⟨_, 0, rfl, (RowP.empty (w := w') (base := w'.heap.size) (Nat.le_refl _)).done (f := .nil) (w0 := w) (hb.alloc hb.size _) hb.size⟩

/-- The cells xs are the rows ns and f, whose terms' arguments lie in memory at w0. -/
def DescO (w0 : World) : List Int → Fr → List Value → Prop
  | [], .nil, xs => xs = []
  | n0 :: ns, .cons k n s kids rest, xs => ∃ (A : Option Addr) (cap : Nat) (ys : List Value), xs = .int .i64 n0 :: .int .i64 k :: .int .i64 n :: .string s :: .slice A kids.len cap :: ys ∧ InI n0 ∧ Fits k n s ∧ KidsAt w0 0 w0.heap.size kids A cap ∧ DescO w0 ns rest ys
  | _, _, _ => False
section
variable {w0 w w' : World}
theorem DescO.snoc {n1 k n : Int} {s : ByteArray} {kids : Fr} {A : Option Addr} {cap : Nat} (h1 : InI n1) (hf : Fits k n s) (hs : KidsAt w0 0 w0.heap.size kids A cap) :
    ∀ (ns : List Int) (f : Fr) (xs : List Value), DescO w0 ns f xs → DescO w0 (ns ++ [n1]) (f.app (.cons k n s kids .nil)) (xs ++ [.int .i64 n1, .int .i64 k, .int .i64 n, .string s, .slice A kids.len cap])
  | [], .nil, _, h => by
    obtain rfl := h
    exact ⟨A, cap, [], rfl, h1, hf, hs, rfl⟩
  | n0 :: ns, .cons k' n' s' kids' rest', _, h => by
    obtain ⟨A', cap', ys, rfl, h0, hf', ho, hd⟩ := h
    exact ⟨A', cap', _, rfl, h0, hf', ho, DescO.snoc h1 hf hs ns rest' ys hd⟩
  | [], .cons _ _ _ _ _, _, h => h.elim
  | _ :: _, .nil, _, h => h.elim
theorem DescO.at_ {g : Nat} (hb : Below w0.heap.size w0 w) : ∀ (ns : List Int) (f : Fr) (xs : List Value) (o : Nat), DescO w0 ns f xs → (∀ j u, xs[j]? = some u → w.cell? ⟨g, o + j, none⟩ = some u) → BdAt w 0 w.heap.size ns f g o
  | [], .nil, _, _, _, _ => trivial
  | n0 :: ns, .cons k n s kids rest, _, o, h, hc => by
    obtain ⟨A, cap, ys, rfl, h0, hf, ho, hd⟩ := h
    refine ⟨h0, hf, ⟨A, cap, ⟨hc 0 _ rfl, hc 1 _ rfl, hc 2 _ rfl, hc 3 _ rfl, hc 4 _ rfl⟩, (ho.below hb (Nat.le_refl _)).more (Nat.le_refl _) hb.size⟩, DescO.at_ hb ns rest ys (o + 5) hd fun j u hu => ?_⟩
    have := hc (j + 5) u (by simpa using hu)
    rwa [show o + (j + 5) = o + 5 + j by omega] at this
  | [], .cons _ _ _ _ _, _, _, h, _ => h.elim
  | _ :: _, .nil, _, _, h, _ => h.elim
theorem DescO.len : ∀ (ns : List Int) (f : Fr) (xs : List Value), DescO w0 ns f xs → ns.length = f.len
  | [], .nil, _, _ => rfl
  | n0 :: ns, .cons k n s kids rest, _, h => by
    obtain ⟨A, cap, ys, rfl, h0, hf, ho, hd⟩ := h
    simp only [List.length_cons, Fr.len, DescO.len ns rest ys hd]
  | [], .cons _ _ _ _ _, _, h => h.elim
  | _ :: _, .nil, _, h => h.elim
variable {base : Nat} {v : Value} {ns : List Int} {f : Fr}
end
theorem take_snoc {ns : List Int} {j : Nat} (h : j < ns.length) : ns.take (j + 1) = ns.take j ++ [ns.getD j 0] := by
  rw [List.take_add_one, List.getElem?_eq_getElem h]
  simp [List.getD, List.getElem?_eq_getElem h]
theorem occ_shape (f : Fr) : ∀ (d y : Int), shapeF f d = true → occF f y → 0 ≤ y ∧ y ≤ 25 := by
  induction f with
  | nil => intro d y _ h; exact h.elim
  | cons k n s kids rest ihk ihr =>
    intro d y h ho
    rw [shapeF_cons, Bool.and_eq_true] at h
    rcases (occF_cons k n s kids rest y).1 ho with ho | ho
    · unfold occN at ho
      by_cases hk : k = 1
      · subst hk
        rw [if_pos rfl] at ho
        obtain ⟨_, _, hn⟩ := shapeT_var h.1
        simp only at ho
        omega
      · rw [if_neg hk] at ho
        exact ihk (d - 1) y (shapeT_kids h.1) ho
    · exact ihr d y h.2 ho
theorem allG_shape (f : Fr) : allG f = true → shapeF f 30 = true := by
  induction f with
  | nil => intro _; rfl
  | cons k n s kids rest _ ihr =>
    intro h
    have h2 : goalV k n s kids = true ∧ allG rest = true := by simpa [allG] using h
    rw [shapeF_cons, ihr h2.2]
    have h3 := h2.1
    unfold goalV at h3
    rw [Bool.and_eq_true] at h3
    rw [(validT_fits h3.1).1]
    rfl
theorem goals_all {f : Fr} (h : goalsV f = true) : allG f = true := by
  unfold goalsV at h
  rw [Bool.and_eq_true] at h
  exact h.2
/-- The variables of a query are in range. -/
theorem qv_range {f : Fr} (h : goalsV f = true) {y : Int} (hy : y ∈ varsF [] f) : 0 ≤ y ∧ y ≤ 25 := by
  rcases (varsF_iff f [] y).1 hy with h1 | h1
  · cases h1
  · exact occ_shape f 30 y (allG_shape f (goals_all h)) h1
theorem getD_mem {ns : List Int} {j : Nat} (h : j < ns.length) : ns.getD j 0 ∈ ns := by
  rw [List.getD, List.getElem?_eq_getElem h]
  exact List.getElem_mem h
end Go.Proofs.YtohkpgpcipjpkaaGreatDoor

/- spec.TermSame. Condition: the terms lie in memory. -/
namespace Go.Proofs.YtohkpgpcipjpkaaGreatDoor
open Go.RowKit

end Go.Proofs.YtohkpgpcipjpkaaGreatDoor

/- What every law's walk shares. No condition. -/
namespace Go.Proofs.YtohkpgpcipjpkaaGreatDoor
open Go.RowKit

theorem nodes_le_wt (f : Fr) : nodes f ≤ f.len + wt f := by
  induction f with
  | nil => exact Nat.le_refl _
  | cons k n s kids rest h1 h2 => simp only [nodes, Fr.len, wt]; omega
theorem kids_of_made {w w' : World} {f : Fr} {A : Option Addr} {cap : Nat} (h : Made w f A cap w') : KidsAt w' w.heap.size w'.heap.size f A cap ∧ Below w.heap.size w w' := by
  obtain ⟨L, ho, _, hL, hb⟩ := h
  exact ⟨ho.kids hL, hb⟩

end Go.Proofs.YtohkpgpcipjpkaaGreatDoor

/- spec.l3Match. Condition: the terms and the table lie in memory; the terms are well-formed. -/
namespace Go.Proofs.YtohkpgpcipjpkaaGreatDoor
open Go.RowKit

/-- What l3Match leaves. -/
def MsRes (w : World) (lo hi g : Nat) (r : Option St) (e : Ending) (w' : World) : Prop :=
  Wrote [g] w w' ∧ ((∃ st', r = some st' ∧ e = .returned (.bool true) ∧ KnS w' lo hi g st') ∨ (r = none ∧ e = .returned (.bool false)))
theorem shapeT_fits {k n : Int} {s : ByteArray} {f : Fr} {d : Int} (h : shapeT k n s f d = true) : Fits k n s ∧ (-999 ≤ n ∧ n ≤ 999) := by
  have hk := shapeT_kind h
  by_cases h3 : k = 3
  · subst h3
    obtain ⟨rfl, hnm, _, _⟩ := shapeT_struct h
    exact ⟨⟨by omega, by omega, by have := nameB_size hnm; unfold maxLen; omega⟩, by omega⟩
  · obtain ⟨rfl, _, hn⟩ := shapeT_leaf h h3
    exact ⟨⟨by omega, by omega, by unfold maxLen; simp [ByteArray.size]⟩, hn⟩
theorem MsRes.no {w w' : World} {lo hi g : Nat} {r : Option St} (hw : Wrote [g] w w') (hr : r = none) : MsRes w lo hi g r (.returned (.bool false)) w' := ⟨hw, .inr ⟨hr, rfl⟩⟩
theorem two_boxes (w : World) (a b : Array Value) : Below w.heap.size w ((w.alloc (.cells a 44)).alloc (.cells b 44)) ∧ Blk ((w.alloc (.cells a 44)).alloc (.cells b 44)) w.heap.size 44 a ∧ Blk ((w.alloc (.cells a 44)).alloc (.cells b 44)) (w.heap.size + 1) 44 b := by
  refine ⟨two_alloc w _ _, (Blk.new w _ _).alloc _, ?_⟩
  have h := Blk.new (w.alloc (.cells a 44)) 44 b
  simpa using h

end Go.Proofs.YtohkpgpcipjpkaaGreatDoor

/- A map of nodes as impl holds it; impl.alike. Condition: the nodes lie in memory and are well-formed. -/
namespace Go.Proofs.YtohkpgpcipjpkaaGreatDoor
open Go.RowKit Go.Maps

/-- A node as an element of a map: held as it is. -/
def heldR (v : Value) : Option (DataW Value × List MemPlace) := some (.held v, [])
theorem heldR_inv {v u : Value} {ps : List MemPlace} {z : DataW Value} (h : heldR v = some (z, ps)) (hz : z = .held u) : v = u := by
  unfold heldR at h
  subst hz
  injection h with h
  injection h with h _
  injection h
theorem zeroN (w : World) : (zeroValue 65).run Tryz.prog w = .ok .nilIface w := by kernel_rfl
theorem lawN : Keyed Tryz.prog 63 := int_keyed Tryz.underlying63
/-- The map in block mb holds the nodes of what st knows. -/
def MpS (w : World) (lo hi mb : Nat) (st : St) : Prop := ∃ D : DataW Value, w.ownsMap Tryz.prog 63 heldR mb st.length D ∧ IsMap D ∧ (∀ n, has D (.int .i64 n) = (lkS st n).isSome) ∧
  ∀ n m, lkS st n = some m → shapeT m.k m.n m.s m.f 30 = true ∧ ∃ v, D.atKey (.int .i64 n) (.held .nilIface) = .held v ∧ NdV w lo hi m.k m.n m.s m.f v
theorem MpS.wrote {w w' : World} {lo hi mb : Nat} {st : St} {L : List Nat} (h : MpS w lo hi mb st) (hb : Wrote L w w') (hg : mb ∉ L) (hh : hi ≤ w.heap.size) (hL : ∀ x ∈ L, hi ≤ x) : MpS w' lo hi mb st := by
  obtain ⟨D, hD, h1, h2, h3⟩ := h
  have hlt := hD.lt
  obtain ⟨es, clock, he, r⟩ := hD
  refine ⟨D, ⟨es, clock, (hb.block mb hlt hg).trans he, r⟩, h1, h2, fun n m hm => ?_⟩
  obtain ⟨a, v, b, c⟩ := h3 n m hm
  exact ⟨a, v, b, c.keep (fun p _ hp => hb.cell (by omega) fun e => by have := hL _ e; omega) (Nat.le_refl _) (Nat.le_refl _)⟩
theorem MpS.below {w w' : World} {lo hi mb : Nat} {st : St} (h : MpS w lo hi mb st) (hb : Below w.heap.size w w') (hh : hi ≤ w.heap.size) : MpS w' lo hi mb st := h.wrote (.of_below hb []) (by simp) hh (by simp)
theorem MpS.lt {w : World} {lo hi mb : Nat} {st : St} (h : MpS w lo hi mb st) : mb < w.heap.size := by
  obtain ⟨D, hD, _⟩ := h
  exact hD.lt
/-- One more. -/
theorem MpS.put {w w1 : World} {lo hi mb : Nat} {st : St} {D : DataW Value} {n : Int} {m : Nd} {v : Value} (h1 : IsMap D) (h2 : ∀ n, has D (.int .i64 n) = (lkS st n).isSome)
    (h3 : ∀ n m, lkS st n = some m → shapeT m.k m.n m.s m.f 30 = true ∧ ∃ v, D.atKey (.int .i64 n) (.held .nilIface) = .held v ∧ NdV w lo hi m.k m.n m.s m.f v) (hm : hi ≤ mb) (hh : hi ≤ w.heap.size)
    (hD : w1.ownsMap Tryz.prog 63 heldR mb (st.length + 1) (D.put (.int .i64 n) (.held v))) (hg : w.grownBy w1 (some mb)) (hs : shapeT m.k m.n m.s m.f 30 = true) (hv : NdV w lo hi m.k m.n m.s m.f v) : MpS w1 lo hi mb ((n, m) :: st) := by
  have far : ∀ p : Addr, lo ≤ p.block → p.block < hi → w1.cell? p = w.cell? p := fun p _ hp => World.cell?_of_block (hg.block p.block (by omega) (by simp; omega))
  refine ⟨_, hD, h1.put _ _, fun x => ?_, fun x o ho => ?_⟩
  · by_cases e : x = n
    · subst e
      rw [has_put_same h1 (show WideAt.IsKeyLit (.int .i64 x) from trivial), lkS_same]; rfl
    · rw [has_put_other (fun h => e (by injection h)), lkS_other _ _ _ _ e, h2]
  · by_cases e : x = n
    · subst e
      rw [lkS_same] at ho
      injection ho with ho
      subst ho
      exact ⟨hs, v, atKey_put_same h1 (show WideAt.IsKeyLit (.int .i64 x) from trivial) _ _, hv.keep far (Nat.le_refl _) (Nat.le_refl _)⟩
    · rw [lkS_other _ _ _ _ e] at ho
      obtain ⟨a, u, b, c⟩ := h3 x o ho
      exact ⟨a, u, (atKey_put_other (fun h => e (by injection h)) _ _).trans b, c.keep far (Nat.le_refl _) (Nat.le_refl _)⟩

end Go.Proofs.YtohkpgpcipjpkaaGreatDoor

/- budget.fits, impl.validTermOf. Condition: the nodes lie in memory; their names and numbers are right. -/
namespace Go.Proofs.YtohkpgpcipjpkaaGreatDoor
open Go.RowKit

/-- The node's own fields are such as nodes have, whatever the limits. -/
def wfT (k n : Int) (s : ByteArray) (len : Nat) : Bool :=
  (k == 1 && (decide (-9223372036854775808 ≤ n) && decide (n ≤ 9223372036854775807) && noName s && (len == 0))) || (k == 2 && (decide (-999 ≤ n) && decide (n ≤ 999) && noName s && (len == 0))) || (k == 3 && ((n == 0) && nv.nameB s.data.toList))
def wfF : Fr → Bool
  | .nil => true
  | .cons k n s kids rest => (wfT k n s kids.len && wfF kids) && wfF rest
theorem wfF_cons (k n : Int) (s : ByteArray) (kids rest : Fr) : wfF (.cons k n s kids rest) = ((wfT k n s kids.len && wfF kids) && wfF rest) := rfl
theorem wfT_leaf {k n : Int} {s : ByteArray} {f : Fr} (h : wfT k n s f.len = true) (hk : k ≠ 3) : s = ⟨#[]⟩ ∧ f = .nil ∧ (-9223372036854775808 ≤ n ∧ n ≤ 9223372036854775807) ∧ (k = 2 → -999 ≤ n ∧ n ≤ 999) := by
  unfold wfT at h
  simp only [Bool.and_eq_true, Bool.or_eq_true, decide_eq_true_eq, beq_iff_eq] at h
  have hf : f.len = 0 → f = .nil := fun h0 => by
    cases f with
    | nil => rfl
    | cons _ _ _ _ _ => simp [Fr.len] at h0
  rcases h with (⟨h0, ⟨⟨h1, h2⟩, h3⟩, h4⟩ | ⟨h0, ⟨⟨h1, h2⟩, h3⟩, h4⟩) | ⟨h, _⟩
  · exact ⟨noName_eq h3, hf h4, by omega, by omega⟩
  · exact ⟨noName_eq h3, hf h4, by omega, by omega⟩
  · exact absurd h hk
theorem wfT_three {n : Int} {s : ByteArray} {l : Nat} (h : wfT 3 n s l = true) : n = 0 ∧ nv.nameB s.data.toList = true := by
  unfold wfT at h
  simp only [Bool.and_eq_true, Bool.or_eq_true, decide_eq_true_eq, beq_iff_eq] at h
  rcases h with (⟨h, _⟩ | ⟨h, _⟩) | ⟨_, h1, h2⟩
  · omega
  · omega
  · exact ⟨h1, h2⟩
theorem okT_var (n d left : Int) (h0 : 0 < left) (hd : d ≤ 30) : okT 1 n ⟨#[]⟩ .nil d left = (decide (0 ≤ n) && decide (n ≤ 25)) := by
  unfold okT shapeT ownB
  rw [decide_eq_true (show (1 : Int) ≤ 31 - d by omega), decide_eq_true (show ((nodes .nil : Nat) : Int) + 1 ≤ left by show (0 : Int) + 1 ≤ left; omega)]
  rw [show (noName ⟨#[]⟩) = true from rfl, show (Fr.nil.len == 0) = true from rfl, show shapeF .nil (31 - d - 1) = true from rfl]
  simp
theorem okT_num (n d left : Int) (h0 : 0 < left) (hd : d ≤ 30) (h1 : -999 ≤ n) (h2 : n ≤ 999) : okT 2 n ⟨#[]⟩ .nil d left = true := by
  unfold okT shapeT ownB
  rw [decide_eq_true (show (1 : Int) ≤ 31 - d by omega), decide_eq_true (show ((nodes .nil : Nat) : Int) + 1 ≤ left by show (0 : Int) + 1 ≤ left; omega)]
  rw [show (noName ⟨#[]⟩) = true from rfl, show (Fr.nil.len == 0) = true from rfl, show shapeF .nil (31 - d - 1) = true from rfl, decide_eq_true h1, decide_eq_true h2]
  simp
theorem okT_none (k n : Int) (s : ByteArray) (f : Fr) (d left : Int) (h : 30 < d ∨ left = 0) : okT k n s f d left = false := by
  unfold okT shapeT
  rcases h with h | h
  · rw [decide_eq_false (show ¬ (1 : Int) ≤ 31 - d by omega)]; rfl
  · subst h
    rw [decide_eq_false (show ¬ (nodes f : Int) + 1 ≤ 0 by omega)]; simp

/-- What fits leaves. -/
def FtRes (w : World) (mb : Nat) (ok : Bool) (l : Int) (e : Ending) (w' : World) : Prop :=
  e = .returned (.bool ok) ∧ w.grownBy w' (some mb) ∧ (∃ l', Blk w' mb 121 #[.int .i64 l'] ∧ (ok = true → l' = l))
end Go.Proofs.YtohkpgpcipjpkaaGreatDoor

/- impl.validTermOf. Condition: the nodes lie in memory; their names and numbers are right. -/
namespace Go.Proofs.YtohkpgpcipjpkaaGreatDoor
open Go.RowKit

theorem wfT_shape {k n : Int} {s : ByteArray} {f : Fr} {d : Int} (h : shapeT k n s f d = true) : wfT k n s f.len = true := by
  have hk := shapeT_kind h
  by_cases h3 : k = 3
  · subst h3
    obtain ⟨rfl, hn, _⟩ := shapeT_struct h
    unfold wfT
    rw [hn]; simp
  · obtain ⟨rfl, rfl, hn⟩ := shapeT_leaf h h3
    unfold wfT
    rcases (show k = 1 ∨ k = 2 by omega) with rfl | rfl
    · rw [decide_eq_true (show (-9223372036854775808 : Int) ≤ n by omega), decide_eq_true (show n ≤ 9223372036854775807 by omega)]
      rfl
    · rw [decide_eq_true (show (-999 : Int) ≤ n by omega), decide_eq_true (show n ≤ 999 by omega)]
      rfl
theorem wfF_shape (f : Fr) : ∀ d, shapeF f d = true → wfF f = true := by
  induction f with
  | nil => intro d _; rfl
  | cons k n s kids rest ihk ihr =>
    intro d h
    rw [shapeF_cons, Bool.and_eq_true] at h
    rw [wfF_cons, wfT_shape h.1, ihk (d - 1) (shapeT_kids h.1), ihr d h.2]
    rfl

end Go.Proofs.YtohkpgpcipjpkaaGreatDoor

/- The map of impl.ApplyBinds, and the function that it hands on. Condition: the map holds the nodes of valid terms. -/
namespace Go.Proofs.YtohkpgpcipjpkaaGreatDoor
open Go.RowKit Go.Maps

/-- A node as an element of a map: held as it is. -/
def heldA (v : Value) : Option (DataW Value × List MemPlace) := some (.held v, [])
theorem heldA_inv {v u : Value} {ps : List MemPlace} {z : DataW Value} (h : heldA v = some (z, ps)) (hz : z = .held u) : v = u := by
  unfold heldA at h
  subst hz
  injection h with h
  injection h with h _
  injection h
theorem zeroA (w : World) : (zeroValue 65).run Tryz.prog w = .ok .nilIface w := by kernel_rfl
theorem lawA : Keyed Tryz.prog 63 := int_keyed Tryz.underlying63

theorem NdRowIn.of_range {w : World} {P : Nat → Prop} {lo hi : Nat} (hP : ∀ x, lo ≤ x → x < hi → P x) (f : Fr) : ∀ b o, NdRow w lo hi f b o → NdRowIn w P f b o := by
  induction f with
  | nil => intro b o _; trivial
  | cons k n s kids rest ihk ihr =>
    rintro b o ⟨⟨v, hv, hw⟩, hr⟩
    refine ⟨⟨v, hv, ?_⟩, ihr b (o + 1) hr⟩
    rcases hw with h | h | ⟨h1, A, cap, h2, h3, h4, h5⟩
    · exact .inl h
    · exact .inr (.inl h)
    · refine .inr (.inr ⟨h1, A, cap, h2, h3, h4, fun hp => ?_⟩)
      obtain ⟨b', e, hb, hb2, hrow⟩ := h5 hp
      exact ⟨b', e, hP _ hb hb2, ihk b' 0 hrow⟩
theorem NdVIn.of_range {w : World} {P : Nat → Prop} {lo hi : Nat} (hP : ∀ x, lo ≤ x → x < hi → P x) {k n : Int} {s : ByteArray} {kids : Fr} {v : Value} (h : NdV w lo hi k n s kids v) : NdVIn w P k n s kids v := by
  rcases h with h | h | ⟨h1, A, cap, h2, h3, h4, h5⟩
  · exact .inl h
  · exact .inr (.inl h)
  · refine .inr (.inr ⟨h1, A, cap, h2, h3, h4, fun hp => ?_⟩)
    obtain ⟨b', e, hb, hb2, hrow⟩ := h5 hp
    exact ⟨b', e, hP _ hb hb2, NdRowIn.of_range hP kids b' 0 hrow⟩

/-- The map in block mb holds the nodes of what F knows; these lie behind it, to below hi. -/
def MpA (w : World) (mb hi c : Nat) (F : Int → Option Nd) : Prop := ∃ D : DataW Value, w.ownsMap Tryz.prog 63 heldA mb c D ∧ IsMap D ∧ (∀ n, has D (.int .i64 n) = (F n).isSome) ∧
  ∀ n m, F n = some m → validT m.k m.n m.s m.f = true ∧ ∃ v, D.atKey (.int .i64 n) (.held .nilIface) = .held v ∧ NdV w (mb + 1) hi m.k m.n m.s m.f v
theorem MpA.wrote {w w' : World} {mb hi hi' c : Nat} {F : Int → Option Nd} {L : List Nat} (h : MpA w mb hi c F) (hb : Wrote L w w') (hh : hi ≤ w.heap.size) (hL : ∀ x ∈ L, x < mb ∨ hi ≤ x) (hm : mb < hi) (hH : hi ≤ hi') : MpA w' mb hi' c F := by
  obtain ⟨D, hD, h1, h2, h3⟩ := h
  have hlt := hD.lt
  obtain ⟨es, clock, he, r⟩ := hD
  refine ⟨D, ⟨es, clock, (hb.block mb hlt fun e => by have := hL _ e; omega).trans he, r⟩, h1, h2, fun n m hm => ?_⟩
  obtain ⟨a, v, b, c⟩ := h3 n m hm
  exact ⟨a, v, b, c.keep (fun p hl hp => hb.cell (by omega) fun e => by have := hL _ e; omega) (Nat.le_refl _) hH⟩
theorem MpA.below {w w' : World} {mb hi hi' c : Nat} {F : Int → Option Nd} (h : MpA w mb hi c F) (hb : Below w.heap.size w w') (hh : hi ≤ w.heap.size) (hm : mb < hi) (hH : hi ≤ hi') : MpA w' mb hi' c F := h.wrote (.of_below hb []) hh (by simp) hm hH
def updB (F : Int → Option Nd) (n : Int) (m : Nd) (x : Int) : Option Nd := if x = n then some m else F x
theorem updB_same (F : Int → Option Nd) (n : Int) (m : Nd) : updB F n m n = some m := if_pos rfl
theorem updB_other (F : Int → Option Nd) {n x : Int} (m : Nd) (h : ¬ x = n) : updB F n m x = F x := if_neg h
/-- One more. -/
theorem MpA.put {w w1 : World} {mb hi c : Nat} {F : Int → Option Nd} {D : DataW Value} {n : Int} {m : Nd} {v : Value} (h1 : IsMap D) (h2 : ∀ n, has D (.int .i64 n) = (F n).isSome)
    (h3 : ∀ n m, F n = some m → validT m.k m.n m.s m.f = true ∧ ∃ v, D.atKey (.int .i64 n) (.held .nilIface) = .held v ∧ NdV w (mb + 1) hi m.k m.n m.s m.f v) (hh : hi ≤ w.heap.size)
    (hD : w1.ownsMap Tryz.prog 63 heldA mb (c + 1) (D.put (.int .i64 n) (.held v))) (hg : w.grownBy w1 (some mb)) (hs : validT m.k m.n m.s m.f = true) (hv : NdV w (mb + 1) hi m.k m.n m.s m.f v) : MpA w1 mb w1.heap.size (c + 1) (updB F n m) := by
  have hs1 := hg.size
  have far : ∀ p : Addr, mb + 1 ≤ p.block → p.block < hi → w1.cell? p = w.cell? p := fun p hl hp => World.cell?_of_block (hg.block p.block (by omega) (by simp; omega))
  refine ⟨_, hD, h1.put _ _, fun x => ?_, fun x o ho => ?_⟩
  · by_cases e : x = n
    · subst e
      rw [has_put_same h1 (show WideAt.IsKeyLit (.int .i64 x) from trivial), updB_same]; rfl
    · rw [has_put_other (fun h => e (by injection h)), updB_other F m e, h2]
  · by_cases e : x = n
    · subst e
      rw [updB_same] at ho
      injection ho with ho
      subst ho
      exact ⟨hs, v, atKey_put_same h1 (show WideAt.IsKeyLit (.int .i64 x) from trivial) _ _, hv.keep far (Nat.le_refl _) (by omega)⟩
    · rw [updB_other F m e] at ho
      obtain ⟨a, u, b, c⟩ := h3 x o ho
      exact ⟨a, u, (atKey_put_other (fun h => e (by injection h)) _ _).trans b, c.keep far (Nat.le_refl _) (by omega)⟩

/-- The place of the function's state: the box cb leads to the map mb. -/
def ApI (mb cb hi c : Nat) (F : Int → Option Nd) (w : World) (_ : Unit) (Q : List Nat) : Prop := Q = [] ∧ w.cell? ⟨cb, 0, none⟩ = some (.map (some mb)) ∧ MpA w mb hi c F ∧ hi ≤ w.heap.size
theorem wfF_ap {ns : List Int} {g : Fr} (ha : allB g = true) (f : Fr) : ∀ d, shapeF f d = true → wfF (apF ns g f) = true := by
  induction f with
  | nil => intro d _; rfl
  | cons k n s kids rest ihk ihr =>
    intro d h
    rw [shapeF_cons, Bool.and_eq_true] at h
    rw [apF_cons, wfF_cons, ihr d h.2]
    by_cases hk : k = 1
    · subst hk
      have h3 := (validT_fits (apO_good (ns := ns) ha h.1)).1
      have e : apT ns g 1 n s kids = apO ns g () n := by unfold apT rpT; rw [if_pos rfl]
      rw [e, wfT_shape h3, wfF_shape _ 29 (shapeT_kids h3)]
      rfl
    · rw [apT_other hk]
      show ((wfT k n s (apF ns g kids).len && wfF (apF ns g kids)) && true) = true
      rw [apF_len, wfT_shape h.1, ihk (d - 1) (shapeT_kids h.1)]
      rfl
theorem wf_ap {ns : List Int} {g : Fr} (ha : allB g = true) {k n d : Int} {s : ByteArray} {f : Fr} (h : shapeT k n s f d = true) : wfT (apT ns g k n s f).k (apT ns g k n s f).n (apT ns g k n s f).s (apT ns g k n s f).f.len = true ∧ wfF (apT ns g k n s f).f = true := by
  by_cases hk : k = 1
  · subst hk
    have h3 := (validT_fits (apO_good (ns := ns) ha h)).1
    have e : apT ns g 1 n s f = apO ns g () n := by unfold apT rpT; rw [if_pos rfl]
    rw [e]
    exact ⟨wfT_shape h3, wfF_shape _ 29 (shapeT_kids h3)⟩
  · rw [apT_other hk]
    exact ⟨by show wfT k n s (apF ns g f).len = true; rw [apF_len]; exact wfT_shape h, wfF_ap ha f (d - 1) (shapeT_kids h)⟩
theorem RC.wrote {w wk wl : World} {H : Nat} {L : List Nat} (h : RC w H wk) (hb : Wrote L wk wl) (hL : ∀ x ∈ L, H < x) : RC w H wl :=
  ⟨hb.blk h.1 fun e => by have := hL _ e; omega, h.2.1, h.2.2.trans (hb.below h.2.2.size fun x hx => by have := hL x hx; have := h.2.1; omega)⟩
end Go.Proofs.YtohkpgpcipjpkaaGreatDoor

/- impl.replaceVars, for a function that is handed to it and that is asked of some variables only, and whose state holds nodes that it made (blocks G, which it only reads): impl.resolver's. Condition: the nodes lie in memory and are well-formed; the function meets its contract. -/
namespace Go.Proofs.YtohkpgpcipjpkaaGreatDoor
open Go.RowKit

/-- Blocks of P0 or G, or new ones; none of Q. -/
def Fresh4 (P0 : Nat → Prop) (G : List Nat) (n0 n1 : Nat) (Q : List Nat) (x : Nat) : Prop := (P0 x ∨ x ∈ G ∨ n0 ≤ x) ∧ x < n1 ∧ x ∉ Q

/-- What the handed function kf with the captured values cp is asked: I is its state's place in memory (the state a, written in the blocks Q, only read in the blocks G), P0 the old blocks of what it hands back, Vp the variables that it is asked. -/
structure RepV {α : Type} (kf : Nat) (fs cp : Array Value) (I : World → α → List Nat → List Nat → Prop) (P0 : Nat → Prop) (B : Nat) (Vp : Int → Prop) (sz : α → Nat) (nx : α → Int → α) (out : α → Int → Nd) : Prop where
  keep : ∀ {w w' : World} {a : α} {Q G L : List Nat}, I w a Q G → Wrote L w w' → (∀ x ∈ L, x ∉ Q ∧ x ∉ G ∧ ¬ P0 x) → I w' a Q G
  lt : ∀ {w : World} {a : α} {Q G : List Nat}, I w a Q G → ∀ x, x ∈ Q ∨ x ∈ G → x < w.heap.size
  old : ∀ x, P0 x → x < B
  len : ∀ a n, sz (nx a n) ≤ sz a + 1
  call : ∀ (a : α) (Q G : List Nat) (n : Int) (w : World), I w a Q G → B ≤ w.heap.size → sz a ≤ 2097152 → (0 ≤ n ∧ n ≤ 25) → Vp n →
    Calls Tryz.prog kf (fs.push (.int .i64 n) ++ cp) w fun e w' => ∃ Q' G' v, e = .returned v ∧ I w' (nx a n) Q' G' ∧ Wrote Q w w' ∧ (∀ x ∈ Q', x ∈ Q ∨ w.heap.size ≤ x) ∧ (∀ x ∈ G', x ∈ G ∨ w.heap.size ≤ x) ∧ (∀ x ∈ G, x ∈ G') ∧ NdVIn w' (Fresh4 P0 G' w.heap.size w'.heap.size Q') (out a n).k (out a n).n (out a n).s (out a n).f v

section
variable {α : Type} {kf : Nat} {fs cp : Array Value} {I : World → α → List Nat → List Nat → Prop} {P0 : Nat → Prop} {B : Nat} {Vp : Int → Prop} {sz : α → Nat} {nx : α → Int → α} {out : α → Int → Nd}

theorem RepV.size (H : RepV kf fs cp I P0 B Vp sz nx out) (f : Fr) : ∀ a, sz (stF nx a f) ≤ sz a + nodes f := by
  induction f with
  | nil => intro a; exact Nat.le_refl _
  | cons k n s kids rest ihk ihr =>
    intro a
    simp only [stF, nodes]
    refine Nat.le_trans (ihr _) ?_
    split
    · have := H.len a n; omega
    · have := ihk a; omega
theorem RepV.sizeT (H : RepV kf fs cp I P0 B Vp sz nx out) (a : α) (k n : Int) (f : Fr) : sz (stT nx a k n f) ≤ sz a + 1 + nodes f := by
  unfold stT
  split
  · have := H.len a n; omega
  · have := H.size f a; omega

/-- What replaceVars leaves. -/
def RvRes (I : World → α → List Nat → List Nat → Prop) (P0 : Nat → Prop) (w : World) (Q G : List Nat) (b : α) (m : Nd) (e : Ending) (w' : World) : Prop :=
  ∃ Q' G' v', e = .returned v' ∧ I w' b Q' G' ∧ Wrote Q w w' ∧ (∀ x ∈ Q', x ∈ Q ∨ w.heap.size ≤ x) ∧ (∀ x ∈ G', x ∈ G ∨ w.heap.size ≤ x) ∧ (∀ x ∈ G, x ∈ G') ∧ NdVIn w' (Fresh4 P0 G' w.heap.size w'.heap.size Q') m.k m.n m.s m.f v'
def RvT (kf : Nat) (fs cp : Array Value) (I : World → α → List Nat → List Nat → Prop) (P0 : Nat → Prop) (B : Nat) (Vp : Int → Prop) (sz : α → Nat) (nx : α → Int → α) (out : α → Int → Nd) (s : ByteArray) (f : Fr) : Prop :=
  ∀ (k n d : Int) (v : Value) (lo hi : Nat) (a : α) (Q G : List Nat) (w : World), shapeT k n s f d = true → (∀ y, occN ⟨k, n, s, f⟩ y → Vp y) → NdV w lo hi k n s f v → hi ≤ w.heap.size → (∀ x ∈ Q, hi ≤ x) → I w a Q G → B ≤ w.heap.size → sz a + nodes f ≤ 2097152 →
  Calls Tryz.prog 30 #[v, .func (.func kf) fs cp] w fun e w' => RvRes I P0 w Q G (stT nx a k n f) (rpT nx out a k n s f) e w'

/-- The loop's relation: j kids are replaced; their new row is block g. -/
def RvP (I : World → α → List Nat → List Nat → Prop) (P0 : Nat → Prop) (sz : α → Nat) (nx : α → Int → α) (out : α → Int → Nd) (w : World) (Q G : List Nat) (a : α) (M : Nat) (f : Fr) (hx g : Nat) (cs : Array Value) (j : Nat) (wr : World) : Prop :=
  ∃ (Qj Gj : List Nat), I wr (stF nx a (f.take j)) Qj Gj ∧ sz (stF nx a (f.take j)) + nodes (f.drop j) ≤ M ∧ Wrote Q w wr ∧ (∀ x ∈ Qj, x ∈ Q ∨ w.heap.size ≤ x) ∧ (∀ x ∈ Gj, x ∈ G ∨ w.heap.size ≤ x) ∧ (∀ x ∈ G, x ∈ Gj) ∧ hx ∉ Qj ∧ g ∉ Qj ∧ g ∉ Gj ∧ Blk wr hx 78 cs ∧ (∃ cur, Blk wr g 65 cur ∧ cur.size = f.len) ∧ NdRowIn wr (Fresh4 P0 Gj (g + 1) wr.heap.size Qj) (rpF nx out a (f.take j)) g 0

theorem RvP.step (H : RepV kf fs cp I P0 B Vp sz nx out) {w wr w3 : World} {Q : List Nat} {a : α} {M : Nat} {f : Fr} {hx g : Nat} {cs : Array Value} {j : Nat} {G Qj Gj : List Nat} {k n : Int} {s : ByteArray} {kids : Fr}
    (hd : f.drop j = .cons k n s kids (f.drop (j + 1))) (hj : j < f.len) (hl : sz (stF nx a (f.take j)) + nodes (f.drop j) ≤ M) (hw : Wrote Q w wr) (hn : ∀ x ∈ Qj, x ∈ Q ∨ w.heap.size ≤ x) (hgn : ∀ x ∈ Gj, x ∈ G ∨ w.heap.size ≤ x) (hgm : ∀ x ∈ G, x ∈ Gj) (h1 : hx ∉ Qj) (h2 : g ∉ Qj) (h2g : g ∉ Gj)
    (hb1 : Blk wr hx 78 cs) {cur : Array Value} (hb2 : Blk wr g 65 cur) (hcs : cur.size = f.len) (hgw : w.heap.size ≤ g) (hgx : g ≠ hx) (hB : B ≤ g)
    (hrow : NdRowIn wr (Fresh4 P0 Gj (g + 1) wr.heap.size Qj) (rpF nx out a (f.take j)) g 0) {e : Ending}
    (hr : RvRes I P0 wr Qj Gj (stT nx (stF nx a (f.take j)) k n kids) (rpT nx out (stF nx a (f.take j)) k n s kids) e w3) : ∃ u T z, e = .returned u ∧ u = .iface T z ∧
    RvP I P0 sz nx out w Q G a M f hx g cs (j + 1) (w3.setCell ⟨g, j, none⟩ u) ∧ (∃ u', w3.cell? ⟨g, j, none⟩ = some u') ∧ w3.frozen? ⟨g, j, none⟩ = false := by
  obtain ⟨Q3, G3, u, rfl, hI3, hw3, hn3, hm3, hl3, hnode⟩ := hr
  obtain ⟨T, z, hu⟩ := hnode.iface
  refine ⟨u, T, z, rfl, hu, ?_⟩
  have q1 := hw3.blk hb1 h1
  have q2 := hw3.blk hb2 h2
  have hx3 : ∀ x, x < wr.heap.size → x ∉ Qj → x ∉ Q3 := fun x hx h e => by
    rcases hn3 x e with h' | h'
    · exact h h'
    · omega
  have hvl := H.sizeT (stF nx a (f.take j)) k n kids
  have e1 : nodes (f.drop j) = 1 + nodes kids + nodes (f.drop (j + 1)) := by rw [hd]; rfl
  have g3 := hx3 g hb2.lt h2
  have g3g : g ∉ G3 := fun e => by
    rcases hm3 g e with h' | h'
    · exact h2g h'
    · have := hb2.lt; omega
  have gP : ¬ P0 g := fun h => by have := H.old g h; omega
  have hgl := hb2.lt
  have hs3 := hw3.size
  have hsz : (w3.setCell ⟨g, j, none⟩ u).heap.size = w3.heap.size := by simp [World.setCell]
  have hW : Wrote [g] w3 (w3.setCell ⟨g, j, none⟩ u) := (Wrote.refl _ _).set_ (.inl (by simp)) u
  refine ⟨⟨Q3, G3, ?_, ?_, ?_, ?_, ?_, fun x hx => hl3 x (hgm x hx), hx3 hx hb1.lt h1, g3, g3g, q1.far (p := ⟨g, j, none⟩) (fun e => hgx e.symm) u, ⟨_, q2.set_ j u, by simpa using hcs⟩, ?_⟩, ⟨_, (q2.cell j).trans (Array.getElem?_eq_getElem (by omega))⟩, q2.frozen j⟩
  · rw [stF_take nx j f a hd]
    exact H.keep hI3 hW fun x hx => by simp at hx; subst hx; exact ⟨g3, g3g, gP⟩
  · rw [stF_take nx j f a hd]; omega
  · refine (hw.more_new hw3 fun x hx => ?_).set_ (.inr hgw) u
    exact hn x hx
  · intro x hx
    rcases hn3 x hx with h | h
    · exact hn x h
    · exact .inr (Nat.le_trans hw.size h)
  · intro x hx
    rcases hm3 x hx with h | h
    · exact hgn x h
    · exact .inr (Nat.le_trans hw.size h)
  · rw [hsz, rpF_take nx out j f a hd]
    have hlen : (rpF nx out a (f.take j)).len = j := by rw [rpF_len]; exact Fr.len_take j f (by omega)
    have far : ∀ p : Addr, p.block ≠ g → (w3.setCell ⟨g, j, none⟩ u).cell? p = w3.cell? p := fun p hp => World.cell?_of_block (heap_setCell_other w3 _ p.block u hp)
    have v1 : NdVIn (w3.setCell ⟨g, j, none⟩ u) (Fresh4 P0 G3 (g + 1) w3.heap.size Q3) (rpT nx out (stF nx a (f.take j)) k n s kids).k (rpT nx out (stF nx a (f.take j)) k n s kids).n (rpT nx out (stF nx a (f.take j)) k n s kids).s (rpT nx out (stF nx a (f.take j)) k n s kids).f u := by
      refine hnode.keep (fun p hp => far p fun e => ?_) fun x hx => ⟨?_, hx.2⟩
      · rcases hp.1 with h | h | h
        · exact gP (e ▸ h)
        · exact g3g (e ▸ h)
        · omega
      · rcases hx.1 with h | h | h
        · exact .inl h
        · exact .inr (.inl h)
        · exact .inr (.inr (by omega))
    have v2 : NdRowIn (w3.setCell ⟨g, j, none⟩ u) (Fresh4 P0 G3 (g + 1) w3.heap.size Q3) (rpF nx out a (f.take j)) g 0 := by
      refine NdRowIn.keep (fun p hp => ?_) (fun x hx => ⟨hx.1.imp id (Or.imp (hl3 x) id), by have := hx.2.1; omega, hx3 x hx.2.1 hx.2.2⟩) (rpF nx out a (f.take j)) g 0 (fun i hi => ?_) hrow
      · have hne : p.block ≠ g := fun e => by
          rcases hp.1 with h | h | h
          · exact gP (e ▸ h)
          · exact h2g (e ▸ h)
          · omega
        exact (far p hne).trans (hw3.cell hp.2.1 hp.2.2)
      · rw [hlen] at hi
        rw [World.cell?_setCell_other w3 _ _ _ (fun e => by injection e with _ e _; omega), q2.cell, hb2.cell]
    refine NdRowIn.snoc _ v1 g 0 v2 ?_
    rw [hlen, Nat.zero_add]
    exact World.cell?_setCell_same w3 _ _ ((q2.cell j).trans (Array.getElem?_eq_getElem (by omega)))

set_option maxRecDepth 100000 in
set_option maxHeartbeats 2000000 in
theorem rvT_of (ef : ∀ args w, (callFunc kf args).run Tryz.prog w = .ok (.enter kf args) w) (H : RepV kf fs cp I P0 B Vp sz nx out) (s : ByteArray) (f : Fr) (h : ∀ i k n s kids rest, f.drop i = .cons k n s kids rest → RvT kf fs cp I P0 B Vp sz nx out s kids) : RvT kf fs cp I P0 B Vp sz nx out s f := by
  intro k n d v lo hi a Q G w hs hoc hv hh hQ hI hB hsz
  rcases hv with ⟨rfl, rfl⟩ | ⟨rfl, rfl⟩ | ⟨rfl, A, cap, rfl, hk⟩
  · obtain ⟨rfl, rfl, hn⟩ := shapeT_var hs
    have C1 := H.call a Q G n w hI hB (by simp only [nodes] at hsz; omega) hn (hoc n (by unfold occN; rw [if_pos rfl]))
    have H1 := Lib.hid C1
    clear h hs hI C1
    go_enter Tryz.func30, Tryz.ntmps30
    go_wp2_with fail
    refine H1.out.mono ?_
    rintro e w2 ⟨Q2, G2, v2, rfl, g1, g2, g3, g5, g6, g4⟩
    obtain ⟨T2, z2, rfl⟩ := g4.iface
    have HR : Hid (RvRes I P0 w Q G (stT nx a 1 n .nil) (rpT nx out a 1 n ⟨#[]⟩ .nil) (.returned (.iface T2 z2)) w2) := Lib.hid ⟨Q2, G2, _, rfl, g1, g2, g3, g5, g6, g4⟩
    clear g1 g2 g3 g4 g5 g6 H1
    go_wp2_with fail
    go_ret
    exact HR.out
  · obtain ⟨rfl, rfl, hn⟩ := shapeT_leaf hs (by omega)
    have HR : Hid (RvRes I P0 w Q G (stT nx a 2 n .nil) (rpT nx out a 2 n ⟨#[]⟩ .nil) (.returned (.iface 108 (.int .i64 n))) w) := Lib.hid ⟨Q, G, _, rfl, hI, .refl _ _, fun x h => .inl h, fun x h => .inl h, fun x h => h, .inr (.inl ⟨rfl, rfl⟩)⟩
    clear h hs hI
    go_enter Tryz.func30, Tryz.ntmps30
    go_wp2_with fail
    go_ret
    exact HR.out
  · obtain ⟨rfl, hname, hlen, hsf⟩ := shapeT_struct hs
    have hl := hk.1
    have hm := hk.2.1
    unfold maxLen at hm
    have hqlt := H.lt hI
    have HQ := Lib.hid hQ
    have HST : Hid (∀ w3 xs, w3.ownsRow (w.heap.size + 1) 65 1 (.slice (some ⟨w.heap.size + 1, 0, none⟩) f.len f.len) f.len xs → (w.alloc (.cells #[.string s, .slice A f.len cap] 78)).grownBy w3 none →
        RvP I P0 sz nx out w Q G a (sz a + nodes f) f w.heap.size (w.heap.size + 1) #[.string s, .slice A f.len cap] 0 w3 ∧ w3.cell? ⟨w.heap.size, 1, none⟩ = some (.slice A f.len cap)) := Lib.hid fun w3 xs ho hg => by
      have hb3 : Below w.heap.size w w3 := by
        have h1 : Below w.heap.size w (w.alloc (.cells #[.string s, .slice A f.len cap] 78)) := (Below.refl _ _).alloc (Nat.le_refl _) _
        exact h1.grown hg h1.size fun g hg => by cases hg
      have hq : Blk w3 w.heap.size 78 #[.string s, .slice A f.len cap] := (Blk.new w _ _).keep (hg.block _ (by simp) (by simp))
      have hcur : ∃ cur, Blk w3 (w.heap.size + 1) 65 cur ∧ cur.size = f.len := by
        rcases ho.2 with ⟨h', _⟩ | ⟨g', cap', cur, h', _, hb, _, _, hs, _⟩
        · simp at h'
        · simp only [Value.slice.injEq, Option.some.injEq, Addr.mk.injEq, and_true, true_and] at h'
          obtain ⟨rfl, rfl⟩ := h'
          exact ⟨cur, hb, by simpa using hs⟩
      have e0 : f.take 0 = .nil := by cases f <;> rfl
      refine ⟨⟨Q, G, ?_, ?_, .of_below hb3 _, fun x h => .inl h, fun x h => .inl h, fun x h => h, fun e => by have := hqlt _ (.inl e); omega, fun e => by have := hqlt _ (.inl e); omega, fun e => by have := hqlt _ (.inr e); omega, hq, hcur, ?_⟩, hq.cell 1⟩
      · rw [e0]; exact H.keep hI (.of_below hb3 []) fun x hx => by simp at hx
      · rw [e0]; exact Nat.le_refl _
      · rw [e0]; trivial
    have HQL := Lib.hid hqlt
    have HK := Lib.hid hk
    have HH := Lib.hid h
    have HSF := Lib.hid hsf
    have HSZ := Lib.hid hsz
    have HRC := Lib.hid H
    have HOC := Lib.hid hoc
    have HFN : Hid (∀ (Qj Gj : List Nat) (j : Nat) wr, f.len = j → I wr (stF nx a (f.take j)) Qj Gj → Wrote Q w wr → (∀ x ∈ Qj, x ∈ Q ∨ w.heap.size ≤ x) → (∀ x ∈ Gj, x ∈ G ∨ w.heap.size ≤ x) → (∀ x ∈ G, x ∈ Gj) → w.heap.size + 1 ∉ Qj → w.heap.size + 1 < wr.heap.size → NdRowIn wr (Fresh4 P0 Gj (w.heap.size + 1 + 1) wr.heap.size Qj) (rpF nx out a (f.take j)) (w.heap.size + 1) 0 →
        RvRes I P0 w Q G (stT nx a 3 0 f) (rpT nx out a 3 0 s f) (.returned (.iface 78 (.agg #[.string s, .slice (some ⟨w.heap.size + 1, 0, none⟩) j j]))) wr) := Lib.hid fun Qj Gj j wr hj h1 h2 h3 hg3 hg4 h4 h5 h6 => by
      subst hj
      rw [Fr.take_len] at h1 h6
      have e1 : stT nx a 3 0 f = stF nx a f := by unfold stT; rw [if_neg (by omega)]
      have e2 : rpT nx out a 3 0 s f = ⟨3, 0, s, rpF nx out a f⟩ := by unfold rpT; rw [if_neg (by omega)]
      rw [e1, e2]
      refine ⟨Qj, Gj, _, rfl, h1, h2, h3, hg3, hg4, .inr (.inr ⟨rfl, some ⟨w.heap.size + 1, 0, none⟩, f.len, by rw [rpF_len], by rw [rpF_len]; exact Nat.le_refl _, by unfold maxLen; omega, fun _ => ⟨w.heap.size + 1, rfl, ⟨.inr (.inr (by omega)), h5, h4⟩, ?_⟩⟩)⟩
      exact NdRowIn.keep (fun _ _ => rfl) (fun x hx => ⟨by rcases hx.1 with h | h | h; exact .inl h; exact .inr (.inl h); exact .inr (.inr (by omega)), hx.2⟩) _ _ 0 (fun _ _ => rfl) h6
    generalize hn : f.len = len at *
    have HN := Lib.hid hn
    clear hk h hs hI hname hsf hn hqlt hsz hQ H hoc
    obtain ⟨i0, hi0, hz0, hz1, hz2⟩ := info_parts infoN
    go_enter Tryz.func30, Tryz.ntmps30
    go_wp2_with (at_make; go_must (refine wpList_make_full _ rfl _ _ 51 rfl (w.heap.size + 1) 65 i0 _ 1 Tryz.underlying51 hi0 hz0 hz1 .i64 .i64 _ _ len rfl rfl rfl rfl (by rw [hz2]; omega) (by unfold maxLen; omega) (by simp) ?_); intro w3 hown hgrow; rw [show (w.alloc (.cells #[.string s, .slice A len cap] 78)).heap.size = w.heap.size + 1 by simp] at hown; obtain ⟨hp, x1⟩ := HST.out w3 _ hown hgrow; have HP := Lib.hid hp; clear hp hown hgrow)
    have HWS : Hid (w.heap.size < w3.heap.size) := Lib.hid (by obtain ⟨_, _, _, _, _, _, _, _, _, _, _, hb, _, _⟩ := HP.out; exact hb.lt)
    clear hi0 hz0 hz1 hz2 HST
    go_loopw [27] (fun i wr => ∃ (j : Nat), j ≤ len ∧ i = .int .i64 j ∧ shapeF (f.drop j) (d - 1) = true ∧ (∀ y, occF (f.drop j) y → Vp y) ∧ RvP I P0 sz nx out w Q G a (sz a + nodes f) f w.heap.size (w.heap.size + 1) #[.string s, .slice A len cap] j wr) (fun i _ => len - (intOf i).toNat)
    case atStart => exact ⟨0, Nat.zero_le _, rfl, HSF.out, fun y hy => HOC.out y (by unfold occN; rw [if_neg (show (3 : Int) ≠ 1 by omega)]; exact hy), HP.out⟩
    case round =>
      obtain ⟨j, hj, rfl, hsh, hoj, hp⟩ := hrel
      obtain ⟨Qj, Gj, hIj, hla, hw, hnw, hgn, hgm, hh1, hh2, hhg, hq1, ⟨cur, hq2, hcs⟩, hrw⟩ := hp
      by_cases hlt : j < len
      · obtain ⟨kk, nn, s', kids, hd⟩ := Fr.drop_cons j f (by rw [HN.out]; exact hlt)
        obtain ⟨b, rfl, hlb, hbb, hrow⟩ := HK.out.2.2 (by rw [HN.out]; omega)
        obtain ⟨vv, hcell, hnv⟩ := hrow.elem hd
        rw [Nat.zero_add] at hcell
        rw [hd, shapeF_cons, Bool.and_eq_true] at hsh
        rw [hd] at hoj
        have hkeep : ∀ p : Addr, p.block < hi → wr.cell? p = w.cell? p := fun p hp => hw.cell (by omega) fun e => by have := HQ.out _ e; omega
        have k0 := (hkeep ⟨b, j, none⟩ hbb).trans hcell
        have hnv' := hnv.keep (fun p _ hp => hkeep p hp) (Nat.le_refl _) (Nat.le_refl _)
        have e1 : nodes (f.drop j) = 1 + nodes kids + nodes (f.drop (j + 1)) := by rw [hd]; rfl
        have C1 := HH.out _ _ _ _ _ _ hd kk nn (d - 1) vv lo hi (stF nx a (f.take j)) Qj Gj wr hsh.1 (fun y hy => hoj y (.inl hy)) hnv' (Nat.le_trans hh hw.size) (fun x hx => by
          rcases hnw x hx with h | h
          · exact HQ.out x h
          · omega) hIj (Nat.le_trans hB hw.size) (by have := HSZ.out; omega)
        have STEP := fun (w3 : World) (e : Ending) hr => RvP.step HRC.out (w3 := w3) (e := e) hd (by rw [HN.out]; exact hlt) hla hw hnw hgn hgm hh1 hh2 hhg hq1 hq2 hcs (by omega) (by omega) (by omega) hrw hr
        obtain ⟨T1, z1, rfl⟩ := hnv.iface
        have H1 := Lib.hid C1
        have HSTEP := Lib.hid STEP
        have HS2 := Lib.hid hsh.2
        have HO2 : Hid (∀ y, occF (f.drop (j + 1)) y → Vp y) := Lib.hid fun y hy => hoj y (.inr hy)
        clear C1 STEP hsh hoj hIj hla hw hnw hgn hgm hh1 hh2 hhg hq1 hq2 hcs hrw hd hrow hcell hnv hnv' hkeep e1
        go_wp2_with fail
        refine H1.out.mono ?_
        rintro e w4 h2
        obtain ⟨u, T2, z2, rfl, rfl, hst, ⟨u', y1⟩, yf⟩ := HSTEP.out w4 e h2
        have HNX := Lib.hid hst
        clear h2 hst
        go_wp2_with fail
        go_roundw
        case rel => exact ⟨j + 1, by omega, by go_num, HS2.out, HO2.out, HNX.out⟩
        case measure => simp [intOf]; omega
      · obtain rfl : j = len := by omega
        have HF := Lib.hid (HFN.out Qj Gj j wr rfl hIj hw hnw hgn hgm hh2 hq2.lt hrw)
        have a0 := hq1.cell 0
        simp only [List.getElem?_toArray, List.getElem?_cons_zero] at a0
        clear hIj hla hw hnw hgn hgm hhg hoj hq1 hq2 hcs hsh hh1 hh2 hrw
        go_wp2_with fail
        go_ret
        exact HF.out
theorem rv_all (ef : ∀ args w, (callFunc kf args).run Tryz.prog w = .ok (.enter kf args) w) (H : RepV kf fs cp I P0 B Vp sz nx out) (N : Nat) : ∀ (s : ByteArray) (f : Fr), f.size ≤ N → RvT kf fs cp I P0 B Vp sz nx out s f := by
  induction N with
  | zero =>
    intro s f hf
    refine rvT_of ef H s f fun i k n s kids rest hd => ?_
    have h1 := Fr.size_drop i f
    rw [hd] at h1
    simp only [Fr.size] at h1
    omega
  | succ N ih =>
    intro s f hf
    refine rvT_of ef H s f fun i k n s kids rest hd => ih s kids ?_
    have h1 := Fr.size_drop i f
    rw [hd] at h1
    simp only [Fr.size] at h1
    omega
/-- impl.replaceVars. -/
theorem rvT_any (ef : ∀ args w, (callFunc kf args).run Tryz.prog w = .ok (.enter kf args) w) (H : RepV kf fs cp I P0 B Vp sz nx out) (s : ByteArray) (f : Fr) : RvT kf fs cp I P0 B Vp sz nx out s f := rv_all ef H f.size s f (Nat.le_refl _)
end
end Go.Proofs.YtohkpgpcipjpkaaGreatDoor

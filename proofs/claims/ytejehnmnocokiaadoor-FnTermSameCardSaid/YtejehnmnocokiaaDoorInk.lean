/- A valid term's text tells it, told through the whole term. No condition. -/
import Derived.Test.YtejehnmnocokiaaDoorProg
import Derived.Test.YtejehnmnocokiaaDoorInj
namespace Go.Proofs.YtejehnmnocokiaaDoor
open Go.RowKit

/-- The fields of a node with the same beginning are the same. -/
def tokB (k n : Int) (s : ByteArray) : List UInt8 := if k = 1 then letB n else if k = 2 then Lib.itoa n else s.data.toList
theorem own_says {k n : Int} {s : ByteArray} {len : Nat} (h : ownB k n s len = true) :
    (k = 1 ∧ (0 ≤ n ∧ n ≤ 25) ∧ s.data.toList = [] ∧ len = 0) ∨ (k = 2 ∧ s.data.toList = [] ∧ len = 0) ∨ (k = 3 ∧ n = 0 ∧ nv.nameB s.data.toList = true) := by
  unfold ownB noName at h
  simp only [Bool.or_eq_true, Bool.and_eq_true, beq_iff_eq, decide_eq_true_eq, List.isEmpty_iff] at h
  rcases h with (⟨h1, ⟨⟨h2, h3⟩, h4⟩, h5⟩ | ⟨h1, ⟨⟨h2, h3⟩, h4⟩, h5⟩) | ⟨h1, ⟨h2, h3⟩, h4⟩
  · exact .inl ⟨h1, ⟨h2, h3⟩, h4, h5⟩
  · exact .inr (.inl ⟨h1, h4, h5⟩)
  · exact .inr (.inr ⟨h1, h2, h3⟩)
theorem tok_word {k n : Int} {s : ByteArray} {len : Nat} (h : ownB k n s len = true) : tokB k n s = [91, 93] ∨ WordB (tokB k n s) := by
  rcases own_says h with ⟨rfl, h2, _, _⟩ | ⟨rfl, _, _⟩ | ⟨rfl, _, h3⟩
  · exact .inr (letB_word h2)
  · exact .inr (itoa_word n)
  · exact (name_says h3).1
theorem itoa_head (n : Int) : ∃ c x, Lib.itoa n = c :: x ∧ (48 ≤ c.toNat ∧ c.toNat ≤ 57 ∨ c = 45 ∧ x ≠ []) := by
  unfold Lib.itoa
  split
  · obtain ⟨c, l, e, _, _⟩ := dec_some n.natAbs
    exact ⟨45, _, rfl, .inr ⟨rfl, by rw [e]; simp⟩⟩
  · obtain ⟨c, l, e, h1, h2⟩ := dec_some n.toNat
    exact ⟨c, l, e, .inl ⟨h1, h2⟩⟩
theorem let_itoa {n m : Int} (h : 0 ≤ n ∧ n ≤ 25) (e : letB n = Lib.itoa m) : False := by
  obtain ⟨c, x, e2, h2⟩ := itoa_head m
  rw [e2] at e
  unfold letB at e
  injection e with e _
  have e3 := congrArg UInt8.toNat e
  rw [let_byte h] at e3
  rcases h2 with h2 | ⟨rfl, _⟩
  · omega
  · simp at e3; omega
theorem let_name {n : Int} {l : List UInt8} (h : 0 ≤ n ∧ n ≤ 25) (hl : nv.nameB l = true) (e : letB n = l) : False := by
  obtain ⟨_, c, x, rfl, _, h2, _⟩ := name_says hl
  unfold letB at e
  injection e with e _
  have e3 := congrArg UInt8.toNat e
  rw [let_byte h] at e3
  omega
theorem itoa_name {n : Int} {l : List UInt8} (hl : nv.nameB l = true) (e : Lib.itoa n = l) : False := by
  obtain ⟨_, c, x, rfl, h1, _, h3⟩ := name_says hl
  obtain ⟨c', x', e2, h4⟩ := itoa_head n
  rw [e2] at e
  injection e with e4 e5
  subst e4 e5
  rcases h4 with h4 | ⟨rfl, h4⟩
  · exact h1 h4
  · exact h4 (h3 rfl)
theorem tok_inj {k n : Int} {s : ByteArray} {len : Nat} {k' n' : Int} {s' : ByteArray} {len' : Nat} (h : ownB k n s len = true) (h' : ownB k' n' s' len' = true) (e : tokB k n s = tokB k' n' s') : k = k' ∧ n = n' ∧ s = s' := by
  rcases own_says h with ⟨rfl, a, b, _⟩ | ⟨rfl, b, _⟩ | ⟨rfl, rfl, a⟩ <;> rcases own_says h' with ⟨rfl, a', b', _⟩ | ⟨rfl, b', _⟩ | ⟨rfl, rfl, a'⟩
  · exact ⟨rfl, letB_inj a a' e, bytes_eq' (by rw [b, b'])⟩
  · exact (let_itoa a e).elim
  · exact (let_name a a' e).elim
  · exact (let_itoa a' e.symm).elim
  · exact ⟨rfl, itoa_inj e, bytes_eq' (by rw [b, b'])⟩
  · exact (itoa_name a' e).elim
  · exact (let_name a' a e.symm).elim
  · exact (itoa_name a e.symm).elim
  · exact ⟨rfl, rfl, bytes_eq' e⟩
theorem tok_split {t t' x y : List UInt8} (h : t = [91, 93] ∨ WordB t) (h' : t' = [91, 93] ∨ WordB t') (hx : FollA x) (hy : FollA y) (e : t ++ x = t' ++ y) : t = t' ∧ x = y := by
  have mix : ∀ (t x y : List UInt8), WordB t → [91, 93] ++ x = t ++ y → False := fun t x y hw e => by
    cases t with
    | nil => exact hw.1 rfl
    | cons c l =>
      injection e with e _
      have := hw.2 c (by simp)
      rw [← e] at this
      cases this
  rcases h with rfl | h <;> rcases h' with rfl | h'
  · exact ⟨rfl, List.append_cancel_left e⟩
  · exact (mix _ _ _ h' e).elim
  · exact (mix _ _ _ h e.symm).elim
  · exact word_split _ _ _ _ h.2 h'.2 hx hy e

/-- The shapes of a text. -/
theorem tx_form {k n : Int} {s : ByteArray} {f : Fr} {d : Int} (h : shapeT k n s f d = true) :
    (∃ k1 n1 s1 kd1 k2 n2 s2 kd2, k = 3 ∧ n = 0 ∧ s.data.toList = [46] ∧ f = .cons k1 n1 s1 kd1 (.cons k2 n2 s2 kd2 .nil) ∧ shapeT k1 n1 s1 kd1 (d - 1) = true ∧ shapeT k2 n2 s2 kd2 (d - 1) = true ∧
      txT k n s f = 91 :: (txT k1 n1 s1 kd1 ++ (tlT k2 n2 s2 kd2 ++ [93])) ∧ tlT k n s f = 44 :: (txT k1 n1 s1 kd1 ++ tlT k2 n2 s2 kd2)) ∨
    (ownB k n s f.len = true ∧ shapeF f (d - 1) = true ∧ txT k n s f = tokB k n s ++ argsB (txs f) ∧ tlT k n s f = endB k n s f) := by
  have hs := h
  unfold shapeT at h
  simp only [Bool.and_eq_true, decide_eq_true_eq] at h
  obtain ⟨_, h1, h2⟩ := h
  cases hp : pairB k s f.len
  · refine .inr ⟨h1, h2, ?_, tlT_not hp⟩
    have nil0 : ∀ g : Fr, g.len = 0 → g = .nil := fun g hg => by
      cases g with
      | nil => rfl
      | cons _ _ _ _ _ => simp [Fr.len] at hg
    rcases own_says h1 with ⟨rfl, _, _, h3⟩ | ⟨rfl, _, h3⟩ | ⟨rfl, rfl, _⟩
    · rw [nil0 f h3, txT_var]; rfl
    · rw [nil0 f h3, txT_int]; simp [tokB, txs, txL, argsB]
    · rw [txT_str hp]; rfl
  · obtain ⟨h4, rfl, h5⟩ := pairB_len hp
    obtain ⟨k1, n1, s1, kd1, k2, n2, s2, kd2, rfl, _, _⟩ := pair_yes n hp
    have h6 : n = 0 := by
      rcases own_says h1 with ⟨h, _⟩ | ⟨h, _⟩ | ⟨_, h, _⟩
      · cases h
      · cases h
      · exact h
    rw [shapeF_cons, shapeF_cons] at h2
    simp only [Bool.and_eq_true] at h2
    exact .inl ⟨k1, n1, s1, kd1, k2, n2, s2, kd2, rfl, h6, by simpa [dotB] using h5, rfl, h2.1, h2.2.1, txT_pair n hp, tlT_pair n hp⟩
/-- A text begins with a byte that is no bracket's end. -/
theorem tx_first {k n : Int} {s : ByteArray} {f : Fr} {d : Int} (h : shapeT k n s f d = true) : ∃ c x, txT k n s f = c :: x ∧ c ≠ 93 := by
  rcases tx_form h with ⟨_, _, _, _, _, _, _, _, _, _, _, _, _, _, e, _⟩ | ⟨h1, _, e, _⟩
  · exact ⟨_, _, e, by decide⟩
  · rcases tok_word h1 with hw | ⟨hn, hw⟩
    · rw [e, hw]; exact ⟨_, _, rfl, by decide⟩
    · cases ht : tokB k n s with
      | nil => exact (hn ht).elim
      | cons c x =>
        rw [ht] at e hw
        refine ⟨c, _, e, fun hc => ?_⟩
        have := hw c (by simp)
        rw [hc] at this; cases this
def InjT (s : ByteArray) (f : Fr) : Prop := ∀ (k n d k' n' : Int) (s' : ByteArray) (g : Fr) (d' : Int) (r r' : List UInt8), shapeT k n s f d = true → shapeT k' n' s' g d' = true → Foll r → Foll r' → txT k n s f ++ r = txT k' n' s' g ++ r' → (k = k' ∧ n = n' ∧ s = s' ∧ f = g) ∧ r = r'
def InjL (s : ByteArray) (f : Fr) : Prop := ∀ (k n d k' n' : Int) (s' : ByteArray) (g : Fr) (d' : Int) (r r' : List UInt8), shapeT k n s f d = true → shapeT k' n' s' g d' = true → tlT k n s f ++ 93 :: r = tlT k' n' s' g ++ 93 :: r' → (k = k' ∧ n = n' ∧ s = s' ∧ f = g) ∧ r = r'
theorem foll_flat (ts : List (List UInt8)) (r : List UInt8) : Foll (ts.flatMap (fun x => 44 :: x) ++ 41 :: r) := by
  cases ts with
  | nil => exact .inr ⟨41, r, rfl, .inl rfl⟩
  | cons t ts => exact .inr ⟨44, _, rfl, .inr (.inl rfl)⟩
theorem foll_tl {k n : Int} {s : ByteArray} {f : Fr} {d : Int} (h : shapeT k n s f d = true) (r : List UInt8) : Foll (tlT k n s f ++ 93 :: r) := by
  rcases tx_form h with ⟨_, _, _, _, _, _, _, _, _, _, _, _, _, _, _, e⟩ | ⟨_, _, _, e⟩
  · rw [e]; exact .inr ⟨44, _, rfl, .inr (.inl rfl)⟩
  · rw [e]; unfold endB
    split
    · exact .inr ⟨93, r, rfl, .inr (.inr (.inl rfl))⟩
    · exact .inr ⟨124, _, rfl, .inr (.inr (.inr rfl))⟩
theorem injS (N : Nat) (ih : ∀ s' f', f'.size < N → InjT s' f') (f : Fr) : f.size ≤ N → ∀ (g : Fr) (d d' : Int) (r r' : List UInt8), shapeF f d = true → shapeF g d' = true → (txs f).flatMap (fun x => 44 :: x) ++ 41 :: r = (txs g).flatMap (fun x => 44 :: x) ++ 41 :: r' → f = g ∧ r = r' := by
  induction f with
  | nil =>
    intro _ g d d' r r' _ _ e
    cases g with
    | nil => exact ⟨rfl, by injection e⟩
    | cons _ _ _ _ _ => injection e with e _; cases e
  | cons k n s kids rest _ ihr =>
    intro hN g d d' r r' h h' e
    cases g with
    | nil => injection e with e _; cases e
    | cons k' n' s' kids' rest' =>
      rw [shapeF_cons, Bool.and_eq_true] at h h'
      simp only [Fr.size] at hN
      have e1 : txT k n s kids ++ ((txs rest).flatMap (fun x => 44 :: x) ++ 41 :: r) = txT k' n' s' kids' ++ ((txs rest').flatMap (fun x => 44 :: x) ++ 41 :: r') := by
        rw [txs_cons, txs_cons] at e
        simpa using e
      obtain ⟨⟨rfl, rfl, rfl, rfl⟩, e2⟩ := ih s kids (by omega) k n d k' n' s' kids' d' _ _ h.1 h'.1 (foll_flat _ _) (foll_flat _ _) e1
      obtain ⟨rfl, rfl⟩ := ihr (by omega) rest' d d' r r' h.2 h'.2 e2
      exact ⟨rfl, rfl⟩
theorem injA (f : Fr) (ih : ∀ s' f', f'.size < f.size → InjT s' f') (g : Fr) (d d' : Int) (r r' : List UInt8) (h : shapeF f d = true) (h' : shapeF g d' = true) (hr : Foll r) (hr' : Foll r') (e : argsB (txs f) ++ r = argsB (txs g) ++ r') : f = g ∧ r = r' := by
  have bad : ∀ (x y : List UInt8), Foll x → x = 40 :: y → False := fun x y hx e => by
    rcases hx with rfl | ⟨c, z, rfl, hc⟩
    · cases e
    · injection e with e _
      subst e
      rcases hc with hc | hc | hc | hc <;> cases hc
  cases f with
  | nil =>
    cases g with
    | nil => exact ⟨rfl, e⟩
    | cons _ _ _ _ _ => exact (bad r _ hr e).elim
  | cons k n s kids rest =>
    cases g with
    | nil => exact (bad r' _ hr' e.symm).elim
    | cons k' n' s' kids' rest' =>
      refine injS (Fr.cons k n s kids rest).size ih _ (Nat.le_refl _) _ d d' r r' h h' ?_
      rw [txs_cons, txs_cons] at e ⊢
      simp only [argsB] at e
      simpa using e
theorem follA_args (f : Fr) (r : List UInt8) (h : Foll r) : FollA (argsB (txs f) ++ r) := by
  cases f with
  | nil => exact h.a
  | cons _ _ _ _ _ => exact .inr ⟨40, _, rfl, rfl⟩
theorem pair_not {t x y : List UInt8} {c : UInt8} (h : t = [91, 93] ∨ WordB t) (hc : c ≠ 93) (e : 91 :: c :: x = t ++ y) : False := by
  rcases h with rfl | ⟨hn, hw⟩
  · injection e with _ e
    injection e with e _
    exact hc e
  · cases t with
    | nil => exact hn rfl
    | cons b l =>
      injection e with e _
      have := hw b (by simp)
      rw [← e] at this; cases this
theorem inj_of (s : ByteArray) (f : Fr) (ih : ∀ s' f', f'.size < f.size → InjT s' f' ∧ InjL s' f') : InjT s f := by
  intro k n d k' n' s' g d' r r' h h' hr hr' e
  rcases tx_form h with ⟨k1, n1, s1, kd1, k2, n2, s2, kd2, rfl, rfl, e0, rfl, h1, h2, e1, _⟩ | ⟨h1, h2, e1, _⟩ <;> rcases tx_form h' with ⟨k1', n1', s1', kd1', k2', n2', s2', kd2', rfl, rfl, e0', rfl, h1', h2', e1', _⟩ | ⟨h1', h2', e1', _⟩
  · rw [e1, e1'] at e
    injection e with _ e
    have e3 : txT k1 n1 s1 kd1 ++ (tlT k2 n2 s2 kd2 ++ 93 :: r) = txT k1' n1' s1' kd1' ++ (tlT k2' n2' s2' kd2' ++ 93 :: r') := by simpa using e
    obtain ⟨⟨rfl, rfl, rfl, rfl⟩, e4⟩ := (ih s1 kd1 (by simp only [Fr.size]; omega)).1 _ _ _ _ _ _ _ _ _ _ h1 h1' (foll_tl h2 r) (foll_tl h2' r') e3
    obtain ⟨⟨rfl, rfl, rfl, rfl⟩, rfl⟩ := (ih s2 kd2 (by simp only [Fr.size]; omega)).2 _ _ _ _ _ _ _ _ _ _ h2 h2' e4
    exact ⟨⟨rfl, rfl, bytes_eq' (by rw [e0, e0']), rfl⟩, rfl⟩
  · obtain ⟨c, x, hx, hc⟩ := tx_first h1
    rw [e1, e1', hx, List.append_assoc] at e
    exact (pair_not (tok_word h1') hc e).elim
  · obtain ⟨c, x, hx, hc⟩ := tx_first h1'
    rw [e1, e1', hx, List.append_assoc] at e
    exact (pair_not (tok_word h1) hc e.symm).elim
  · rw [e1, e1', List.append_assoc, List.append_assoc] at e
    obtain ⟨e3, e4⟩ := tok_split (tok_word h1) (tok_word h1') (follA_args f r hr) (follA_args g r' hr') e
    obtain ⟨rfl, rfl, rfl⟩ := tok_inj h1 h1' e3
    obtain ⟨rfl, rfl⟩ := injA f (fun s' f' hl => (ih s' f' hl).1) g _ _ r r' h2 h2' hr hr' e4
    exact ⟨⟨rfl, rfl, rfl, rfl⟩, rfl⟩
theorem injL_of (s : ByteArray) (f : Fr) (hT : InjT s f) (ih : ∀ s' f', f'.size < f.size → InjT s' f' ∧ InjL s' f') : InjL s f := by
  intro k n d k' n' s' g d' r r' h h' e
  have ends : ∀ (x y : List UInt8) (k n : Int) (s : ByteArray) (f : Fr), 44 :: x = endB k n s f ++ 93 :: y → False := fun x y k n s f e => by
    unfold endB at e
    split at e <;> (injection e with e _; cases e)
  rcases tx_form h with ⟨k1, n1, s1, kd1, k2, n2, s2, kd2, rfl, rfl, e0, rfl, h1, h2, _, e1⟩ | ⟨h1, h2, _, e1⟩ <;> rcases tx_form h' with ⟨k1', n1', s1', kd1', k2', n2', s2', kd2', rfl, rfl, e0', rfl, h1', h2', _, e1'⟩ | ⟨h1', h2', _, e1'⟩
  · rw [e1, e1'] at e
    injection e with _ e
    have e3 : txT k1 n1 s1 kd1 ++ (tlT k2 n2 s2 kd2 ++ 93 :: r) = txT k1' n1' s1' kd1' ++ (tlT k2' n2' s2' kd2' ++ 93 :: r') := by
      rw [← List.append_assoc, ← List.append_assoc]; exact e
    obtain ⟨⟨rfl, rfl, rfl, rfl⟩, e4⟩ := (ih s1 kd1 (by simp only [Fr.size]; omega)).1 _ _ _ _ _ _ _ _ _ _ h1 h1' (foll_tl h2 r) (foll_tl h2' r') e3
    obtain ⟨⟨rfl, rfl, rfl, rfl⟩, rfl⟩ := (ih s2 kd2 (by simp only [Fr.size]; omega)).2 _ _ _ _ _ _ _ _ _ _ h2 h2' e4
    exact ⟨⟨rfl, rfl, bytes_eq' (by rw [e0, e0']), rfl⟩, rfl⟩
  · rw [e1, e1'] at e
    exact (ends _ _ _ _ _ _ e).elim
  · rw [e1, e1'] at e
    exact (ends _ _ _ _ _ _ e.symm).elim
  · rw [e1, e1'] at e
    unfold endB at e
    have f93 : ∀ x, Foll (93 :: x) := fun x => .inr ⟨93, x, rfl, .inr (.inr (.inl rfl))⟩
    split at e <;> split at e
    · rename_i a b
      injection e with _ e
      simp only [nilB, emptyB, Bool.and_eq_true, beq_iff_eq] at a b
      obtain ⟨rfl, a2, a3⟩ := a
      obtain ⟨rfl, b2, b3⟩ := b
      have nil0 : ∀ g : Fr, g.len = 0 → g = .nil := fun g hg => by
        cases g with
        | nil => rfl
        | cons _ _ _ _ _ => simp [Fr.len] at hg
      have z : ∀ {n : Int} {s : ByteArray} {len : Nat}, ownB 3 n s len = true → n = 0 := fun hz => by
        rcases own_says hz with ⟨h, _⟩ | ⟨h, _⟩ | ⟨_, h, _⟩
        · cases h
        · cases h
        · exact h
      exact ⟨⟨rfl, (z h1).trans (z h1').symm, bytes_eq' (by rw [a2, b2]), (nil0 f a3).trans (nil0 g b3).symm⟩, e⟩
    · injection e with e _; cases e
    · injection e with e _; cases e
    · injection e with _ e
      obtain ⟨e3, e4⟩ := hT k n d k' n' s' g d' _ _ h h' (f93 r) (f93 r') e
      injection e4 with _ e4
      exact ⟨e3, e4⟩
theorem inj_all (N : Nat) : ∀ (s : ByteArray) (f : Fr), f.size ≤ N → InjT s f ∧ InjL s f := by
  induction N with
  | zero =>
    intro s f hf
    have none : ∀ s' f', f'.size < f.size → InjT s' f' ∧ InjL s' f' := fun _ _ h => by omega
    exact ⟨inj_of s f none, injL_of s f (inj_of s f none) none⟩
  | succ N ih =>
    intro s f hf
    have less : ∀ s' f', f'.size < f.size → InjT s' f' ∧ InjL s' f' := fun s' f' h => ih s' f' (by omega)
    exact ⟨inj_of s f less, injL_of s f (inj_of s f less) less⟩
/-- Valid terms are equal just where their texts are. -/
theorem txt_same {k n : Int} {s : ByteArray} {f : Fr} {d : Int} {k' n' : Int} {s' : ByteArray} {g : Fr} {d' : Int} (h : shapeT k n s f d = true) (h' : shapeT k' n' s' g d' = true) : (txT k n s f = txT k' n' s' g) ↔ eqT k n s f k' n' s' g = true := by
  constructor
  · intro e
    exact eqT_of4 ((inj_all f.size s f (Nat.le_refl _)).1 k n d k' n' s' g d' [] [] h h' (.inl rfl) (.inl rfl) (by rw [e])).1
  · intro e
    obtain ⟨rfl, rfl, rfl, rfl⟩ := eqT_eq e
    rfl
end Go.Proofs.YtejehnmnocokiaaDoor

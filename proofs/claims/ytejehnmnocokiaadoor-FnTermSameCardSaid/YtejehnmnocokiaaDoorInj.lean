/- A valid term's text tells it: terms of one text are equal. No condition. -/
import Derived.Test.YtejehnmnocokiaaDoorProg
import Derived.Test.YtejehnmnocokiaaDoorTxP
import Derived.Test.YtejehnmnocokiaaDoorValid
import Derived.Test.YtejehnmnocokiaaDoorEq
namespace Go.Proofs.YtejehnmnocokiaaDoor
open Go.RowKit

theorem bytes_eq' {s s' : ByteArray} (h : s.data.toList = s'.data.toList) : s = s' := by
  cases s; cases s'; congr 1; exact Array.toList_inj.1 h
theorem eqF_eq (f : Fr) : ∀ g, eqF f g = true → f = g := by
  induction f with
  | nil => intro g h; cases g with
    | nil => rfl
    | cons _ _ _ _ _ => cases h
  | cons k n s kids rest ihk ihr =>
    intro g h
    cases g with
    | nil => cases h
    | cons k' n' s' kids' rest' =>
      simp only [eqF, Bool.and_eq_true, beq_iff_eq] at h
      obtain ⟨rfl, rfl, h3, h4, h5⟩ := h
      rw [bytes_eq' h3, ihk _ h4, ihr _ h5]
theorem eqT_eq {k n : Int} {s : ByteArray} {f : Fr} {k' n' : Int} {s' : ByteArray} {g : Fr} (h : eqT k n s f k' n' s' g = true) : k = k' ∧ n = n' ∧ s = s' ∧ f = g := by
  simp only [eqT, Bool.and_eq_true, beq_iff_eq] at h
  exact ⟨h.1, h.2.1, bytes_eq' h.2.2.1, eqF_eq _ _ h.2.2.2⟩
theorem eqT_of4 {k n : Int} {s : ByteArray} {f : Fr} {k' n' : Int} {s' : ByteArray} {g : Fr} (h : k = k' ∧ n = n' ∧ s = s' ∧ f = g) : eqT k n s f k' n' s' g = true := by
  obtain ⟨rfl, rfl, rfl, rfl⟩ := h; exact eqT_refl _ _ _ _
theorem eqT_symm (k n : Int) (s : ByteArray) (f : Fr) (k' n' : Int) (s' : ByteArray) (g : Fr) : eqT k' n' s' g k n s f = eqT k n s f k' n' s' g := by
  rw [Bool.eq_iff_iff]
  constructor <;> intro h <;> obtain ⟨rfl, rfl, rfl, rfl⟩ := eqT_eq h <;> exact eqT_refl _ _ _ _

/-- Bytes that begin no part of a text of a term but its own. -/
def plainB (c : UInt8) : Bool := c != 40 && c != 41 && c != 44 && c != 93 && c != 124 && c != 91
/-- What can stand behind a term. -/
def Foll (r : List UInt8) : Prop := r = [] ∨ ∃ c x, r = c :: x ∧ (c = 41 ∨ c = 44 ∨ c = 93 ∨ c = 124)
def FollA (r : List UInt8) : Prop := r = [] ∨ ∃ c x, r = c :: x ∧ plainB c = false
theorem Foll.a {r : List UInt8} (h : Foll r) : FollA r := by
  rcases h with rfl | ⟨c, x, rfl, h⟩
  · exact .inl rfl
  · refine .inr ⟨c, x, rfl, ?_⟩
    rcases h with rfl | rfl | rfl | rfl <;> rfl
/-- The first bytes of a text: a word. -/
def WordB (l : List UInt8) : Prop := l ≠ [] ∧ ∀ c ∈ l, plainB c = true
theorem word_split : ∀ (l l' x y : List UInt8), (∀ c ∈ l, plainB c = true) → (∀ c ∈ l', plainB c = true) → FollA x → FollA y → l ++ x = l' ++ y → l = l' ∧ x = y
  | [], [], x, y, _, _, _, _, h => ⟨rfl, h⟩
  | [], c :: l', x, y, _, h2, hx, _, h => by
    have h' : x = c :: (l' ++ y) := h
    rcases hx with rfl | ⟨d, z, rfl, hd⟩
    · cases h'
    · injection h' with e _
      subst e
      rw [h2 d (by simp)] at hd; cases hd
  | c :: l, [], x, y, h1, _, _, hy, h => by
    have h' : c :: (l ++ x) = y := h
    rcases hy with rfl | ⟨d, z, rfl, hd⟩
    · cases h'
    · injection h' with e _
      subst e
      rw [h1 c (by simp)] at hd; cases hd
  | c :: l, c' :: l', x, y, h1, h2, hx, hy, h => by
    have h' : c :: (l ++ x) = c' :: (l' ++ y) := h
    injection h' with e1 e2
    obtain ⟨e3, e4⟩ := word_split l l' x y (fun d hd => h1 d (by simp [hd])) (fun d hd => h2 d (by simp [hd])) hx hy e2
    exact ⟨by rw [e1, e3], e4⟩

/-- Decimal digits tell their number. -/
def valB (l : List UInt8) : Nat := l.foldl (fun a c => 10 * a + (c.toNat - 48)) 0
theorem val_snoc (l : List UInt8) (c : UInt8) : valB (l ++ [c]) = 10 * valB l + (c.toNat - 48) := by simp [valB]
theorem dig_nat (x : Nat) (h : x < 10) : (UInt8.ofNat (48 + x)).toNat = 48 + x := by
  rw [UInt8.toNat_ofNat']; omega
theorem dec_val (u : Nat) : valB (Lib.decDigits u) = u := by
  induction u using Nat.strongRecOn with
  | _ u ih =>
    rw [Lib.decDigits]
    split
    · have := dig_nat u (by assumption)
      simp only [valB, List.foldl_cons, List.foldl_nil, this]; omega
    · rw [val_snoc, ih (u / 10) (by omega), dig_nat _ (by omega)]; omega
theorem dec_digit (u : Nat) : ∀ c ∈ Lib.decDigits u, 48 ≤ c.toNat ∧ c.toNat ≤ 57 := by
  induction u using Nat.strongRecOn with
  | _ u ih =>
    intro c hc
    rw [Lib.decDigits] at hc
    split at hc
    · have e := List.mem_singleton.1 hc
      rw [e, dig_nat u (by assumption)]; omega
    · rcases List.mem_append.1 hc with h | h
      · exact ih (u / 10) (by omega) c h
      · have e := List.mem_singleton.1 h
        rw [e, dig_nat _ (by omega)]; omega
theorem dec_some (u : Nat) : ∃ c l, Lib.decDigits u = c :: l ∧ 48 ≤ c.toNat ∧ c.toNat ≤ 57 := by
  cases h : Lib.decDigits u with
  | nil =>
    rw [Lib.decDigits] at h
    split at h
    · cases h
    · simp at h
  | cons c l => exact ⟨c, l, rfl, dec_digit u c (by rw [h]; simp)⟩
theorem itoa_inj {n m : Int} (h : Lib.itoa n = Lib.itoa m) : n = m := by
  have key : ∀ a b : Nat, Lib.decDigits a = Lib.decDigits b → a = b := fun a b h => by rw [← dec_val a, ← dec_val b, h]
  have mix : ∀ a b : Nat, 45 :: Lib.decDigits a = Lib.decDigits b → False := fun a b h => by
    obtain ⟨c, l, e, h1, _⟩ := dec_some b
    rw [e] at h
    injection h with e1 _
    subst e1
    simp at h1
  unfold Lib.itoa at h
  split at h <;> split at h
  · injection h with _ h
    have := key _ _ h; omega
  · exact (mix _ _ h).elim
  · exact (mix _ _ h.symm).elim
  · have := key _ _ h; omega
theorem plain_num {c : UInt8} (h : 45 ≤ c.toNat ∧ c.toNat ≤ 90) : plainB c = true := by
  unfold plainB
  simp only [Bool.and_eq_true, bne_iff_ne, ne_eq]
  refine ⟨⟨⟨⟨⟨?_, ?_⟩, ?_⟩, ?_⟩, ?_⟩, ?_⟩ <;> intro e <;> subst e <;> simp at h
theorem itoa_word (n : Int) : WordB (Lib.itoa n) := by
  obtain ⟨c, l, e, _, _⟩ := dec_some n.toNat
  unfold Lib.itoa
  split
  · refine ⟨by simp, fun c hc => ?_⟩
    rcases List.mem_cons.1 hc with rfl | hc
    · rfl
    · have := dec_digit _ c hc; exact plain_num (by omega)
  · refine ⟨by rw [e]; simp, fun c hc => ?_⟩
    have := dec_digit _ c hc; exact plain_num (by omega)
theorem let_byte {n : Int} (h : 0 ≤ n ∧ n ≤ 25) : (UInt8.ofNat (65 + n.toNat)).toNat = 65 + n.toNat := by
  rw [UInt8.toNat_ofNat']; omega
theorem letB_word {n : Int} (h : 0 ≤ n ∧ n ≤ 25) : WordB (letB n) := by
  refine ⟨by simp [letB], fun c hc => ?_⟩
  have e := List.mem_singleton.1 hc
  exact plain_num (by rw [e, let_byte h]; omega)
theorem letB_inj {n m : Int} (h : 0 ≤ n ∧ n ≤ 25) (h' : 0 ≤ m ∧ m ≤ 25) (e : letB n = letB m) : n = m := by
  unfold letB at e
  injection e with e _
  have := congrArg UInt8.toNat e
  rw [let_byte h, let_byte h'] at this
  omega
/-- A name: a word, or the empty list's. It begins neither as a variable nor as a number. -/
theorem name_says {l : List UInt8} (h : nv.nameB l = true) : (l = [91, 93] ∨ WordB l) ∧ ∃ c x, l = c :: x ∧ ¬ (48 ≤ c.toNat ∧ c.toNat ≤ 57) ∧ ¬ (65 ≤ c.toNat ∧ c.toNat ≤ 90) ∧ (c = 45 → x = []) := by
  unfold nv.nameB at h
  rw [Bool.or_eq_true] at h
  rcases h with h | h
  · unfold nv.wordB at h
    simp only [Bool.and_eq_true, decide_eq_true_eq, List.all_eq_true] at h
    obtain ⟨⟨h1, h2⟩, _⟩ := h
    have lo : ∀ c ∈ l, 97 ≤ c.toNat ∧ c.toNat ≤ 122 := fun c hc => by
      have := h1 c hc
      unfold nv.lowB at this
      simpa using this
    cases l with
    | nil => simp at h2
    | cons c x =>
      refine ⟨.inr ⟨by simp, fun d hd => ?_⟩, c, x, rfl, ?_, ?_, ?_⟩
      · have := lo d hd
        unfold plainB
        simp only [Bool.and_eq_true, bne_iff_ne, ne_eq]
        refine ⟨⟨⟨⟨⟨?_, ?_⟩, ?_⟩, ?_⟩, ?_⟩, ?_⟩ <;> intro e <;> subst e <;> simp at this
      · have := lo c (by simp); omega
      · have := lo c (by simp); omega
      · intro e
        have := lo c (by simp)
        subst e
        simp at this
  · have h' : l ∈ nv.signs := by simpa using h
    unfold nv.signs at h'
    simp only [List.mem_cons, List.not_mem_nil, or_false] at h'
    rcases h' with rfl | rfl | rfl | rfl | rfl | rfl | rfl | rfl | rfl | rfl | rfl | rfl | rfl | rfl | rfl
    all_goals
      refine ⟨?_, _, _, rfl, by decide, by decide, by decide⟩
      first
        | exact .inl rfl
        | exact .inr ⟨by simp, by decide⟩
end Go.Proofs.YtejehnmnocokiaaDoor

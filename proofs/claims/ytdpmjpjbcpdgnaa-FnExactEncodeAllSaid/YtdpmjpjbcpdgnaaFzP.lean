/- Frames and decoders, plain: what is valid, what the bytes are, what is taken from bytes. No condition. -/
import Derived.WalkKit
namespace Go.Proofs.Ytdpmjpjbcpdgnaa.fz

/-- A frame: its type and its text. -/
structure F where
  t : Int
  s : ByteArray
def okc (c : UInt8) : Bool := c == 10 || (decide (32 ≤ c.toNat) && decide (c.toNat ≤ 126))
def okS (l : List UInt8) : Bool := l.all okc
def okF (f : F) : Bool := decide (1 ≤ f.t) && decide (f.t ≤ 7) && okS f.s.data.toList && decide (f.s.size ≤ 2000)
/-- A frame's bytes. -/
def enc (f : F) : List UInt8 := UInt8.ofNat ((f.s.size + 1) / 256) :: UInt8.ofNat ((f.s.size + 1) % 256) :: UInt8.ofNat f.t.toNat :: f.s.data.toList
def encs : List F → List UInt8
  | [] => []
  | f :: fs => enc f ++ encs fs
def encAll (fs : List F) : List UInt8 := if fs.all okF then encs fs else []
inductive Nx where
  | need
  | bad
  | got (f : F) (n : Nat)
def lenOf (b : List UInt8) : Nat := (b.getD 0 0).toNat * 256 + (b.getD 1 0).toNat
def frA (b : List UInt8) (n : Nat) : F := ⟨((b.getD 2 0).toNat : Int), ⟨((b.take (2 + n)).drop 3).toArray⟩⟩
/-- What stands at the beginning of bytes. -/
def nx (b : List UInt8) : Nx :=
  if b.length < 2 then .need
  else if lenOf b < 1 ∨ 2001 < lenOf b then .bad
  else if b.length < 2 + lenOf b then .need
  else if okF (frA b (lenOf b)) then .got (frA b (lenOf b)) (2 + lenOf b)
  else .bad
def tkf : Nat → List UInt8 → List F × List UInt8 × Bool
  | 0, b => ([], b, false)
  | k + 1, b => match nx b with
    | .need => ([], b, false)
    | .bad => ([], [], true)
    | .got f n => (f :: (tkf k (b.drop n)).1, (tkf k (b.drop n)).2)
/-- The frames at the beginning of bytes, what is left, and whether there can be no more. -/
def tk (b : List UInt8) : List F × List UInt8 × Bool := tkf (b.length + 1) b

theorem nx_short {b : List UInt8} (h : b.length < 2) : nx b = .need := by unfold nx; rw [if_pos h]
theorem nx_badlen {b : List UInt8} (h : 2 ≤ b.length) (h1 : lenOf b < 1 ∨ 2001 < lenOf b) : nx b = .bad := by
  unfold nx; rw [if_neg (by omega), if_pos h1]
theorem nx_part {b : List UInt8} (h : 2 ≤ b.length) (h1 : 1 ≤ lenOf b) (h2 : lenOf b ≤ 2001) (h3 : b.length < 2 + lenOf b) : nx b = .need := by
  unfold nx; rw [if_neg (by omega), if_neg (by omega), if_pos h3]
theorem nx_got {b : List UInt8} (h : 2 ≤ b.length) (h1 : 1 ≤ lenOf b) (h2 : lenOf b ≤ 2001) (h3 : 2 + lenOf b ≤ b.length) (h4 : okF (frA b (lenOf b)) = true) : nx b = .got (frA b (lenOf b)) (2 + lenOf b) := by
  unfold nx; rw [if_neg (by omega), if_neg (by omega), if_neg (by omega), if_pos h4]
theorem nx_badfr {b : List UInt8} (h : 2 ≤ b.length) (h1 : 1 ≤ lenOf b) (h2 : lenOf b ≤ 2001) (h3 : 2 + lenOf b ≤ b.length) (h4 : okF (frA b (lenOf b)) = false) : nx b = .bad := by
  unfold nx; rw [if_neg (by omega), if_neg (by omega), if_neg (by omega), if_neg (by simp [h4])]
/-- The cases of nx. -/
theorem nx_cases (b : List UInt8) :
    (nx b = .need ∧ b.length < 2) ∨ (nx b = .bad ∧ 2 ≤ b.length ∧ (lenOf b < 1 ∨ 2001 < lenOf b)) ∨ (nx b = .need ∧ 2 ≤ b.length ∧ 1 ≤ lenOf b ∧ lenOf b ≤ 2001 ∧ b.length < 2 + lenOf b) ∨
      (nx b = .got (frA b (lenOf b)) (2 + lenOf b) ∧ 2 ≤ b.length ∧ 1 ≤ lenOf b ∧ lenOf b ≤ 2001 ∧ 2 + lenOf b ≤ b.length ∧ okF (frA b (lenOf b)) = true) ∨
      (nx b = .bad ∧ 2 ≤ b.length ∧ 1 ≤ lenOf b ∧ lenOf b ≤ 2001 ∧ 2 + lenOf b ≤ b.length ∧ okF (frA b (lenOf b)) = false) := by
  by_cases h : b.length < 2
  · exact .inl ⟨nx_short h, h⟩
  · by_cases h1 : lenOf b < 1 ∨ 2001 < lenOf b
    · exact .inr (.inl ⟨nx_badlen (by omega) h1, by omega, h1⟩)
    · by_cases h3 : b.length < 2 + lenOf b
      · exact .inr (.inr (.inl ⟨nx_part (by omega) (by omega) (by omega) h3, by omega, by omega, by omega, h3⟩))
      · by_cases h4 : okF (frA b (lenOf b)) = true
        · exact .inr (.inr (.inr (.inl ⟨nx_got (by omega) (by omega) (by omega) (by omega) h4, by omega, by omega, by omega, by omega, h4⟩)))
        · have h5 : okF (frA b (lenOf b)) = false := by simpa using h4
          exact .inr (.inr (.inr (.inr ⟨nx_badfr (by omega) (by omega) (by omega) (by omega) h5, by omega, by omega, by omega, by omega, h5⟩)))
theorem nx_need_len {b : List UInt8} (h : nx b = .need) : b.length ≤ 2002 := by
  rcases nx_cases b with h' | h' | h' | h' | h'
  · omega
  · rw [h'.1] at h; cases h
  · omega
  · rw [h'.1] at h; cases h
  · rw [h'.1] at h; cases h
theorem nx_got_facts {b : List UInt8} {f : F} {n : Nat} (h : nx b = .got f n) : f = frA b (lenOf b) ∧ n = 2 + lenOf b ∧ 1 ≤ lenOf b ∧ lenOf b ≤ 2001 ∧ n ≤ b.length ∧ okF f = true := by
  rcases nx_cases b with h' | h' | h' | h' | h'
  · rw [h'.1] at h; cases h
  · rw [h'.1] at h; cases h
  · rw [h'.1] at h; cases h
  · rw [h'.1] at h; cases h
    exact ⟨rfl, rfl, h'.2.2.1, h'.2.2.2.1, h'.2.2.2.2.1, h'.2.2.2.2.2⟩
  · rw [h'.1] at h; cases h

theorem getD_app {b : List UInt8} (c : List UInt8) {i : Nat} (h : i < b.length) : (b ++ c).getD i 0 = b.getD i 0 := by
  simp [List.getD, List.getElem?_append_left h]
theorem lenOf_app {b : List UInt8} (c : List UInt8) (h : 2 ≤ b.length) : lenOf (b ++ c) = lenOf b := by
  unfold lenOf; rw [getD_app c (by omega), getD_app c (by omega)]
theorem frA_app {b : List UInt8} (c : List UInt8) {n : Nat} (h1 : 1 ≤ n) (h : 2 + n ≤ b.length) : frA (b ++ c) n = frA b n := by
  unfold frA; rw [getD_app c (by omega), List.take_append_of_le_length h]
theorem nx_app_got {b : List UInt8} (c : List UInt8) {f : F} {n : Nat} (h : nx b = .got f n) : nx (b ++ c) = .got f n := by
  obtain ⟨rfl, rfl, h1, h2, h3, h4⟩ := nx_got_facts h
  have hl := lenOf_app c (b := b) (by omega)
  have hf := frA_app c (b := b) h1 h3
  have := nx_got (b := b ++ c) (by simp; omega) (by omega) (by omega) (by rw [hl]; simp; omega) (by rw [hl, hf]; exact h4)
  rw [hl, hf] at this
  exact this
theorem nx_app_bad {b : List UInt8} (c : List UInt8) (h : nx b = .bad) : nx (b ++ c) = .bad := by
  rcases nx_cases b with h' | h' | h' | h' | h'
  · rw [h'.1] at h; cases h
  · have hl := lenOf_app c (b := b) (by omega)
    exact nx_badlen (by simp; omega) (by rw [hl]; exact h'.2.2)
  · rw [h'.1] at h; cases h
  · rw [h'.1] at h; cases h
  · obtain ⟨_, h0, h1, h2, h3, h4⟩ := h'
    have hl := lenOf_app c (b := b) h0
    have hf := frA_app c (b := b) h1 h3
    exact nx_badfr (by simp; omega) (by omega) (by omega) (by rw [hl]; simp; omega) (by rw [hl, hf]; exact h4)

theorem tkf_eq : ∀ (k : Nat) (b : List UInt8), b.length < k → tkf k b = tk b
  | 0, b, h => absurd h (Nat.not_lt_zero _)
  | k + 1, b, h => by
    unfold tk
    rw [tkf, tkf]
    cases hn : nx b with
    | need => rfl
    | bad => rfl
    | got f n =>
      obtain ⟨_, h2, h3, _, h5, _⟩ := nx_got_facts hn
      have hd : (b.drop n).length < k := by simp; omega
      have hd' : (b.drop n).length < b.length := by simp; omega
      have e1 := tkf_eq k (b.drop n) hd
      have e2 : tkf b.length (b.drop n) = tk (b.drop n) := by
        rcases Nat.lt_or_ge b.length (k + 1) with hk | hk
        · rcases Nat.lt_or_ge b.length k with hk' | hk'
          · exact tkf_eq b.length (b.drop n) hd'
          · obtain rfl : b.length = k := by omega
            exact e1
        · omega
      simp only [e1, e2]
theorem tk_need {b : List UInt8} (h : nx b = .need) : tk b = ([], b, false) := by unfold tk; rw [tkf, h]
theorem tk_bad {b : List UInt8} (h : nx b = .bad) : tk b = ([], [], true) := by unfold tk; rw [tkf, h]
theorem tk_got {b : List UInt8} {f : F} {n : Nat} (h : nx b = .got f n) : tk b = (f :: (tk (b.drop n)).1, (tk (b.drop n)).2) := by
  obtain ⟨_, h2, h3, _, h5, _⟩ := nx_got_facts h
  have e := tkf_eq b.length (b.drop n) (by simp; omega)
  have : tk b = tkf (b.length + 1) b := rfl
  rw [this, tkf, h]
  simp only [e]
/-- Induction along what is taken. -/
theorem tk_ind {P : List UInt8 → Prop} (hneed : ∀ b, nx b = .need → P b) (hbad : ∀ b, nx b = .bad → P b) (hgot : ∀ b f n, nx b = .got f n → P (b.drop n) → P b) (b : List UInt8) : P b := by
  have all : ∀ k (b : List UInt8), b.length < k → P b := by
    intro k
    induction k with
    | zero => intro b h; exact absurd h (Nat.not_lt_zero _)
    | succ k ih =>
      intro b h
      cases hn : nx b with
      | need => exact hneed b hn
      | bad => exact hbad b hn
      | got f n =>
        obtain ⟨_, h2, h3, _, h5, _⟩ := nx_got_facts hn
        exact hgot b f n hn (ih _ (by simp; omega))
  exact all _ b (Nat.lt_succ_self _)
theorem tk_app_more (c : List UInt8) : ∀ b, (tk b).2.2 = false → tk (b ++ c) = ((tk b).1 ++ (tk ((tk b).2.1 ++ c)).1, (tk ((tk b).2.1 ++ c)).2) := by
  refine tk_ind (fun b h hf => ?_) (fun b h hf => ?_) (fun b f n h ih hf => ?_)
  · rw [tk_need h]; simp
  · rw [tk_bad h] at hf; cases hf
  · obtain ⟨_, _, _, _, h5, _⟩ := nx_got_facts h
    rw [tk_got h] at hf
    rw [tk_got h, tk_got (nx_app_got c h), List.drop_append_of_le_length h5, ih hf]
    simp
theorem tk_app_bad (c : List UInt8) : ∀ b, (tk b).2.2 = true → tk (b ++ c) = tk b := by
  refine tk_ind (fun b h hf => ?_) (fun b h hf => ?_) (fun b f n h ih hf => ?_)
  · rw [tk_need h] at hf; cases hf
  · rw [tk_bad h, tk_bad (nx_app_bad c h)]
  · obtain ⟨_, _, _, _, h5, _⟩ := nx_got_facts h
    rw [tk_got h] at hf
    rw [tk_got h, tk_got (nx_app_got c h), List.drop_append_of_le_length h5, ih hf]
theorem tk_rest : ∀ b, (tk b).2.2 = false → nx (tk b).2.1 = .need := by
  refine tk_ind (fun b h hf => ?_) (fun b h hf => ?_) (fun b f n h ih hf => ?_)
  · rw [tk_need h]; exact h
  · rw [tk_bad h] at hf; cases hf
  · rw [tk_got h] at hf ⊢; exact ih hf
theorem tk_brk : ∀ b, (tk b).2.2 = true → (tk b).2.1 = [] := by
  refine tk_ind (fun b h hf => ?_) (fun b h hf => ?_) (fun b f n h ih hf => ?_)
  · rw [tk_need h] at hf; cases hf
  · rw [tk_bad h]
  · rw [tk_got h] at hf ⊢; exact ih hf
theorem tk_ok : ∀ b, (tk b).1.all okF = true := by
  refine tk_ind (fun b h => ?_) (fun b h => ?_) (fun b f n h ih => ?_)
  · rw [tk_need h]; rfl
  · rw [tk_bad h]; rfl
  · obtain ⟨_, _, _, _, _, h6⟩ := nx_got_facts h
    rw [tk_got h]; simp only [List.all_cons, h6, ih, Bool.and_self]
theorem tk_len : ∀ b, (tk b).1.length ≤ b.length ∧ (tk b).2.1.length ≤ b.length := by
  refine tk_ind (fun b h => ?_) (fun b h => ?_) (fun b f n h ih => ?_)
  · rw [tk_need h]; simp
  · rw [tk_bad h]; simp
  · obtain ⟨_, h2, h3, _, h5, _⟩ := nx_got_facts h
    rw [tk_got h]
    simp at ih ⊢
    omega
theorem tk_cnt : ∀ b, (tk b).1.length + (tk b).2.1.length ≤ b.length := by
  refine tk_ind (fun b h => ?_) (fun b h => ?_) (fun b f n h ih => ?_)
  · rw [tk_need h]; simp
  · rw [tk_bad h]; simp
  · obtain ⟨_, h2, h3, _, h5, _⟩ := nx_got_facts h
    rw [tk_got h]
    simp at ih ⊢
    omega
theorem okF_facts {f : F} (h : okF f = true) : 1 ≤ f.t ∧ f.t ≤ 7 ∧ okS f.s.data.toList = true ∧ f.s.size ≤ 2000 := by
  unfold okF at h
  simp only [Bool.and_eq_true, decide_eq_true_eq] at h
  exact ⟨h.1.1.1, h.1.1.2, h.1.2, h.2⟩
theorem ofNat_toNat {n : Nat} (h : n < 256) : (UInt8.ofNat n).toNat = n := by
  simp [UInt8.toNat_ofNat']; omega
theorem enc_len (f : F) : (enc f).length = f.s.size + 3 := by
  unfold enc; simp
theorem lenOf_enc {f : F} (h : f.s.size ≤ 2000) (c : List UInt8) : lenOf (enc f ++ c) = f.s.size + 1 := by
  unfold lenOf enc
  simp only [List.cons_append, List.getD_cons_zero, List.getD_cons_succ]
  rw [ofNat_toNat (by omega), ofNat_toNat (by omega)]
  omega
theorem take_app_exact {α : Type} (a c : List α) (n : Nat) (h : a.length = n) : (a ++ c).take n = a := by
  subst h; simp
theorem frA_enc {f : F} (h0 : 0 ≤ f.t) (h7 : f.t ≤ 255) (c : List UInt8) : frA (enc f ++ c) (f.s.size + 1) = f := by
  have e1 : (enc f ++ c).take (2 + (f.s.size + 1)) = enc f := take_app_exact _ _ _ (by rw [enc_len]; omega)
  have e2 : ((enc f ++ c).getD 2 0).toNat = f.t.toNat := by
    unfold enc
    simp only [List.cons_append, List.getD_cons_zero, List.getD_cons_succ]
    exact ofNat_toNat (by omega)
  unfold frA
  rw [e1, e2]
  obtain ⟨t, ⟨⟨s⟩⟩⟩ := f
  simp only [F.mk.injEq]
  refine ⟨by simp at h0 ⊢; omega, ?_⟩
  unfold enc
  simp
theorem nx_enc {f : F} (h : okF f = true) (c : List UInt8) : nx (enc f ++ c) = .got f (f.s.size + 3) := by
  obtain ⟨h1, h2, _, h4⟩ := okF_facts h
  have hl := lenOf_enc h4 c
  have hf := frA_enc (f := f) (by omega) (by omega) c
  have hz := enc_len f
  have := nx_got (b := enc f ++ c) (by simp; omega) (by omega) (by omega) (by rw [hl]; simp; omega) (by rw [hl, hf]; exact h)
  rw [hl, hf] at this
  rw [this]
  congr 1
  omega
theorem tk_encs (c : List UInt8) : ∀ fs : List F, fs.all okF = true → tk (encs fs ++ c) = (fs ++ (tk c).1, (tk c).2)
  | [], _ => by simp [encs]
  | f :: fs, h => by
    simp only [List.all_cons, Bool.and_eq_true] at h
    have hn := nx_enc h.1 (encs fs ++ c)
    have e : encs (f :: fs) ++ c = enc f ++ (encs fs ++ c) := by simp [encs]
    have hd : (enc f ++ (encs fs ++ c)).drop (f.s.size + 3) = encs fs ++ c := by
      rw [← enc_len f]; simp
    rw [e, tk_got hn, hd, tk_encs c fs h.2]
    simp
theorem tk_nil : tk [] = ([], [], false) := tk_need (nx_short (by simp))
theorem tk_encAll (fs : List F) (h : fs.all okF = true) : tk (encAll fs) = (fs, [], false) := by
  unfold encAll
  have := tk_encs [] fs h
  rw [if_pos h]
  simpa [tk_nil] using this
theorem encAll_bad (fs : List F) (h : fs.all okF = false) : encAll fs = [] := by
  unfold encAll
  rw [if_neg (by simp [h])]
theorem split_two (b : List UInt8) (h : 3 ≤ b.length) : b = b.getD 0 0 :: b.getD 1 0 :: b.getD 2 0 :: b.drop 3 := by
  match b, h with
  | x :: y :: z :: l, _ => simp
theorem enc_frA {b : List UInt8} {n : Nat} (h1 : 1 ≤ n) (hn : n = lenOf b) (h2 : n ≤ 2001) (h : 2 + n ≤ b.length) : enc (frA b n) = b.take (2 + n) := by
  have h3 : 3 ≤ b.length := by omega
  have hs : (frA b n).s.size = n - 1 := by
    unfold frA
    show (((b.take (2 + n)).drop 3).toArray).size = _
    simp; omega
  have hd : (frA b n).s.data.toList = (b.take (2 + n)).drop 3 := by unfold frA; simp
  have ht : (frA b n).t.toNat = (b.getD 2 0).toNat := by unfold frA; simp
  have x0 := (b.getD 0 0).toNat_lt
  have x1 := (b.getD 1 0).toNat_lt
  have hl : lenOf b = (b.getD 0 0).toNat * 256 + (b.getD 1 0).toNat := rfl
  have e0 : (n - 1 + 1) / 256 = (b.getD 0 0).toNat := by omega
  have e1 : (n - 1 + 1) % 256 = (b.getD 1 0).toNat := by omega
  unfold enc
  rw [hs, hd, ht, e0, e1]
  simp only [UInt8.ofNat_toNat]
  have hb := split_two (b.take (2 + n)) (by simp; omega)
  have g0 : (b.take (2 + n)).getD 0 0 = b.getD 0 0 := by simp [List.getD, List.getElem?_take]; rw [if_pos (by omega)]
  have g1 : (b.take (2 + n)).getD 1 0 = b.getD 1 0 := by simp [List.getD, List.getElem?_take]; rw [if_pos (by omega)]
  have g2 : (b.take (2 + n)).getD 2 0 = b.getD 2 0 := by simp [List.getD, List.getElem?_take]; rw [if_pos (by omega)]
  rw [g0, g1, g2] at hb
  exact hb.symm
theorem tk_back : ∀ b, (tk b).2.2 = false → b = encs (tk b).1 ++ (tk b).2.1 := by
  refine tk_ind (fun b h hf => ?_) (fun b h hf => ?_) (fun b f n h ih hf => ?_)
  · rw [tk_need h]; simp [encs]
  · rw [tk_bad h] at hf; cases hf
  · obtain ⟨h1, h2, h3, h4, h5, _⟩ := nx_got_facts h
    rw [tk_got h] at hf ⊢
    subst h1; subst h2
    have := ih hf
    simp only [encs]
    rw [enc_frA h3 rfl h4 h5, List.append_assoc, ← this, List.take_append_drop]
/-- Without its last byte a frame is not complete. -/
theorem nx_shortened {f : F} (h : okF f = true) : nx ((enc f).take (f.s.size + 2)) = .need := by
  obtain ⟨h1, h2, _, h4⟩ := okF_facts h
  have hz := enc_len f
  have hl : lenOf ((enc f).take (f.s.size + 2)) = f.s.size + 1 := by
    have := lenOf_enc h4 []
    rw [List.append_nil] at this
    have e := lenOf_app ((enc f).drop (f.s.size + 2)) (b := (enc f).take (f.s.size + 2)) (by simp; omega)
    rw [List.take_append_drop] at e
    omega
  exact nx_part (by simp; omega) (by omega) (by omega) (by rw [hl]; simp; omega)
end Go.Proofs.Ytdpmjpjbcpdgnaa.fz

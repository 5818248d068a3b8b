/- The text of a term with operators, as plain data. No condition. -/
import Derived.Test.YtohkpgpcipjpkaaGreatDoorProg
import Derived.Test.YtohkpgpcipjpkaaGreatDoorTxQ
import Derived.Test.YtohkpgpcipjpkaaGreatDoorOpA
namespace Go.Proofs.YtohkpgpcipjpkaaGreatDoor.wr
open Go.RowKit

/-- A text, what it adds as the rest of a list, and its level as an operand. -/
abbrev W3 := List UInt8 × List UInt8 × Int
def infB (k : Int) (s : ByteArray) (len : Nat) : Bool := k == 3 && (len == 2 && decide (0 < op.level s.data.toList))
def soleB (k : Int) (s : ByteArray) (len : Nat) : Bool := k == 3 && (len == 0 && decide (0 < op.level s.data.toList))
def olv (k : Int) (s : ByteArray) (len : Nat) : Int := if infB k s len = true then op.level s.data.toList else if soleB k s len = true then 4 else 0
/-- A byte with which a right operand can begin. -/
def plC (c : UInt8) : Bool := (decide (97 ≤ c.toNat) && decide (c.toNat ≤ 122)) || (decide (48 ≤ c.toNat) && decide (c.toNat ≤ 57)) || (decide (65 ≤ c.toNat) && decide (c.toNat ≤ 90)) || c == 91 || c == 40
def plB : List UInt8 → Bool
  | [] => false
  | c :: _ => plC c
def spB (l : List UInt8) : List UInt8 := if l = [105, 115] ∨ l = [109, 111, 100] then 32 :: (l ++ [32]) else l
def braB (t : List UInt8) : List UInt8 := 40 :: (t ++ [41])
/-- A left operand, and a right one, where a level is the highest one. -/
def leftB (r : W3) (l : Int) : List UInt8 := if l < r.2.2 then braB r.1 else r.1
def rightB (r : W3) (l : Int) : List UInt8 := if l < r.2.2 ∨ plB r.1 = false then braB r.1 else r.1
def lfl (n : Int) : Int := if n = 3 then 2 else n
def none3 : W3 := ([], [], 0)
def bodyB (k n : Int) (s : ByteArray) (len : Nat) (r : List W3) : List UInt8 :=
  if k = 1 then letB n else if k = 2 then Lib.itoa n else
    if pairB k s len = true then 91 :: ((r.getD 0 none3).1 ++ ((r.getD 1 none3).2.1 ++ [93])) else
    if infB k s len = true then leftB (r.getD 0 none3) (lfl (op.level s.data.toList)) ++ (spB s.data.toList ++ rightB (r.getD 1 none3) (op.level s.data.toList - 1)) else
    s.data.toList ++ argsB (r.map Prod.fst)
def elt (k n : Int) (s : ByteArray) (len : Nat) (r : List W3) : W3 :=
  (bodyB k n s len r, (if pairB k s len = true then 44 :: ((r.getD 0 none3).1 ++ (r.getD 1 none3).2.1) else if nilB k s len = true then [] else 124 :: bodyB k n s len r), olv k s len)
def txL : Fr → List W3
  | .nil => []
  | .cons k n s kids rest => elt k n s kids.len (txL kids) :: txL rest
def txT (k n : Int) (s : ByteArray) (f : Fr) : List UInt8 := (elt k n s f.len (txL f)).1
def tlT (k n : Int) (s : ByteArray) (f : Fr) : List UInt8 := (elt k n s f.len (txL f)).2.1
/-- The texts of a row. -/
def txs (f : Fr) : List (List UInt8) := (txL f).map Prod.fst
theorem txs_cons (k n : Int) (s : ByteArray) (kids rest : Fr) : txs (.cons k n s kids rest) = txT k n s kids :: txs rest := rfl
theorem txT_var (n : Int) (s : ByteArray) (f : Fr) : txT 1 n s f = letB n := by unfold txT elt bodyB; rw [if_pos rfl]
theorem txT_int (n : Int) (s : ByteArray) (f : Fr) : txT 2 n s f = Lib.itoa n := by unfold txT elt bodyB; rw [if_neg (by decide), if_pos rfl]
theorem txT_pair {k : Int} (n : Int) {s : ByteArray} {k1 n1 k2 n2 : Int} {s1 s2 : ByteArray} {kd1 kd2 : Fr} (h : pairB k s 2 = true) :
    txT k n s (.cons k1 n1 s1 kd1 (.cons k2 n2 s2 kd2 .nil)) = 91 :: (txT k1 n1 s1 kd1 ++ (tlT k2 n2 s2 kd2 ++ [93])) := by
  obtain ⟨_, rfl, _⟩ := pairB_len h
  show bodyB 3 n s 2 _ = _
  unfold bodyB
  rw [if_neg (by decide), if_neg (by decide), if_pos h]
  rfl
theorem tlT_pair {k : Int} (n : Int) {s : ByteArray} {k1 n1 k2 n2 : Int} {s1 s2 : ByteArray} {kd1 kd2 : Fr} (h : pairB k s 2 = true) :
    tlT k n s (.cons k1 n1 s1 kd1 (.cons k2 n2 s2 kd2 .nil)) = 44 :: (txT k1 n1 s1 kd1 ++ tlT k2 n2 s2 kd2) := by
  show (if pairB k s 2 = true then _ else _) = _
  rw [if_pos h]
  rfl
/-- A left operand's text, and a right one's. -/
def lefT (k n : Int) (s : ByteArray) (f : Fr) (l : Int) : List UInt8 := if l < olv k s f.len then braB (txT k n s f) else txT k n s f
def rigT (k n : Int) (s : ByteArray) (f : Fr) (l : Int) : List UInt8 := if l < olv k s f.len ∨ plB (txT k n s f) = false then braB (txT k n s f) else txT k n s f
theorem txT_inf {n : Int} {s : ByteArray} {k1 n1 k2 n2 : Int} {s1 s2 : ByteArray} {kd1 kd2 : Fr} (hp : pairB 3 s 2 = false) (h : infB 3 s 2 = true) :
    txT 3 n s (.cons k1 n1 s1 kd1 (.cons k2 n2 s2 kd2 .nil)) = lefT k1 n1 s1 kd1 (lfl (op.level s.data.toList)) ++ (spB s.data.toList ++ rigT k2 n2 s2 kd2 (op.level s.data.toList - 1)) := by
  show bodyB 3 n s 2 _ = _
  unfold bodyB
  rw [if_neg (by decide), if_neg (by decide), hp, if_neg (by decide), if_pos h]
  rfl
theorem txT_str {n : Int} {s : ByteArray} {f : Fr} (h : pairB 3 s f.len = false) (hi : infB 3 s f.len = false) : txT 3 n s f = s.data.toList ++ argsB (txs f) := by
  show bodyB 3 n s f.len _ = _
  unfold bodyB
  rw [if_neg (by decide), if_neg (by decide), h, hi]
  rfl
theorem tlT_nil {k n : Int} {s : ByteArray} {f : Fr} (h : nilB k s f.len = true) : tlT k n s f = [] := by
  have hp : pairB k s f.len = false := by
    unfold nilB at h
    unfold pairB
    simp only [Bool.and_eq_true, beq_iff_eq] at h
    rw [h.2.2]; simp
  show (if pairB k s f.len = true then _ else _) = _
  rw [hp, h]
  rfl
theorem tlT_end {k n : Int} {s : ByteArray} {f : Fr} (hp : pairB k s f.len = false) (h : nilB k s f.len = false) : tlT k n s f = 124 :: txT k n s f := by
  show (if pairB k s f.len = true then _ else _) = _
  rw [hp, h]
  rfl
/-- What stands behind the last element of a list. -/
def endB (k n : Int) (s : ByteArray) (f : Fr) : List UInt8 := if nilB k s f.len = true then [] else 124 :: txT k n s f
theorem tlT_not {k n : Int} {s : ByteArray} {f : Fr} (hp : pairB k s f.len = false) : tlT k n s f = endB k n s f := by
  unfold endB
  cases h : nilB k s f.len
  · rw [tlT_end hp h]; rfl
  · rw [tlT_nil h]; rfl
/-- The rest of a list: its elements, then its end. -/
theorem tlT_split (N : Nat) : ∀ (k n : Int) (s : ByteArray) (f : Fr), f.size ≤ N → ∀ k' n' s' f', tails k n s f = .cons k' n' s' f' .nil → tlT k n s f = (txs (fronts k s f)).flatMap (fun x => 44 :: x) ++ endB k' n' s' f' := by
  induction N with
  | zero =>
    intro k n s f hf k' n' s' f' ht
    have hp : pairB k s f.len = false := by
      cases f with
      | nil => unfold pairB; simp [Fr.len]
      | cons _ _ _ _ _ => simp [Fr.size] at hf
    rw [(pair_no n hp).2] at ht
    rw [(pair_no n hp).1, tlT_not hp]
    simp only [Fr.cons.injEq, and_true] at ht
    obtain ⟨rfl, rfl, rfl, rfl⟩ := ht
    rfl
  | succ N ih =>
    intro k n s f hf k' n' s' f' ht
    cases hp : pairB k s f.len
    · rw [(pair_no n hp).2] at ht
      rw [(pair_no n hp).1, tlT_not hp]
      simp only [Fr.cons.injEq, and_true] at ht
      obtain ⟨rfl, rfl, rfl, rfl⟩ := ht
      rfl
    · obtain ⟨k1, n1, s1, kd1, k2, n2, s2, kd2, rfl, hfr, htl⟩ := pair_yes n hp
      have h2 := ih k2 n2 s2 kd2 (by simp only [Fr.size] at hf; omega) k' n' s' f' (by rw [← htl]; exact ht)
      rw [tlT_pair n hp, hfr, txs_cons, h2]
      simp
theorem txT_list {k n : Int} {s : ByteArray} {f : Fr} (hp : pairB k s f.len = true) {k' n' : Int} {s' : ByteArray} {f' : Fr} (ht : tails k n s f = .cons k' n' s' f' .nil) :
    ∃ k1 n1 s1 kd1 r, fronts k s f = .cons k1 n1 s1 kd1 r ∧ txT k n s f = 91 :: (txT k1 n1 s1 kd1 ++ ((txs r).flatMap (fun x => 44 :: x) ++ (endB k' n' s' f' ++ [93]))) := by
  obtain ⟨k1, n1, s1, kd1, k2, n2, s2, kd2, rfl, hfr, htl⟩ := pair_yes n hp
  refine ⟨k1, n1, s1, kd1, _, hfr, ?_⟩
  rw [txT_pair n hp, tlT_split kd2.size k2 n2 s2 kd2 (Nat.le_refl _) k' n' s' f' (by rw [← htl]; exact ht), List.append_assoc]


/-- Texts are not long. -/
theorem txs_len (f : Fr) : (txs f).length = f.len := by
  induction f with
  | nil => rfl
  | cons _ _ _ _ _ _ ih => rw [txs_cons, List.length_cons, ih]; rfl
theorem lefT_len (k n : Int) (s : ByteArray) (f : Fr) (l : Int) : (lefT k n s f l).length ≤ (txT k n s f).length + 2 := by
  unfold lefT braB
  split
  · simp only [List.length_cons, List.length_append, List.length_nil]; omega
  · omega
theorem rigT_len (k n : Int) (s : ByteArray) (f : Fr) (l : Int) : (rigT k n s f l).length ≤ (txT k n s f).length + 2 := by
  unfold rigT braB
  split
  · simp only [List.length_cons, List.length_append, List.length_nil]; omega
  · omega
theorem spB_len (l : List UInt8) : (spB l).length ≤ l.length + 2 := by
  unfold spB
  split
  · simp only [List.length_cons, List.length_append, List.length_nil]; omega
  · omega
/-- Text or rest, whichever is longer. -/
def mxL : List W3 → Nat
  | [] => 0
  | t :: ts => max (t.1.length + 3) t.2.1.length + mxL ts
theorem mxL_args : ∀ f : Fr, f.len + ((txs f).map List.length).sum ≤ mxL (txL f)
  | .nil => Nat.le_refl _
  | .cons k n s kids rest => by
    have := mxL_args rest
    show rest.len + 1 + ((txT k n s kids).length + ((txs rest).map List.length).sum) ≤ max ((txT k n s kids).length + 3) _ + mxL (txL rest)
    omega
theorem tx_len (f : Fr) : smF f → mxL (txL f) ≤ 32 * nodes f := by
  induction f with
  | nil => exact fun _ => Nat.le_refl _
  | cons k n s kids rest ihk ihr =>
    rintro ⟨⟨h1, h2⟩, h3, h4⟩
    have a := ihk h3
    have b := ihr h4
    have hb : max ((txT k n s kids).length + 3) (tlT k n s kids).length ≤ 32 * (nodes kids + 1) := by
      cases hp : pairB k s kids.len
      · have hlen : (txT k n s kids).length + 3 ≤ 32 * (nodes kids + 1) := by
          have h6 : s.data.toList.length = s.size := rfl
          cases hi : infB k s kids.len
          · show (bodyB k n s kids.len (txL kids)).length + 3 ≤ _
            unfold bodyB
            split
            · simp only [letB, List.length_cons, List.length_nil]; omega
            · split
              · have := itoa_small n (h2 (by assumption)); omega
              · rw [hp, hi]
                have h5 := args_len (txs kids)
                have h7 := mxL_args kids
                rw [txs_len] at h5
                show (s.data.toList ++ argsB (txs kids)).length + 3 ≤ _
                rw [List.length_append]
                omega
          · have hi' := hi
            unfold infB at hi'
            simp only [Bool.and_eq_true, beq_iff_eq] at hi'
            obtain ⟨rfl, hl, _⟩ := hi'
            obtain ⟨k1, n1, s1, kd1, k2, n2, s2, kd2, rfl⟩ : ∃ k1 n1 s1 kd1 k2 n2 s2 kd2, kids = .cons k1 n1 s1 kd1 (.cons k2 n2 s2 kd2 .nil) := by
              match kids, hl with
              | .cons k1 n1 s1 kd1 (.cons k2 n2 s2 kd2 .nil), _ => exact ⟨k1, n1, s1, kd1, k2, n2, s2, kd2, rfl⟩
              | .nil, h => cases h
              | .cons _ _ _ _ .nil, h => cases h
              | .cons _ _ _ _ (.cons _ _ _ _ (.cons _ _ _ _ _)), h => simp [Fr.len] at h
            have e1 : max ((txT k1 n1 s1 kd1).length + 3) (tlT k1 n1 s1 kd1).length + (max ((txT k2 n2 s2 kd2).length + 3) (tlT k2 n2 s2 kd2).length + 0) ≤ 32 * nodes (.cons k1 n1 s1 kd1 (.cons k2 n2 s2 kd2 .nil)) := a
            rw [txT_inf hp hi]
            have e2 := lefT_len k1 n1 s1 kd1 (lfl (op.level s.data.toList))
            have e3 := rigT_len k2 n2 s2 kd2 (op.level s.data.toList - 1)
            have e4 := spB_len s.data.toList
            simp only [List.length_append]
            omega
        rw [tlT_not hp]
        unfold endB
        split
        · simp only [List.length_nil]; omega
        · rw [List.length_cons]; omega
      · obtain ⟨k1, n1, s1, kd1, k2, n2, s2, kd2, rfl, hfr, htl⟩ := pair_yes n hp
        have e1 : max ((txT k1 n1 s1 kd1).length + 3) (tlT k1 n1 s1 kd1).length + (max ((txT k2 n2 s2 kd2).length + 3) (tlT k2 n2 s2 kd2).length + 0) ≤ 32 * nodes (.cons k1 n1 s1 kd1 (.cons k2 n2 s2 kd2 .nil)) := a
        rw [txT_pair n hp, tlT_pair n hp]
        simp only [List.length_cons, List.length_append, List.length_nil]
        omega
    have e : mxL (txL (.cons k n s kids rest)) = max ((txT k n s kids).length + 3) (tlT k n s kids).length + mxL (txL rest) := rfl
    rw [e]
    simp only [nodes]
    omega
theorem txT_len {k n : Int} {s : ByteArray} {f : Fr} (h1 : s.size ≤ 6) (h2 : k = 2 → -999 ≤ n ∧ n ≤ 999) (h3 : smF f) : (txT k n s f).length + 3 ≤ 32 * (nodes f + 1) ∧ (tlT k n s f).length ≤ 32 * (nodes f + 1) := by
  have h := tx_len (.cons k n s f .nil) ⟨⟨h1, h2⟩, h3, trivial⟩
  have e : mxL (txL (.cons k n s f .nil)) = max ((txT k n s f).length + 3) (tlT k n s f).length + 0 := rfl
  rw [e] at h
  simp only [nodes] at h
  omega
theorem txT_shape {k n : Int} {s : ByteArray} {f : Fr} {d : Int} (h : shapeT k n s f d = true) : (txT k n s f).length + 3 ≤ 32 * (nodes f + 1) ∧ (tlT k n s f).length ≤ 32 * (nodes f + 1) := by
  have h1 := smF_shape (.cons k n s f .nil) d (by rw [shapeF_cons, h]; rfl)
  exact txT_len h1.1.1 h1.1.2 h1.2.1
/-- The texts of a row that is written from element j on. -/
def moreB (j : Nat) (f : Fr) : List UInt8 := if j = 0 then (match txs f with | [] => [] | t :: ts => 40 :: (t ++ ts.flatMap (fun x => 44 :: x))) else (txs f).flatMap (fun x => 44 :: x)
theorem argsB_more (f : Fr) : argsB (txs f) = if f.len = 0 then [] else moreB 0 f ++ [41] := by
  cases f with
  | nil => rfl
  | cons k n s kids rest =>
    rw [if_neg (by simp [Fr.len]), txs_cons]
    unfold moreB
    simp [argsB, txs_cons]
theorem inf_kids {k : Int} {s : ByteArray} {kids : Fr} (hi : infB k s kids.len = true) : k = 3 ∧ 0 < op.level s.data.toList ∧ ∃ k1 n1 s1 kd1 k2 n2 s2 kd2, kids = .cons k1 n1 s1 kd1 (.cons k2 n2 s2 kd2 .nil) := by
  unfold infB at hi
  simp only [Bool.and_eq_true, beq_iff_eq, decide_eq_true_eq] at hi
  obtain ⟨rfl, hl, hv⟩ := hi
  refine ⟨rfl, hv, ?_⟩
  match kids, hl with
  | .cons k1 n1 s1 kd1 (.cons k2 n2 s2 kd2 .nil), _ => exact ⟨k1, n1, s1, kd1, k2, n2, s2, kd2, rfl⟩
  | .nil, h => cases h
  | .cons _ _ _ _ .nil, h => cases h
  | .cons _ _ _ _ (.cons _ _ _ _ (.cons _ _ _ _ _)), h => simp [Fr.len] at h
/-- What is still to be written of a row without brackets, from element j on. -/
def remB (j : Nat) (f : Fr) : List UInt8 := if j = 0 then (match txs f with | [] => [] | t :: ts => t ++ ts.flatMap (fun x => 44 :: x)) else (txs f).flatMap (fun x => 44 :: x)
theorem remB_zero (k n : Int) (s : ByteArray) (kids rest : Fr) : remB 0 (.cons k n s kids rest) = txT k n s kids ++ remB 1 rest := by
  unfold remB
  rw [if_pos rfl, if_neg (by decide), txs_cons]
theorem remB_step (j : Nat) (hj : j ≠ 0) (k n : Int) (s : ByteArray) (kids rest : Fr) : remB j (.cons k n s kids rest) = 44 :: (txT k n s kids ++ remB (j + 1) rest) := by
  unfold remB
  rw [if_neg hj, if_neg (by omega), txs_cons, List.flatMap_cons]
  rfl
theorem remB_nil (j : Nat) : remB j .nil = [] := by unfold remB; split <;> rfl
theorem moreB_rem (f : Fr) (h : f.len ≠ 0) : moreB 0 f = 40 :: remB 0 f := by
  cases f with
  | nil => exact absurd rfl h
  | cons k n s kids rest => rfl
theorem argsB_rem (f : Fr) : argsB (txs f) = if f.len = 0 then [] else 40 :: (remB 0 f ++ [41]) := by
  rw [argsB_more]
  by_cases h : f.len = 0
  · rw [if_pos h, if_pos h]
  · rw [if_neg h, if_neg h, moreB_rem f h]; rfl
theorem txT_rem {k n : Int} {s : ByteArray} {f : Fr} (hp : pairB k s f.len = true) {k' n' : Int} {s' : ByteArray} {f' : Fr} (ht : tails k n s f = .cons k' n' s' f' .nil) : txT k n s f = 91 :: (remB 0 (fronts k s f) ++ (endB k' n' s' f' ++ [93])) := by
  obtain ⟨k1, n1, s1, kd1, r, hf, hx⟩ := txT_list hp ht
  rw [hx, hf, remB_zero]
  unfold remB
  rw [if_neg (by decide)]
  simp
end Go.Proofs.YtohkpgpcipjpkaaGreatDoor.wr

/- The text of a term, as plain data. No condition. -/
import Derived.Test.YtohkpgpcipjpkaaGreatDoorProg
import Derived.Test.YtohkpgpcipjpkaaGreatDoorPair
import Derived.Lib.ItoaLen
namespace Go.Proofs.YtohkpgpcipjpkaaGreatDoor
open Go.RowKit

def letB (n : Int) : List UInt8 := [UInt8.ofNat (65 + n.toNat)]
/-- Texts with commas between and brackets around. -/
def argsB : List (List UInt8) → List UInt8
  | [] => []
  | t :: ts => 40 :: (t ++ (ts.flatMap (fun x => 44 :: x) ++ [41]))
abbrev TT := List UInt8 × List UInt8
/-- The text of a term, and what it adds as the rest of a list. -/
def bodyB (k n : Int) (s : ByteArray) (len : Nat) (r : List TT) : List UInt8 :=
  if k = 1 then letB n else if k = 2 then Lib.itoa n else
    if pairB k s len = true then 91 :: ((r.getD 0 ([], [])).1 ++ ((r.getD 1 ([], [])).2 ++ [93])) else s.data.toList ++ argsB (r.map Prod.fst)
def elt (k n : Int) (s : ByteArray) (len : Nat) (r : List TT) : TT :=
  (bodyB k n s len r, if pairB k s len = true then 44 :: ((r.getD 0 ([], [])).1 ++ (r.getD 1 ([], [])).2) else if nilB k s len = true then [] else 124 :: bodyB k n s len r)
def txL : Fr → List TT
  | .nil => []
  | .cons k n s kids rest => elt k n s kids.len (txL kids) :: txL rest
def txT (k n : Int) (s : ByteArray) (f : Fr) : List UInt8 := (elt k n s f.len (txL f)).1
def tlT (k n : Int) (s : ByteArray) (f : Fr) : List UInt8 := (elt k n s f.len (txL f)).2
/-- The texts of a row. -/
def txs (f : Fr) : List (List UInt8) := (txL f).map Prod.fst
theorem txs_cons (k n : Int) (s : ByteArray) (kids rest : Fr) : txs (.cons k n s kids rest) = txT k n s kids :: txs rest := rfl
theorem txT_var (n : Int) (s : ByteArray) (f : Fr) : txT 1 n s f = letB n := by unfold txT elt bodyB; rw [if_pos rfl]
theorem txT_int (n : Int) (s : ByteArray) (f : Fr) : txT 2 n s f = Lib.itoa n := by unfold txT elt bodyB; rw [if_neg (by decide), if_pos rfl]
theorem txT_pair {k : Int} (n : Int) {s : ByteArray} {k1 n1 k2 n2 : Int} {s1 s2 : ByteArray} {kd1 kd2 : Fr} (h : pairB k s 2 = true) :
    txT k n s (.cons k1 n1 s1 kd1 (.cons k2 n2 s2 kd2 .nil)) = 91 :: (txT k1 n1 s1 kd1 ++ (tlT k2 n2 s2 kd2 ++ [93])) := by
  obtain ⟨_, rfl, _⟩ := pairB_len h
  show bodyB 3 n s 2 _ = _
  unfold bodyB
  rw [if_neg (by decide), if_neg (by decide), if_pos h]
  rfl
theorem tlT_pair {k : Int} (n : Int) {s : ByteArray} {k1 n1 k2 n2 : Int} {s1 s2 : ByteArray} {kd1 kd2 : Fr} (h : pairB k s 2 = true) :
    tlT k n s (.cons k1 n1 s1 kd1 (.cons k2 n2 s2 kd2 .nil)) = 44 :: (txT k1 n1 s1 kd1 ++ tlT k2 n2 s2 kd2) := by
  show (if pairB k s 2 = true then _ else _) = _
  rw [if_pos h]
  rfl
theorem txT_str {n : Int} {s : ByteArray} {f : Fr} (h : pairB 3 s f.len = false) : txT 3 n s f = s.data.toList ++ argsB (txs f) := by
  show bodyB 3 n s f.len _ = _
  unfold bodyB
  rw [if_neg (by decide), if_neg (by decide), h]
  rfl
theorem tlT_nil {k n : Int} {s : ByteArray} {f : Fr} (h : nilB k s f.len = true) : tlT k n s f = [] := by
  have hp : pairB k s f.len = false := by
    unfold nilB at h
    unfold pairB
    simp only [Bool.and_eq_true, beq_iff_eq] at h
    rw [h.2.2]; simp
  show (if pairB k s f.len = true then _ else _) = _
  rw [hp, h]
  rfl
theorem tlT_end {k n : Int} {s : ByteArray} {f : Fr} (hp : pairB k s f.len = false) (h : nilB k s f.len = false) : tlT k n s f = 124 :: txT k n s f := by
  show (if pairB k s f.len = true then _ else _) = _
  rw [hp, h]
  rfl
/-- What stands behind the last element of a list. -/
def endB (k n : Int) (s : ByteArray) (f : Fr) : List UInt8 := if nilB k s f.len = true then [] else 124 :: txT k n s f
theorem tlT_not {k n : Int} {s : ByteArray} {f : Fr} (hp : pairB k s f.len = false) : tlT k n s f = endB k n s f := by
  unfold endB
  cases h : nilB k s f.len
  · rw [tlT_end hp h]; rfl
  · rw [tlT_nil h]; rfl
/-- The rest of a list: its elements, then its end. -/
theorem tlT_split (N : Nat) : ∀ (k n : Int) (s : ByteArray) (f : Fr), f.size ≤ N → ∀ k' n' s' f', tails k n s f = .cons k' n' s' f' .nil → tlT k n s f = (txs (fronts k s f)).flatMap (fun x => 44 :: x) ++ endB k' n' s' f' := by
  induction N with
  | zero =>
    intro k n s f hf k' n' s' f' ht
    have hp : pairB k s f.len = false := by
      cases f with
      | nil => unfold pairB; simp [Fr.len]
      | cons _ _ _ _ _ => simp [Fr.size] at hf
    rw [(pair_no n hp).2] at ht
    rw [(pair_no n hp).1, tlT_not hp]
    simp only [Fr.cons.injEq, and_true] at ht
    obtain ⟨rfl, rfl, rfl, rfl⟩ := ht
    rfl
  | succ N ih =>
    intro k n s f hf k' n' s' f' ht
    cases hp : pairB k s f.len
    · rw [(pair_no n hp).2] at ht
      rw [(pair_no n hp).1, tlT_not hp]
      simp only [Fr.cons.injEq, and_true] at ht
      obtain ⟨rfl, rfl, rfl, rfl⟩ := ht
      rfl
    · obtain ⟨k1, n1, s1, kd1, k2, n2, s2, kd2, rfl, hfr, htl⟩ := pair_yes n hp
      have h2 := ih k2 n2 s2 kd2 (by simp only [Fr.size] at hf; omega) k' n' s' f' (by rw [← htl]; exact ht)
      rw [tlT_pair n hp, hfr, txs_cons, h2]
      simp
theorem txT_list {k n : Int} {s : ByteArray} {f : Fr} (hp : pairB k s f.len = true) {k' n' : Int} {s' : ByteArray} {f' : Fr} (ht : tails k n s f = .cons k' n' s' f' .nil) :
    ∃ k1 n1 s1 kd1 r, fronts k s f = .cons k1 n1 s1 kd1 r ∧ txT k n s f = 91 :: (txT k1 n1 s1 kd1 ++ ((txs r).flatMap (fun x => 44 :: x) ++ (endB k' n' s' f' ++ [93]))) := by
  obtain ⟨k1, n1, s1, kd1, k2, n2, s2, kd2, rfl, hfr, htl⟩ := pair_yes n hp
  refine ⟨k1, n1, s1, kd1, _, hfr, ?_⟩
  rw [txT_pair n hp, tlT_split kd2.size k2 n2 s2 kd2 (Nat.le_refl _) k' n' s' f' (by rw [← htl]; exact ht), List.append_assoc]

/-- Texts are not long. -/
theorem itoa_small (n : Int) (h : -999 ≤ n ∧ n ≤ 999) : (Lib.itoa n).length ≤ 21 := Lib.itoa_length_le n (by omega) (by omega)
def smF : Fr → Prop
  | .nil => True
  | .cons k n s kids rest => (s.size ≤ 6 ∧ (k = 2 → -999 ≤ n ∧ n ≤ 999)) ∧ smF kids ∧ smF rest
theorem flat_len : ∀ ts : List (List UInt8), (ts.flatMap (fun x => 44 :: x)).length = ts.length + (ts.map List.length).sum
  | [] => rfl
  | t :: ts => by simp only [List.flatMap_cons, List.length_append, List.length_cons, List.map_cons, List.sum_cons, flat_len ts]; omega
theorem args_len (ts : List (List UInt8)) : (argsB ts).length ≤ ts.length + (ts.map List.length).sum + 1 := by
  cases ts with
  | nil => exact Nat.zero_le _
  | cons t ts =>
    simp only [argsB, List.length_cons, List.length_append, flat_len, List.map_cons, List.sum_cons, List.length_nil]
    omega
theorem txs_len (f : Fr) : (txs f).length = f.len := by
  induction f with
  | nil => rfl
  | cons _ _ _ _ _ _ ih => rw [txs_cons, List.length_cons, ih]; rfl
/-- Text or rest, whichever is longer. -/
def mxL : List TT → Nat
  | [] => 0
  | t :: ts => max (t.1.length + 1) t.2.length + mxL ts
theorem mxL_args : ∀ f : Fr, f.len + ((txs f).map List.length).sum ≤ mxL (txL f)
  | .nil => Nat.le_refl _
  | .cons k n s kids rest => by
    have := mxL_args rest
    show rest.len + 1 + ((txT k n s kids).length + ((txs rest).map List.length).sum) ≤ max ((txT k n s kids).length + 1) _ + mxL (txL rest)
    omega
theorem mxL_at : ∀ (ts : List TT) (j : Nat) (t : TT), ts[j]? = some t → max (t.1.length + 1) t.2.length ≤ mxL ts
  | [], j, t, h => by simp at h
  | t' :: ts, 0, t, h => by
    simp at h
    subst h
    simp only [mxL]; omega
  | t' :: ts, j + 1, t, h => by
    have := mxL_at ts j t (by simpa using h)
    simp only [mxL]; omega
theorem tx_len (f : Fr) : smF f → mxL (txL f) ≤ 32 * nodes f := by
  induction f with
  | nil => exact fun _ => Nat.le_refl _
  | cons k n s kids rest ihk ihr =>
    rintro ⟨⟨h1, h2⟩, h3, h4⟩
    have a := ihk h3
    have b := ihr h4
    have hb : max ((txT k n s kids).length + 1) (tlT k n s kids).length ≤ 32 * (nodes kids + 1) := by
      cases hp : pairB k s kids.len
      · have hlen : (txT k n s kids).length + 1 ≤ 32 * (nodes kids + 1) := by
          show (bodyB k n s kids.len (txL kids)).length + 1 ≤ _
          unfold bodyB
          split
          · simp only [letB, List.length_cons, List.length_nil]; omega
          · split
            · have := itoa_small n (h2 (by assumption)); omega
            · rw [hp]
              have h5 := args_len (txs kids)
              have h6 : s.data.toList.length = s.size := rfl
              have h7 := mxL_args kids
              rw [txs_len] at h5
              show (s.data.toList ++ argsB (txs kids)).length + 1 ≤ _
              rw [List.length_append]
              omega
        rw [tlT_not hp]
        unfold endB
        split
        · simp only [List.length_nil]; omega
        · rw [List.length_cons]; omega
      · obtain ⟨k1, n1, s1, kd1, k2, n2, s2, kd2, rfl, hfr, htl⟩ := pair_yes n hp
        have e1 : max ((txT k1 n1 s1 kd1).length + 1) (tlT k1 n1 s1 kd1).length + (max ((txT k2 n2 s2 kd2).length + 1) (tlT k2 n2 s2 kd2).length + 0) ≤ 32 * nodes (.cons k1 n1 s1 kd1 (.cons k2 n2 s2 kd2 .nil)) := a
        rw [txT_pair n hp, tlT_pair n hp]
        simp only [List.length_cons, List.length_append, List.length_nil]
        omega
    have e : mxL (txL (.cons k n s kids rest)) = max ((txT k n s kids).length + 1) (tlT k n s kids).length + mxL (txL rest) := rfl
    rw [e]
    simp only [nodes]
    omega
theorem txT_len {k n : Int} {s : ByteArray} {f : Fr} (h1 : s.size ≤ 6) (h2 : k = 2 → -999 ≤ n ∧ n ≤ 999) (h3 : smF f) : (txT k n s f).length + 1 ≤ 32 * (nodes f + 1) ∧ (tlT k n s f).length ≤ 32 * (nodes f + 1) := by
  have h := tx_len (.cons k n s f .nil) ⟨⟨h1, h2⟩, h3, trivial⟩
  have e : mxL (txL (.cons k n s f .nil)) = max ((txT k n s f).length + 1) (tlT k n s f).length + 0 := rfl
  rw [e] at h
  simp only [nodes] at h
  omega
end Go.Proofs.YtohkpgpcipjpkaaGreatDoor

/- The text of a term with operators, as plain data. No condition. -/
import Derived.Test.YtihmgodiiohdnaaGreatDoorProg
import Derived.Test.YtihmgodiiohdnaaGreatDoorZmPP45
import Derived.Test.YtihmgodiiohdnaaGreatDoorOpA
import Derived.Test.YtihmgodiiohdnaaGreatDoorTermOf
import Derived.Lib.SlBytesConst
import Derived.Test.YtihmgodiiohdnaaGreatDoorSpecC
import Derived.Test.YtihmgodiiohdnaaGreatDoorTb
import Derived.Test.YtihmgodiiohdnaaGreatDoorAll
import Derived.Test.YtihmgodiiohdnaaGreatDoorByt
import Derived.Test.YtihmgodiiohdnaaGreatDoorMk
import Derived.Test.YtihmgodiiohdnaaGreatDoorSpecL
namespace Go.Proofs.YtihmgodiiohdnaaGreatDoor.wr
open Go.RowKit

/-- A text, what it adds as the rest of a list, and its level as an operand. -/
abbrev W3 := List UInt8 × List UInt8 × Int
def infB (k : Int) (s : ByteArray) (len : Nat) : Bool := k == 3 && (len == 2 && decide (0 < op.level s.data.toList))
def soleB (k : Int) (s : ByteArray) (len : Nat) : Bool := k == 3 && (len == 0 && decide (0 < op.level s.data.toList))
def olv (k : Int) (s : ByteArray) (len : Nat) : Int := if infB k s len = true then op.level s.data.toList else if soleB k s len = true then 4 else 0
/-- A byte with which a right operand can begin. -/
def plC (c : UInt8) : Bool := (decide (97 ≤ c.toNat) && decide (c.toNat ≤ 122)) || (decide (48 ≤ c.toNat) && decide (c.toNat ≤ 57)) || (decide (65 ≤ c.toNat) && decide (c.toNat ≤ 90)) || c == 91 || c == 40
def plB : List UInt8 → Bool
  | [] => false
  | c :: _ => plC c
def spB (l : List UInt8) : List UInt8 := if l = [105, 115] ∨ l = [109, 111, 100] then 32 :: (l ++ [32]) else l
def braB (t : List UInt8) : List UInt8 := 40 :: (t ++ [41])
/-- A left operand, and a right one, where a level is the highest one. -/
def leftB (r : W3) (l : Int) : List UInt8 := if l < r.2.2 then braB r.1 else r.1
def rightB (r : W3) (l : Int) : List UInt8 := if l < r.2.2 ∨ plB r.1 = false then braB r.1 else r.1
def lfl (n : Int) : Int := if n = 3 then 2 else n
def none3 : W3 := ([], [], 0)
def bodyB (k n : Int) (s : ByteArray) (len : Nat) (r : List W3) : List UInt8 :=
  if k = 1 then letB n else if k = 2 then Lib.itoa n else
    if pairB k s len = true then 91 :: ((r.getD 0 none3).1 ++ ((r.getD 1 none3).2.1 ++ [93])) else
    if infB k s len = true then leftB (r.getD 0 none3) (lfl (op.level s.data.toList)) ++ (spB s.data.toList ++ rightB (r.getD 1 none3) (op.level s.data.toList - 1)) else
    s.data.toList ++ argsB (r.map Prod.fst)
def elt (k n : Int) (s : ByteArray) (len : Nat) (r : List W3) : W3 :=
  (bodyB k n s len r, (if pairB k s len = true then 44 :: ((r.getD 0 none3).1 ++ (r.getD 1 none3).2.1) else if nilB k s len = true then [] else 124 :: bodyB k n s len r), olv k s len)
def txL : Fr → List W3
  | .nil => []
  | .cons k n s kids rest => elt k n s kids.len (txL kids) :: txL rest
def txT (k n : Int) (s : ByteArray) (f : Fr) : List UInt8 := (elt k n s f.len (txL f)).1
def tlT (k n : Int) (s : ByteArray) (f : Fr) : List UInt8 := (elt k n s f.len (txL f)).2.1
/-- The texts of a row. -/
def txs (f : Fr) : List (List UInt8) := (txL f).map Prod.fst
theorem txs_cons (k n : Int) (s : ByteArray) (kids rest : Fr) : txs (.cons k n s kids rest) = txT k n s kids :: txs rest := rfl
theorem txT_var (n : Int) (s : ByteArray) (f : Fr) : txT 1 n s f = letB n := by unfold txT elt bodyB; rw [if_pos rfl]
theorem txT_int (n : Int) (s : ByteArray) (f : Fr) : txT 2 n s f = Lib.itoa n := by unfold txT elt bodyB; rw [if_neg (by decide), if_pos rfl]
theorem txT_pair {k : Int} (n : Int) {s : ByteArray} {k1 n1 k2 n2 : Int} {s1 s2 : ByteArray} {kd1 kd2 : Fr} (h : pairB k s 2 = true) :
    txT k n s (.cons k1 n1 s1 kd1 (.cons k2 n2 s2 kd2 .nil)) = 91 :: (txT k1 n1 s1 kd1 ++ (tlT k2 n2 s2 kd2 ++ [93])) := by
  obtain ⟨_, rfl, _⟩ := pairB_len h
  show bodyB 3 n s 2 _ = _
  unfold bodyB
  rw [if_neg (by decide), if_neg (by decide), if_pos h]
  rfl
theorem tlT_pair {k : Int} (n : Int) {s : ByteArray} {k1 n1 k2 n2 : Int} {s1 s2 : ByteArray} {kd1 kd2 : Fr} (h : pairB k s 2 = true) :
    tlT k n s (.cons k1 n1 s1 kd1 (.cons k2 n2 s2 kd2 .nil)) = 44 :: (txT k1 n1 s1 kd1 ++ tlT k2 n2 s2 kd2) := by
  show (if pairB k s 2 = true then _ else _) = _
  rw [if_pos h]
  rfl
/-- A left operand's text, and a right one's. -/
def lefT (k n : Int) (s : ByteArray) (f : Fr) (l : Int) : List UInt8 := if l < olv k s f.len then braB (txT k n s f) else txT k n s f
def rigT (k n : Int) (s : ByteArray) (f : Fr) (l : Int) : List UInt8 := if l < olv k s f.len ∨ plB (txT k n s f) = false then braB (txT k n s f) else txT k n s f
theorem txT_inf {n : Int} {s : ByteArray} {k1 n1 k2 n2 : Int} {s1 s2 : ByteArray} {kd1 kd2 : Fr} (hp : pairB 3 s 2 = false) (h : infB 3 s 2 = true) :
    txT 3 n s (.cons k1 n1 s1 kd1 (.cons k2 n2 s2 kd2 .nil)) = lefT k1 n1 s1 kd1 (lfl (op.level s.data.toList)) ++ (spB s.data.toList ++ rigT k2 n2 s2 kd2 (op.level s.data.toList - 1)) := by
  show bodyB 3 n s 2 _ = _
  unfold bodyB
  rw [if_neg (by decide), if_neg (by decide), hp, if_neg (by decide), if_pos h]
  rfl
theorem txT_str {n : Int} {s : ByteArray} {f : Fr} (h : pairB 3 s f.len = false) (hi : infB 3 s f.len = false) : txT 3 n s f = s.data.toList ++ argsB (txs f) := by
  show bodyB 3 n s f.len _ = _
  unfold bodyB
  rw [if_neg (by decide), if_neg (by decide), h, hi]
  rfl
theorem tlT_nil {k n : Int} {s : ByteArray} {f : Fr} (h : nilB k s f.len = true) : tlT k n s f = [] := by
  have hp : pairB k s f.len = false := by
    unfold nilB at h
    unfold pairB
    simp only [Bool.and_eq_true, beq_iff_eq] at h
    rw [h.2.2]; simp
  show (if pairB k s f.len = true then _ else _) = _
  rw [hp, h]
  rfl
theorem tlT_end {k n : Int} {s : ByteArray} {f : Fr} (hp : pairB k s f.len = false) (h : nilB k s f.len = false) : tlT k n s f = 124 :: txT k n s f := by
  show (if pairB k s f.len = true then _ else _) = _
  rw [hp, h]
  rfl
/-- What stands behind the last element of a list. -/
def endB (k n : Int) (s : ByteArray) (f : Fr) : List UInt8 := if nilB k s f.len = true then [] else 124 :: txT k n s f
theorem tlT_not {k n : Int} {s : ByteArray} {f : Fr} (hp : pairB k s f.len = false) : tlT k n s f = endB k n s f := by
  unfold endB
  cases h : nilB k s f.len
  · rw [tlT_end hp h]; rfl
  · rw [tlT_nil h]; rfl
/-- The rest of a list: its elements, then its end. -/
theorem tlT_split (N : Nat) : ∀ (k n : Int) (s : ByteArray) (f : Fr), f.size ≤ N → ∀ k' n' s' f', tails k n s f = .cons k' n' s' f' .nil → tlT k n s f = (txs (fronts k s f)).flatMap (fun x => 44 :: x) ++ endB k' n' s' f' := by
  induction N with
  | zero =>
    intro k n s f hf k' n' s' f' ht
    have hp : pairB k s f.len = false := by
      cases f with
      | nil => unfold pairB; simp [Fr.len]
      | cons _ _ _ _ _ => simp [Fr.size] at hf
    rw [(pair_no n hp).2] at ht
    rw [(pair_no n hp).1, tlT_not hp]
    simp only [Fr.cons.injEq, and_true] at ht
    obtain ⟨rfl, rfl, rfl, rfl⟩ := ht
    rfl
  | succ N ih =>
    intro k n s f hf k' n' s' f' ht
    cases hp : pairB k s f.len
    · rw [(pair_no n hp).2] at ht
      rw [(pair_no n hp).1, tlT_not hp]
      simp only [Fr.cons.injEq, and_true] at ht
      obtain ⟨rfl, rfl, rfl, rfl⟩ := ht
      rfl
    · obtain ⟨k1, n1, s1, kd1, k2, n2, s2, kd2, rfl, hfr, htl⟩ := pair_yes n hp
      have h2 := ih k2 n2 s2 kd2 (by simp only [Fr.size] at hf; omega) k' n' s' f' (by rw [← htl]; exact ht)
      rw [tlT_pair n hp, hfr, txs_cons, h2]
      simp
theorem txT_list {k n : Int} {s : ByteArray} {f : Fr} (hp : pairB k s f.len = true) {k' n' : Int} {s' : ByteArray} {f' : Fr} (ht : tails k n s f = .cons k' n' s' f' .nil) :
    ∃ k1 n1 s1 kd1 r, fronts k s f = .cons k1 n1 s1 kd1 r ∧ txT k n s f = 91 :: (txT k1 n1 s1 kd1 ++ ((txs r).flatMap (fun x => 44 :: x) ++ (endB k' n' s' f' ++ [93]))) := by
  obtain ⟨k1, n1, s1, kd1, k2, n2, s2, kd2, rfl, hfr, htl⟩ := pair_yes n hp
  refine ⟨k1, n1, s1, kd1, _, hfr, ?_⟩
  rw [txT_pair n hp, tlT_split kd2.size k2 n2 s2 kd2 (Nat.le_refl _) k' n' s' f' (by rw [← htl]; exact ht), List.append_assoc]


/-- Texts are not long. -/
theorem txs_len (f : Fr) : (txs f).length = f.len := by
  induction f with
  | nil => rfl
  | cons _ _ _ _ _ _ ih => rw [txs_cons, List.length_cons, ih]; rfl
theorem lefT_len (k n : Int) (s : ByteArray) (f : Fr) (l : Int) : (lefT k n s f l).length ≤ (txT k n s f).length + 2 := by
  unfold lefT braB
  split
  · simp only [List.length_cons, List.length_append, List.length_nil]; omega
  · omega
theorem rigT_len (k n : Int) (s : ByteArray) (f : Fr) (l : Int) : (rigT k n s f l).length ≤ (txT k n s f).length + 2 := by
  unfold rigT braB
  split
  · simp only [List.length_cons, List.length_append, List.length_nil]; omega
  · omega
theorem spB_len (l : List UInt8) : (spB l).length ≤ l.length + 2 := by
  unfold spB
  split
  · simp only [List.length_cons, List.length_append, List.length_nil]; omega
  · omega
/-- Text or rest, whichever is longer. -/
def mxL : List W3 → Nat
  | [] => 0
  | t :: ts => max (t.1.length + 3) t.2.1.length + mxL ts
theorem mxL_args : ∀ f : Fr, f.len + ((txs f).map List.length).sum ≤ mxL (txL f)
  | .nil => Nat.le_refl _
  | .cons k n s kids rest => by
    have := mxL_args rest
    show rest.len + 1 + ((txT k n s kids).length + ((txs rest).map List.length).sum) ≤ max ((txT k n s kids).length + 3) _ + mxL (txL rest)
    omega
theorem tx_len (f : Fr) : smF f → mxL (txL f) ≤ 32 * nodes f := by
  induction f with
  | nil => exact fun _ => Nat.le_refl _
  | cons k n s kids rest ihk ihr =>
    rintro ⟨⟨h1, h2⟩, h3, h4⟩
    have a := ihk h3
    have b := ihr h4
    have hb : max ((txT k n s kids).length + 3) (tlT k n s kids).length ≤ 32 * (nodes kids + 1) := by
      cases hp : pairB k s kids.len
      · have hlen : (txT k n s kids).length + 3 ≤ 32 * (nodes kids + 1) := by
          have h6 : s.data.toList.length = s.size := rfl
          cases hi : infB k s kids.len
          · show (bodyB k n s kids.len (txL kids)).length + 3 ≤ _
            unfold bodyB
            split
            · simp only [letB, List.length_cons, List.length_nil]; omega
            · split
              · have := itoa_small n (h2 (by assumption)); omega
              · rw [hp, hi]
                have h5 := args_len (txs kids)
                have h7 := mxL_args kids
                rw [txs_len] at h5
                show (s.data.toList ++ argsB (txs kids)).length + 3 ≤ _
                rw [List.length_append]
                omega
          · have hi' := hi
            unfold infB at hi'
            simp only [Bool.and_eq_true, beq_iff_eq] at hi'
            obtain ⟨rfl, hl, _⟩ := hi'
            obtain ⟨k1, n1, s1, kd1, k2, n2, s2, kd2, rfl⟩ : ∃ k1 n1 s1 kd1 k2 n2 s2 kd2, kids = .cons k1 n1 s1 kd1 (.cons k2 n2 s2 kd2 .nil) := by
              match kids, hl with
              | .cons k1 n1 s1 kd1 (.cons k2 n2 s2 kd2 .nil), _ => exact ⟨k1, n1, s1, kd1, k2, n2, s2, kd2, rfl⟩
              | .nil, h => cases h
              | .cons _ _ _ _ .nil, h => cases h
              | .cons _ _ _ _ (.cons _ _ _ _ (.cons _ _ _ _ _)), h => simp [Fr.len] at h
            have e1 : max ((txT k1 n1 s1 kd1).length + 3) (tlT k1 n1 s1 kd1).length + (max ((txT k2 n2 s2 kd2).length + 3) (tlT k2 n2 s2 kd2).length + 0) ≤ 32 * nodes (.cons k1 n1 s1 kd1 (.cons k2 n2 s2 kd2 .nil)) := a
            rw [txT_inf hp hi]
            have e2 := lefT_len k1 n1 s1 kd1 (lfl (op.level s.data.toList))
            have e3 := rigT_len k2 n2 s2 kd2 (op.level s.data.toList - 1)
            have e4 := spB_len s.data.toList
            simp only [List.length_append]
            omega
        rw [tlT_not hp]
        unfold endB
        split
        · simp only [List.length_nil]; omega
        · rw [List.length_cons]; omega
      · obtain ⟨k1, n1, s1, kd1, k2, n2, s2, kd2, rfl, hfr, htl⟩ := pair_yes n hp
        have e1 : max ((txT k1 n1 s1 kd1).length + 3) (tlT k1 n1 s1 kd1).length + (max ((txT k2 n2 s2 kd2).length + 3) (tlT k2 n2 s2 kd2).length + 0) ≤ 32 * nodes (.cons k1 n1 s1 kd1 (.cons k2 n2 s2 kd2 .nil)) := a
        rw [txT_pair n hp, tlT_pair n hp]
        simp only [List.length_cons, List.length_append, List.length_nil]
        omega
    have e : mxL (txL (.cons k n s kids rest)) = max ((txT k n s kids).length + 3) (tlT k n s kids).length + mxL (txL rest) := rfl
    rw [e]
    simp only [nodes]
    omega
theorem txT_len {k n : Int} {s : ByteArray} {f : Fr} (h1 : s.size ≤ 6) (h2 : k = 2 → -999 ≤ n ∧ n ≤ 999) (h3 : smF f) : (txT k n s f).length + 3 ≤ 32 * (nodes f + 1) ∧ (tlT k n s f).length ≤ 32 * (nodes f + 1) := by
  have h := tx_len (.cons k n s f .nil) ⟨⟨h1, h2⟩, h3, trivial⟩
  have e : mxL (txL (.cons k n s f .nil)) = max ((txT k n s f).length + 3) (tlT k n s f).length + 0 := rfl
  rw [e] at h
  simp only [nodes] at h
  omega
theorem txT_shape {k n : Int} {s : ByteArray} {f : Fr} {d : Int} (h : shapeT k n s f d = true) : (txT k n s f).length + 3 ≤ 32 * (nodes f + 1) ∧ (tlT k n s f).length ≤ 32 * (nodes f + 1) := by
  have h1 := smF_shape (.cons k n s f .nil) d (by rw [shapeF_cons, h]; rfl)
  exact txT_len h1.1.1 h1.1.2 h1.2.1
/-- The texts of a row that is written from element j on. -/
def moreB (j : Nat) (f : Fr) : List UInt8 := if j = 0 then (match txs f with | [] => [] | t :: ts => 40 :: (t ++ ts.flatMap (fun x => 44 :: x))) else (txs f).flatMap (fun x => 44 :: x)
theorem argsB_more (f : Fr) : argsB (txs f) = if f.len = 0 then [] else moreB 0 f ++ [41] := by
  cases f with
  | nil => rfl
  | cons k n s kids rest =>
    rw [if_neg (by simp [Fr.len]), txs_cons]
    unfold moreB
    simp [argsB, txs_cons]
theorem inf_kids {k : Int} {s : ByteArray} {kids : Fr} (hi : infB k s kids.len = true) : k = 3 ∧ 0 < op.level s.data.toList ∧ ∃ k1 n1 s1 kd1 k2 n2 s2 kd2, kids = .cons k1 n1 s1 kd1 (.cons k2 n2 s2 kd2 .nil) := by
  unfold infB at hi
  simp only [Bool.and_eq_true, beq_iff_eq, decide_eq_true_eq] at hi
  obtain ⟨rfl, hl, hv⟩ := hi
  refine ⟨rfl, hv, ?_⟩
  match kids, hl with
  | .cons k1 n1 s1 kd1 (.cons k2 n2 s2 kd2 .nil), _ => exact ⟨k1, n1, s1, kd1, k2, n2, s2, kd2, rfl⟩
  | .nil, h => cases h
  | .cons _ _ _ _ .nil, h => cases h
  | .cons _ _ _ _ (.cons _ _ _ _ (.cons _ _ _ _ _)), h => simp [Fr.len] at h
/-- What is still to be written of a row without brackets, from element j on. -/
def remB (j : Nat) (f : Fr) : List UInt8 := if j = 0 then (match txs f with | [] => [] | t :: ts => t ++ ts.flatMap (fun x => 44 :: x)) else (txs f).flatMap (fun x => 44 :: x)
theorem remB_zero (k n : Int) (s : ByteArray) (kids rest : Fr) : remB 0 (.cons k n s kids rest) = txT k n s kids ++ remB 1 rest := by
  unfold remB
  rw [if_pos rfl, if_neg (by decide), txs_cons]
theorem remB_step (j : Nat) (hj : j ≠ 0) (k n : Int) (s : ByteArray) (kids rest : Fr) : remB j (.cons k n s kids rest) = 44 :: (txT k n s kids ++ remB (j + 1) rest) := by
  unfold remB
  rw [if_neg hj, if_neg (by omega), txs_cons, List.flatMap_cons]
  rfl
theorem remB_nil (j : Nat) : remB j .nil = [] := by unfold remB; split <;> rfl
theorem moreB_rem (f : Fr) (h : f.len ≠ 0) : moreB 0 f = 40 :: remB 0 f := by
  cases f with
  | nil => exact absurd rfl h
  | cons k n s kids rest => rfl
theorem argsB_rem (f : Fr) : argsB (txs f) = if f.len = 0 then [] else 40 :: (remB 0 f ++ [41]) := by
  rw [argsB_more]
  by_cases h : f.len = 0
  · rw [if_pos h, if_pos h]
  · rw [if_neg h, if_neg h, moreB_rem f h]; rfl
theorem txT_rem {k n : Int} {s : ByteArray} {f : Fr} (hp : pairB k s f.len = true) {k' n' : Int} {s' : ByteArray} {f' : Fr} (ht : tails k n s f = .cons k' n' s' f' .nil) : txT k n s f = 91 :: (remB 0 (fronts k s f) ++ (endB k' n' s' f' ++ [93])) := by
  obtain ⟨k1, n1, s1, kd1, r, hf, hx⟩ := txT_list hp ht
  rw [hx, hf, remB_zero]
  unfold remB
  rw [if_neg (by decide)]
  simp
end Go.Proofs.YtihmgodiiohdnaaGreatDoor.wr

/- The model's texts of terms: spec.l1Letter, l18Dec, l1Dec, l1Text, l1List. Condition: the term lies in memory and is well-formed. -/
namespace Go.Proofs.YtihmgodiiohdnaaGreatDoor
open Go.RowKit

theorem str_app (a b : List UInt8) : (.string (⟨a.toArray⟩ ++ ⟨b.toArray⟩) : Value) = .string ⟨(a ++ b).toArray⟩ := congrArg Value.string (ByteArray.mk_append_mk a b)
theorem str_own (s : ByteArray) : s = ⟨s.data.toList.toArray⟩ := by cases s; simp
theorem one_byteV (x : Int) (c : UInt8) (hc : (c.toNat : Int) = x) (w : World) : (convert 22 9 (.slice (some ⟨w.heap.size, 0, none⟩) 1 1)).run Tryz.prog (w.alloc (.cells #[.int .u8 x] 5)) =
    .ok (.string ⟨[c].toArray⟩) (w.alloc (.cells #[.int .u8 x] 5)) := by
  refine run_convert_bytes_back _ _ _ 5 ⟨w.heap.size, 0, none⟩ 1 [c] Tryz.underlying22 Tryz.underlying5 Tryz.underlying9 fun i hi => ?_
  obtain rfl : i = 0 := by simpa using hi
  have h := (Blk.new w 5 #[.int .u8 x]).cell 0
  show (w.alloc _).cell? ⟨w.heap.size, 0, none⟩ = some (.int .u8 (c.toNat : Int))
  rw [h, hc]
  rfl
set_option maxRecDepth 100000 in
/-- spec.l1Letter. -/
theorem letter_any2 (n : Int) (h : 0 ≤ n ∧ n ≤ 25) (w : World) : Calls Tryz.prog 124 #[.int .i64 n] w fun e w' => e = .returned (.string ⟨(letB n).toArray⟩) ∧ Below w.heap.size w w' := by
  have hc : ((UInt8.ofNat (65 + n.toNat)).toNat : Int) = 65 + n := by rw [UInt8.toNat_ofNat']; omega
  have kc := one_byteV (65 + n) (UInt8.ofNat (65 + n.toNat)) hc w
  have HB : Hid (Below w.heap.size w (w.alloc (.cells #[.int .u8 (65 + n)] 5))) := Lib.hid ((Below.refl _ _).alloc (Nat.le_refl _) _)
  have HV : Hid (letB n = [UInt8.ofNat (65 + n.toNat)]) := Lib.hid rfl
  clear hc
  generalize UInt8.ofNat (65 + n.toNat) = c at *
  obtain ⟨h0, h1⟩ := h
  go_enter Tryz.func124, Tryz.ntmps124
  go_wp2_with fail
  go_ret
  rw [HV.out]; exact ⟨rfl, HB.out⟩
set_option maxRecDepth 100000 in
set_option maxHeartbeats 1000000 in
/-- spec.l18Dec at a number that is not negative. -/
theorem dec18_any (n : Nat) (hn : n ≤ 999) (w : World) : Calls Tryz.prog 133 #[.int .i64 (n : Int)] w fun e w' => e = .returned (.string ⟨(Lib.decDigits n).toArray⟩) ∧ Below w.heap.size w w' := by
  have t0 : ¬ (n : Int) < -9223372036854775807 := by omega
  have t1 : ¬ (n : Int) < 0 := by omega
  go_enter Tryz.func133, Tryz.ntmps133
  go_wp2_with fail
  go_loopw [3, 0] (fun o i wr => ∃ (j : Nat) (out : List UInt8), j ≤ n ∧ out.length + j ≤ 4 + n ∧ i = .int .i64 j ∧ o = .string ⟨out.toArray⟩ ∧ Lib.decDigits j ++ out = Lib.decDigits n ∧ Below w.heap.size w wr) (fun _ i _ => (intOf i).toNat)
  case atStart => exact ⟨n, [], Nat.le_refl _, by simp, rfl, rfl, by simp, Below.refl _ _⟩
  case round =>
    obtain ⟨j, out, hj, hl, rfl, rfl, hd, hb⟩ := hrel
    have HD := Lib.hid hd
    have HB := Lib.hid hb
    clear hd hb
    by_cases h9 : j ≤ 9
    · have hc : ((UInt8.ofNat (48 + j)).toNat : Int) = 48 + (j : Int) := by rw [UInt8.toNat_ofNat']; omega
      have kc := one_byteV (48 + (j : Int)) (UInt8.ofNat (48 + j)) hc wr
      have HV : Hid (([UInt8.ofNat (48 + j)] ++ out) = Lib.decDigits n) := Lib.hid (by
        have h := HD.out
        rw [Lib.decDigits_one (by omega)] at h
        exact h)
      have t9 : ¬ (9 : Int) < j := by omega
      clear hc
      generalize UInt8.ofNat (48 + j) = d at *
      go_wp2_with fail
      go_ret
      rw [← HV.out, ← ByteArray.mk_append_mk]
      exact ⟨rfl, HB.out.alloc HB.out.size _⟩
    · have t9 : (9 : Int) < j := by omega
      have hc : ((UInt8.ofNat (48 + j % 10)).toNat : Int) = 48 + (j : Int) % 10 := by rw [UInt8.toNat_ofNat']; omega
      have kc := one_byteV (48 + (j : Int) % 10) (UInt8.ofNat (48 + j % 10)) hc wr
      have HE : Hid (Lib.decDigits (j / 10) ++ (UInt8.ofNat (48 + j % 10) :: out) = Lib.decDigits n) := Lib.hid (by
        rw [← HD.out, Lib.decDigits.eq_def j, dif_neg (by omega), List.append_assoc]
        rfl)
      clear hc
      generalize UInt8.ofNat (48 + j % 10) = d at *
      go_wp2_with fail
      go_roundw
      case rel => exact ⟨j / 10, d :: out, by omega, by simp only [List.length_cons]; omega, by go_num, str_app [d] out, HE.out, HB.out.alloc HB.out.size _⟩
      case measure => simp [intOf]; omega
set_option maxRecDepth 100000 in
/-- spec.l1Dec. -/
theorem dec_any (n : Int) (hn : -999 ≤ n ∧ n ≤ 999) (w : World) : Calls Tryz.prog 125 #[.int .i64 n] w fun e w' => e = .returned (.string ⟨(Lib.itoa n).toArray⟩) ∧ Below w.heap.size w w' := by
  by_cases h0 : n < 0
  · obtain ⟨m, rfl⟩ : ∃ m : Nat, n = -(m : Int) := ⟨n.natAbs, by omega⟩
    have C1 := dec18_any m (by omega) w
    have HV : Hid ((⟨#[45]⟩ : ByteArray) ++ ⟨(Lib.decDigits m).toArray⟩ = ⟨(Lib.itoa (-(m : Int))).toArray⟩) := Lib.hid (by
      rw [Lib.itoa_neg m (by omega)]
      exact ByteArray.mk_append_mk [45] _)
    have hlen : (Lib.decDigits m).length ≤ 20 := by rw [Lib.decDigits_length]; exact Lib.nDigits_le20 m (by omega)
    generalize Lib.decDigits m = l at *
    have H1 := Lib.hid C1
    clear C1
    go_enter Tryz.func125, Tryz.ntmps125
    go_wp2_with fail
    refine H1.out.mono ?_
    rintro e w2 ⟨rfl, hb⟩
    have HB := Lib.hid hb
    clear hb
    go_wp2_with fail
    go_ret
    rw [← HV.out]; exact ⟨rfl, HB.out⟩
  · obtain ⟨m, rfl⟩ : ∃ m : Nat, n = (m : Int) := ⟨n.toNat, by omega⟩
    have C1 := dec18_any m (by omega) w
    have HV : Hid (Lib.itoa (m : Int) = Lib.decDigits m) := Lib.hid (Lib.itoa_nonneg m)
    have H1 := Lib.hid C1
    clear C1
    go_enter Tryz.func125, Tryz.ntmps125
    go_wp2_with fail
    refine H1.out.mono ?_
    rintro e w2 ⟨rfl, hb⟩
    have HB := Lib.hid hb
    clear hb
    go_wp2_with fail
    go_ret
    rw [HV.out]; exact ⟨rfl, HB.out⟩
end Go.Proofs.YtihmgodiiohdnaaGreatDoor

/- The model's texts of terms: spec.l1Text, l1List, FormatTerm. Condition: the term lies in memory. -/
namespace Go.Proofs.YtihmgodiiohdnaaGreatDoor
open Go.RowKit

def strLen : Value → Nat | .string b => b.size | _ => 0
theorem strLen_mk (l : List UInt8) : strLen (.string ⟨l.toArray⟩) = l.length := by simp [strLen, ByteArray.size]
def TxC (s : ByteArray) (f : Fr) : Prop := ∀ (k n : Int) (A : Option Addr) (cap lo hi : Nat) (d : Int) (w : World), KidsAt w lo hi f A cap → hi ≤ w.heap.size → shapeT k n s f d = true → nodes f ≤ 1048576 →
  Calls Tryz.prog 113 #[.agg #[.int .i64 k, .int .i64 n, .string s, .slice A f.len cap]] w fun e w' => e = .returned (.string ⟨(txT k n s f).toArray⟩) ∧ Below w.heap.size w w'

set_option maxRecDepth 100000 in
set_option maxHeartbeats 4000000 in
/-- spec.l1List. -/
theorem list_of (s : ByteArray) (f : Fr) (h : ∀ s' f', f'.size < f.size → TxC s' f') (k n : Int) (A : Option Addr) (cap lo hi : Nat) (d : Int) (w : World) (hk : KidsAt w lo hi f A cap) (hh : hi ≤ w.heap.size) (hp : pairB k s f.len = true) (hs : shapeT k n s f d = true) (hnd : nodes f ≤ 1048576) :
    Calls Tryz.prog 126 #[.agg #[.int .i64 k, .int .i64 n, .string s, .slice A f.len cap]] w fun e w' => e = .returned (.string ⟨(txT k n s f).toArray⟩) ∧ Below w.heap.size w w' := by
  have hGl := (txT_shape hs).1
  obtain ⟨k1, n1, s1, kd1, k2, n2, s2, kd2, rfl, _, _⟩ := pair_yes n hp
  have hG : txT k n s (.cons k1 n1 s1 kd1 (.cons k2 n2 s2 kd2 .nil)) = 91 :: (txT k1 n1 s1 kd1 ++ (tlT k2 n2 s2 kd2 ++ [93])) := txT_pair n hp
  have hsk := shapeT_kids hs
  rw [shapeF_cons, shapeF_cons, Bool.and_eq_true, Bool.and_eq_true] at hsk
  have hsz1 : kd1.size < (Fr.cons k1 n1 s1 kd1 (.cons k2 n2 s2 kd2 .nil)).size := by simp only [Fr.size]; omega
  have hsz2 : kd2.size < (Fr.cons k1 n1 s1 kd1 (.cons k2 n2 s2 kd2 .nil)).size := by simp only [Fr.size]; omega
  have hGl2 : (txT k n s (.cons k1 n1 s1 kd1 (.cons k2 n2 s2 kd2 .nil))).length ≤ 67108864 := by omega
  generalize hGG : txT k n s (.cons k1 n1 s1 kd1 (.cons k2 n2 s2 kd2 .nil)) = G at *
  generalize (Fr.cons k1 n1 s1 kd1 (.cons k2 n2 s2 kd2 .nil)).size = SZ at *
  clear hGG hs hp hGl
  have hln : (Fr.cons k1 n1 s1 kd1 (.cons k2 n2 s2 kd2 .nil)).len = 2 := rfl
  rw [hln]
  obtain ⟨b, o, rfl, hlb, hbb, hrow⟩ := hk.2.2 (by rw [hln]; omega)
  have hcap := hk.2.1
  have hcap2 := hk.1
  rw [hln] at hcap2
  unfold maxLen at hcap
  obtain ⟨hfit1, A1, cp1, c0, c1, c2, c3, hkid1⟩ := hrow.elem (i := 0) rfl
  simp only [Nat.zero_mul, Nat.add_zero] at c0 c1 c2 c3
  have hb0 : Below w.heap.size w (w.alloc (.cells #[.int .i64 k, .int .i64 n, .string s, .slice (some ⟨b, o, none⟩) 2 cap] 30)) := (Below.refl _ _).alloc (Nat.le_refl _) _
  have hq0 := Blk.new w 30 #[.int .i64 k, .int .i64 n, .string s, .slice (some ⟨b, o, none⟩) 2 cap]
  have hlo : b < w.heap.size := Nat.lt_of_lt_of_le hbb hh
  have x3 := hq0.cell 3
  simp only [List.getElem?_toArray, List.getElem?_cons_zero, List.getElem?_cons_succ] at x3
  have k0 := (hb0.cell (p := ⟨b, o, none⟩) hlo).trans c0
  have k1' := (hb0.cell (p := ⟨b, o + 1, none⟩) hlo).trans c1
  have k2' := (hb0.cell (p := ⟨b, o + 2, none⟩) hlo).trans c2
  have k3 := (hb0.cell (p := ⟨b, o + 3, none⟩) hlo).trans c3
  have hnd1 : nodes kd1 ≤ 1048576 ∧ nodes kd2 ≤ 1048576 := by simp only [nodes] at hnd; omega
  have C1 := h s1 kd1 hsz1 k1 n1 A1 cp1 lo hi (d - 1) _ (hkid1.below hb0 hh) (Nat.le_trans hh hb0.size) hsk.1 hnd1.1
  have H := Lib.hid h
  have HG := Lib.hid hG
  have H1 := Lib.hid C1
  have HHI := Lib.hid hh
  have HB0 := Lib.hid hb0
  have HQ0 := Lib.hid hq0
  have HK := Lib.hid hk
  have HS2 := Lib.hid hsk.2.1
  have HZ2 := Lib.hid hsz2
  have HN2 := Lib.hid hnd1.2
  have hl1 : (txT k1 n1 s1 kd1).length ≤ 67108864 := by have := congrArg List.length hG; simp at this; omega
  clear h hG C1 hk hnd hb0 hq0 hrow hsk hsz1 hsz2 c0 c1 c2 c3 hkid1 hfit1 hnd1 hh
  go_enter Tryz.func126, Tryz.ntmps126
  go_wp2_with fail
  refine H1.out.mono ?_
  rintro e w2 ⟨rfl, hb⟩
  have HQ2 := Lib.hid (HQ0.out.below hb HQ0.out.lt)
  have HB2 := Lib.hid (HB0.out.trans (hb.mono HB0.out.size))
  clear hb x3 k0 k1' k2' k3
  generalize hT1 : txT k1 n1 s1 kd1 = T1 at *
  go_wp2_with fail
  go_loopw [3] (fun ov wr => ∃ (L : List UInt8) (k' n' : Int) (s' : ByteArray) (cap' : Nat) (b o : Nat) (k1 n1 : Int) (s1 : ByteArray) (kd1 : Fr) (k2 n2 : Int) (s2 : ByteArray) (kd2 : Fr) (d2 : Int), ov = .string ⟨L.toArray⟩ ∧ Blk wr w.heap.size 30 #[.int .i64 k', .int .i64 n', .string s', .slice (some ⟨b, o, none⟩) 2 cap'] ∧
      KidsAt w lo hi (.cons k1 n1 s1 kd1 (.cons k2 n2 s2 kd2 .nil)) (some ⟨b, o, none⟩) cap' ∧ kd2.size < SZ ∧ nodes kd2 ≤ 1048576 ∧ shapeT k2 n2 s2 kd2 d2 = true ∧ L ++ (tlT k2 n2 s2 kd2 ++ [93]) = G ∧ Below w.heap.size w wr) (fun ov _ => G.length - strLen ov)
  case atStart => exact ⟨91 :: T1, _, _, _, _, _, _, _, _, _, _, _, _, _, _, _, str_app [91] T1, HQ2.out, HK.out, HZ2.out, HN2.out, HS2.out, by rw [HG.out]; rfl, HB2.out⟩
  case round =>
    obtain ⟨L, k', n', s', cap', b, o, k1, n1, s1, kd1, k2, n2, s2, kd2, d2, rfl, hq, hk, hsz, hnd, hsh, hL, hb⟩ := hrel
    have hLl : L.length + (tlT k2 n2 s2 kd2).length ≤ 67108864 := by have := congrArg List.length hL; simp at this; omega
    obtain ⟨b', o', e, hlb, hbb, hrow⟩ := hk.2.2 (by simp [Fr.len])
    simp only [Option.some.injEq, Addr.mk.injEq, and_true] at e
    obtain ⟨rfl, rfl⟩ := e
    have hcap2 : 2 ≤ cap' := hk.1
    have hcap := hk.2.1
    unfold maxLen at hcap
    obtain ⟨hfit2, A2, cp2, c0, c1, c2, c3, hkid2⟩ := hrow.elem (i := 1) rfl
    simp only [Nat.one_mul] at c0 c1 c2 c3
    have hlo : b < w.heap.size := Nat.lt_of_lt_of_le hbb HHI.out
    have K : ∀ x, Below w.heap.size w x → x.cell? ⟨b, o + 4, none⟩ = some (.int .i64 k2) ∧ x.cell? ⟨b, o + 4 + 1, none⟩ = some (.int .i64 n2) ∧ x.cell? ⟨b, o + 4 + 2, none⟩ = some (.string s2) ∧ x.cell? ⟨b, o + 4 + 3, none⟩ = some (.slice A2 kd2.len cp2) := fun x hb =>
      ⟨(hb.cell (p := ⟨b, o + 4, none⟩) hlo).trans c0, (hb.cell (p := ⟨b, o + 4 + 1, none⟩) hlo).trans c1, (hb.cell (p := ⟨b, o + 4 + 2, none⟩) hlo).trans c2, (hb.cell (p := ⟨b, o + 4 + 3, none⟩) hlo).trans c3⟩
    obtain ⟨x0, x1, x2, x3⟩ : _ := (⟨hq.cell 0, hq.cell 1, hq.cell 2, hq.cell 3⟩ : _ ∧ _ ∧ _ ∧ _)
    simp only [List.getElem?_toArray, List.getElem?_cons_zero, List.getElem?_cons_succ] at x0 x1 x2 x3
    obtain ⟨y0, y1, y2, y3⟩ := K wr hb
    have HKK := Lib.hid K
    have HQ := Lib.hid hq
    have HB := Lib.hid hb
    have HL := Lib.hid hL
    have HKID := Lib.hid hkid2
    have HSH := Lib.hid hsh
    have HSZ := Lib.hid hsz
    have HND := Lib.hid hnd
    have C2 := pair_any k2 n2 s2 A2 kd2.len cp2 wr
    have hs0 := hq.lt
    clear hk hrow c0 c1 c2 c3 hfit2 K hq hb hL hkid2 hsh hsz hnd
    cases hpb : pairB k2 s2 kd2.len
    · rw [hpb] at C2
      have H2 := Lib.hid C2
      have HPB := Lib.hid hpb
      have C4 := fun w1 => nil_any k2 n2 s2 A2 kd2.len cp2 w1
      have HTL : Hid (tlT k2 n2 s2 kd2 = endB k2 n2 s2 kd2) := Lib.hid (tlT_not hpb)
      clear C2 hpb
      go_wp2_with fail
      refine H2.out.mono ?_
      rintro e w3 ⟨rfl, hb3⟩
      have hb3w := HB.out.trans (hb3.mono HB.out.size)
      have hq3 := HQ.out.below hb3 HQ.out.lt
      clear x0 x1 x2 x3 y0 y1 y2 y3
      have x3 := hq3.cell 3
      simp only [List.getElem?_toArray, List.getElem?_cons_zero, List.getElem?_cons_succ] at x3
      obtain ⟨y0, y1, y2, y3⟩ := HKK.out w3 hb3w
      have HQ3 := Lib.hid hq3
      have HB3 := Lib.hid hb3w
      clear hb3 hb3w hq3
      cases hnb : nilB k2 s2 kd2.len
      · rw [hnb] at C4
        have H4 := Lib.hid C4
        have HV : Hid (L ++ (124 :: (txT k2 n2 s2 kd2 ++ [93])) = G) := Lib.hid (by
          rw [← HL.out, HTL.out]
          unfold endB
          rw [hnb]
          rfl)
        have hl2 : L.length + (txT k2 n2 s2 kd2).length ≤ 67108864 := by have := congrArg List.length HV.out; simp at this; omega
        clear C4 hnb
        go_wp2_with fail
        refine (H4.out w3).mono ?_
        rintro e w4 ⟨rfl, hb4⟩
        have hb4w := HB3.out.trans (hb4.mono HB3.out.size)
        have hq4 := HQ3.out.below hb4 HQ3.out.lt
        have C5 := H.out s2 kd2 HSZ.out k2 n2 A2 cp2 lo hi d2 w4 (HKID.out.below hb4w HHI.out) (Nat.le_trans HHI.out hb4w.size) HSH.out HND.out
        clear x3 y0 y1 y2 y3
        have x3 := hq4.cell 3
        simp only [List.getElem?_toArray, List.getElem?_cons_zero, List.getElem?_cons_succ] at x3
        obtain ⟨y0, y1, y2, y3⟩ := HKK.out w4 hb4w
        have H5 := Lib.hid C5
        have HB4 := Lib.hid hb4w
        clear hb4 hb4w hq4 C5
        generalize txT k2 n2 s2 kd2 = T2 at *
        go_wp2_with fail
        refine H5.out.mono ?_
        rintro e w5 ⟨rfl, hb5⟩
        have HB5 := Lib.hid (HB4.out.trans (hb5.mono HB4.out.size))
        clear hb5
        go_wp2_with fail
        go_ret
        rw [← HV.out]
        refine ⟨?_, HB5.out⟩
        have e1 := ByteArray.mk_append_mk L [124]
        have e2 := ByteArray.mk_append_mk (L ++ [124]) T2
        have e3 := ByteArray.mk_append_mk (L ++ [124] ++ T2) [93]
        simp only [List.append_assoc] at e1 e2 e3
        rw [show (⟨#[124]⟩ : ByteArray) = ⟨[124].toArray⟩ from rfl, show (⟨#[93]⟩ : ByteArray) = ⟨[93].toArray⟩ from rfl, e1, e2, e3]; simp
      · rw [hnb] at C4
        have H4 := Lib.hid C4
        have HV : Hid (L ++ [93] = G) := Lib.hid (by
          rw [← HL.out, HTL.out]
          unfold endB
          rw [hnb]
          rfl)
        clear C4 hnb
        go_wp2_with fail
        refine (H4.out w3).mono ?_
        rintro e w4 ⟨rfl, hb4⟩
        have HB4 := Lib.hid (HB3.out.trans (hb4.mono HB3.out.size))
        clear hb4
        go_wp2_with fail
        go_ret
        rw [← HV.out, ← ByteArray.mk_append_mk]
        exact ⟨rfl, HB4.out⟩
    · rw [hpb] at C2
      have H2 := Lib.hid C2
      obtain ⟨hl2, rfl, _⟩ := pairB_len hpb
      obtain ⟨k3, n3, s3, kd3, k4, n4, s4, kd4, rfl, _, _⟩ := pair_yes n2 hpb
      have hln3 : (Fr.cons k3 n3 s3 kd3 (.cons k4 n4 s4 kd4 .nil)).len = 2 := rfl
      rw [hln3] at *
      have htl : tlT 3 n2 s2 (.cons k3 n3 s3 kd3 (.cons k4 n4 s4 kd4 .nil)) = 44 :: (txT k3 n3 s3 kd3 ++ tlT k4 n4 s4 kd4) := tlT_pair n2 hpb
      have hsh2 := shapeT_kids HSH.out
      rw [shapeF_cons, shapeF_cons, Bool.and_eq_true, Bool.and_eq_true] at hsh2
      have hszs : kd3.size < SZ ∧ kd4.size < SZ := by have := HSZ.out; simp only [Fr.size] at this; omega
      have hnds : nodes kd3 ≤ 1048576 ∧ nodes kd4 ≤ 1048576 := by have := HND.out; simp only [nodes] at this; omega
      obtain ⟨b3, o3, rfl, _, hbb3, hrow3⟩ := HKID.out.2.2 (by simp [Fr.len])
      have hcap3 : 2 ≤ cp2 := HKID.out.1
      have hcap4 := HKID.out.2.1
      unfold maxLen at hcap4
      obtain ⟨_, A3, cp3, c0, c1, c2, c3, hkid3⟩ := hrow3.elem (i := 0) rfl
      simp only [Nat.zero_mul, Nat.add_zero] at c0 c1 c2 c3
      have hlo3 : b3 < w.heap.size := Nat.lt_of_lt_of_le hbb3 HHI.out
      have HV : Hid ((L ++ 44 :: txT k3 n3 s3 kd3) ++ (tlT k4 n4 s4 kd4 ++ [93]) = G) := Lib.hid (by rw [← HL.out, htl]; simp)
      have hl3 : L.length + 1 + (txT k3 n3 s3 kd3).length ≤ G.length := by have := congrArg List.length HV.out; simp at this; omega
      have K3 : ∀ x, Below w.heap.size w x → x.cell? ⟨b3, o3, none⟩ = some (.int .i64 k3) ∧ x.cell? ⟨b3, o3 + 1, none⟩ = some (.int .i64 n3) ∧ x.cell? ⟨b3, o3 + 2, none⟩ = some (.string s3) ∧ x.cell? ⟨b3, o3 + 3, none⟩ = some (.slice A3 kd3.len cp3) := fun x hb =>
        ⟨(hb.cell (p := ⟨b3, o3, none⟩) hlo3).trans c0, (hb.cell (p := ⟨b3, o3 + 1, none⟩) hlo3).trans c1, (hb.cell (p := ⟨b3, o3 + 2, none⟩) hlo3).trans c2, (hb.cell (p := ⟨b3, o3 + 3, none⟩) hlo3).trans c3⟩
      have C5 := fun w4 (hb : Below w.heap.size w w4) => H.out s3 kd3 hszs.1 k3 n3 A3 cp3 lo hi _ w4 (hkid3.below hb HHI.out) (Nat.le_trans HHI.out hb.size) hsh2.1 hnds.1
      have HS4 := Lib.hid hsh2.2.1
      have HZ4 := Lib.hid hszs.2
      have HN4 := Lib.hid hnds.2
      have HK3 := Lib.hid K3
      have H5 := Lib.hid C5
      clear C2 hpb htl hsh2 hszs hnds hrow3 c0 c1 c2 c3 hkid3 K3 C5
      go_wp2_with fail
      refine H2.out.mono ?_
      rintro e w3 ⟨rfl, hb3⟩
      have hb3w := HB.out.trans (hb3.mono HB.out.size)
      have hq3 := HQ.out.below hb3 HQ.out.lt
      clear x0 x1 x2 x3 y0 y1 y2 y3
      obtain ⟨x0, x1, x2, x3⟩ : _ := (⟨hq3.cell 0, hq3.cell 1, hq3.cell 2, hq3.cell 3⟩ : _ ∧ _ ∧ _ ∧ _)
      simp only [List.getElem?_toArray, List.getElem?_cons_zero, List.getElem?_cons_succ] at x0 x1 x2 x3
      obtain ⟨y0, y1, y2, y3⟩ := HKK.out w3 hb3w
      obtain ⟨f0, f1, f2, f3⟩ := frozen4 hq3
      have hset : ∀ a0 a1 a2 a3, Below w.heap.size w ((((w3.setCell ⟨w.heap.size, 0, none⟩ a0).setCell ⟨w.heap.size, 1, none⟩ a1).setCell ⟨w.heap.size, 2, none⟩ a2).setCell ⟨w.heap.size, 3, none⟩ a3) ∧ Blk ((((w3.setCell ⟨w.heap.size, 0, none⟩ a0).setCell ⟨w.heap.size, 1, none⟩ a1).setCell ⟨w.heap.size, 2, none⟩ a2).setCell ⟨w.heap.size, 3, none⟩ a3) w.heap.size 30 #[a0, a1, a2, a3] := fun a0 a1 a2 a3 =>
        ⟨(((hb3w.setCell (Nat.le_refl _) _).setCell (Nat.le_refl _) _).setCell (Nat.le_refl _) _).setCell (Nat.le_refl _) _, set4 hq3 a0 a1 a2 a3⟩
      have hs4 := hset (.int .i64 3) (.int .i64 n2) (.string s2) (.slice (some ⟨b3, o3, none⟩) 2 cp2)
      obtain ⟨z0, z1, z2, z3⟩ := HK3.out _ hs4.1
      have z4 := hs4.2.cell 3
      simp only [List.getElem?_toArray, List.getElem?_cons_zero, List.getElem?_cons_succ] at z4
      have C6 := H5.out _ hs4.1
      have H6 := Lib.hid C6
      have HS := Lib.hid hs4
      clear hb3 hb3w hq3 hset hs4 C6
      go_wp2_with fail
      refine H6.out.mono ?_
      rintro e w5 ⟨rfl, hb5⟩
      have hb5w := HS.out.1.trans (hb5.mono HS.out.1.size)
      have hq5 := HS.out.2.below hb5 HS.out.2.lt
      have HB5 := Lib.hid hb5w
      have HQ5 := Lib.hid hq5
      clear hb5 hb5w hq5 x0 x1 x2 x3 y0 y1 y2 y3 z0 z1 z2 z3 z4 f0 f1 f2 f3
      have HSTR : Hid (∀ T : List UInt8, (.string ((⟨L.toArray⟩ ++ ⟨#[44]⟩) ++ ⟨T.toArray⟩) : Value) = .string ⟨(L ++ 44 :: T).toArray⟩) := Lib.hid fun T => by
        rw [show (⟨#[44]⟩ : ByteArray) = ⟨[44].toArray⟩ from rfl, ByteArray.mk_append_mk, ByteArray.mk_append_mk]
        simp
      generalize txT k3 n3 s3 kd3 = T3 at *
      go_wp2_with fail
      go_roundw
      case rel => exact ⟨L ++ 44 :: T3, _, _, _, _, _, _, _, _, _, _, _, _, _, _, _, HSTR.out T3, HQ5.out, HKID.out, HZ4.out, HN4.out, HS4.out, HV.out, HB5.out⟩
      case measure =>
        rw [HSTR.out T3, strLen_mk, strLen_mk]
        simp only [List.length_append, List.length_cons]
        omega

set_option maxRecDepth 100000 in
set_option maxHeartbeats 4000000 in
/-- spec.l1Text. -/
theorem txt_of (s : ByteArray) (f : Fr) (h : ∀ s' f', f'.size < f.size → TxC s' f') : TxC s f := by
  intro k n A cap lo hi d w hk hh hs hnd
  have hb0 : Below w.heap.size w (w.alloc (.cells #[.int .i64 k, .int .i64 n, .string s, .slice A f.len cap] 30)) := (Below.refl _ _).alloc (Nat.le_refl _) _
  have hq0 := Blk.new w 30 #[.int .i64 k, .int .i64 n, .string s, .slice A f.len cap]
  obtain ⟨x0, x1, x2, x3⟩ : _ := (⟨hq0.cell 0, hq0.cell 1, hq0.cell 2, hq0.cell 3⟩ : _ ∧ _ ∧ _ ∧ _)
  simp only [List.getElem?_toArray, List.getElem?_cons_zero, List.getElem?_cons_succ] at x0 x1 x2 x3
  have hGl := (txT_shape hs).1
  rcases shapeT_kind3 hs with ⟨rfl, hn⟩ | ⟨rfl, hn⟩ | rfl
  · have C1 := fun w1 => letter_any2 n hn w1
    have HV : Hid (txT 1 n s f = letB n) := Lib.hid (txT_var n s f)
    have H1 := Lib.hid C1
    have HB0 := Lib.hid hb0
    clear C1 hk hs hnd h hGl hq0 hb0
    generalize f.len = fl at *
    go_enter Tryz.func113, Tryz.ntmps113
    go_wp2_with fail
    refine (H1.out _).mono ?_
    rintro e w2 ⟨rfl, hb⟩
    have HB2 := Lib.hid (HB0.out.trans (hb.mono HB0.out.size))
    clear hb
    go_wp2_with fail
    go_ret
    rw [HV.out]; exact ⟨rfl, HB2.out⟩
  · have C1 := fun w1 => dec_any n hn w1
    have HV : Hid (txT 2 n s f = Lib.itoa n) := Lib.hid (txT_int n s f)
    have H1 := Lib.hid C1
    have HB0 := Lib.hid hb0
    clear C1 hk hs hnd h hGl hq0 hb0
    generalize f.len = fl at *
    go_enter Tryz.func113, Tryz.ntmps113
    go_wp2_with fail
    refine (H1.out _).mono ?_
    rintro e w2 ⟨rfl, hb⟩
    have HB2 := Lib.hid (HB0.out.trans (hb.mono HB0.out.size))
    clear hb
    go_wp2_with fail
    go_ret
    rw [HV.out]; exact ⟨rfl, HB2.out⟩
  · have C1 := fun w1 => pair_any 3 n s A f.len cap w1
    have HQ0 := Lib.hid hq0
    have HB0 := Lib.hid hb0
    cases hp : pairB 3 s f.len
    · rw [hp] at C1
      have HT : Hid (txT 3 n s f = s.data.toList ++ argsB (txs f)) := Lib.hid (txT_str hp)
      have HA := Lib.hid (argsB_more f)
      have hl : f.len ≤ 1048576 := by have := len_le_nodes f; omega
      have hs6 : s.data.toList.length ≤ 6 := nameB_size (shapeT_struct hs).2.1
      have hWl : s.data.toList.length + (moreB 0 f).length ≤ 67108864 := by
        rw [HT.out, HA.out] at hGl
        by_cases h0 : f.len = 0
        · have hf : f = .nil := by cases f with
            | nil => rfl
            | cons _ _ _ _ _ => simp [Fr.len] at h0
          rw [hf, moreB_nil]
          simp only [List.length_nil]
          omega
        · rw [if_neg h0] at hGl
          simp only [List.length_append] at hGl
          omega
      clear hs6
      have H := Lib.hid h
      have H1 := Lib.hid C1
      have HK := Lib.hid hk
      have HHI := Lib.hid hh
      have HSH := Lib.hid (shapeT_kids hs)
      have HND := Lib.hid hnd
      clear h C1 hk hs hnd hp hGl hb0 hq0 hh
      generalize hn : f.len = len at *
      have HN := Lib.hid hn
      clear hn
      go_enter Tryz.func113, Tryz.ntmps113
      go_wp2_with fail
      refine (H1.out _).mono ?_
      rintro e w2 ⟨rfl, hb⟩
      have HQ2 := Lib.hid (HQ0.out.below hb HQ0.out.lt)
      have HB2 := Lib.hid (HB0.out.trans (hb.mono HB0.out.size))
      clear hb x0 x1 x3
      have x2 := HQ2.out.cell 2
      simp only [List.getElem?_toArray, List.getElem?_cons_zero, List.getElem?_cons_succ] at x2
      go_wp2_with fail
      go_loopw [3, 4] (fun ov i wr => ∃ (j : Nat) (L : List UInt8), j ≤ len ∧ i = .int .i64 j ∧ ov = .string ⟨L.toArray⟩ ∧ L ++ moreB j (f.drop j) = s.data.toList ++ moreB 0 f ∧ Below w2.heap.size w2 wr) (fun _ i _ => len - (intOf i).toNat)
      case atStart => exact ⟨0, s.data.toList, Nat.zero_le _, rfl, congrArg Value.string (str_own s), rfl, Below.refl _ _⟩
      case round =>
        obtain ⟨j, L, hj, rfl, rfl, hL, hb⟩ := hrel
        have hbw := HB2.out.trans (hb.mono HB2.out.size)
        have hq := HQ2.out.below hb HQ2.out.lt
        have HLE := Lib.hid hL
        have HB := Lib.hid hb
        have HBW := Lib.hid hbw
        clear x2
        have x3 := hq.cell 3
        simp only [List.getElem?_toArray, List.getElem?_cons_zero, List.getElem?_cons_succ] at x3
        have hLl : L.length + (moreB j (f.drop j)).length ≤ 67108864 := by have := congrArg List.length hL; simp only [List.length_append] at this; omega
        clear hL
        by_cases hlt : j < len
        · obtain ⟨kk, nn, ss, kids, hd⟩ := Fr.drop_cons j f (by rw [HN.out]; exact hlt)
          obtain ⟨b, o, rfl, hlb, hbb, hrow⟩ := HK.out.2.2 (by rw [HN.out]; omega)
          obtain ⟨hfit, A', cp, c0, c1, c2, c3, hkid⟩ := hrow.elem hd
          have hlo : (⟨b, o, none⟩ : Addr).block < w.heap.size := Nat.lt_of_lt_of_le hbb HHI.out
          have k0 := (hbw.cell (p := ⟨b, o + j * 4, none⟩) hlo).trans c0
          have k1 := (hbw.cell (p := ⟨b, o + j * 4 + 1, none⟩) hlo).trans c1
          have k2 := (hbw.cell (p := ⟨b, o + j * 4 + 2, none⟩) hlo).trans c2
          have k3 := (hbw.cell (p := ⟨b, o + j * 4 + 3, none⟩) hlo).trans c3
          have hsz : kids.size < f.size := by
            have h1 := Fr.size_drop j f
            rw [hd] at h1
            simp only [Fr.size] at h1
            omega
          have C3 := H.out ss kids hsz kk nn A' cp lo hi _ wr (hkid.below hbw HHI.out) (Nat.le_trans HHI.out hbw.size) (shape_drop f j _ hd HSH.out) (Nat.le_trans (nodes_drop_elem j f hd) HND.out)
          have hL2 := HLE.out
          rw [hd, moreB_step] at hL2 hLl
          have HL2 := Lib.hid hL2
          have H3 := Lib.hid C3
          clear C3 c0 c1 c2 c3 hkid hrow hfit hd hlo hL2 hbw hsz hq hb
          generalize txT kk nn ss kids = T at *
          have hTl : L.length + 1 + T.length ≤ 67108864 := by simp only [List.length_cons, List.length_append] at hLl; omega
          by_cases hj0 : j = 0
          · subst hj0
            have t0 : (((0 : Nat) : Int) == 0) = true := rfl
            rw [if_pos rfl] at HL2
            have HSTR : Hid ((.string ((⟨L.toArray⟩ ++ ⟨#[40]⟩) ++ ⟨T.toArray⟩) : Value) = .string ⟨(L ++ 40 :: T).toArray⟩) := Lib.hid (by
              rw [show (⟨#[40]⟩ : ByteArray) = ⟨[40].toArray⟩ from rfl, ByteArray.mk_append_mk, ByteArray.mk_append_mk]
              simp)
            have HL3 : Hid ((L ++ 40 :: T) ++ moreB (0 + 1) (f.drop (0 + 1)) = s.data.toList ++ moreB 0 f) := Lib.hid (by rw [← HL2.out]; simp)
            simp only [Nat.zero_mul, Nat.add_zero] at k0 k1 k2 k3
            go_wp2_with fail
            refine H3.out.mono ?_
            rintro e w3 ⟨rfl, hb3⟩
            have HB3 := Lib.hid (HB.out.trans (hb3.mono HB.out.size))
            clear hb3
            go_wp2_with fail
            go_roundw
            case rel => exact ⟨0 + 1, L ++ 40 :: T, by omega, by go_num, HSTR.out, HL3.out, HB3.out⟩
            case measure => simp [intOf]; omega
          · have t0 : ((j : Int) == 0) = false := by rw [beq_eq_false_iff_ne]; omega
            rw [if_neg hj0] at HL2
            have HSTR : Hid ((.string ((⟨L.toArray⟩ ++ ⟨#[44]⟩) ++ ⟨T.toArray⟩) : Value) = .string ⟨(L ++ 44 :: T).toArray⟩) := Lib.hid (by
              rw [show (⟨#[44]⟩ : ByteArray) = ⟨[44].toArray⟩ from rfl, ByteArray.mk_append_mk, ByteArray.mk_append_mk]
              simp)
            have HL3 : Hid ((L ++ 44 :: T) ++ moreB (j + 1) (f.drop (j + 1)) = s.data.toList ++ moreB 0 f) := Lib.hid (by rw [← HL2.out]; simp)
            clear hj0
            go_wp2_with fail
            refine H3.out.mono ?_
            rintro e w3 ⟨rfl, hb3⟩
            have HB3 := Lib.hid (HB.out.trans (hb3.mono HB.out.size))
            clear hb3
            go_wp2_with fail
            go_roundw
            case rel => exact ⟨j + 1, L ++ 44 :: T, by omega, by go_num, HSTR.out, HL3.out, HB3.out⟩
            case measure => simp [intOf]; omega
        · obtain rfl : j = len := by omega
          have hLL : L = s.data.toList ++ moreB 0 f := by
            have h1 := Fr.drop_len f
            rw [HN.out] at h1
            rw [← HLE.out, h1, moreB_nil, List.append_nil]
          have hLs : L.length ≤ 67108864 := by omega
          by_cases h0 : 0 < j
          · have HV : Hid ((L ++ [41]) = txT 3 n s f) := Lib.hid (by rw [HT.out, HA.out, if_neg (by omega), hLL]; simp)
            clear hb hbw hq hLL hLl
            go_wp2_with fail
            go_ret
            rw [← HV.out, ← ByteArray.mk_append_mk]
            exact ⟨rfl, HBW.out⟩
          · have HV : Hid (L = txT 3 n s f) := Lib.hid (by
              have hz : f.len = 0 := by rw [HN.out]; omega
              have : f = .nil := by cases f with
                | nil => rfl
                | cons _ _ _ _ _ => simp [Fr.len] at hz
              rw [HT.out, HA.out, if_pos (by omega), hLL, this, moreB_nil])
            clear hb hbw hq hLL hLl
            go_wp2_with fail
            go_ret
            rw [← HV.out]
            exact ⟨rfl, HBW.out⟩
    · rw [hp] at C1
      have C2 := fun w1 (hb : Below w.heap.size w w1) => list_of s f h 3 n A cap lo hi d w1 (hk.below hb hh) (Nat.le_trans hh hb.size) hp hs hnd
      have H1 := Lib.hid C1
      have H2 := Lib.hid C2
      clear h C1 C2 hk hs hnd hp hGl hb0 hq0 hh
      generalize f.len = len at *
      go_enter Tryz.func113, Tryz.ntmps113
      go_wp2_with fail
      refine (H1.out _).mono ?_
      rintro e w2 ⟨rfl, hb⟩
      have hq := HQ0.out.below hb HQ0.out.lt
      have HB2 := Lib.hid (HB0.out.trans (hb.mono HB0.out.size))
      clear x0 x1 x2 x3 hb
      obtain ⟨x0, x1, x2, x3⟩ : _ := (⟨hq.cell 0, hq.cell 1, hq.cell 2, hq.cell 3⟩ : _ ∧ _ ∧ _ ∧ _)
      simp only [List.getElem?_toArray, List.getElem?_cons_zero, List.getElem?_cons_succ] at x0 x1 x2 x3
      clear hq
      go_wp2_with fail
      refine (H2.out w2 HB2.out).mono ?_
      rintro e w3 ⟨rfl, hb⟩
      have HB3 := Lib.hid (HB2.out.trans (hb.mono HB2.out.size))
      clear hb
      go_wp2_with fail
      go_ret
      exact ⟨rfl, HB3.out⟩
theorem tx_all (N : Nat) : ∀ (s : ByteArray) (f : Fr), f.size ≤ N → TxC s f := by
  induction N with
  | zero => exact fun s f hf => txt_of s f fun s' f' h => by omega
  | succ N ih => exact fun s f hf => txt_of s f fun s' f' h => ih s' f' (by omega)

/-- What both FormatTerm answer. -/
def fmB (k n : Int) (s : ByteArray) (f : Fr) : List UInt8 := if validT k n s f = true then txT k n s f else []
end Go.Proofs.YtihmgodiiohdnaaGreatDoor

/- The model's texts with operators, first part: spec.l2Infix, l2Sole, l2Spaced, l2Plain, l2Bracket, l2Left, l2Right. Condition: the term lies in memory and is well-formed. -/
namespace Go.Proofs.YtihmgodiiohdnaaGreatDoor.wr
open Go.RowKit

set_option maxHeartbeats 1000000 in
/-- spec.l2Infix. -/
theorem infix_any (k n : Int) (s : ByteArray) (A : Option Addr) (len cap : Nat) (w : World) :
    Calls Tryz.prog 108 #[.agg #[.int .i64 k, .int .i64 n, .string s, .slice A len cap]] w fun e w' => e = .returned (.bool (infB k s len)) ∧ Below w.heap.size w w' := by
  have hb0 : Below w.heap.size w (w.alloc (.cells #[.int .i64 k, .int .i64 n, .string s, .slice A len cap] 30)) := (Below.refl _ _).alloc (Nat.le_refl _) _
  have HB := Lib.hid hb0
  clear hb0
  by_cases h1 : k = 3
  · subst h1
    by_cases h2 : len = 2
    · subst h2
      have HV : Hid (infB 3 s 2 = decide (0 < op.level s.data.toList)) := Lib.hid rfl
      have C := fun w1 => op.l2_any s w1
      have H := Lib.hid C
      clear C
      generalize op.level s.data.toList = lv at *
      by_cases h3 : 0 < lv
      · have HW : Hid (infB 3 s 2 = true) := Lib.hid (by rw [HV.out, decide_eq_true h3])
        have d3 : decide ((0 : Int) < lv) = true := decide_eq_true h3
        clear HV
        go_enter Tryz.func108, Tryz.ntmps108
        go_wp2_with (first | (go_at_call 51; refine (H.out _).mono ?_; rintro e w' ⟨rfl, rfl⟩) | fail)
        go_ret
        rw [HW.out]; exact ⟨rfl, HB.out⟩
      · have HW : Hid (infB 3 s 2 = false) := Lib.hid (by rw [HV.out, decide_eq_false h3])
        have d3 : decide ((0 : Int) < lv) = false := decide_eq_false h3
        clear HV
        go_enter Tryz.func108, Tryz.ntmps108
        go_wp2_with (first | (go_at_call 51; refine (H.out _).mono ?_; rintro e w' ⟨rfl, rfl⟩) | fail)
        go_ret
        rw [HW.out]; exact ⟨rfl, HB.out⟩
    · have HV : Hid (infB 3 s len = false) := Lib.hid (by simp [infB, h2])
      have t2 : ((len : Int) == 2) = false := by rw [beq_eq_false_iff_ne]; omega
      clear h2
      go_enter Tryz.func108, Tryz.ntmps108
      go_wp2_with fail
      go_ret
      rw [HV.out]; exact ⟨rfl, HB.out⟩
  · have HV : Hid (infB k s len = false) := Lib.hid (by simp [infB, h1])
    have t1 : (k == 3) = false := by rw [beq_eq_false_iff_ne]; exact h1
    clear h1
    go_enter Tryz.func108, Tryz.ntmps108
    go_wp2_with fail
    go_ret
    rw [HV.out]; exact ⟨rfl, HB.out⟩
set_option maxHeartbeats 1000000 in
/-- spec.l2Sole. -/
theorem sole_any (k n : Int) (s : ByteArray) (A : Option Addr) (len cap : Nat) (w : World) :
    Calls Tryz.prog 121 #[.agg #[.int .i64 k, .int .i64 n, .string s, .slice A len cap]] w fun e w' => e = .returned (.bool (soleB k s len)) ∧ Below w.heap.size w w' := by
  have hb0 : Below w.heap.size w (w.alloc (.cells #[.int .i64 k, .int .i64 n, .string s, .slice A len cap] 30)) := (Below.refl _ _).alloc (Nat.le_refl _) _
  have HB := Lib.hid hb0
  clear hb0
  by_cases h1 : k = 3
  · subst h1
    by_cases h2 : len = 0
    · subst h2
      have HV : Hid (soleB 3 s 0 = decide (0 < op.level s.data.toList)) := Lib.hid rfl
      have C := fun w1 => op.l2_any s w1
      have H := Lib.hid C
      clear C
      generalize op.level s.data.toList = lv at *
      by_cases h3 : 0 < lv
      · have HW : Hid (soleB 3 s 0 = true) := Lib.hid (by rw [HV.out, decide_eq_true h3])
        have d3 : decide ((0 : Int) < lv) = true := decide_eq_true h3
        clear HV
        go_enter Tryz.func121, Tryz.ntmps121
        go_wp2_with (first | (go_at_call 51; refine (H.out _).mono ?_; rintro e w' ⟨rfl, rfl⟩) | fail)
        go_ret
        rw [HW.out]; exact ⟨rfl, HB.out⟩
      · have HW : Hid (soleB 3 s 0 = false) := Lib.hid (by rw [HV.out, decide_eq_false h3])
        have d3 : decide ((0 : Int) < lv) = false := decide_eq_false h3
        clear HV
        go_enter Tryz.func121, Tryz.ntmps121
        go_wp2_with (first | (go_at_call 51; refine (H.out _).mono ?_; rintro e w' ⟨rfl, rfl⟩) | fail)
        go_ret
        rw [HW.out]; exact ⟨rfl, HB.out⟩
    · have HV : Hid (soleB 3 s len = false) := Lib.hid (by simp [soleB, h2])
      have t2 : ((len : Int) == 0) = false := by rw [beq_eq_false_iff_ne]; omega
      clear h2
      go_enter Tryz.func121, Tryz.ntmps121
      go_wp2_with fail
      go_ret
      rw [HV.out]; exact ⟨rfl, HB.out⟩
  · have HV : Hid (soleB k s len = false) := Lib.hid (by simp [soleB, h1])
    have t1 : (k == 3) = false := by rw [beq_eq_false_iff_ne]; exact h1
    clear h1
    go_enter Tryz.func121, Tryz.ntmps121
    go_wp2_with fail
    go_ret
    rw [HV.out]; exact ⟨rfl, HB.out⟩
set_option maxHeartbeats 1000000 in
/-- spec.l2Spaced. -/
theorem spaced_any (s : ByteArray) (w : World) (hs : s.size ≤ 6) :
    Calls Tryz.prog 110 #[.string s] w fun e w' => e = .returned (.string ⟨(spB s.data.toList).toArray⟩) ∧ w' = w := by
  by_cases h1 : s.data.toList = [105, 115]
  · obtain rfl := op.str_of h1
    go_enter Tryz.func110, Tryz.ntmps110
    go_wp2_with fail
    go_ret
    exact ⟨rfl, rfl⟩
  · by_cases h2 : s.data.toList = [109, 111, 100]
    · obtain rfl := op.str_of h2
      go_enter Tryz.func110, Tryz.ntmps110
      go_wp2_with fail
      go_ret
      exact ⟨rfl, rfl⟩
    · have HV : Hid (⟨(spB s.data.toList).toArray⟩ = s) := Lib.hid (by
        have e : spB s.data.toList = s.data.toList := by unfold spB; rw [if_neg (by rintro (h | h); exact h1 h; exact h2 h)]
        rw [e])
      have t1 : (s.toList == [105, 115]) = false := by rw [ByteArray.toList_eq, beq_eq_false_iff_ne]; exact h1
      have t2 : (s.toList == [109, 111, 100]) = false := by rw [ByteArray.toList_eq, beq_eq_false_iff_ne]; exact h2
      clear h1 h2
      go_enter Tryz.func110, Tryz.ntmps110
      go_wp2_with fail
      go_ret
      rw [HV.out]; exact ⟨rfl, rfl⟩
theorem plC_of (c : UInt8) : plC c = (smC c || (dgC c || ((decide (65 ≤ c.toNat) && decide (c.toNat ≤ 90)) || (((c.toNat : Int) == 91) || ((c.toNat : Int) == 40))))) := by
  have e1 : (c == 91) = ((c.toNat : Int) == 91) := by
    rw [Bool.eq_iff_iff, beq_iff_eq, beq_iff_eq]
    constructor
    · rintro rfl; rfl
    · intro h
      have : c.toNat = 91 := by omega
      exact UInt8.toNat_inj.1 this
  have e2 : (c == 40) = ((c.toNat : Int) == 40) := by
    rw [Bool.eq_iff_iff, beq_iff_eq, beq_iff_eq]
    constructor
    · rintro rfl; rfl
    · intro h
      have : c.toNat = 40 := by omega
      exact UInt8.toNat_inj.1 this
  unfold plC smC dgC
  rw [e1, e2]
  simp only [Bool.or_assoc]
set_option maxHeartbeats 2000000 in
/-- spec.l2Plain. -/
theorem plain_any (s : ByteArray) (w : World) (hs : s.size ≤ maxLen) (h0 : 0 < s.size) :
    Calls Tryz.prog 123 #[.string s] w fun e w' => e = .returned (.bool (plB s.data.toList)) ∧ w' = w := by
  have hat : s.data.toList[0]? = some s[0] := Lib.data_getElem? s 0 h0
  have hpl : plB s.data.toList = plC s[0] := by
    cases hc : s.data.toList with
    | nil => rw [hc] at hat; cases hat
    | cons c l => rw [hc] at hat; simp at hat; rw [← hat]; rfl
  rw [plC_of] at hpl
  have C1 := small_any s 0 w hs (Nat.zero_le _)
  have C2 := digit_any s 0 w hs (Nat.zero_le _)
  rw [atB_some hat] at C1 C2
  have HV := Lib.hid hpl
  clear hpl hat
  cases b1 : smC s[0]
  · rw [b1] at C1
    cases b2 : dgC s[0]
    · rw [b2] at C2
      have HV2 : Hid (plB s.data.toList = ((decide (65 ≤ s[0].toNat) && decide (s[0].toNat ≤ 90)) || (((s[0].toNat : Int) == 91) || ((s[0].toNat : Int) == 40)))) := Lib.hid (by rw [HV.out, b1, b2]; rfl)
      have H1 := Lib.hid C1
      have H2 := Lib.hid C2
      clear C1 C2 b1 b2 HV
      have hs' : s.size ≤ 9223372036854775807 := hs
      clear hs
      by_cases b3 : 65 ≤ s[0].toNat ∧ s[0].toNat ≤ 90
      · have HW : Hid (plB s.data.toList = true) := Lib.hid (by rw [HV2.out, decide_eq_true b3.1, decide_eq_true b3.2]; rfl)
        have d1 : (65 : Int) ≤ (s[0].toNat : Int) := by omega
        have d2 : (s[0].toNat : Int) ≤ 90 := by omega
        clear HV2 b3
        go_enter Tryz.func123, Tryz.ntmps123
        go_wp2_with (first
          | (go_at_call 105; refine H1.out.mono ?_; rintro e w' ⟨rfl, rfl⟩)
          | (go_at_call 92; refine H2.out.mono ?_; rintro e w' ⟨rfl, rfl⟩)
          | fail)
        go_ret
        rw [HW.out]; exact ⟨rfl, rfl⟩
      · have HV3 : Hid (plB s.data.toList = (((s[0].toNat : Int) == 91) || ((s[0].toNat : Int) == 40))) := Lib.hid (by
          have : (decide (65 ≤ s[0].toNat) && decide (s[0].toNat ≤ 90)) = false := by
            rw [← Bool.not_eq_true, Bool.and_eq_true, decide_eq_true_iff, decide_eq_true_iff]; exact b3
          rw [HV2.out, this]; rfl)
        have d1 : (s[0].toNat : Int) < 65 ∨ (65 : Int) ≤ (s[0].toNat : Int) ∧ decide ((s[0].toNat : Int) ≤ 90) = false := by simp; omega
        clear HV2 b3
        cases b4 : ((s[0].toNat : Int) == 91)
        · cases b5 : ((s[0].toNat : Int) == 40)
          · have HW : Hid (plB s.data.toList = false) := Lib.hid (by rw [HV3.out, b4, b5]; rfl)
            clear HV3
            rcases d1 with d1 | ⟨d1, d2⟩
            · go_enter Tryz.func123, Tryz.ntmps123
              go_wp2_with (first
                | (go_at_call 105; refine H1.out.mono ?_; rintro e w' ⟨rfl, rfl⟩)
                | (go_at_call 92; refine H2.out.mono ?_; rintro e w' ⟨rfl, rfl⟩)
                | fail)
              go_ret
              rw [HW.out]; exact ⟨rfl, rfl⟩
            · go_enter Tryz.func123, Tryz.ntmps123
              go_wp2_with (first
                | (go_at_call 105; refine H1.out.mono ?_; rintro e w' ⟨rfl, rfl⟩)
                | (go_at_call 92; refine H2.out.mono ?_; rintro e w' ⟨rfl, rfl⟩)
                | fail)
              go_ret
              rw [HW.out]; exact ⟨rfl, rfl⟩
          · have HW : Hid (plB s.data.toList = true) := Lib.hid (by rw [HV3.out, b4, b5]; rfl)
            clear HV3
            rcases d1 with d1 | ⟨d1, d2⟩
            · go_enter Tryz.func123, Tryz.ntmps123
              go_wp2_with (first
                | (go_at_call 105; refine H1.out.mono ?_; rintro e w' ⟨rfl, rfl⟩)
                | (go_at_call 92; refine H2.out.mono ?_; rintro e w' ⟨rfl, rfl⟩)
                | fail)
              go_ret
              rw [HW.out]; exact ⟨rfl, rfl⟩
            · go_enter Tryz.func123, Tryz.ntmps123
              go_wp2_with (first
                | (go_at_call 105; refine H1.out.mono ?_; rintro e w' ⟨rfl, rfl⟩)
                | (go_at_call 92; refine H2.out.mono ?_; rintro e w' ⟨rfl, rfl⟩)
                | fail)
              go_ret
              rw [HW.out]; exact ⟨rfl, rfl⟩
        · have HW : Hid (plB s.data.toList = true) := Lib.hid (by rw [HV3.out, b4]; rfl)
          clear HV3
          rcases d1 with d1 | ⟨d1, d2⟩
          · go_enter Tryz.func123, Tryz.ntmps123
            go_wp2_with (first
              | (go_at_call 105; refine H1.out.mono ?_; rintro e w' ⟨rfl, rfl⟩)
              | (go_at_call 92; refine H2.out.mono ?_; rintro e w' ⟨rfl, rfl⟩)
              | fail)
            go_ret
            rw [HW.out]; exact ⟨rfl, rfl⟩
          · go_enter Tryz.func123, Tryz.ntmps123
            go_wp2_with (first
              | (go_at_call 105; refine H1.out.mono ?_; rintro e w' ⟨rfl, rfl⟩)
              | (go_at_call 92; refine H2.out.mono ?_; rintro e w' ⟨rfl, rfl⟩)
              | fail)
            go_ret
            rw [HW.out]; exact ⟨rfl, rfl⟩
    · rw [b2] at C2
      have HW : Hid (plB s.data.toList = true) := Lib.hid (by rw [HV.out, b1, b2]; rfl)
      have H1 := Lib.hid C1
      have H2 := Lib.hid C2
      clear C1 C2 b1 b2 HV hs
      go_enter Tryz.func123, Tryz.ntmps123
      go_wp2_with (first
        | (go_at_call 105; refine H1.out.mono ?_; rintro e w' ⟨rfl, rfl⟩)
        | (go_at_call 92; refine H2.out.mono ?_; rintro e w' ⟨rfl, rfl⟩)
        | fail)
      go_ret
      rw [HW.out]; exact ⟨rfl, rfl⟩
  · rw [b1] at C1
    have HW : Hid (plB s.data.toList = true) := Lib.hid (by rw [HV.out, b1]; rfl)
    have H1 := Lib.hid C1
    clear C1 C2 b1 HV hs
    go_enter Tryz.func123, Tryz.ntmps123
    go_wp2_with (first
      | (go_at_call 105; refine H1.out.mono ?_; rintro e w' ⟨rfl, rfl⟩)
      | fail)
    go_ret
    rw [HW.out]; exact ⟨rfl, rfl⟩
end Go.Proofs.YtihmgodiiohdnaaGreatDoor.wr

/- The model's texts with operators: spec.l2Bracket, l2Left, l2Right, given spec.l2Text's contract. Condition: the term lies in memory and is well-formed. -/
namespace Go.Proofs.YtihmgodiiohdnaaGreatDoor.wr
open Go.RowKit

/-- spec.l2Text's contract at a name and arguments. -/
def TxC (s : ByteArray) (f : Fr) : Prop := ∀ (k n : Int) (A : Option Addr) (cap lo hi : Nat) (d : Int) (w : World), KidsAt w lo hi f A cap → hi ≤ w.heap.size → shapeT k n s f d = true → nodes f ≤ 1048576 →
  Calls Tryz.prog 96 #[.agg #[.int .i64 k, .int .i64 n, .string s, .slice A f.len cap]] w fun e w' => e = .returned (.string ⟨(txT k n s f).toArray⟩) ∧ Below w.heap.size w w'
def braT (k n : Int) (s : ByteArray) (f : Fr) (l : Int) : List UInt8 := if infB k s f.len = true ∧ l < op.level s.data.toList then braB (txT k n s f) else txT k n s f
theorem bra_str (T : List UInt8) : (.string ((⟨#[40]⟩ ++ ⟨T.toArray⟩) ++ ⟨#[41]⟩) : Value) = .string ⟨(braB T).toArray⟩ := by
  rw [show (⟨#[40]⟩ : ByteArray) = ⟨[40].toArray⟩ from rfl, show (⟨#[41]⟩ : ByteArray) = ⟨[41].toArray⟩ from rfl, ByteArray.mk_append_mk, ByteArray.mk_append_mk]
  rfl
set_option maxRecDepth 100000 in
set_option maxHeartbeats 2000000 in
/-- spec.l2Bracket. -/
theorem bracket_of (s : ByteArray) (f : Fr) (h : TxC s f) (k n l : Int) (A : Option Addr) (cap lo hi : Nat) (d : Int) (w : World) (hk : KidsAt w lo hi f A cap) (hh : hi ≤ w.heap.size) (hs : shapeT k n s f d = true) (hnd : nodes f ≤ 1048576) :
    Calls Tryz.prog 122 #[.agg #[.int .i64 k, .int .i64 n, .string s, .slice A f.len cap], .int .i64 l] w fun e w' => e = .returned (.string ⟨(braT k n s f l).toArray⟩) ∧ Below w.heap.size w w' := by
  have hb0 : Below w.heap.size w (w.alloc (.cells #[.int .i64 k, .int .i64 n, .string s, .slice A f.len cap] 30)) := (Below.refl _ _).alloc (Nat.le_refl _) _
  have hq0 := Blk.new w 30 #[.int .i64 k, .int .i64 n, .string s, .slice A f.len cap]
  obtain ⟨x0, x1, x2, x3⟩ := cells4i hq0
  have C1 := fun w1 => infix_any k n s A f.len cap w1
  have C2 := fun w1 => op.l2_any s w1
  have C3 := fun w1 (hb : Below w.heap.size w w1) => h k n A cap lo hi d w1 (hk.below hb hh) (Nat.le_trans hh hb.size) hs hnd
  have hl := (txT_shape hs).1
  have hl2 : (txT k n s f).length ≤ 67108864 := by omega
  have HV : Hid (braT k n s f l = if infB k s f.len = true ∧ l < op.level s.data.toList then braB (txT k n s f) else txT k n s f) := Lib.hid rfl
  have HQ := Lib.hid hq0
  have HB0 := Lib.hid hb0
  have H1 := Lib.hid C1
  have H2 := Lib.hid C2
  have H3 := Lib.hid C3
  have HE := Lib.hid (bra_str (txT k n s f))
  have hsz : w.heap.size < (w.alloc (.cells #[.int .i64 k, .int .i64 n, .string s, .slice A f.len cap] 30)).heap.size := by simp
  clear h C1 C2 C3 hk hs hnd hb0 hq0 hh hl
  generalize txT k n s f = T at *
  generalize braT k n s f l = R at *
  generalize op.level s.data.toList = lv at *
  generalize f.len = len at *
  have back : ∀ w2, Below (w.alloc (.cells #[.int .i64 k, .int .i64 n, .string s, .slice A len cap] 30)).heap.size (w.alloc (.cells #[.int .i64 k, .int .i64 n, .string s, .slice A len cap] 30)) w2 → Below w.heap.size w w2 ∧ Blk w2 w.heap.size 30 #[.int .i64 k, .int .i64 n, .string s, .slice A len cap] := fun w2 hb => ⟨HB0.out.trans (hb.mono HB0.out.size), HQ.out.below hb HQ.out.lt⟩
  have HBK := Lib.hid back
  clear back hsz
  cases hi1 : infB k s len
  · rw [hi1] at H1 HV
    have HW : Hid (R = T) := Lib.hid (by rw [HV.out, if_neg (by simp)])
    clear hi1 HV
    go_enter Tryz.func122, Tryz.ntmps122
    go_wp2_with fail
    refine (H1.out _).mono ?_
    rintro e w2 ⟨rfl, hb⟩
    obtain ⟨hbw, hq⟩ := HBK.out w2 hb
    clear x0 x1 x2 x3 hb
    obtain ⟨x0, x1, x2, x3⟩ := cells4i hq
    have HB2 := Lib.hid hbw
    clear hq hbw
    go_wp2_with fail
    refine (H3.out w2 HB2.out).mono ?_
    rintro e w3 ⟨rfl, hb⟩
    have HB3 := Lib.hid (HB2.out.trans (hb.mono HB2.out.size))
    clear hb
    go_wp2_with fail
    go_ret
    rw [HW.out]; exact ⟨rfl, HB3.out⟩
  · rw [hi1] at H1 HV
    clear hi1
    by_cases hlt : l < lv
    · have HW : Hid (R = braB T) := Lib.hid (by rw [HV.out, if_pos ⟨rfl, hlt⟩])
      have d1 : decide (l < lv) = true := decide_eq_true hlt
      clear HV
      go_enter Tryz.func122, Tryz.ntmps122
      go_wp2_with fail
      refine (H1.out _).mono ?_
      rintro e w2 ⟨rfl, hb⟩
      obtain ⟨hbw, hq⟩ := HBK.out w2 hb
      clear x0 x1 x2 x3 hb
      obtain ⟨x0, x1, x2, x3⟩ := cells4i hq
      have HB2 := Lib.hid hbw
      clear hq hbw
      go_wp2_with (first | (go_at_call 51; refine (H2.out _).mono ?_; rintro e w' ⟨rfl, rfl⟩) | fail)
      refine (H3.out _ HB2.out).mono ?_
      rintro e w3 ⟨rfl, hb⟩
      have HB3 := Lib.hid (HB2.out.trans (hb.mono HB2.out.size))
      clear hb
      go_wp2_with fail
      go_ret
      rw [HW.out]; exact ⟨congrArg Ending.returned HE.out, HB3.out⟩
    · have HW : Hid (R = T) := Lib.hid (by rw [HV.out, if_neg (fun h => hlt h.2)])
      have d1 : decide (l < lv) = false := decide_eq_false hlt
      clear HV
      go_enter Tryz.func122, Tryz.ntmps122
      go_wp2_with fail
      refine (H1.out _).mono ?_
      rintro e w2 ⟨rfl, hb⟩
      obtain ⟨hbw, hq⟩ := HBK.out w2 hb
      clear x0 x1 x2 x3 hb
      obtain ⟨x0, x1, x2, x3⟩ := cells4i hq
      have HB2 := Lib.hid hbw
      clear hq hbw
      go_wp2_with (first | (go_at_call 51; refine (H2.out _).mono ?_; rintro e w' ⟨rfl, rfl⟩) | fail)
      refine (H3.out _ HB2.out).mono ?_
      rintro e w3 ⟨rfl, hb⟩
      have HB3 := Lib.hid (HB2.out.trans (hb.mono HB2.out.size))
      clear hb
      go_wp2_with fail
      go_ret
      rw [HW.out]; exact ⟨rfl, HB3.out⟩
theorem lefT_of (k n : Int) (s : ByteArray) (f : Fr) (l : Int) (hl : 0 ≤ l ∧ l ≤ 3) : lefT k n s f l = if soleB k s f.len = true then braB (txT k n s f) else braT k n s f l := by
  unfold lefT braT olv
  cases h1 : infB k s f.len
  · cases h2 : soleB k s f.len
    · rw [if_neg (by simp; omega)]; simp
    · rw [if_pos (by simp; omega)]; simp
  · have h2 : soleB k s f.len = false := by
      obtain ⟨_, _, _, _, _, _, _, _, _, _, rfl⟩ := inf_kids h1
      simp [soleB, Fr.len]
    rw [h2]
    simp
theorem plB_bra (T : List UInt8) : plB (braB T) = true := rfl
theorem rigT_of (k n : Int) (s : ByteArray) (f : Fr) (l : Int) (hl : 0 ≤ l ∧ l ≤ 3) : rigT k n s f l = if soleB k s f.len = true ∨ plB (braT k n s f l) = false then braB (braT k n s f l) else braT k n s f l := by
  unfold rigT braT olv
  cases h1 : infB k s f.len
  · cases h2 : soleB k s f.len
    · simp only [Bool.false_eq_true, false_and, if_false, false_or]
      have : ¬ l < 0 := by omega
      simp only [this, false_or]
    · simp; omega
  · have h2 : soleB k s f.len = false := by
      obtain ⟨_, _, _, _, _, _, _, _, _, _, rfl⟩ := inf_kids h1
      simp [soleB, Fr.len]
    rw [h2]
    by_cases h3 : l < op.level s.data.toList
    · simp [h3, plB_bra]
    · simp [h3]
theorem braT_len (k n : Int) (s : ByteArray) (f : Fr) (l : Int) : (braT k n s f l).length ≤ (txT k n s f).length + 2 ∧ (0 < (txT k n s f).length → 0 < (braT k n s f l).length) := by
  unfold braT braB
  split
  · simp only [List.length_cons, List.length_append, List.length_nil]; omega
  · omega
set_option maxRecDepth 100000 in
set_option maxHeartbeats 2000000 in
/-- spec.l2Left. -/
theorem left_of (s : ByteArray) (f : Fr) (h : TxC s f) (k n l : Int) (hlv : 0 ≤ l ∧ l ≤ 3) (A : Option Addr) (cap lo hi : Nat) (d : Int) (w : World) (hk : KidsAt w lo hi f A cap) (hh : hi ≤ w.heap.size) (hs : shapeT k n s f d = true) (hnd : nodes f ≤ 1048576) :
    Calls Tryz.prog 109 #[.agg #[.int .i64 k, .int .i64 n, .string s, .slice A f.len cap], .int .i64 l] w fun e w' => e = .returned (.string ⟨(lefT k n s f l).toArray⟩) ∧ Below w.heap.size w w' := by
  have hb0 : Below w.heap.size w (w.alloc (.cells #[.int .i64 k, .int .i64 n, .string s, .slice A f.len cap] 30)) := (Below.refl _ _).alloc (Nat.le_refl _) _
  have hq0 := Blk.new w 30 #[.int .i64 k, .int .i64 n, .string s, .slice A f.len cap]
  obtain ⟨x0, x1, x2, x3⟩ := cells4i hq0
  have C1 := fun w1 => sole_any k n s A f.len cap w1
  have C2 := fun w1 (hb : Below w.heap.size w w1) => bracket_of s f h k n l A cap lo hi d w1 (hk.below hb hh) (Nat.le_trans hh hb.size) hs hnd
  have C3 := fun w1 (hb : Below w.heap.size w w1) => h k n A cap lo hi d w1 (hk.below hb hh) (Nat.le_trans hh hb.size) hs hnd
  have hl := (txT_shape hs).1
  have hl2 : (txT k n s f).length ≤ 67108864 := by omega
  have HV := Lib.hid (lefT_of k n s f l hlv)
  have HQ := Lib.hid hq0
  have HB0 := Lib.hid hb0
  have H1 := Lib.hid C1
  have H2 := Lib.hid C2
  have H3 := Lib.hid C3
  have HE := Lib.hid (bra_str (txT k n s f))
  clear h C1 C2 C3 hk hs hnd hb0 hq0 hh hl hlv
  generalize txT k n s f = T at *
  generalize braT k n s f l = T2 at *
  generalize lefT k n s f l = R at *
  generalize f.len = len at *
  have back : ∀ w2, Below (w.alloc (.cells #[.int .i64 k, .int .i64 n, .string s, .slice A len cap] 30)).heap.size (w.alloc (.cells #[.int .i64 k, .int .i64 n, .string s, .slice A len cap] 30)) w2 → Below w.heap.size w w2 ∧ Blk w2 w.heap.size 30 #[.int .i64 k, .int .i64 n, .string s, .slice A len cap] := fun w2 hb => ⟨HB0.out.trans (hb.mono HB0.out.size), HQ.out.below hb HQ.out.lt⟩
  have HBK := Lib.hid back
  clear back
  cases hi1 : soleB k s len
  · rw [hi1] at H1 HV
    have HW : Hid (R = T2) := Lib.hid (by rw [HV.out, if_neg (by simp)])
    clear hi1 HV
    go_enter Tryz.func109, Tryz.ntmps109
    go_wp2_with fail
    refine (H1.out _).mono ?_
    rintro e w2 ⟨rfl, hb⟩
    obtain ⟨hbw, hq⟩ := HBK.out w2 hb
    clear x0 x1 x2 x3 hb
    obtain ⟨x0, x1, x2, x3⟩ := cells4i hq
    have HB2 := Lib.hid hbw
    clear hq hbw
    go_wp2_with fail
    refine (H2.out w2 HB2.out).mono ?_
    rintro e w3 ⟨rfl, hb⟩
    have HB3 := Lib.hid (HB2.out.trans (hb.mono HB2.out.size))
    clear hb
    go_wp2_with fail
    go_ret
    rw [HW.out]; exact ⟨rfl, HB3.out⟩
  · rw [hi1] at H1 HV
    have HW : Hid (R = braB T) := Lib.hid (by rw [HV.out, if_pos rfl])
    clear hi1 HV
    go_enter Tryz.func109, Tryz.ntmps109
    go_wp2_with fail
    refine (H1.out _).mono ?_
    rintro e w2 ⟨rfl, hb⟩
    obtain ⟨hbw, hq⟩ := HBK.out w2 hb
    clear x0 x1 x2 x3 hb
    obtain ⟨x0, x1, x2, x3⟩ := cells4i hq
    have HB2 := Lib.hid hbw
    clear hq hbw
    go_wp2_with fail
    refine (H3.out w2 HB2.out).mono ?_
    rintro e w3 ⟨rfl, hb⟩
    have HB3 := Lib.hid (HB2.out.trans (hb.mono HB2.out.size))
    clear hb
    go_wp2_with fail
    go_ret
    rw [HW.out]; exact ⟨congrArg Ending.returned HE.out, HB3.out⟩
set_option maxRecDepth 100000 in
set_option maxHeartbeats 2000000 in
/-- spec.l2Right. -/
theorem right_of (s : ByteArray) (f : Fr) (h : TxC s f) (k n l : Int) (hlv : 0 ≤ l ∧ l ≤ 3) (hpos : 0 < (txT k n s f).length) (A : Option Addr) (cap lo hi : Nat) (d : Int) (w : World) (hk : KidsAt w lo hi f A cap) (hh : hi ≤ w.heap.size) (hs : shapeT k n s f d = true) (hnd : nodes f ≤ 1048576) :
    Calls Tryz.prog 111 #[.agg #[.int .i64 k, .int .i64 n, .string s, .slice A f.len cap], .int .i64 l] w fun e w' => e = .returned (.string ⟨(rigT k n s f l).toArray⟩) ∧ Below w.heap.size w w' := by
  have hb0 : Below w.heap.size w (w.alloc (.cells #[.int .i64 k, .int .i64 n, .string s, .slice A f.len cap] 30)) := (Below.refl _ _).alloc (Nat.le_refl _) _
  have hq0 := Blk.new w 30 #[.int .i64 k, .int .i64 n, .string s, .slice A f.len cap]
  obtain ⟨x0, x1, x2, x3⟩ := cells4i hq0
  have C1 := fun w1 => sole_any k n s A f.len cap w1
  have C2 := fun w1 (hb : Below w.heap.size w w1) => bracket_of s f h k n l A cap lo hi d w1 (hk.below hb hh) (Nat.le_trans hh hb.size) hs hnd
  have hl := (txT_shape hs).1
  have hl2 : (braT k n s f l).length ≤ 67108864 := by have := (braT_len k n s f l).1; omega
  have hl3 := (braT_len k n s f l).2 hpos
  have C3 := fun w1 => plain_any ⟨(braT k n s f l).toArray⟩ w1 (by show (braT k n s f l).length ≤ _; unfold maxLen; omega) hl3
  have HV := Lib.hid (rigT_of k n s f l hlv)
  have HQ := Lib.hid hq0
  have HB0 := Lib.hid hb0
  have H1 := Lib.hid C1
  have H2 := Lib.hid C2
  have H3 := Lib.hid C3
  have HE := Lib.hid (bra_str (braT k n s f l))
  clear h C1 C2 C3 hk hs hnd hb0 hq0 hh hl hlv hpos
  generalize txT k n s f = T at *
  generalize braT k n s f l = T2 at *
  generalize rigT k n s f l = R at *
  generalize f.len = len at *
  have back : ∀ w2, Below (w.alloc (.cells #[.int .i64 k, .int .i64 n, .string s, .slice A len cap] 30)).heap.size (w.alloc (.cells #[.int .i64 k, .int .i64 n, .string s, .slice A len cap] 30)) w2 → Below w.heap.size w w2 ∧ Blk w2 w.heap.size 30 #[.int .i64 k, .int .i64 n, .string s, .slice A len cap] := fun w2 hb => ⟨HB0.out.trans (hb.mono HB0.out.size), HQ.out.below hb HQ.out.lt⟩
  have HBK := Lib.hid back
  clear back
  go_enter Tryz.func111, Tryz.ntmps111
  go_wp2_with fail
  refine (H2.out _ HB0.out).mono ?_
  rintro e w2 ⟨rfl, hb⟩
  obtain ⟨hbw, hq⟩ := HBK.out w2 hb
  clear x0 x1 x2 x3 hb
  obtain ⟨x0, x1, x2, x3⟩ := cells4i hq
  have HB2 := Lib.hid hbw
  have HQ2 := Lib.hid hq
  clear hq hbw
  cases hi1 : soleB k s len
  · rw [hi1] at H1 HV
    clear hi1
    cases hpl : plB T2
    · have e1 : plB (⟨T2.toArray⟩ : ByteArray).data.toList = false := by simpa using hpl
      rw [e1] at H3
      have HW : Hid (R = braB T2) := Lib.hid (by rw [HV.out, if_pos (.inr hpl)])
      clear hpl e1 HV
      go_wp2_with fail
      refine (H1.out w2).mono ?_
      rintro e w3 ⟨rfl, hb⟩
      have HB3 := Lib.hid (HB2.out.trans (hb.mono HB2.out.size))
      clear hb
      go_wp2_with (first | (go_at_call 123; refine (H3.out _).mono ?_; rintro e w' ⟨rfl, rfl⟩) | fail)
      go_ret
      rw [HW.out]; exact ⟨congrArg Ending.returned HE.out, HB3.out⟩
    · have e1 : plB (⟨T2.toArray⟩ : ByteArray).data.toList = true := by simpa using hpl
      rw [e1] at H3
      have HW : Hid (R = T2) := Lib.hid (by rw [HV.out, if_neg (by simp [hpl])])
      clear hpl e1 HV
      go_wp2_with fail
      refine (H1.out w2).mono ?_
      rintro e w3 ⟨rfl, hb⟩
      have HB3 := Lib.hid (HB2.out.trans (hb.mono HB2.out.size))
      clear hb
      go_wp2_with (first | (go_at_call 123; refine (H3.out _).mono ?_; rintro e w' ⟨rfl, rfl⟩) | fail)
      go_ret
      rw [HW.out]; exact ⟨rfl, HB3.out⟩
  · rw [hi1] at H1 HV
    have HW : Hid (R = braB T2) := Lib.hid (by rw [HV.out, if_pos (.inl rfl)])
    clear hi1 HV
    go_wp2_with fail
    refine (H1.out w2).mono ?_
    rintro e w3 ⟨rfl, hb⟩
    have HB3 := Lib.hid (HB2.out.trans (hb.mono HB2.out.size))
    clear hb
    go_wp2_with fail
    go_ret
    rw [HW.out]; exact ⟨congrArg Ending.returned HE.out, HB3.out⟩
end Go.Proofs.YtihmgodiiohdnaaGreatDoor.wr

/- Rows of terms whose arguments lie in memory: what append of terms that were there makes. No condition. -/
namespace Go.Proofs.YtihmgodiiohdnaaGreatDoor
open Go.RowKit

/-- The cells of a row of terms whose arguments lie in blocks from lo to hi. -/
def XD (w : World) (lo hi : Nat) : Fr → List Value → Prop
  | .nil, xs => xs = []
  | .cons k n s kids rest, xs => ∃ (A : Option Addr) (cap : Nat) (ys : List Value), xs = .int .i64 k :: .int .i64 n :: .string s :: .slice A kids.len cap :: ys ∧ Fits k n s ∧ KidsAt w lo hi kids A cap ∧ XD w lo hi rest ys
theorem XD.len {w : World} {lo hi : Nat} : ∀ (f : Fr) (xs : List Value), XD w lo hi f xs → xs.length = f.len * 4
  | .nil, xs, h => by obtain rfl : xs = [] := h; rfl
  | .cons k n s kids rest, xs, h => by
    obtain ⟨A, cap, ys, rfl, _, _, h⟩ := h
    have := XD.len rest ys h
    simp only [List.length_cons, Fr.len, this]; omega
theorem XD.snoc {w : World} {lo hi : Nat} {k n : Int} {s : ByteArray} {kids : Fr} {A : Option Addr} {cap : Nat} (hf : Fits k n s) (hk : KidsAt w lo hi kids A cap) :
    ∀ (f : Fr) (xs : List Value), XD w lo hi f xs → XD w lo hi (f.app (.cons k n s kids .nil)) (xs ++ [.int .i64 k, .int .i64 n, .string s, .slice A kids.len cap])
  | .nil, xs, h => by obtain rfl : xs = [] := h; exact ⟨A, cap, [], rfl, hf, hk, rfl⟩
  | .cons k' n' s' kids' rest, xs, h => by
    obtain ⟨A', cap', ys, rfl, hf', hk', h⟩ := h
    exact ⟨A', cap', _, rfl, hf', hk', XD.snoc hf hk rest ys h⟩
theorem XD.row {w w' : World} {lo hi lo2 hi2 g : Nat} (hkeep : ∀ p : Addr, lo ≤ p.block → p.block < hi → w'.cell? p = w.cell? p) (hlo : lo2 ≤ lo) (hhi : hi ≤ hi2) :
    ∀ (f : Fr) (xs : List Value) (o : Nat), XD w lo hi f xs → (∀ j u, xs[j]? = some u → w'.cell? ⟨g, o + j, none⟩ = some u) → RowAt w' lo2 hi2 f g o
  | .nil, _, _, _, _ => trivial
  | .cons k n s kids rest, xs, o, h, hc => by
    obtain ⟨A, cap, ys, rfl, hf, hk, h⟩ := h
    refine ⟨hf, ⟨A, cap, ⟨hc 0 _ rfl, hc 1 _ rfl, hc 2 _ rfl, hc 3 _ rfl⟩, hk.1, hk.2.1, ?_⟩, XD.row hkeep hlo hhi rest ys (o + 4) h fun j u hj => ?_⟩
    · exact ((hk.keep hkeep).more hlo hhi).2.2
    · have := hc (j + 4) u (by simpa using hj)
      rw [show o + (j + 4) = o + 4 + j by omega] at this
      exact this
theorem XD.kids {w wr : World} {lo hi base : Nat} {f : Fr} {xs : List Value} {v : Value} (h : XD w lo hi f xs) (ho : wr.ownsRow base 30 4 v f.len xs) (hkeep : ∀ p : Addr, lo ≤ p.block → p.block < hi → wr.cell? p = w.cell? p) (hlo : lo ≤ base) (hhi : hi ≤ wr.heap.size) :
    ∃ A cap, v = .slice A f.len cap ∧ KidsAt wr lo wr.heap.size f A cap := by
  have hl := ho.lt
  rcases ho.2 with ⟨rfl, h0⟩ | ⟨g, cap, cur, rfl, hbg, hg, hnc, hcm, hcs, htake⟩
  · exact ⟨none, 0, by rw [h0], by omega, Nat.zero_le _, fun hp => by omega⟩
  · refine ⟨some ⟨g, 0, none⟩, cap, rfl, hnc, hcm, fun _ => ⟨g, 0, rfl, by omega, (hl g rfl).2, XD.row hkeep (Nat.le_refl _) hhi f xs 0 h fun j u hj => ?_⟩⟩
    have h3 := World.ownsRow.cells ho (g := g) rfl j u hj
    have e : (⟨g, 0, none⟩ : Addr).add j = ⟨g, 0 + j, none⟩ := by unfold Addr.add; split <;> simp_all
    rwa [e] at h3
end Go.Proofs.YtihmgodiiohdnaaGreatDoor

/- The model's texts with operators: spec.l2Args, l2List, l2Text, WriteTerm. Condition: the term lies in memory. -/
namespace Go.Proofs.YtihmgodiiohdnaaGreatDoor.wr
open Go.RowKit

set_option maxRecDepth 100000 in
set_option maxHeartbeats 4000000 in
/-- spec.l2Args. -/
theorem args_of (F : Fr) (h : ∀ j k n s kids rest, F.drop j = .cons k n s kids rest → TxC s kids) (d : Int) (A : Option Addr) (cap lo hi : Nat) (w : World) (hk : KidsAt w lo hi F A cap) (hh : hi ≤ w.heap.size) (hs : shapeF F d = true) (hnd : nodes F ≤ 1048576) (hl : (remB 0 F).length ≤ 67108864) :
    Calls Tryz.prog 112 #[.slice A F.len cap] w fun e w' => e = .returned (.string ⟨(remB 0 F).toArray⟩) ∧ Below w.heap.size w w' := by
  have hlen : F.len ≤ 1048576 := by have := len_le_nodes F; omega
  have H := Lib.hid h
  have HK := Lib.hid hk
  have HHI := Lib.hid hh
  have HSH := Lib.hid hs
  have HND := Lib.hid hnd
  clear h hk hh hs hnd
  generalize hn : F.len = len at *
  have HN := Lib.hid hn
  clear hn
  go_enter Tryz.func112, Tryz.ntmps112
  go_wp2_with fail
  go_loopw [3, 4] (fun ov i wr => ∃ (j : Nat) (L : List UInt8), j ≤ len ∧ i = .int .i64 j ∧ ov = .string ⟨L.toArray⟩ ∧ L ++ remB j (F.drop j) = remB 0 F ∧ Below w.heap.size w wr) (fun _ i _ => len - (intOf i).toNat)
  case atStart => exact ⟨0, [], Nat.zero_le _, rfl, rfl, rfl, Below.refl _ _⟩
  case round =>
    obtain ⟨j, L, hj, rfl, rfl, hL, hb⟩ := hrel
    have HLE := Lib.hid hL
    have HB := Lib.hid hb
    have hLl : L.length + (remB j (F.drop j)).length ≤ 67108864 := by have := congrArg List.length hL; simp only [List.length_append] at this; omega
    clear hL
    by_cases hlt : j < len
    · obtain ⟨kk, nn, ss, kids, hd⟩ := Fr.drop_cons j F (by rw [HN.out]; exact hlt)
      obtain ⟨b, o, rfl, hlb, hbb, hrow⟩ := HK.out.2.2 (by rw [HN.out]; omega)
      obtain ⟨hfit, A', cp, c0, c1, c2, c3, hkid⟩ := hrow.elem hd
      have hlo : (⟨b, o, none⟩ : Addr).block < w.heap.size := Nat.lt_of_lt_of_le hbb HHI.out
      have k0 := (hb.cell (p := ⟨b, o + j * 4, none⟩) hlo).trans c0
      have k1 := (hb.cell (p := ⟨b, o + j * 4 + 1, none⟩) hlo).trans c1
      have k2 := (hb.cell (p := ⟨b, o + j * 4 + 2, none⟩) hlo).trans c2
      have k3 := (hb.cell (p := ⟨b, o + j * 4 + 3, none⟩) hlo).trans c3
      have C3 := H.out j _ _ _ _ _ hd kk nn A' cp lo hi _ wr (hkid.below hb HHI.out) (Nat.le_trans HHI.out hb.size) (shape_drop F j _ hd HSH.out) (Nat.le_trans (nodes_drop_elem j F hd) HND.out)
      have hL2 := HLE.out
      have H3 := Lib.hid C3
      by_cases hj0 : j = 0
      · subst hj0
        rw [hd, remB_zero] at hL2 hLl
        have HL2 := Lib.hid hL2
        clear C3 c0 c1 c2 c3 hkid hrow hfit hd hlo hL2 hb
        generalize txT kk nn ss kids = T at *
        have hTl : L.length + T.length ≤ 67108864 := by simp only [List.length_append] at hLl; omega
        have HSTR : Hid ((.string (⟨L.toArray⟩ ++ ⟨T.toArray⟩) : Value) = .string ⟨(L ++ T).toArray⟩) := Lib.hid (str_app L T)
        have HL3 : Hid ((L ++ T) ++ remB (0 + 1) (F.drop (0 + 1)) = remB 0 F) := Lib.hid (by rw [← HL2.out]; simp)
        simp only [Nat.zero_mul, Nat.add_zero] at k0 k1 k2 k3
        go_wp2_with fail
        refine H3.out.mono ?_
        rintro e w3 ⟨rfl, hb3⟩
        have HB3 := Lib.hid (HB.out.trans (hb3.mono HB.out.size))
        clear hb3
        go_wp2_with fail
        go_roundw
        case rel => exact ⟨0 + 1, L ++ T, by omega, by go_num, HSTR.out, HL3.out, HB3.out⟩
        case measure => simp [intOf]; omega
      · rw [hd, remB_step j hj0] at hL2 hLl
        have HL2 := Lib.hid hL2
        clear C3 c0 c1 c2 c3 hkid hrow hfit hd hlo hL2 hb
        generalize txT kk nn ss kids = T at *
        have hTl : L.length + 1 + T.length ≤ 67108864 := by simp only [List.length_append, List.length_cons] at hLl; omega
        have t0 : (0 : Int) < (j : Int) := by omega
        have HSTR : Hid ((.string ((⟨L.toArray⟩ ++ ⟨#[44]⟩) ++ ⟨T.toArray⟩) : Value) = .string ⟨(L ++ 44 :: T).toArray⟩) := Lib.hid (by
          rw [show (⟨#[44]⟩ : ByteArray) = ⟨[44].toArray⟩ from rfl, ByteArray.mk_append_mk, ByteArray.mk_append_mk]
          simp)
        have HL3 : Hid ((L ++ 44 :: T) ++ remB (j + 1) (F.drop (j + 1)) = remB 0 F) := Lib.hid (by rw [← HL2.out]; simp)
        clear hj0
        go_wp2_with fail
        refine H3.out.mono ?_
        rintro e w3 ⟨rfl, hb3⟩
        have HB3 := Lib.hid (HB.out.trans (hb3.mono HB.out.size))
        clear hb3
        go_wp2_with fail
        go_roundw
        case rel => exact ⟨j + 1, L ++ 44 :: T, by omega, by go_num, HSTR.out, HL3.out, HB3.out⟩
        case measure => simp [intOf]; omega
    · obtain rfl : j = len := by omega
      have hLL : L = remB 0 F := by
        have h1 := Fr.drop_len F
        rw [HN.out] at h1
        rw [← HLE.out, h1, remB_nil, List.append_nil]
      have HLL := Lib.hid hLL
      clear hb hLL hLl
      go_wp2_with fail
      go_ret
      rw [← HLL.out]
      exact ⟨rfl, HB.out⟩

/-- The loop's relation: the term that is looked at lies in block H; its elements before it lie in the row v. -/
def LiP (w : World) (lo hi H : Nat) (F T : Fr) (k n : Int) (s : ByteArray) (f : Fr) (A : Option Addr) (cap : Nat) (acc : Fr) (v : Value) (wr : World) : Prop :=
  Blk wr H 30 #[.int .i64 k, .int .i64 n, .string s, .slice A f.len cap] ∧ KidsAt w lo hi f A cap ∧ (∃ xs, wr.ownsRow (H + 1) 30 4 v acc.len xs ∧ XD w lo hi acc xs) ∧ acc.app (fronts k s f) = F ∧ tails k n s f = T ∧ Below w.heap.size w wr ∧ H + 1 ≤ wr.heap.size ∧ w.heap.size ≤ H
theorem LiP.below {w wr w1 : World} {lo hi H : Nat} {F T : Fr} {k n : Int} {s : ByteArray} {f : Fr} {A : Option Addr} {cap : Nat} {acc : Fr} {v : Value}
    (h : LiP w lo hi H F T k n s f A cap acc v wr) (hb : Below wr.heap.size wr w1) : LiP w lo hi H F T k n s f A cap acc v w1 := by
  obtain ⟨b0, hk, ⟨xs, ho, hx⟩, hF, hT, hbw, hs, hH⟩ := h
  exact ⟨b0.below hb (by omega), hk, ⟨xs, ho.kept (row := none) ⟨hb.os, hb.tape, hb.output, hb.size, fun k hk _ => hb.block k hk⟩ (by cases v.ownBlock <;> simp), hx⟩, hF, hT, hbw.trans (hb.mono hbw.size), Nat.le_trans hs hb.size, hH⟩
/-- One element more. -/
theorem LiP.step {w wr w4 : World} {lo hi H : Nat} {F T : Fr} {k n : Int} {s : ByteArray} {k1 n1 k2 n2 : Int} {s1 s2 : ByteArray} {kd1 kd2 : Fr} {A A1 A2 : Option Addr} {cap cap1 cap2 : Nat} {acc : Fr} {v : Value} {xs : List Value} {g cap4 : Nat} {o : Obj}
    (h : LiP w lo hi H F T k n s (.cons k1 n1 s1 kd1 (.cons k2 n2 s2 kd2 .nil)) A cap acc v wr) (hp : pairB k s 2 = true) (hx : XD w lo hi acc xs) (hvl : ∀ g, v.ownBlock = some g → H + 1 ≤ g ∧ g < wr.heap.size)
    (hf1 : Fits k1 n1 s1) (hk1 : KidsAt w lo hi kd1 A1 cap1) (hg : (wr.alloc o).grownBy w4 v.ownBlock)
    (ho : w4.ownsRow (H + 1) 30 4 (.slice (some ⟨g, 0, none⟩) (acc.len + 1) cap4) (acc.len + 1) (xs ++ [.int .i64 k1, .int .i64 n1, .string s1, .slice A1 kd1.len cap1])) (hk2 : KidsAt w lo hi kd2 A2 cap2) :
    LiP w lo hi H F T k2 n2 s2 kd2 A2 cap2 (acc.app (.cons k1 n1 s1 kd1 .nil)) (.slice (some ⟨g, 0, none⟩) (acc.len + 1) cap4) ((((w4.setCell ⟨H, 0, none⟩ (.int .i64 k2)).setCell ⟨H, 1, none⟩ (.int .i64 n2)).setCell ⟨H, 2, none⟩ (.string s2)).setCell ⟨H, 3, none⟩ (.slice A2 kd2.len cap2)) := by
  obtain ⟨b0, hk, _, hF, hT, hb, hs, hH⟩ := h
  have hb1 : Below wr.heap.size wr (wr.alloc o) := (Below.refl _ _).alloc (Nat.le_refl _) _
  have s1' := hb1.size
  have s4' := hg.size
  have far : w4.heap[H]? = wr.heap[H]? := by
    rw [hg.block H (by omega) fun e => by have := (hvl H e.symm).1; omega, hb1.block H (by omega)]
  have hbw : Below w.heap.size w w4 := by
    have h2 := hb.trans (hb1.mono hb.size)
    refine h2.grown hg h2.size fun g hg => ?_
    have := (hvl g hg).1; omega
  have hlen : (acc.app (.cons k1 n1 s1 kd1 .nil)).len = acc.len + 1 := by rw [Fr.len_app]; rfl
  have hF' : (acc.app (.cons k1 n1 s1 kd1 .nil)).app (fronts k2 s2 kd2) = F := by
    rw [← hF, fronts, if_pos hp, app_assoc]; rfl
  have hT' : tails k2 n2 s2 kd2 = T := by rw [← hT, tails, if_pos hp]
  have hset : ∀ (w5 : World) (i : Nat) (u : Value), w5.ownsRow (H + 1) 30 4 (.slice (some ⟨g, 0, none⟩) (acc.len + 1) cap4) (acc.len + 1) (xs ++ [.int .i64 k1, .int .i64 n1, .string s1, .slice A1 kd1.len cap1]) →
      (w5.setCell ⟨H, i, none⟩ u).ownsRow (H + 1) 30 4 (.slice (some ⟨g, 0, none⟩) (acc.len + 1) cap4) (acc.len + 1) (xs ++ [.int .i64 k1, .int .i64 n1, .string s1, .slice A1 kd1.len cap1]) := fun w5 i u h5 =>
    h5.kept (row := some H) ⟨rfl, rfl, rfl, by simp [World.setCell], fun k _ hk => heap_setCell_other _ _ _ _ fun e => hk (by rw [e])⟩ (.inr fun e => by
      have := (h5.lt H e).1; omega)
  refine ⟨((((b0.keep far).set_ 0 _).set_ 1 _).set_ 2 _).set_ 3 _, hk2, ⟨_, by rw [hlen]; exact hset _ 3 _ (hset _ 2 _ (hset _ 1 _ (hset _ 0 _ ho))), XD.snoc hf1 hk1 acc xs hx⟩, hF', hT', (((hbw.setCell hH _).setCell hH _).setCell hH _).setCell hH _, ?_, hH⟩
  simp only [World.setCell, Array.size_modify]
  omega
theorem LiP.done {w wr : World} {lo hi H : Nat} {F T : Fr} {k n : Int} {s : ByteArray} {f : Fr} {A : Option Addr} {cap : Nat} {acc : Fr} {v : Value}
    (h : LiP w lo hi H F T k n s f A cap acc v wr) (hp : pairB k s f.len = false) (hh : hi ≤ w.heap.size) (hlo : lo ≤ w.heap.size) : ∃ A2 cap2, v = .slice A2 F.len cap2 ∧ KidsAt wr lo wr.heap.size F A2 cap2 := by
  obtain ⟨b0, hk, ⟨xs, ho, hx⟩, hF, hT, hbw, hs, hH⟩ := h
  rw [(pair_no n hp).1, app_nil] at hF
  subst hF
  exact hx.kids ho (fun p _ hp => hbw.cell (by omega)) (by omega) (Nat.le_trans hh hbw.size)
end Go.Proofs.YtihmgodiiohdnaaGreatDoor.wr

/- The elements of a list and its tail are smaller and well-formed. No condition. -/
namespace Go.Proofs.YtihmgodiiohdnaaGreatDoor.wr
open Go.RowKit

theorem fr_facts (N : Nat) : ∀ (k n : Int) (s : ByteArray) (f : Fr) (d : Int), f.size ≤ N → shapeT k n s f d = true → shapeF (fronts k s f) d = true ∧ (∀ j k' n' s' kids rest, (fronts k s f).drop j = .cons k' n' s' kids rest → kids.size < f.size) ∧ ∀ k' n' s' f', tails k n s f = .cons k' n' s' f' .nil → shapeT k' n' s' f' d = true ∧ f'.size ≤ f.size ∧ (pairB k s f.len = true → f'.size < f.size) := by
  induction N with
  | zero =>
    intro k n s f d hf hs
    have hp : pairB k s f.len = false := by
      cases f with
      | nil => unfold pairB; simp [Fr.len]
      | cons _ _ _ _ _ => simp [Fr.size] at hf
    rw [(pair_no n hp).1, (pair_no n hp).2]
    refine ⟨rfl, fun j _ _ _ _ _ h => by (cases j <;> cases h), fun k' n' s' f' h => ?_⟩
    simp only [Fr.cons.injEq, and_true] at h
    obtain ⟨rfl, rfl, rfl, rfl⟩ := h
    exact ⟨hs, Nat.le_refl _, fun e => by rw [hp] at e; cases e⟩
  | succ N ih =>
    intro k n s f d hf hs
    cases hp : pairB k s f.len
    · rw [(pair_no n hp).1, (pair_no n hp).2]
      refine ⟨rfl, fun j _ _ _ _ _ h => by (cases j <;> cases h), fun k' n' s' f' h => ?_⟩
      simp only [Fr.cons.injEq, and_true] at h
      obtain ⟨rfl, rfl, rfl, rfl⟩ := h
      exact ⟨hs, Nat.le_refl _, fun e => by cases e⟩
    · obtain ⟨k1, n1, s1, kd1, k2, n2, s2, kd2, rfl, hfr, htl⟩ := pair_yes n hp
      have hk := shapeT_kids hs
      rw [shapeF_cons, shapeF_cons, Bool.and_eq_true, Bool.and_eq_true] at hk
      have up : ∀ {k n : Int} {s : ByteArray} {f : Fr}, shapeT k n s f (d - 1) = true → shapeT k n s f d = true := fun {k n s f} h => by
        have := shapeF_mono (.cons k n s f .nil) (d - 1) d (by omega) (by rw [shapeF_cons, h]; rfl)
        rw [shapeF_cons, Bool.and_eq_true] at this
        exact this.1
      simp only [Fr.size] at hf
      obtain ⟨a1, a2, a3⟩ := ih k2 n2 s2 kd2 d (by omega) (up hk.2.1)
      rw [hfr, htl]
      refine ⟨by rw [shapeF_cons, up hk.1, a1]; rfl, fun j k' n' s' kids rest h => ?_, fun k' n' s' f' h => ?_⟩
      · cases j with
        | zero =>
          injection h with h1 h2 h3 h4 h5
          subst h4
          simp only [Fr.size]; omega
        | succ j =>
          have := a2 j k' n' s' kids rest h
          simp only [Fr.size]; omega
      · obtain ⟨b1, b2, _⟩ := a3 k' n' s' f' h
        exact ⟨b1, by simp only [Fr.size]; omega, fun _ => by simp only [Fr.size]; omega⟩
theorem fr_nodes (N : Nat) : ∀ (k n : Int) (s : ByteArray) (f : Fr), f.size ≤ N → nodes (fronts k s f) ≤ nodes f ∧ ∀ k' n' s' f', tails k n s f = .cons k' n' s' f' .nil → nodes f' ≤ nodes f := by
  induction N with
  | zero =>
    intro k n s f hf
    have hp : pairB k s f.len = false := by
      cases f with
      | nil => unfold pairB; simp [Fr.len]
      | cons _ _ _ _ _ => simp [Fr.size] at hf
    rw [(pair_no n hp).1, (pair_no n hp).2]
    refine ⟨Nat.zero_le _, fun k' n' s' f' h => ?_⟩
    simp only [Fr.cons.injEq, and_true] at h
    obtain ⟨rfl, rfl, rfl, rfl⟩ := h
    exact Nat.le_refl _
  | succ N ih =>
    intro k n s f hf
    cases hp : pairB k s f.len
    · rw [(pair_no n hp).1, (pair_no n hp).2]
      refine ⟨Nat.zero_le _, fun k' n' s' f' h => ?_⟩
      simp only [Fr.cons.injEq, and_true] at h
      obtain ⟨rfl, rfl, rfl, rfl⟩ := h
      exact Nat.le_refl _
    · obtain ⟨k1, n1, s1, kd1, k2, n2, s2, kd2, rfl, hfr, htl⟩ := pair_yes n hp
      simp only [Fr.size] at hf
      obtain ⟨a1, a2⟩ := ih k2 n2 s2 kd2 (by omega)
      rw [hfr, htl]
      refine ⟨by simp only [nodes]; omega, fun k' n' s' f' h => ?_⟩
      have := a2 k' n' s' f' h
      simp only [nodes]; omega
theorem tails_form (N : Nat) : ∀ (k n : Int) (s : ByteArray) (f : Fr), f.size ≤ N → ∃ k' n' s' f', tails k n s f = .cons k' n' s' f' .nil := by
  induction N with
  | zero =>
    intro k n s f hf
    have hp : pairB k s f.len = false := by
      cases f with
      | nil => unfold pairB; simp [Fr.len]
      | cons _ _ _ _ _ => simp [Fr.size] at hf
    exact ⟨k, n, s, f, (pair_no n hp).2⟩
  | succ N ih =>
    intro k n s f hf
    cases hp : pairB k s f.len
    · exact ⟨k, n, s, f, (pair_no n hp).2⟩
    · obtain ⟨k1, n1, s1, kd1, k2, n2, s2, kd2, rfl, _, htl⟩ := pair_yes n hp
      rw [htl]
      simp only [Fr.size] at hf
      exact ih k2 n2 s2 kd2 (by omega)
end Go.Proofs.YtihmgodiiohdnaaGreatDoor.wr

/- The model's texts with operators: spec.l2List, l2Text, WriteTerm. Condition: the term lies in memory. -/
namespace Go.Proofs.YtihmgodiiohdnaaGreatDoor.wr
open Go.RowKit

theorem list_str (a b : List UInt8) : (.string ((((⟨#[91]⟩ ++ ⟨a.toArray⟩) ++ ⟨#[124]⟩) ++ ⟨b.toArray⟩) ++ ⟨#[93]⟩) : Value) = .string ⟨(91 :: (a ++ (124 :: b ++ [93]))).toArray⟩ := by
  rw [show (⟨#[91]⟩ : ByteArray) = ⟨[91].toArray⟩ from rfl, show (⟨#[124]⟩ : ByteArray) = ⟨[124].toArray⟩ from rfl, show (⟨#[93]⟩ : ByteArray) = ⟨[93].toArray⟩ from rfl, ByteArray.mk_append_mk, ByteArray.mk_append_mk, ByteArray.mk_append_mk, ByteArray.mk_append_mk]
  simp
theorem list_str0 (a : List UInt8) : (.string ((⟨#[91]⟩ ++ ⟨a.toArray⟩) ++ ⟨#[93]⟩) : Value) = .string ⟨(91 :: (a ++ ([] ++ [93]))).toArray⟩ := by
  rw [show (⟨#[91]⟩ : ByteArray) = ⟨[91].toArray⟩ from rfl, show (⟨#[93]⟩ : ByteArray) = ⟨[93].toArray⟩ from rfl, ByteArray.mk_append_mk, ByteArray.mk_append_mk]
  simp
theorem str_args (s : ByteArray) (a : List UInt8) : (.string (((s ++ ⟨#[40]⟩) ++ ⟨a.toArray⟩) ++ ⟨#[41]⟩) : Value) = .string ⟨(s.data.toList ++ (40 :: (a ++ [41]))).toArray⟩ := by
  conv => lhs; rw [str_own s]
  rw [show (⟨#[40]⟩ : ByteArray) = ⟨[40].toArray⟩ from rfl, show (⟨#[41]⟩ : ByteArray) = ⟨[41].toArray⟩ from rfl, ByteArray.mk_append_mk, ByteArray.mk_append_mk, ByteArray.mk_append_mk]
  simp
theorem inf_str (a b c : List UInt8) : (.string ((⟨a.toArray⟩ ++ ⟨b.toArray⟩) ++ ⟨c.toArray⟩) : Value) = .string ⟨(a ++ (b ++ c)).toArray⟩ := by
  rw [ByteArray.mk_append_mk, ByteArray.mk_append_mk]
  simp

set_option maxRecDepth 100000 in
set_option maxHeartbeats 8000000 in
/-- spec.l2List. -/
theorem list_of (s : ByteArray) (f : Fr) (h : ∀ s' f', f'.size < f.size → TxC s' f') (k n : Int) (A : Option Addr) (cap lo hi : Nat) (d : Int) (w : World) (hk : KidsAt w lo hi f A cap) (hh : hi ≤ w.heap.size) (hlo : lo ≤ w.heap.size) (hp : pairB k s f.len = true) (hs : shapeT k n s f d = true) (hnd : nodes f ≤ 1048576) :
    Calls Tryz.prog 107 #[.agg #[.int .i64 k, .int .i64 n, .string s, .slice A f.len cap]] w fun e w' => e = .returned (.string ⟨(txT k n s f).toArray⟩) ∧ Below w.heap.size w w' := by
  obtain ⟨a1, a2, a3⟩ := fr_facts f.size k n s f d (Nat.le_refl _) hs
  obtain ⟨m1, m2⟩ := fr_nodes f.size k n s f (Nat.le_refl _)
  obtain ⟨kt, nt, st, ft, htl⟩ : ∃ kt nt st ft, tails k n s f = .cons kt nt st ft .nil := tails_form f.size k n s f (Nat.le_refl _)
  obtain ⟨b1, _, b3⟩ := a3 kt nt st ft htl
  have hG := txT_rem hp htl
  have hGl := (txT_shape hs).1
  have hG2 : (txT k n s f).length ≤ 67108864 := by omega
  have hrl : (remB 0 (fronts k s f)).length ≤ 67108864 := by rw [hG] at hG2; simp only [List.length_cons, List.length_append] at hG2; omega
  have C1 := fun (A2 : Option Addr) (cap2 : Nat) w1 (hk : KidsAt w1 lo w1.heap.size (fronts k s f) A2 cap2) => args_of (fronts k s f) (fun j k n s kids rest hd => h s kids (a2 j k n s kids rest hd)) d A2 cap2 lo w1.heap.size w1 hk (Nat.le_refl _) a1 (by omega) hrl
  have C2 := fun (A2 : Option Addr) (cap2 : Nat) w1 (hk : KidsAt w1 lo hi ft A2 cap2) (hh : hi ≤ w1.heap.size) => h st ft (b3 hp) kt nt A2 cap2 lo hi d w1 hk hh b1 (Nat.le_trans (m2 kt nt st ft htl) hnd)
  have hfl : (fronts k s f).len ≤ 1048576 := by have := len_le_nodes (fronts k s f); omega
  have HE : Hid (endB kt nt st ft = if nilB kt st ft.len = true then [] else 124 :: txT kt nt st ft) := Lib.hid rfl
  have HK := Lib.hid hk
  have HHI := Lib.hid hh
  have HLO := Lib.hid hlo
  have H1 := Lib.hid C1
  have H2 := Lib.hid C2
  have HG := Lib.hid hG
  have HFL := Lib.hid hfl
  have HTL := Lib.hid htl
  have HG2 := Lib.hid hG2
  have HRL := Lib.hid hrl
  clear h C1 C2 hk hh hs hnd hp hGl a1 a2 a3 m1 m2 b1 b3 hG hG2 hrl hfl htl
  generalize txT k n s f = G at *
  obtain ⟨i0, hi0, hz0, hz1, hz2⟩ := info_parts infoT
  have hb0 := two_alloc w (.cells #[.int .i64 k, .int .i64 n, .string s, .slice A f.len cap] 30) (.cells #[] 30)
  have hst : LiP w lo hi w.heap.size (fronts k s f) (tails k n s f) k n s f A cap .nil (.slice (some ⟨w.heap.size + 1, 0, none⟩) 0 0) ((w.alloc (.cells #[.int .i64 k, .int .i64 n, .string s, .slice A f.len cap] 30)).alloc (.cells #[] 30)) := by
    refine ⟨(Blk.new w _ _).alloc _, HK.out, ⟨[], ?_, rfl⟩, rfl, rfl, hb0, by simp, Nat.le_refl _⟩
    obtain ⟨xs, L, ho, hd, _⟩ := RowP.empty (base := w.heap.size + 1) (w := w.alloc (.cells #[.int .i64 k, .int .i64 n, .string s, .slice A f.len cap] 30)) (by simp)
    obtain rfl : xs = [] := by
      have := ho.2
      obtain ⟨h1, _⟩ := hd
      exact h1
    simpa using ho
  have HST := Lib.hid hst
  clear hst hb0
  go_enter Tryz.func107, Tryz.ntmps107
  go_wp2_with fail
  go_loopw [3] (fun u wr => ∃ (k' n' : Int) (s' : ByteArray) (f' : Fr) (A' : Option Addr) (cap' : Nat) (acc : Fr) (v : Value), v = u ∧ LiP w lo hi w.heap.size (fronts k s f) (tails k n s f) k' n' s' f' A' cap' acc v wr) (fun v _ => (fronts k s f).len - lenOf v)
  case atStart => exact ⟨k, n, s, f, A, cap, .nil, _, rfl, HST.out⟩
  case round =>
    obtain ⟨k', n', s', f', A', cap', acc, v, rfl, hp⟩ := hrel
    have HP := Lib.hid hp
    obtain ⟨b0, hk', ⟨xs, hown, hX⟩, hF, hT, hb, hs, hH⟩ := hp
    obtain ⟨a0, a1, a2, a3⟩ := cells4i b0
    have C3 := pair_any k' n' s' A' f'.len cap'
    cases hpb : pairB k' s' f'.len
    · rw [hpb] at C3
      obtain ⟨A2, cap2, hv2, hkf⟩ := HP.out.done hpb HHI.out HLO.out
      subst hv2
      have hto : tails k n s f = .cons k' n' s' f' .nil := by rw [← hT, (pair_no n' hpb).2]
      rw [HTL.out] at hto
      simp only [Fr.cons.injEq, and_true] at hto
      obtain ⟨rfl, rfl, rfl, rfl⟩ := hto
      have C4 := nil_any kt nt st A' ft.len cap'
      have H3 := Lib.hid C3
      have H4 := Lib.hid C4
      have HKF := Lib.hid hkf
      have HK' := Lib.hid hk'
      have HB := Lib.hid hb
      have HB0 := Lib.hid b0
      clear C3 C4 b0 hk' hown hX hF hT hb hpb hkf HP
      have hsw : w.heap.size < wr.heap.size := by omega
      generalize (fronts k s f).len = fl at *
      go_wp2_with fail
      refine (H3.out _).mono ?_
      rintro e w3 ⟨rfl, hb3⟩
      obtain ⟨b0, b1, b2, b3⟩ := cells4i (HB0.out.below hb3 (by omega))
      have HB3 := Lib.hid hb3
      clear hb3 a0 a1 a2 a3
      go_wp2_with fail
      refine (H4.out _).mono ?_
      rintro e w4 ⟨rfl, hb4⟩
      have hb34 : Below wr.heap.size wr w4 := HB3.out.trans (hb4.mono HB3.out.size)
      have HB34 := Lib.hid hb34
      have hq4 := HB0.out.below hb34 (by omega)
      obtain ⟨c0, c1, c2, c3⟩ := cells4i hq4
      have HQ4 := Lib.hid hq4
      have hsw4 : w.heap.size < w4.heap.size := by have := hb34.size; omega
      have hkf4 : KidsAt w4 lo w4.heap.size (fronts k s f) A2 cap2 := (HKF.out.below hb34 (Nat.le_refl _)).more (Nat.le_refl _) hb34.size
      have HKF4 := Lib.hid hkf4
      have HBW4 := Lib.hid (HB.out.trans (hb34.mono HB.out.size))
      clear hb4 hb34 b0 b1 b2 b3 hq4 hkf4
      have hrl := HRL.out
      cases hnb : nilB kt st ft.len
      · have HV : Hid (91 :: (remB 0 (fronts k s f) ++ (124 :: txT kt nt st ft ++ [93])) = G) := Lib.hid (by rw [HG.out, HE.out, hnb]; rfl)
        have hl2 : (remB 0 (fronts k s f)).length + (txT kt nt st ft).length ≤ 67108864 := by
          have h1 := congrArg List.length HV.out
          have h2 := HG2.out
          simp only [List.length_cons, List.length_append] at h1
          omega
        have H1' := Lib.hid (fun w1 (hb : Below w4.heap.size w4 w1) => H1.out A2 cap2 w1 ((HKF4.out.below hb (Nat.le_refl _)).more (Nat.le_refl _) hb.size))
        have H2' := Lib.hid (fun w1 (hb : Below w4.heap.size w4 w1) => H2.out A' cap' w1 (HK'.out.below (HBW4.out.trans (hb.mono HBW4.out.size)) HHI.out) (Nat.le_trans HHI.out (HBW4.out.trans (hb.mono HBW4.out.size)).size))
        have HSTR := Lib.hid (list_str (remB 0 (fronts k s f)) (txT kt nt st ft))
        clear hnb
        generalize remB 0 (fronts k s f) = RB at *
        generalize txT kt nt st ft = TT at *
        generalize ft.len = tl at *
        have t1 : ¬ 9223372036854775807 < 1 + RB.length := by omega
        have t2 : ¬ 9223372036854775807 < 1 + RB.length + 1 := by omega
        have t3 : ¬ 9223372036854775807 < 1 + RB.length + 1 + TT.length := by omega
        have t4 : ¬ 9223372036854775807 < 1 + RB.length + 1 + TT.length + 1 := by omega
        go_wp2_with fail
        go_region_held3 (fun w' => w'.cell? ⟨w.heap.size, 0, none⟩ = some (.int .i64 kt) ∧ w'.cell? ⟨w.heap.size, 1, none⟩ = some (.int .i64 nt) ∧ w'.cell? ⟨w.heap.size, 2, none⟩ = some (.string st) ∧ w'.cell? ⟨w.heap.size, 3, none⟩ = some (.slice A' tl cap'))
          (first | exact ⟨z0, z1, z2, z3⟩ | exact ⟨y0, y1, y2, y3⟩ | exact ⟨c0, c1, c2, c3⟩)
          (first
            | (go_at_call 112
               refine (H1'.out _ (Below.refl _ _).drew).mono ?_
               rintro e w5 ⟨rfl, hb5⟩
               have hd5 : Below w4.heap.size w4 w5 := (Below.refl w4.heap.size w4).drew.trans hb5
               obtain ⟨y0, y1, y2, y3⟩ := cells4i (HQ4.out.below hd5 hsw4)
               have HB5 := Lib.hid hd5
               clear hb5 hd5)
            | (go_at_call 96
               refine (H2'.out _ HB5.out).mono ?_
               rintro e w6 ⟨rfl, hb6⟩
               have hd6 : Below w4.heap.size w4 w6 := HB5.out.trans (hb6.mono HB5.out.size)
               obtain ⟨z0, z1, z2, z3⟩ := cells4i (HQ4.out.below hd6 hsw4)
               have HB6 := Lib.hid hd6
               clear hb6 hd6))
        go_wp2_with fail
        go_ret
        rw [← HV.out]
        exact ⟨congrArg Ending.returned HSTR.out, HBW4.out.trans (HB6.out.mono HBW4.out.size)⟩
      · have HV : Hid (91 :: (remB 0 (fronts k s f) ++ ([] ++ [93])) = G) := Lib.hid (by rw [HG.out, HE.out, hnb]; rfl)
        have C1 := H1.out A2 cap2 w4 HKF4.out
        have HSTR := Lib.hid (list_str0 (remB 0 (fronts k s f)))
        have H1' := Lib.hid C1
        clear hnb C1
        generalize remB 0 (fronts k s f) = RB at *
        go_wp2_with fail
        refine H1'.out.mono ?_
        rintro e w5 ⟨rfl, hb5⟩
        have HB5 := Lib.hid (HBW4.out.trans (hb5.mono HBW4.out.size))
        clear hb5
        go_wp2_with fail
        go_ret
        rw [← HV.out]
        exact ⟨congrArg Ending.returned HSTR.out, HB5.out⟩
    · rw [hpb] at C3
      obtain ⟨k1, n1, s1, kd1, k2, n2, s2, kd2, rfl, hfr, htl⟩ := pair_yes n' hpb
      have hp2 : pairB k' s' 2 = true := hpb
      obtain ⟨b, o, rfl, hlb, hbb, hrow⟩ := hk'.2.2 (by simp [Fr.len])
      obtain ⟨hfit1, A1, cap1, c0, c1, c2, c3, hkid1⟩ := hrow.elem (i := 0) rfl
      obtain ⟨hfit2, A2, cap2, e0, e1, e2, e3, hkid2⟩ := hrow.elem (i := 1) rfl
      have hlo' : (⟨b, o, none⟩ : Addr).block < w.heap.size := Nat.lt_of_lt_of_le hbb HHI.out
      simp only [Nat.zero_mul, Nat.one_mul, Nat.add_zero] at c0 c1 c2 c3 e0 e1 e2 e3
      have hvl := hown.lt
      have hacc : acc.len + 1 ≤ (fronts k s f).len := by
        have h1 := congrArg Fr.len hF
        rw [Fr.len_app, hfr] at h1
        simp only [Fr.len] at h1
        omega
      have hacc2 : acc.len < 1048577 := by have := HFL.out; omega
      have hmeas : (fronts k s f).len - (acc.len + 1) < (fronts k s f).len - lenOf v := by
        obtain ⟨A0, cap0, rfl⟩ : ∃ A0 cap0, v = .slice A0 acc.len cap0 := by
          rcases hown.2 with ⟨rfl, h0⟩ | ⟨g, cap, cur, rfl, _⟩
          · exact ⟨none, 0, by rw [h0]⟩
          · exact ⟨_, _, rfl⟩
        simp only [lenOf]
        omega
      have far : ∀ w3, Below wr.heap.size wr w3 → Below wr.heap.size wr w3 := fun _ h => h
      have HC0 : Hid (∀ w6 : World, (∀ x, x ≤ w.heap.size → w6.heap[x]? = wr.heap[x]?) → w6.cell? ⟨b, o, none⟩ = some (.int .i64 k1) ∧ w6.cell? ⟨b, o + 1, none⟩ = some (.int .i64 n1) ∧ w6.cell? ⟨b, o + 2, none⟩ = some (.string s1) ∧ w6.cell? ⟨b, o + 3, none⟩ = some (.slice A1 kd1.len cap1) ∧
          w6.cell? ⟨b, o + 4, none⟩ = some (.int .i64 k2) ∧ w6.cell? ⟨b, o + 4 + 1, none⟩ = some (.int .i64 n2) ∧ w6.cell? ⟨b, o + 4 + 2, none⟩ = some (.string s2) ∧ w6.cell? ⟨b, o + 4 + 3, none⟩ = some (.slice A2 kd2.len cap2)) := Lib.hid fun w6 h6 => by
        have all : ∀ i, w6.cell? ⟨b, i, none⟩ = w.cell? ⟨b, i, none⟩ := fun i => (World.cell?_of_block (a := ⟨b, i, none⟩) (h6 b (Nat.le_of_lt hlo'))).trans (hb.cell (p := ⟨b, i, none⟩) hlo')
        exact ⟨(all _).trans c0, (all _).trans c1, (all _).trans c2, (all _).trans c3, (all _).trans e0, (all _).trans e1, (all _).trans e2, (all _).trans e3⟩
      have H3 := Lib.hid C3
      have HB0 := Lib.hid b0
      have HM := Lib.hid hmeas
      have HX := Lib.hid hX
      have HVL := Lib.hid hvl
      have HF1 := Lib.hid hfit1
      have HK1 := Lib.hid hkid1
      have HK2 := Lib.hid hkid2
      have HP2 := Lib.hid hp2
      have HOWN := Lib.hid hown
      have hs' : w.heap.size + 1 ≤ wr.heap.size := hs
      have hlb' : b < w.heap.size := hlo'
      clear C3 far hown hX hvl hb b0 hmeas hF hT hpb hp2 hfr htl hk' hrow hfit1 hfit2 hkid1 hkid2 c0 c1 c2 c3 e0 e1 e2 e3 hlo' hacc hlb hbb
      simp only [Fr.len] at *
      go_wp2_with fail
      refine (H3.out _).mono ?_
      rintro e w3 ⟨rfl, hb3⟩
      have hp3 := HP.out.below hb3
      obtain ⟨c0, c1, c2, c3, -, -, -, -⟩ := HC0.out w3 fun x hx => hb3.block x (by omega)
      obtain ⟨b0, b1, b2, b3⟩ := cells4i (HB0.out.below hb3 (by omega))
      have HO3 := Lib.hid (HOWN.out.kept (row := none) ⟨hb3.os, hb3.tape, hb3.output, hb3.size, fun k hk _ => hb3.block k hk⟩ (by cases v.ownBlock <;> simp))
      have hs3 := hb3.size
      have HSTEP := Lib.hid (fun (w6 : World) (g cap4 : Nat) (ob : Obj) hg ho => hp3.step (w4 := w6) (g := g) (cap4 := cap4) (o := ob) HP2.out HX.out (fun g hg => ⟨(HVL.out g hg).1, Nat.lt_of_lt_of_le (HVL.out g hg).2 hb3.size⟩) HF1.out HK1.out hg ho HK2.out)
      have HALL : Hid (∀ (o0 : Obj) w6, (w3.alloc o0).grownBy w6 v.ownBlock → (w6.cell? ⟨b, o + 4, none⟩ = some (.int .i64 k2) ∧ w6.cell? ⟨b, o + 4 + 1, none⟩ = some (.int .i64 n2) ∧ w6.cell? ⟨b, o + 4 + 2, none⟩ = some (.string s2) ∧ w6.cell? ⟨b, o + 4 + 3, none⟩ = some (.slice A2 kd2.len cap2)) ∧
          (w6.cell? ⟨w.heap.size, 0, none⟩ = some (.int .i64 k') ∧ w6.cell? ⟨w.heap.size, 1, none⟩ = some (.int .i64 n') ∧ w6.cell? ⟨w.heap.size, 2, none⟩ = some (.string s') ∧ w6.cell? ⟨w.heap.size, 3, none⟩ = some (.slice (some ⟨b, o, none⟩) (0 + 1 + 1) cap')) ∧
          (w6.frozen? ⟨w.heap.size, 0, none⟩ = false ∧ w6.frozen? ⟨w.heap.size, 1, none⟩ = false ∧ w6.frozen? ⟨w.heap.size, 2, none⟩ = false ∧ w6.frozen? ⟨w.heap.size, 3, none⟩ = false)) := Lib.hid fun o0 w6 hg6 => by
        have hfar : ∀ x, x ≤ w.heap.size → w6.heap[x]? = wr.heap[x]? := fun x hx => by
          have hb1 : Below w3.heap.size w3 (w3.alloc o0) := (Below.refl _ _).alloc (Nat.le_refl _) _
          have := hb1.size
          rw [hg6.block x (by omega) fun e => by have := (HVL.out x e.symm).1; omega, hb1.block x (by omega), hb3.block x (by omega)]
        have hq := HB0.out.keep (hfar _ (Nat.le_refl _))
        exact ⟨(HC0.out w6 hfar).2.2.2.2, cells4i hq, frozen4 hq⟩
      clear hb3 hp3 a0 a1 a2 a3
      go_wp2_with (at_builtin; go_must (refine wpList_append_lies _ rfl _ _ _ rfl (w.heap.size + 1) 30 i0 _ 4 56 Tryz.underlying28 hi0 hz0 hz1 hz2 rfl (by omega) v acc.len _ rfl (HO3.out.alloc _) ⟨w3.heap.size, 0, none⟩ 1 1 [.int .i64 k1, .int .i64 n1, .string s1, .slice A1 kd1.len cap1] rfl rfl (World.news_of_block (cs := #[.int .i64 k1, .int .i64 n1, .string s1, .slice A1 kd1.len cap1]) (fr := (0, 0)) (heap_alloc_new w3 _)) (by simp [Value.oneCell']) (by omega) (by unfold maxLen; omega) (by omega) (by simp; omega) (w3.heap.size + 1) (by simp) ?_); intro g cap4 w6 hown6 hgrow hat hlt6; obtain ⟨⟨e0, e1, e2, e3⟩, ⟨x0, x1, x2, x3⟩, ⟨y0, y1, y2, y3⟩⟩ := HALL.out _ w6 hgrow; have HST6 := Lib.hid (HSTEP.out w6 g cap4 _ hgrow hown6); clear hown6 hgrow hat b0 b1 b2 b3)
      go_roundw
      case rel => exact ⟨_, _, _, _, _, _, _, _, rfl, HST6.out⟩
      case measure => exact HM.out
end Go.Proofs.YtihmgodiiohdnaaGreatDoor.wr

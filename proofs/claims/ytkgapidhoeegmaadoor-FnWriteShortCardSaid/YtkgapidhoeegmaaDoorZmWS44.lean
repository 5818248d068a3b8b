/- The text of a term with operators, as plain data. No condition. -/
import Derived.Test.YtkgapidhoeegmaaDoorProg
import Derived.Test.YtkgapidhoeegmaaDoorZmWS43
import Derived.Test.YtkgapidhoeegmaaDoorOpA
import Derived.Test.YtkgapidhoeegmaaDoorNvWalks
import Derived.Test.YtkgapidhoeegmaaDoorTermOf
import Derived.Lib.SlBytesConst
import Derived.Test.YtkgapidhoeegmaaDoorSpecC
import Derived.Test.YtkgapidhoeegmaaDoorTb
import Derived.Test.YtkgapidhoeegmaaDoorAll
namespace Go.Proofs.YtkgapidhoeegmaaDoor.wr
open Go.RowKit

/-- A text, what it adds as the rest of a list, and its level as an operand. -/
abbrev W3 := List UInt8 × List UInt8 × Int
def infB (k : Int) (s : ByteArray) (len : Nat) : Bool := k == 3 && (len == 2 && decide (0 < op.level s.data.toList))
def soleB (k : Int) (s : ByteArray) (len : Nat) : Bool := k == 3 && (len == 0 && decide (0 < op.level s.data.toList))
def olv (k : Int) (s : ByteArray) (len : Nat) : Int := if infB k s len = true then op.level s.data.toList else if soleB k s len = true then 4 else 0
/-- A byte with which a right operand can begin. -/
def plC (c : UInt8) : Bool := (decide (97 ≤ c.toNat) && decide (c.toNat ≤ 122)) || (decide (48 ≤ c.toNat) && decide (c.toNat ≤ 57)) || (decide (65 ≤ c.toNat) && decide (c.toNat ≤ 90)) || c == 91 || c == 40
def plB : List UInt8 → Bool
  | [] => false
  | c :: _ => plC c
def spB (l : List UInt8) : List UInt8 := if l = [105, 115] ∨ l = [109, 111, 100] then 32 :: (l ++ [32]) else l
def braB (t : List UInt8) : List UInt8 := 40 :: (t ++ [41])
/-- A left operand, and a right one, where a level is the highest one. -/
def leftB (r : W3) (l : Int) : List UInt8 := if l < r.2.2 then braB r.1 else r.1
def rightB (r : W3) (l : Int) : List UInt8 := if l < r.2.2 ∨ plB r.1 = false then braB r.1 else r.1
def lfl (n : Int) : Int := if n = 3 then 2 else n
def none3 : W3 := ([], [], 0)
def bodyB (k n : Int) (s : ByteArray) (len : Nat) (r : List W3) : List UInt8 :=
  if k = 1 then letB n else if k = 2 then Lib.itoa n else
    if pairB k s len = true then 91 :: ((r.getD 0 none3).1 ++ ((r.getD 1 none3).2.1 ++ [93])) else
    if infB k s len = true then leftB (r.getD 0 none3) (lfl (op.level s.data.toList)) ++ (spB s.data.toList ++ rightB (r.getD 1 none3) (op.level s.data.toList - 1)) else
    s.data.toList ++ argsB (r.map Prod.fst)
def elt (k n : Int) (s : ByteArray) (len : Nat) (r : List W3) : W3 :=
  (bodyB k n s len r, (if pairB k s len = true then 44 :: ((r.getD 0 none3).1 ++ (r.getD 1 none3).2.1) else if nilB k s len = true then [] else 124 :: bodyB k n s len r), olv k s len)
def txL : Fr → List W3
  | .nil => []
  | .cons k n s kids rest => elt k n s kids.len (txL kids) :: txL rest
def txT (k n : Int) (s : ByteArray) (f : Fr) : List UInt8 := (elt k n s f.len (txL f)).1
def tlT (k n : Int) (s : ByteArray) (f : Fr) : List UInt8 := (elt k n s f.len (txL f)).2.1
/-- The texts of a row. -/
def txs (f : Fr) : List (List UInt8) := (txL f).map Prod.fst
theorem txs_cons (k n : Int) (s : ByteArray) (kids rest : Fr) : txs (.cons k n s kids rest) = txT k n s kids :: txs rest := rfl
theorem txT_var (n : Int) (s : ByteArray) (f : Fr) : txT 1 n s f = letB n := by unfold txT elt bodyB; rw [if_pos rfl]
theorem txT_int (n : Int) (s : ByteArray) (f : Fr) : txT 2 n s f = Lib.itoa n := by unfold txT elt bodyB; rw [if_neg (by decide), if_pos rfl]
theorem txT_pair {k : Int} (n : Int) {s : ByteArray} {k1 n1 k2 n2 : Int} {s1 s2 : ByteArray} {kd1 kd2 : Fr} (h : pairB k s 2 = true) :
    txT k n s (.cons k1 n1 s1 kd1 (.cons k2 n2 s2 kd2 .nil)) = 91 :: (txT k1 n1 s1 kd1 ++ (tlT k2 n2 s2 kd2 ++ [93])) := by
  obtain ⟨_, rfl, _⟩ := pairB_len h
  show bodyB 3 n s 2 _ = _
  unfold bodyB
  rw [if_neg (by decide), if_neg (by decide), if_pos h]
  rfl
theorem tlT_pair {k : Int} (n : Int) {s : ByteArray} {k1 n1 k2 n2 : Int} {s1 s2 : ByteArray} {kd1 kd2 : Fr} (h : pairB k s 2 = true) :
    tlT k n s (.cons k1 n1 s1 kd1 (.cons k2 n2 s2 kd2 .nil)) = 44 :: (txT k1 n1 s1 kd1 ++ tlT k2 n2 s2 kd2) := by
  show (if pairB k s 2 = true then _ else _) = _
  rw [if_pos h]
  rfl
/-- A left operand's text, and a right one's. -/
def lefT (k n : Int) (s : ByteArray) (f : Fr) (l : Int) : List UInt8 := if l < olv k s f.len then braB (txT k n s f) else txT k n s f
def rigT (k n : Int) (s : ByteArray) (f : Fr) (l : Int) : List UInt8 := if l < olv k s f.len ∨ plB (txT k n s f) = false then braB (txT k n s f) else txT k n s f
theorem txT_inf {n : Int} {s : ByteArray} {k1 n1 k2 n2 : Int} {s1 s2 : ByteArray} {kd1 kd2 : Fr} (hp : pairB 3 s 2 = false) (h : infB 3 s 2 = true) :
    txT 3 n s (.cons k1 n1 s1 kd1 (.cons k2 n2 s2 kd2 .nil)) = lefT k1 n1 s1 kd1 (lfl (op.level s.data.toList)) ++ (spB s.data.toList ++ rigT k2 n2 s2 kd2 (op.level s.data.toList - 1)) := by
  show bodyB 3 n s 2 _ = _
  unfold bodyB
  rw [if_neg (by decide), if_neg (by decide), hp, if_neg (by decide), if_pos h]
  rfl
theorem txT_str {n : Int} {s : ByteArray} {f : Fr} (h : pairB 3 s f.len = false) (hi : infB 3 s f.len = false) : txT 3 n s f = s.data.toList ++ argsB (txs f) := by
  show bodyB 3 n s f.len _ = _
  unfold bodyB
  rw [if_neg (by decide), if_neg (by decide), h, hi]
  rfl
theorem tlT_nil {k n : Int} {s : ByteArray} {f : Fr} (h : nilB k s f.len = true) : tlT k n s f = [] := by
  have hp : pairB k s f.len = false := by
    unfold nilB at h
    unfold pairB
    simp only [Bool.and_eq_true, beq_iff_eq] at h
    rw [h.2.2]; simp
  show (if pairB k s f.len = true then _ else _) = _
  rw [hp, h]
  rfl
theorem tlT_end {k n : Int} {s : ByteArray} {f : Fr} (hp : pairB k s f.len = false) (h : nilB k s f.len = false) : tlT k n s f = 124 :: txT k n s f := by
  show (if pairB k s f.len = true then _ else _) = _
  rw [hp, h]
  rfl
/-- What stands behind the last element of a list. -/
def endB (k n : Int) (s : ByteArray) (f : Fr) : List UInt8 := if nilB k s f.len = true then [] else 124 :: txT k n s f
theorem tlT_not {k n : Int} {s : ByteArray} {f : Fr} (hp : pairB k s f.len = false) : tlT k n s f = endB k n s f := by
  unfold endB
  cases h : nilB k s f.len
  · rw [tlT_end hp h]; rfl
  · rw [tlT_nil h]; rfl
/-- The rest of a list: its elements, then its end. -/
theorem tlT_split (N : Nat) : ∀ (k n : Int) (s : ByteArray) (f : Fr), f.size ≤ N → ∀ k' n' s' f', tails k n s f = .cons k' n' s' f' .nil → tlT k n s f = (txs (fronts k s f)).flatMap (fun x => 44 :: x) ++ endB k' n' s' f' := by
  induction N with
  | zero =>
    intro k n s f hf k' n' s' f' ht
    have hp : pairB k s f.len = false := by
      cases f with
      | nil => unfold pairB; simp [Fr.len]
      | cons _ _ _ _ _ => simp [Fr.size] at hf
    rw [(pair_no n hp).2] at ht
    rw [(pair_no n hp).1, tlT_not hp]
    simp only [Fr.cons.injEq, and_true] at ht
    obtain ⟨rfl, rfl, rfl, rfl⟩ := ht
    rfl
  | succ N ih =>
    intro k n s f hf k' n' s' f' ht
    cases hp : pairB k s f.len
    · rw [(pair_no n hp).2] at ht
      rw [(pair_no n hp).1, tlT_not hp]
      simp only [Fr.cons.injEq, and_true] at ht
      obtain ⟨rfl, rfl, rfl, rfl⟩ := ht
      rfl
    · obtain ⟨k1, n1, s1, kd1, k2, n2, s2, kd2, rfl, hfr, htl⟩ := pair_yes n hp
      have h2 := ih k2 n2 s2 kd2 (by simp only [Fr.size] at hf; omega) k' n' s' f' (by rw [← htl]; exact ht)
      rw [tlT_pair n hp, hfr, txs_cons, h2]
      simp
theorem txT_list {k n : Int} {s : ByteArray} {f : Fr} (hp : pairB k s f.len = true) {k' n' : Int} {s' : ByteArray} {f' : Fr} (ht : tails k n s f = .cons k' n' s' f' .nil) :
    ∃ k1 n1 s1 kd1 r, fronts k s f = .cons k1 n1 s1 kd1 r ∧ txT k n s f = 91 :: (txT k1 n1 s1 kd1 ++ ((txs r).flatMap (fun x => 44 :: x) ++ (endB k' n' s' f' ++ [93]))) := by
  obtain ⟨k1, n1, s1, kd1, k2, n2, s2, kd2, rfl, hfr, htl⟩ := pair_yes n hp
  refine ⟨k1, n1, s1, kd1, _, hfr, ?_⟩
  rw [txT_pair n hp, tlT_split kd2.size k2 n2 s2 kd2 (Nat.le_refl _) k' n' s' f' (by rw [← htl]; exact ht), List.append_assoc]


/-- Texts are not long. -/
theorem txs_len (f : Fr) : (txs f).length = f.len := by
  induction f with
  | nil => rfl
  | cons _ _ _ _ _ _ ih => rw [txs_cons, List.length_cons, ih]; rfl
theorem lefT_len (k n : Int) (s : ByteArray) (f : Fr) (l : Int) : (lefT k n s f l).length ≤ (txT k n s f).length + 2 := by
  unfold lefT braB
  split
  · simp only [List.length_cons, List.length_append, List.length_nil]; omega
  · omega
theorem rigT_len (k n : Int) (s : ByteArray) (f : Fr) (l : Int) : (rigT k n s f l).length ≤ (txT k n s f).length + 2 := by
  unfold rigT braB
  split
  · simp only [List.length_cons, List.length_append, List.length_nil]; omega
  · omega
theorem spB_len (l : List UInt8) : (spB l).length ≤ l.length + 2 := by
  unfold spB
  split
  · simp only [List.length_cons, List.length_append, List.length_nil]; omega
  · omega
/-- Text or rest, whichever is longer. -/
def mxL : List W3 → Nat
  | [] => 0
  | t :: ts => max (t.1.length + 3) t.2.1.length + mxL ts
theorem mxL_args : ∀ f : Fr, f.len + ((txs f).map List.length).sum ≤ mxL (txL f)
  | .nil => Nat.le_refl _
  | .cons k n s kids rest => by
    have := mxL_args rest
    show rest.len + 1 + ((txT k n s kids).length + ((txs rest).map List.length).sum) ≤ max ((txT k n s kids).length + 3) _ + mxL (txL rest)
    omega
theorem tx_len (f : Fr) : smF f → mxL (txL f) ≤ 32 * nodes f := by
  induction f with
  | nil => exact fun _ => Nat.le_refl _
  | cons k n s kids rest ihk ihr =>
    rintro ⟨⟨h1, h2⟩, h3, h4⟩
    have a := ihk h3
    have b := ihr h4
    have hb : max ((txT k n s kids).length + 3) (tlT k n s kids).length ≤ 32 * (nodes kids + 1) := by
      cases hp : pairB k s kids.len
      · have hlen : (txT k n s kids).length + 3 ≤ 32 * (nodes kids + 1) := by
          have h6 : s.data.toList.length = s.size := rfl
          cases hi : infB k s kids.len
          · show (bodyB k n s kids.len (txL kids)).length + 3 ≤ _
            unfold bodyB
            split
            · simp only [letB, List.length_cons, List.length_nil]; omega
            · split
              · have := itoa_small n (h2 (by assumption)); omega
              · rw [hp, hi]
                have h5 := args_len (txs kids)
                have h7 := mxL_args kids
                rw [txs_len] at h5
                show (s.data.toList ++ argsB (txs kids)).length + 3 ≤ _
                rw [List.length_append]
                omega
          · have hi' := hi
            unfold infB at hi'
            simp only [Bool.and_eq_true, beq_iff_eq] at hi'
            obtain ⟨rfl, hl, _⟩ := hi'
            obtain ⟨k1, n1, s1, kd1, k2, n2, s2, kd2, rfl⟩ : ∃ k1 n1 s1 kd1 k2 n2 s2 kd2, kids = .cons k1 n1 s1 kd1 (.cons k2 n2 s2 kd2 .nil) := by
              match kids, hl with
              | .cons k1 n1 s1 kd1 (.cons k2 n2 s2 kd2 .nil), _ => exact ⟨k1, n1, s1, kd1, k2, n2, s2, kd2, rfl⟩
              | .nil, h => cases h
              | .cons _ _ _ _ .nil, h => cases h
              | .cons _ _ _ _ (.cons _ _ _ _ (.cons _ _ _ _ _)), h => simp [Fr.len] at h
            have e1 : max ((txT k1 n1 s1 kd1).length + 3) (tlT k1 n1 s1 kd1).length + (max ((txT k2 n2 s2 kd2).length + 3) (tlT k2 n2 s2 kd2).length + 0) ≤ 32 * nodes (.cons k1 n1 s1 kd1 (.cons k2 n2 s2 kd2 .nil)) := a
            rw [txT_inf hp hi]
            have e2 := lefT_len k1 n1 s1 kd1 (lfl (op.level s.data.toList))
            have e3 := rigT_len k2 n2 s2 kd2 (op.level s.data.toList - 1)
            have e4 := spB_len s.data.toList
            simp only [List.length_append]
            omega
        rw [tlT_not hp]
        unfold endB
        split
        · simp only [List.length_nil]; omega
        · rw [List.length_cons]; omega
      · obtain ⟨k1, n1, s1, kd1, k2, n2, s2, kd2, rfl, hfr, htl⟩ := pair_yes n hp
        have e1 : max ((txT k1 n1 s1 kd1).length + 3) (tlT k1 n1 s1 kd1).length + (max ((txT k2 n2 s2 kd2).length + 3) (tlT k2 n2 s2 kd2).length + 0) ≤ 32 * nodes (.cons k1 n1 s1 kd1 (.cons k2 n2 s2 kd2 .nil)) := a
        rw [txT_pair n hp, tlT_pair n hp]
        simp only [List.length_cons, List.length_append, List.length_nil]
        omega
    have e : mxL (txL (.cons k n s kids rest)) = max ((txT k n s kids).length + 3) (tlT k n s kids).length + mxL (txL rest) := rfl
    rw [e]
    simp only [nodes]
    omega
theorem txT_len {k n : Int} {s : ByteArray} {f : Fr} (h1 : s.size ≤ 6) (h2 : k = 2 → -999 ≤ n ∧ n ≤ 999) (h3 : smF f) : (txT k n s f).length + 3 ≤ 32 * (nodes f + 1) ∧ (tlT k n s f).length ≤ 32 * (nodes f + 1) := by
  have h := tx_len (.cons k n s f .nil) ⟨⟨h1, h2⟩, h3, trivial⟩
  have e : mxL (txL (.cons k n s f .nil)) = max ((txT k n s f).length + 3) (tlT k n s f).length + 0 := rfl
  rw [e] at h
  simp only [nodes] at h
  omega
theorem txT_shape {k n : Int} {s : ByteArray} {f : Fr} {d : Int} (h : shapeT k n s f d = true) : (txT k n s f).length + 3 ≤ 32 * (nodes f + 1) ∧ (tlT k n s f).length ≤ 32 * (nodes f + 1) := by
  have h1 := smF_shape (.cons k n s f .nil) d (by rw [shapeF_cons, h]; rfl)
  exact txT_len h1.1.1 h1.1.2 h1.2.1
/-- The texts of a row that is written from element j on. -/
def moreB (j : Nat) (f : Fr) : List UInt8 := if j = 0 then (match txs f with | [] => [] | t :: ts => 40 :: (t ++ ts.flatMap (fun x => 44 :: x))) else (txs f).flatMap (fun x => 44 :: x)
theorem argsB_more (f : Fr) : argsB (txs f) = if f.len = 0 then [] else moreB 0 f ++ [41] := by
  cases f with
  | nil => rfl
  | cons k n s kids rest =>
    rw [if_neg (by simp [Fr.len]), txs_cons]
    unfold moreB
    simp [argsB, txs_cons]
theorem inf_kids {k : Int} {s : ByteArray} {kids : Fr} (hi : infB k s kids.len = true) : k = 3 ∧ 0 < op.level s.data.toList ∧ ∃ k1 n1 s1 kd1 k2 n2 s2 kd2, kids = .cons k1 n1 s1 kd1 (.cons k2 n2 s2 kd2 .nil) := by
  unfold infB at hi
  simp only [Bool.and_eq_true, beq_iff_eq, decide_eq_true_eq] at hi
  obtain ⟨rfl, hl, hv⟩ := hi
  refine ⟨rfl, hv, ?_⟩
  match kids, hl with
  | .cons k1 n1 s1 kd1 (.cons k2 n2 s2 kd2 .nil), _ => exact ⟨k1, n1, s1, kd1, k2, n2, s2, kd2, rfl⟩
  | .nil, h => cases h
  | .cons _ _ _ _ .nil, h => cases h
  | .cons _ _ _ _ (.cons _ _ _ _ (.cons _ _ _ _ _)), h => simp [Fr.len] at h
/-- What is still to be written of a row without brackets, from element j on. -/
def remB (j : Nat) (f : Fr) : List UInt8 := if j = 0 then (match txs f with | [] => [] | t :: ts => t ++ ts.flatMap (fun x => 44 :: x)) else (txs f).flatMap (fun x => 44 :: x)
theorem remB_zero (k n : Int) (s : ByteArray) (kids rest : Fr) : remB 0 (.cons k n s kids rest) = txT k n s kids ++ remB 1 rest := by
  unfold remB
  rw [if_pos rfl, if_neg (by decide), txs_cons]
theorem remB_step (j : Nat) (hj : j ≠ 0) (k n : Int) (s : ByteArray) (kids rest : Fr) : remB j (.cons k n s kids rest) = 44 :: (txT k n s kids ++ remB (j + 1) rest) := by
  unfold remB
  rw [if_neg hj, if_neg (by omega), txs_cons, List.flatMap_cons]
  rfl
theorem remB_nil (j : Nat) : remB j .nil = [] := by unfold remB; split <;> rfl
theorem moreB_rem (f : Fr) (h : f.len ≠ 0) : moreB 0 f = 40 :: remB 0 f := by
  cases f with
  | nil => exact absurd rfl h
  | cons k n s kids rest => rfl
theorem argsB_rem (f : Fr) : argsB (txs f) = if f.len = 0 then [] else 40 :: (remB 0 f ++ [41]) := by
  rw [argsB_more]
  by_cases h : f.len = 0
  · rw [if_pos h, if_pos h]
  · rw [if_neg h, if_neg h, moreB_rem f h]; rfl
theorem txT_rem {k n : Int} {s : ByteArray} {f : Fr} (hp : pairB k s f.len = true) {k' n' : Int} {s' : ByteArray} {f' : Fr} (ht : tails k n s f = .cons k' n' s' f' .nil) : txT k n s f = 91 :: (remB 0 (fronts k s f) ++ (endB k' n' s' f' ++ [93])) := by
  obtain ⟨k1, n1, s1, kd1, r, hf, hx⟩ := txT_list hp ht
  rw [hx, hf, remB_zero]
  unfold remB
  rw [if_neg (by decide)]
  simp
end Go.Proofs.YtkgapidhoeegmaaDoor.wr

/- Bytes of a text at an offset: spec.l1Small, l1Digit, l1Sign. Condition: the text is no longer than a string can be. -/
namespace Go.Proofs.YtkgapidhoeegmaaDoor
open Go.RowKit

/-- The byte at an offset meets a test. -/
def atB (p : UInt8 → Bool) (l : List UInt8) (i : Nat) : Bool := match l[i]? with | some c => p c | none => false
def smC (c : UInt8) : Bool := decide (97 ≤ c.toNat) && decide (c.toNat ≤ 122)
def dgC (c : UInt8) : Bool := decide (48 ≤ c.toNat) && decide (c.toNat ≤ 57)
def sgC (x : Int) (c : UInt8) : Bool := (c.toNat : Int) == x
theorem atB_some {p : UInt8 → Bool} {l : List UInt8} {i : Nat} {c : UInt8} (h : l[i]? = some c) : atB p l i = p c := by unfold atB; rw [h]
theorem atB_none {p : UInt8 → Bool} {l : List UInt8} {i : Nat} (h : l.length ≤ i) : atB p l i = false := by unfold atB; rw [List.getElem?_eq_none h]

set_option maxHeartbeats 1000000 in
/-- spec.l1Small. -/
theorem small_any (s : ByteArray) (i : Nat) (w : World) (_hs : s.size ≤ maxLen) (_hi : i ≤ maxLen) :
    Calls Tryd.prog 72 #[.string s, .int .i64 i] w fun e w' => e = .returned (.bool (atB smC s.data.toList i)) ∧ w' = w := by
  unfold maxLen at _hs _hi
  by_cases hlt : i < s.size
  · have HV : Hid (atB smC s.data.toList i = (decide (97 ≤ s[i].toNat) && decide (s[i].toNat ≤ 122))) := Lib.hid (atB_some (Lib.data_getElem? s i hlt))
    by_cases h1 : 97 ≤ s[i].toNat
    · by_cases h2 : s[i].toNat ≤ 122
      · have HW : Hid (atB smC s.data.toList i = true) := Lib.hid (by rw [HV.out, decide_eq_true h1, decide_eq_true h2]; rfl)
        have b1 : (97 : Int) ≤ (s[i].toNat : Int) := by omega
        have b2 : decide ((s[i].toNat : Int) ≤ 122) = true := by simp; omega
        clear HV h1 h2
        go_enter Tryd.func72, Tryd.ntmps72
        go_wp2_with fail
        go_ret
        rw [HW.out]; exact ⟨rfl, rfl⟩
      · have HW : Hid (atB smC s.data.toList i = false) := Lib.hid (by rw [HV.out, decide_eq_true h1, decide_eq_false h2]; rfl)
        have b1 : (97 : Int) ≤ (s[i].toNat : Int) := by omega
        have b2 : decide ((s[i].toNat : Int) ≤ 122) = false := by simp; omega
        clear HV h1 h2
        go_enter Tryd.func72, Tryd.ntmps72
        go_wp2_with fail
        go_ret
        rw [HW.out]; exact ⟨rfl, rfl⟩
    · have HW : Hid (atB smC s.data.toList i = false) := Lib.hid (by rw [HV.out, decide_eq_false h1]; rfl)
      have b1 : ¬ (97 : Int) ≤ (s[i].toNat : Int) := by omega
      clear HV h1
      go_enter Tryd.func72, Tryd.ntmps72
      go_wp2_with fail
      go_ret
      rw [HW.out]; exact ⟨rfl, rfl⟩
  · have HW : Hid (atB smC s.data.toList i = false) := Lib.hid (atB_none (by show s.size ≤ i; omega))
    go_enter Tryd.func72, Tryd.ntmps72
    go_wp2_with fail
    go_ret
    rw [HW.out]; exact ⟨rfl, rfl⟩
set_option maxHeartbeats 1000000 in
/-- spec.l1Digit. -/
theorem digit_any (s : ByteArray) (i : Nat) (w : World) (_hs : s.size ≤ maxLen) (_hi : i ≤ maxLen) :
    Calls Tryd.prog 73 #[.string s, .int .i64 i] w fun e w' => e = .returned (.bool (atB dgC s.data.toList i)) ∧ w' = w := by
  unfold maxLen at _hs _hi
  by_cases hlt : i < s.size
  · have HV : Hid (atB dgC s.data.toList i = (decide (48 ≤ s[i].toNat) && decide (s[i].toNat ≤ 57))) := Lib.hid (atB_some (Lib.data_getElem? s i hlt))
    by_cases h1 : 48 ≤ s[i].toNat
    · by_cases h2 : s[i].toNat ≤ 57
      · have HW : Hid (atB dgC s.data.toList i = true) := Lib.hid (by rw [HV.out, decide_eq_true h1, decide_eq_true h2]; rfl)
        have b1 : (48 : Int) ≤ (s[i].toNat : Int) := by omega
        have b2 : decide ((s[i].toNat : Int) ≤ 57) = true := by simp; omega
        clear HV h1 h2
        go_enter Tryd.func73, Tryd.ntmps73
        go_wp2_with fail
        go_ret
        rw [HW.out]; exact ⟨rfl, rfl⟩
      · have HW : Hid (atB dgC s.data.toList i = false) := Lib.hid (by rw [HV.out, decide_eq_true h1, decide_eq_false h2]; rfl)
        have b1 : (48 : Int) ≤ (s[i].toNat : Int) := by omega
        have b2 : decide ((s[i].toNat : Int) ≤ 57) = false := by simp; omega
        clear HV h1 h2
        go_enter Tryd.func73, Tryd.ntmps73
        go_wp2_with fail
        go_ret
        rw [HW.out]; exact ⟨rfl, rfl⟩
    · have HW : Hid (atB dgC s.data.toList i = false) := Lib.hid (by rw [HV.out, decide_eq_false h1]; rfl)
      have b1 : ¬ (48 : Int) ≤ (s[i].toNat : Int) := by omega
      clear HV h1
      go_enter Tryd.func73, Tryd.ntmps73
      go_wp2_with fail
      go_ret
      rw [HW.out]; exact ⟨rfl, rfl⟩
  · have HW : Hid (atB dgC s.data.toList i = false) := Lib.hid (atB_none (by show s.size ≤ i; omega))
    go_enter Tryd.func73, Tryd.ntmps73
    go_wp2_with fail
    go_ret
    rw [HW.out]; exact ⟨rfl, rfl⟩
end Go.Proofs.YtkgapidhoeegmaaDoor

/- The model's texts of terms: spec.l1Letter, l18Dec, l1Dec, l1Text, l1List. Condition: the term lies in memory and is well-formed. -/
namespace Go.Proofs.YtkgapidhoeegmaaDoor
open Go.RowKit

theorem str_app (a b : List UInt8) : (.string (⟨a.toArray⟩ ++ ⟨b.toArray⟩) : Value) = .string ⟨(a ++ b).toArray⟩ := congrArg Value.string (ByteArray.mk_append_mk a b)
theorem str_own (s : ByteArray) : s = ⟨s.data.toList.toArray⟩ := by cases s; simp
theorem one_byteV (x : Int) (c : UInt8) (hc : (c.toNat : Int) = x) (w : World) : (convert 22 9 (.slice (some ⟨w.heap.size, 0, none⟩) 1 1)).run Tryd.prog (w.alloc (.cells #[.int .u8 x] 5)) =
    .ok (.string ⟨[c].toArray⟩) (w.alloc (.cells #[.int .u8 x] 5)) := by
  refine run_convert_bytes_back _ _ _ 5 ⟨w.heap.size, 0, none⟩ 1 [c] Tryd.underlying22 Tryd.underlying5 Tryd.underlying9 fun i hi => ?_
  obtain rfl : i = 0 := by simpa using hi
  have h := (Blk.new w 5 #[.int .u8 x]).cell 0
  show (w.alloc _).cell? ⟨w.heap.size, 0, none⟩ = some (.int .u8 (c.toNat : Int))
  rw [h, hc]
  rfl
set_option maxRecDepth 100000 in
/-- spec.l1Letter. -/
theorem letter_any2 (n : Int) (h : 0 ≤ n ∧ n ≤ 25) (w : World) : Calls Tryd.prog 61 #[.int .i64 n] w fun e w' => e = .returned (.string ⟨(letB n).toArray⟩) ∧ Below w.heap.size w w' := by
  have hc : ((UInt8.ofNat (65 + n.toNat)).toNat : Int) = 65 + n := by rw [UInt8.toNat_ofNat']; omega
  have kc := one_byteV (65 + n) (UInt8.ofNat (65 + n.toNat)) hc w
  have HB : Hid (Below w.heap.size w (w.alloc (.cells #[.int .u8 (65 + n)] 5))) := Lib.hid ((Below.refl _ _).alloc (Nat.le_refl _) _)
  have HV : Hid (letB n = [UInt8.ofNat (65 + n.toNat)]) := Lib.hid rfl
  clear hc
  generalize UInt8.ofNat (65 + n.toNat) = c at *
  obtain ⟨h0, h1⟩ := h
  go_enter Tryd.func61, Tryd.ntmps61
  go_wp2_with fail
  go_ret
  rw [HV.out]; exact ⟨rfl, HB.out⟩
set_option maxRecDepth 100000 in
set_option maxHeartbeats 1000000 in
/-- spec.l18Dec at a number that is not negative. -/
theorem dec18_any (n : Nat) (hn : n ≤ 999) (w : World) : Calls Tryd.prog 74 #[.int .i64 (n : Int)] w fun e w' => e = .returned (.string ⟨(Lib.decDigits n).toArray⟩) ∧ Below w.heap.size w w' := by
  have t0 : ¬ (n : Int) < -9223372036854775807 := by omega
  have t1 : ¬ (n : Int) < 0 := by omega
  go_enter Tryd.func74, Tryd.ntmps74
  go_wp2_with fail
  go_loopw [3, 0] (fun o i wr => ∃ (j : Nat) (out : List UInt8), j ≤ n ∧ out.length + j ≤ 4 + n ∧ i = .int .i64 j ∧ o = .string ⟨out.toArray⟩ ∧ Lib.decDigits j ++ out = Lib.decDigits n ∧ Below w.heap.size w wr) (fun _ i _ => (intOf i).toNat)
  case atStart => exact ⟨n, [], Nat.le_refl _, by simp, rfl, rfl, by simp, Below.refl _ _⟩
  case round =>
    obtain ⟨j, out, hj, hl, rfl, rfl, hd, hb⟩ := hrel
    have HD := Lib.hid hd
    have HB := Lib.hid hb
    clear hd hb
    by_cases h9 : j ≤ 9
    · have hc : ((UInt8.ofNat (48 + j)).toNat : Int) = 48 + (j : Int) := by rw [UInt8.toNat_ofNat']; omega
      have kc := one_byteV (48 + (j : Int)) (UInt8.ofNat (48 + j)) hc wr
      have HV : Hid (([UInt8.ofNat (48 + j)] ++ out) = Lib.decDigits n) := Lib.hid (by
        have h := HD.out
        rw [Lib.decDigits_one (by omega)] at h
        exact h)
      have t9 : ¬ (9 : Int) < j := by omega
      clear hc
      generalize UInt8.ofNat (48 + j) = d at *
      go_wp2_with fail
      go_ret
      rw [← HV.out, ← ByteArray.mk_append_mk]
      exact ⟨rfl, HB.out.alloc HB.out.size _⟩
    · have t9 : (9 : Int) < j := by omega
      have hc : ((UInt8.ofNat (48 + j % 10)).toNat : Int) = 48 + (j : Int) % 10 := by rw [UInt8.toNat_ofNat']; omega
      have kc := one_byteV (48 + (j : Int) % 10) (UInt8.ofNat (48 + j % 10)) hc wr
      have HE : Hid (Lib.decDigits (j / 10) ++ (UInt8.ofNat (48 + j % 10) :: out) = Lib.decDigits n) := Lib.hid (by
        rw [← HD.out, Lib.decDigits.eq_def j, dif_neg (by omega), List.append_assoc]
        rfl)
      clear hc
      generalize UInt8.ofNat (48 + j % 10) = d at *
      go_wp2_with fail
      go_roundw
      case rel => exact ⟨j / 10, d :: out, by omega, by simp only [List.length_cons]; omega, by go_num, str_app [d] out, HE.out, HB.out.alloc HB.out.size _⟩
      case measure => simp [intOf]; omega
set_option maxRecDepth 100000 in
/-- spec.l1Dec. -/
theorem dec_any (n : Int) (hn : -999 ≤ n ∧ n ≤ 999) (w : World) : Calls Tryd.prog 62 #[.int .i64 n] w fun e w' => e = .returned (.string ⟨(Lib.itoa n).toArray⟩) ∧ Below w.heap.size w w' := by
  by_cases h0 : n < 0
  · obtain ⟨m, rfl⟩ : ∃ m : Nat, n = -(m : Int) := ⟨n.natAbs, by omega⟩
    have C1 := dec18_any m (by omega) w
    have HV : Hid ((⟨#[45]⟩ : ByteArray) ++ ⟨(Lib.decDigits m).toArray⟩ = ⟨(Lib.itoa (-(m : Int))).toArray⟩) := Lib.hid (by
      rw [Lib.itoa_neg m (by omega)]
      exact ByteArray.mk_append_mk [45] _)
    have hlen : (Lib.decDigits m).length ≤ 20 := by rw [Lib.decDigits_length]; exact Lib.nDigits_le20 m (by omega)
    generalize Lib.decDigits m = l at *
    have H1 := Lib.hid C1
    clear C1
    go_enter Tryd.func62, Tryd.ntmps62
    go_wp2_with fail
    refine H1.out.mono ?_
    rintro e w2 ⟨rfl, hb⟩
    have HB := Lib.hid hb
    clear hb
    go_wp2_with fail
    go_ret
    rw [← HV.out]; exact ⟨rfl, HB.out⟩
  · obtain ⟨m, rfl⟩ : ∃ m : Nat, n = (m : Int) := ⟨n.toNat, by omega⟩
    have C1 := dec18_any m (by omega) w
    have HV : Hid (Lib.itoa (m : Int) = Lib.decDigits m) := Lib.hid (Lib.itoa_nonneg m)
    have H1 := Lib.hid C1
    clear C1
    go_enter Tryd.func62, Tryd.ntmps62
    go_wp2_with fail
    refine H1.out.mono ?_
    rintro e w2 ⟨rfl, hb⟩
    have HB := Lib.hid hb
    clear hb
    go_wp2_with fail
    go_ret
    rw [HV.out]; exact ⟨rfl, HB.out⟩
end Go.Proofs.YtkgapidhoeegmaaDoor

/- The model's texts of terms: spec.l1Text, l1List, FormatTerm. Condition: the term lies in memory. -/
namespace Go.Proofs.YtkgapidhoeegmaaDoor
open Go.RowKit

def strLen : Value → Nat | .string b => b.size | _ => 0
theorem strLen_mk (l : List UInt8) : strLen (.string ⟨l.toArray⟩) = l.length := by simp [strLen, ByteArray.size]
def TxC (s : ByteArray) (f : Fr) : Prop := ∀ (k n : Int) (A : Option Addr) (cap lo hi : Nat) (d : Int) (w : World), KidsAt w lo hi f A cap → hi ≤ w.heap.size → shapeT k n s f d = true → nodes f ≤ 1048576 →
  Calls Tryd.prog 45 #[.agg #[.int .i64 k, .int .i64 n, .string s, .slice A f.len cap]] w fun e w' => e = .returned (.string ⟨(txT k n s f).toArray⟩) ∧ Below w.heap.size w w'

set_option maxRecDepth 100000 in
set_option maxHeartbeats 4000000 in
/-- spec.l1List. -/
theorem list_of (s : ByteArray) (f : Fr) (h : ∀ s' f', f'.size < f.size → TxC s' f') (k n : Int) (A : Option Addr) (cap lo hi : Nat) (d : Int) (w : World) (hk : KidsAt w lo hi f A cap) (hh : hi ≤ w.heap.size) (hp : pairB k s f.len = true) (hs : shapeT k n s f d = true) (hnd : nodes f ≤ 1048576) :
    Calls Tryd.prog 63 #[.agg #[.int .i64 k, .int .i64 n, .string s, .slice A f.len cap]] w fun e w' => e = .returned (.string ⟨(txT k n s f).toArray⟩) ∧ Below w.heap.size w w' := by
  have hGl := (txT_shape hs).1
  obtain ⟨k1, n1, s1, kd1, k2, n2, s2, kd2, rfl, _, _⟩ := pair_yes n hp
  have hG : txT k n s (.cons k1 n1 s1 kd1 (.cons k2 n2 s2 kd2 .nil)) = 91 :: (txT k1 n1 s1 kd1 ++ (tlT k2 n2 s2 kd2 ++ [93])) := txT_pair n hp
  have hsk := shapeT_kids hs
  rw [shapeF_cons, shapeF_cons, Bool.and_eq_true, Bool.and_eq_true] at hsk
  have hsz1 : kd1.size < (Fr.cons k1 n1 s1 kd1 (.cons k2 n2 s2 kd2 .nil)).size := by simp only [Fr.size]; omega
  have hsz2 : kd2.size < (Fr.cons k1 n1 s1 kd1 (.cons k2 n2 s2 kd2 .nil)).size := by simp only [Fr.size]; omega
  have hGl2 : (txT k n s (.cons k1 n1 s1 kd1 (.cons k2 n2 s2 kd2 .nil))).length ≤ 67108864 := by omega
  generalize hGG : txT k n s (.cons k1 n1 s1 kd1 (.cons k2 n2 s2 kd2 .nil)) = G at *
  generalize (Fr.cons k1 n1 s1 kd1 (.cons k2 n2 s2 kd2 .nil)).size = SZ at *
  clear hGG hs hp hGl
  have hln : (Fr.cons k1 n1 s1 kd1 (.cons k2 n2 s2 kd2 .nil)).len = 2 := rfl
  rw [hln]
  obtain ⟨b, o, rfl, hlb, hbb, hrow⟩ := hk.2.2 (by rw [hln]; omega)
  have hcap := hk.2.1
  have hcap2 := hk.1
  rw [hln] at hcap2
  unfold maxLen at hcap
  obtain ⟨hfit1, A1, cp1, c0, c1, c2, c3, hkid1⟩ := hrow.elem (i := 0) rfl
  simp only [Nat.zero_mul, Nat.add_zero] at c0 c1 c2 c3
  have hb0 : Below w.heap.size w (w.alloc (.cells #[.int .i64 k, .int .i64 n, .string s, .slice (some ⟨b, o, none⟩) 2 cap] 28)) := (Below.refl _ _).alloc (Nat.le_refl _) _
  have hq0 := Blk.new w 28 #[.int .i64 k, .int .i64 n, .string s, .slice (some ⟨b, o, none⟩) 2 cap]
  have hlo : b < w.heap.size := Nat.lt_of_lt_of_le hbb hh
  have x3 := hq0.cell 3
  simp only [List.getElem?_toArray, List.getElem?_cons_zero, List.getElem?_cons_succ] at x3
  have k0 := (hb0.cell (p := ⟨b, o, none⟩) hlo).trans c0
  have k1' := (hb0.cell (p := ⟨b, o + 1, none⟩) hlo).trans c1
  have k2' := (hb0.cell (p := ⟨b, o + 2, none⟩) hlo).trans c2
  have k3 := (hb0.cell (p := ⟨b, o + 3, none⟩) hlo).trans c3
  have hnd1 : nodes kd1 ≤ 1048576 ∧ nodes kd2 ≤ 1048576 := by simp only [nodes] at hnd; omega
  have C1 := h s1 kd1 hsz1 k1 n1 A1 cp1 lo hi (d - 1) _ (hkid1.below hb0 hh) (Nat.le_trans hh hb0.size) hsk.1 hnd1.1
  have H := Lib.hid h
  have HG := Lib.hid hG
  have H1 := Lib.hid C1
  have HHI := Lib.hid hh
  have HB0 := Lib.hid hb0
  have HQ0 := Lib.hid hq0
  have HK := Lib.hid hk
  have HS2 := Lib.hid hsk.2.1
  have HZ2 := Lib.hid hsz2
  have HN2 := Lib.hid hnd1.2
  have hl1 : (txT k1 n1 s1 kd1).length ≤ 67108864 := by have := congrArg List.length hG; simp at this; omega
  clear h hG C1 hk hnd hb0 hq0 hrow hsk hsz1 hsz2 c0 c1 c2 c3 hkid1 hfit1 hnd1 hh
  go_enter Tryd.func63, Tryd.ntmps63
  go_wp2_with fail
  refine H1.out.mono ?_
  rintro e w2 ⟨rfl, hb⟩
  have HQ2 := Lib.hid (HQ0.out.below hb HQ0.out.lt)
  have HB2 := Lib.hid (HB0.out.trans (hb.mono HB0.out.size))
  clear hb x3 k0 k1' k2' k3
  generalize hT1 : txT k1 n1 s1 kd1 = T1 at *
  go_wp2_with fail
  go_loopw [3] (fun ov wr => ∃ (L : List UInt8) (k' n' : Int) (s' : ByteArray) (cap' : Nat) (b o : Nat) (k1 n1 : Int) (s1 : ByteArray) (kd1 : Fr) (k2 n2 : Int) (s2 : ByteArray) (kd2 : Fr) (d2 : Int), ov = .string ⟨L.toArray⟩ ∧ Blk wr w.heap.size 28 #[.int .i64 k', .int .i64 n', .string s', .slice (some ⟨b, o, none⟩) 2 cap'] ∧
      KidsAt w lo hi (.cons k1 n1 s1 kd1 (.cons k2 n2 s2 kd2 .nil)) (some ⟨b, o, none⟩) cap' ∧ kd2.size < SZ ∧ nodes kd2 ≤ 1048576 ∧ shapeT k2 n2 s2 kd2 d2 = true ∧ L ++ (tlT k2 n2 s2 kd2 ++ [93]) = G ∧ Below w.heap.size w wr) (fun ov _ => G.length - strLen ov)
  case atStart => exact ⟨91 :: T1, _, _, _, _, _, _, _, _, _, _, _, _, _, _, _, str_app [91] T1, HQ2.out, HK.out, HZ2.out, HN2.out, HS2.out, by rw [HG.out]; rfl, HB2.out⟩
  case round =>
    obtain ⟨L, k', n', s', cap', b, o, k1, n1, s1, kd1, k2, n2, s2, kd2, d2, rfl, hq, hk, hsz, hnd, hsh, hL, hb⟩ := hrel
    have hLl : L.length + (tlT k2 n2 s2 kd2).length ≤ 67108864 := by have := congrArg List.length hL; simp at this; omega
    obtain ⟨b', o', e, hlb, hbb, hrow⟩ := hk.2.2 (by simp [Fr.len])
    simp only [Option.some.injEq, Addr.mk.injEq, and_true] at e
    obtain ⟨rfl, rfl⟩ := e
    have hcap2 : 2 ≤ cap' := hk.1
    have hcap := hk.2.1
    unfold maxLen at hcap
    obtain ⟨hfit2, A2, cp2, c0, c1, c2, c3, hkid2⟩ := hrow.elem (i := 1) rfl
    simp only [Nat.one_mul] at c0 c1 c2 c3
    have hlo : b < w.heap.size := Nat.lt_of_lt_of_le hbb HHI.out
    have K : ∀ x, Below w.heap.size w x → x.cell? ⟨b, o + 4, none⟩ = some (.int .i64 k2) ∧ x.cell? ⟨b, o + 4 + 1, none⟩ = some (.int .i64 n2) ∧ x.cell? ⟨b, o + 4 + 2, none⟩ = some (.string s2) ∧ x.cell? ⟨b, o + 4 + 3, none⟩ = some (.slice A2 kd2.len cp2) := fun x hb =>
      ⟨(hb.cell (p := ⟨b, o + 4, none⟩) hlo).trans c0, (hb.cell (p := ⟨b, o + 4 + 1, none⟩) hlo).trans c1, (hb.cell (p := ⟨b, o + 4 + 2, none⟩) hlo).trans c2, (hb.cell (p := ⟨b, o + 4 + 3, none⟩) hlo).trans c3⟩
    obtain ⟨x0, x1, x2, x3⟩ : _ := (⟨hq.cell 0, hq.cell 1, hq.cell 2, hq.cell 3⟩ : _ ∧ _ ∧ _ ∧ _)
    simp only [List.getElem?_toArray, List.getElem?_cons_zero, List.getElem?_cons_succ] at x0 x1 x2 x3
    obtain ⟨y0, y1, y2, y3⟩ := K wr hb
    have HKK := Lib.hid K
    have HQ := Lib.hid hq
    have HB := Lib.hid hb
    have HL := Lib.hid hL
    have HKID := Lib.hid hkid2
    have HSH := Lib.hid hsh
    have HSZ := Lib.hid hsz
    have HND := Lib.hid hnd
    have C2 := pair_any k2 n2 s2 A2 kd2.len cp2 wr
    have hs0 := hq.lt
    clear hk hrow c0 c1 c2 c3 hfit2 K hq hb hL hkid2 hsh hsz hnd
    cases hpb : pairB k2 s2 kd2.len
    · rw [hpb] at C2
      have H2 := Lib.hid C2
      have HPB := Lib.hid hpb
      have C4 := fun w1 => nil_any k2 n2 s2 A2 kd2.len cp2 w1
      have HTL : Hid (tlT k2 n2 s2 kd2 = endB k2 n2 s2 kd2) := Lib.hid (tlT_not hpb)
      clear C2 hpb
      go_wp2_with fail
      refine H2.out.mono ?_
      rintro e w3 ⟨rfl, hb3⟩
      have hb3w := HB.out.trans (hb3.mono HB.out.size)
      have hq3 := HQ.out.below hb3 HQ.out.lt
      clear x0 x1 x2 x3 y0 y1 y2 y3
      have x3 := hq3.cell 3
      simp only [List.getElem?_toArray, List.getElem?_cons_zero, List.getElem?_cons_succ] at x3
      obtain ⟨y0, y1, y2, y3⟩ := HKK.out w3 hb3w
      have HQ3 := Lib.hid hq3
      have HB3 := Lib.hid hb3w
      clear hb3 hb3w hq3
      cases hnb : nilB k2 s2 kd2.len
      · rw [hnb] at C4
        have H4 := Lib.hid C4
        have HV : Hid (L ++ (124 :: (txT k2 n2 s2 kd2 ++ [93])) = G) := Lib.hid (by
          rw [← HL.out, HTL.out]
          unfold endB
          rw [hnb]
          rfl)
        have hl2 : L.length + (txT k2 n2 s2 kd2).length ≤ 67108864 := by have := congrArg List.length HV.out; simp at this; omega
        clear C4 hnb
        go_wp2_with fail
        refine (H4.out w3).mono ?_
        rintro e w4 ⟨rfl, hb4⟩
        have hb4w := HB3.out.trans (hb4.mono HB3.out.size)
        have hq4 := HQ3.out.below hb4 HQ3.out.lt
        have C5 := H.out s2 kd2 HSZ.out k2 n2 A2 cp2 lo hi d2 w4 (HKID.out.below hb4w HHI.out) (Nat.le_trans HHI.out hb4w.size) HSH.out HND.out
        clear x3 y0 y1 y2 y3
        have x3 := hq4.cell 3
        simp only [List.getElem?_toArray, List.getElem?_cons_zero, List.getElem?_cons_succ] at x3
        obtain ⟨y0, y1, y2, y3⟩ := HKK.out w4 hb4w
        have H5 := Lib.hid C5
        have HB4 := Lib.hid hb4w
        clear hb4 hb4w hq4 C5
        generalize txT k2 n2 s2 kd2 = T2 at *
        go_wp2_with fail
        refine H5.out.mono ?_
        rintro e w5 ⟨rfl, hb5⟩
        have HB5 := Lib.hid (HB4.out.trans (hb5.mono HB4.out.size))
        clear hb5
        go_wp2_with fail
        go_ret
        rw [← HV.out]
        refine ⟨?_, HB5.out⟩
        have e1 := ByteArray.mk_append_mk L [124]
        have e2 := ByteArray.mk_append_mk (L ++ [124]) T2
        have e3 := ByteArray.mk_append_mk (L ++ [124] ++ T2) [93]
        simp only [List.append_assoc] at e1 e2 e3
        rw [show (⟨#[124]⟩ : ByteArray) = ⟨[124].toArray⟩ from rfl, show (⟨#[93]⟩ : ByteArray) = ⟨[93].toArray⟩ from rfl, e1, e2, e3]; simp
      · rw [hnb] at C4
        have H4 := Lib.hid C4
        have HV : Hid (L ++ [93] = G) := Lib.hid (by
          rw [← HL.out, HTL.out]
          unfold endB
          rw [hnb]
          rfl)
        clear C4 hnb
        go_wp2_with fail
        refine (H4.out w3).mono ?_
        rintro e w4 ⟨rfl, hb4⟩
        have HB4 := Lib.hid (HB3.out.trans (hb4.mono HB3.out.size))
        clear hb4
        go_wp2_with fail
        go_ret
        rw [← HV.out, ← ByteArray.mk_append_mk]
        exact ⟨rfl, HB4.out⟩
    · rw [hpb] at C2
      have H2 := Lib.hid C2
      obtain ⟨hl2, rfl, _⟩ := pairB_len hpb
      obtain ⟨k3, n3, s3, kd3, k4, n4, s4, kd4, rfl, _, _⟩ := pair_yes n2 hpb
      have hln3 : (Fr.cons k3 n3 s3 kd3 (.cons k4 n4 s4 kd4 .nil)).len = 2 := rfl
      rw [hln3] at *
      have htl : tlT 3 n2 s2 (.cons k3 n3 s3 kd3 (.cons k4 n4 s4 kd4 .nil)) = 44 :: (txT k3 n3 s3 kd3 ++ tlT k4 n4 s4 kd4) := tlT_pair n2 hpb
      have hsh2 := shapeT_kids HSH.out
      rw [shapeF_cons, shapeF_cons, Bool.and_eq_true, Bool.and_eq_true] at hsh2
      have hszs : kd3.size < SZ ∧ kd4.size < SZ := by have := HSZ.out; simp only [Fr.size] at this; omega
      have hnds : nodes kd3 ≤ 1048576 ∧ nodes kd4 ≤ 1048576 := by have := HND.out; simp only [nodes] at this; omega
      obtain ⟨b3, o3, rfl, _, hbb3, hrow3⟩ := HKID.out.2.2 (by simp [Fr.len])
      have hcap3 : 2 ≤ cp2 := HKID.out.1
      have hcap4 := HKID.out.2.1
      unfold maxLen at hcap4
      obtain ⟨_, A3, cp3, c0, c1, c2, c3, hkid3⟩ := hrow3.elem (i := 0) rfl
      simp only [Nat.zero_mul, Nat.add_zero] at c0 c1 c2 c3
      have hlo3 : b3 < w.heap.size := Nat.lt_of_lt_of_le hbb3 HHI.out
      have HV : Hid ((L ++ 44 :: txT k3 n3 s3 kd3) ++ (tlT k4 n4 s4 kd4 ++ [93]) = G) := Lib.hid (by rw [← HL.out, htl]; simp)
      have hl3 : L.length + 1 + (txT k3 n3 s3 kd3).length ≤ G.length := by have := congrArg List.length HV.out; simp at this; omega
      have K3 : ∀ x, Below w.heap.size w x → x.cell? ⟨b3, o3, none⟩ = some (.int .i64 k3) ∧ x.cell? ⟨b3, o3 + 1, none⟩ = some (.int .i64 n3) ∧ x.cell? ⟨b3, o3 + 2, none⟩ = some (.string s3) ∧ x.cell? ⟨b3, o3 + 3, none⟩ = some (.slice A3 kd3.len cp3) := fun x hb =>
        ⟨(hb.cell (p := ⟨b3, o3, none⟩) hlo3).trans c0, (hb.cell (p := ⟨b3, o3 + 1, none⟩) hlo3).trans c1, (hb.cell (p := ⟨b3, o3 + 2, none⟩) hlo3).trans c2, (hb.cell (p := ⟨b3, o3 + 3, none⟩) hlo3).trans c3⟩
      have C5 := fun w4 (hb : Below w.heap.size w w4) => H.out s3 kd3 hszs.1 k3 n3 A3 cp3 lo hi _ w4 (hkid3.below hb HHI.out) (Nat.le_trans HHI.out hb.size) hsh2.1 hnds.1
      have HS4 := Lib.hid hsh2.2.1
      have HZ4 := Lib.hid hszs.2
      have HN4 := Lib.hid hnds.2
      have HK3 := Lib.hid K3
      have H5 := Lib.hid C5
      clear C2 hpb htl hsh2 hszs hnds hrow3 c0 c1 c2 c3 hkid3 K3 C5
      go_wp2_with fail
      refine H2.out.mono ?_
      rintro e w3 ⟨rfl, hb3⟩
      have hb3w := HB.out.trans (hb3.mono HB.out.size)
      have hq3 := HQ.out.below hb3 HQ.out.lt
      clear x0 x1 x2 x3 y0 y1 y2 y3
      obtain ⟨x0, x1, x2, x3⟩ : _ := (⟨hq3.cell 0, hq3.cell 1, hq3.cell 2, hq3.cell 3⟩ : _ ∧ _ ∧ _ ∧ _)
      simp only [List.getElem?_toArray, List.getElem?_cons_zero, List.getElem?_cons_succ] at x0 x1 x2 x3
      obtain ⟨y0, y1, y2, y3⟩ := HKK.out w3 hb3w
      obtain ⟨f0, f1, f2, f3⟩ := frozen4 hq3
      have hset : ∀ a0 a1 a2 a3, Below w.heap.size w ((((w3.setCell ⟨w.heap.size, 0, none⟩ a0).setCell ⟨w.heap.size, 1, none⟩ a1).setCell ⟨w.heap.size, 2, none⟩ a2).setCell ⟨w.heap.size, 3, none⟩ a3) ∧ Blk ((((w3.setCell ⟨w.heap.size, 0, none⟩ a0).setCell ⟨w.heap.size, 1, none⟩ a1).setCell ⟨w.heap.size, 2, none⟩ a2).setCell ⟨w.heap.size, 3, none⟩ a3) w.heap.size 28 #[a0, a1, a2, a3] := fun a0 a1 a2 a3 =>
        ⟨(((hb3w.setCell (Nat.le_refl _) _).setCell (Nat.le_refl _) _).setCell (Nat.le_refl _) _).setCell (Nat.le_refl _) _, set4 hq3 a0 a1 a2 a3⟩
      have hs4 := hset (.int .i64 3) (.int .i64 n2) (.string s2) (.slice (some ⟨b3, o3, none⟩) 2 cp2)
      obtain ⟨z0, z1, z2, z3⟩ := HK3.out _ hs4.1
      have z4 := hs4.2.cell 3
      simp only [List.getElem?_toArray, List.getElem?_cons_zero, List.getElem?_cons_succ] at z4
      have C6 := H5.out _ hs4.1
      have H6 := Lib.hid C6
      have HS := Lib.hid hs4
      clear hb3 hb3w hq3 hset hs4 C6
      go_wp2_with fail
      refine H6.out.mono ?_
      rintro e w5 ⟨rfl, hb5⟩
      have hb5w := HS.out.1.trans (hb5.mono HS.out.1.size)
      have hq5 := HS.out.2.below hb5 HS.out.2.lt
      have HB5 := Lib.hid hb5w
      have HQ5 := Lib.hid hq5
      clear hb5 hb5w hq5 x0 x1 x2 x3 y0 y1 y2 y3 z0 z1 z2 z3 z4 f0 f1 f2 f3
      have HSTR : Hid (∀ T : List UInt8, (.string ((⟨L.toArray⟩ ++ ⟨#[44]⟩) ++ ⟨T.toArray⟩) : Value) = .string ⟨(L ++ 44 :: T).toArray⟩) := Lib.hid fun T => by
        rw [show (⟨#[44]⟩ : ByteArray) = ⟨[44].toArray⟩ from rfl, ByteArray.mk_append_mk, ByteArray.mk_append_mk]
        simp
      generalize txT k3 n3 s3 kd3 = T3 at *
      go_wp2_with fail
      go_roundw
      case rel => exact ⟨L ++ 44 :: T3, _, _, _, _, _, _, _, _, _, _, _, _, _, _, _, HSTR.out T3, HQ5.out, HKID.out, HZ4.out, HN4.out, HS4.out, HV.out, HB5.out⟩
      case measure =>
        rw [HSTR.out T3, strLen_mk, strLen_mk]
        simp only [List.length_append, List.length_cons]
        omega

set_option maxRecDepth 100000 in
set_option maxHeartbeats 4000000 in
/-- spec.l1Text. -/
theorem txt_of (s : ByteArray) (f : Fr) (h : ∀ s' f', f'.size < f.size → TxC s' f') : TxC s f := by
  intro k n A cap lo hi d w hk hh hs hnd
  have hb0 : Below w.heap.size w (w.alloc (.cells #[.int .i64 k, .int .i64 n, .string s, .slice A f.len cap] 28)) := (Below.refl _ _).alloc (Nat.le_refl _) _
  have hq0 := Blk.new w 28 #[.int .i64 k, .int .i64 n, .string s, .slice A f.len cap]
  obtain ⟨x0, x1, x2, x3⟩ : _ := (⟨hq0.cell 0, hq0.cell 1, hq0.cell 2, hq0.cell 3⟩ : _ ∧ _ ∧ _ ∧ _)
  simp only [List.getElem?_toArray, List.getElem?_cons_zero, List.getElem?_cons_succ] at x0 x1 x2 x3
  have hGl := (txT_shape hs).1
  rcases shapeT_kind3 hs with ⟨rfl, hn⟩ | ⟨rfl, hn⟩ | rfl
  · have C1 := fun w1 => letter_any2 n hn w1
    have HV : Hid (txT 1 n s f = letB n) := Lib.hid (txT_var n s f)
    have H1 := Lib.hid C1
    have HB0 := Lib.hid hb0
    clear C1 hk hs hnd h hGl hq0 hb0
    generalize f.len = fl at *
    go_enter Tryd.func45, Tryd.ntmps45
    go_wp2_with fail
    refine (H1.out _).mono ?_
    rintro e w2 ⟨rfl, hb⟩
    have HB2 := Lib.hid (HB0.out.trans (hb.mono HB0.out.size))
    clear hb
    go_wp2_with fail
    go_ret
    rw [HV.out]; exact ⟨rfl, HB2.out⟩
  · have C1 := fun w1 => dec_any n hn w1
    have HV : Hid (txT 2 n s f = Lib.itoa n) := Lib.hid (txT_int n s f)
    have H1 := Lib.hid C1
    have HB0 := Lib.hid hb0
    clear C1 hk hs hnd h hGl hq0 hb0
    generalize f.len = fl at *
    go_enter Tryd.func45, Tryd.ntmps45
    go_wp2_with fail
    refine (H1.out _).mono ?_
    rintro e w2 ⟨rfl, hb⟩
    have HB2 := Lib.hid (HB0.out.trans (hb.mono HB0.out.size))
    clear hb
    go_wp2_with fail
    go_ret
    rw [HV.out]; exact ⟨rfl, HB2.out⟩
  · have C1 := fun w1 => pair_any 3 n s A f.len cap w1
    have HQ0 := Lib.hid hq0
    have HB0 := Lib.hid hb0
    cases hp : pairB 3 s f.len
    · rw [hp] at C1
      have HT : Hid (txT 3 n s f = s.data.toList ++ argsB (txs f)) := Lib.hid (txT_str hp)
      have HA := Lib.hid (argsB_more f)
      have hl : f.len ≤ 1048576 := by have := len_le_nodes f; omega
      have hs6 : s.data.toList.length ≤ 6 := nameB_size (shapeT_struct hs).2.1
      have hWl : s.data.toList.length + (moreB 0 f).length ≤ 67108864 := by
        rw [HT.out, HA.out] at hGl
        by_cases h0 : f.len = 0
        · have hf : f = .nil := by cases f with
            | nil => rfl
            | cons _ _ _ _ _ => simp [Fr.len] at h0
          rw [hf, moreB_nil]
          simp only [List.length_nil]
          omega
        · rw [if_neg h0] at hGl
          simp only [List.length_append] at hGl
          omega
      clear hs6
      have H := Lib.hid h
      have H1 := Lib.hid C1
      have HK := Lib.hid hk
      have HHI := Lib.hid hh
      have HSH := Lib.hid (shapeT_kids hs)
      have HND := Lib.hid hnd
      clear h C1 hk hs hnd hp hGl hb0 hq0 hh
      generalize hn : f.len = len at *
      have HN := Lib.hid hn
      clear hn
      go_enter Tryd.func45, Tryd.ntmps45
      go_wp2_with fail
      refine (H1.out _).mono ?_
      rintro e w2 ⟨rfl, hb⟩
      have HQ2 := Lib.hid (HQ0.out.below hb HQ0.out.lt)
      have HB2 := Lib.hid (HB0.out.trans (hb.mono HB0.out.size))
      clear hb x0 x1 x3
      have x2 := HQ2.out.cell 2
      simp only [List.getElem?_toArray, List.getElem?_cons_zero, List.getElem?_cons_succ] at x2
      go_wp2_with fail
      go_loopw [3, 4] (fun ov i wr => ∃ (j : Nat) (L : List UInt8), j ≤ len ∧ i = .int .i64 j ∧ ov = .string ⟨L.toArray⟩ ∧ L ++ moreB j (f.drop j) = s.data.toList ++ moreB 0 f ∧ Below w2.heap.size w2 wr) (fun _ i _ => len - (intOf i).toNat)
      case atStart => exact ⟨0, s.data.toList, Nat.zero_le _, rfl, congrArg Value.string (str_own s), rfl, Below.refl _ _⟩
      case round =>
        obtain ⟨j, L, hj, rfl, rfl, hL, hb⟩ := hrel
        have hbw := HB2.out.trans (hb.mono HB2.out.size)
        have hq := HQ2.out.below hb HQ2.out.lt
        have HLE := Lib.hid hL
        have HB := Lib.hid hb
        have HBW := Lib.hid hbw
        clear x2
        have x3 := hq.cell 3
        simp only [List.getElem?_toArray, List.getElem?_cons_zero, List.getElem?_cons_succ] at x3
        have hLl : L.length + (moreB j (f.drop j)).length ≤ 67108864 := by have := congrArg List.length hL; simp only [List.length_append] at this; omega
        clear hL
        by_cases hlt : j < len
        · obtain ⟨kk, nn, ss, kids, hd⟩ := Fr.drop_cons j f (by rw [HN.out]; exact hlt)
          obtain ⟨b, o, rfl, hlb, hbb, hrow⟩ := HK.out.2.2 (by rw [HN.out]; omega)
          obtain ⟨hfit, A', cp, c0, c1, c2, c3, hkid⟩ := hrow.elem hd
          have hlo : (⟨b, o, none⟩ : Addr).block < w.heap.size := Nat.lt_of_lt_of_le hbb HHI.out
          have k0 := (hbw.cell (p := ⟨b, o + j * 4, none⟩) hlo).trans c0
          have k1 := (hbw.cell (p := ⟨b, o + j * 4 + 1, none⟩) hlo).trans c1
          have k2 := (hbw.cell (p := ⟨b, o + j * 4 + 2, none⟩) hlo).trans c2
          have k3 := (hbw.cell (p := ⟨b, o + j * 4 + 3, none⟩) hlo).trans c3
          have hsz : kids.size < f.size := by
            have h1 := Fr.size_drop j f
            rw [hd] at h1
            simp only [Fr.size] at h1
            omega
          have C3 := H.out ss kids hsz kk nn A' cp lo hi _ wr (hkid.below hbw HHI.out) (Nat.le_trans HHI.out hbw.size) (shape_drop f j _ hd HSH.out) (Nat.le_trans (nodes_drop_elem j f hd) HND.out)
          have hL2 := HLE.out
          rw [hd, moreB_step] at hL2 hLl
          have HL2 := Lib.hid hL2
          have H3 := Lib.hid C3
          clear C3 c0 c1 c2 c3 hkid hrow hfit hd hlo hL2 hbw hsz hq hb
          generalize txT kk nn ss kids = T at *
          have hTl : L.length + 1 + T.length ≤ 67108864 := by simp only [List.length_cons, List.length_append] at hLl; omega
          by_cases hj0 : j = 0
          · subst hj0
            have t0 : (((0 : Nat) : Int) == 0) = true := rfl
            rw [if_pos rfl] at HL2
            have HSTR : Hid ((.string ((⟨L.toArray⟩ ++ ⟨#[40]⟩) ++ ⟨T.toArray⟩) : Value) = .string ⟨(L ++ 40 :: T).toArray⟩) := Lib.hid (by
              rw [show (⟨#[40]⟩ : ByteArray) = ⟨[40].toArray⟩ from rfl, ByteArray.mk_append_mk, ByteArray.mk_append_mk]
              simp)
            have HL3 : Hid ((L ++ 40 :: T) ++ moreB (0 + 1) (f.drop (0 + 1)) = s.data.toList ++ moreB 0 f) := Lib.hid (by rw [← HL2.out]; simp)
            simp only [Nat.zero_mul, Nat.add_zero] at k0 k1 k2 k3
            go_wp2_with fail
            refine H3.out.mono ?_
            rintro e w3 ⟨rfl, hb3⟩
            have HB3 := Lib.hid (HB.out.trans (hb3.mono HB.out.size))
            clear hb3
            go_wp2_with fail
            go_roundw
            case rel => exact ⟨0 + 1, L ++ 40 :: T, by omega, by go_num, HSTR.out, HL3.out, HB3.out⟩
            case measure => simp [intOf]; omega
          · have t0 : ((j : Int) == 0) = false := by rw [beq_eq_false_iff_ne]; omega
            rw [if_neg hj0] at HL2
            have HSTR : Hid ((.string ((⟨L.toArray⟩ ++ ⟨#[44]⟩) ++ ⟨T.toArray⟩) : Value) = .string ⟨(L ++ 44 :: T).toArray⟩) := Lib.hid (by
              rw [show (⟨#[44]⟩ : ByteArray) = ⟨[44].toArray⟩ from rfl, ByteArray.mk_append_mk, ByteArray.mk_append_mk]
              simp)
            have HL3 : Hid ((L ++ 44 :: T) ++ moreB (j + 1) (f.drop (j + 1)) = s.data.toList ++ moreB 0 f) := Lib.hid (by rw [← HL2.out]; simp)
            clear hj0
            go_wp2_with fail
            refine H3.out.mono ?_
            rintro e w3 ⟨rfl, hb3⟩
            have HB3 := Lib.hid (HB.out.trans (hb3.mono HB.out.size))
            clear hb3
            go_wp2_with fail
            go_roundw
            case rel => exact ⟨j + 1, L ++ 44 :: T, by omega, by go_num, HSTR.out, HL3.out, HB3.out⟩
            case measure => simp [intOf]; omega
        · obtain rfl : j = len := by omega
          have hLL : L = s.data.toList ++ moreB 0 f := by
            have h1 := Fr.drop_len f
            rw [HN.out] at h1
            rw [← HLE.out, h1, moreB_nil, List.append_nil]
          have hLs : L.length ≤ 67108864 := by omega
          by_cases h0 : 0 < j
          · have HV : Hid ((L ++ [41]) = txT 3 n s f) := Lib.hid (by rw [HT.out, HA.out, if_neg (by omega), hLL]; simp)
            clear hb hbw hq hLL hLl
            go_wp2_with fail
            go_ret
            rw [← HV.out, ← ByteArray.mk_append_mk]
            exact ⟨rfl, HBW.out⟩
          · have HV : Hid (L = txT 3 n s f) := Lib.hid (by
              have hz : f.len = 0 := by rw [HN.out]; omega
              have : f = .nil := by cases f with
                | nil => rfl
                | cons _ _ _ _ _ => simp [Fr.len] at hz
              rw [HT.out, HA.out, if_pos (by omega), hLL, this, moreB_nil])
            clear hb hbw hq hLL hLl
            go_wp2_with fail
            go_ret
            rw [← HV.out]
            exact ⟨rfl, HBW.out⟩
    · rw [hp] at C1
      have C2 := fun w1 (hb : Below w.heap.size w w1) => list_of s f h 3 n A cap lo hi d w1 (hk.below hb hh) (Nat.le_trans hh hb.size) hp hs hnd
      have H1 := Lib.hid C1
      have H2 := Lib.hid C2
      clear h C1 C2 hk hs hnd hp hGl hb0 hq0 hh
      generalize f.len = len at *
      go_enter Tryd.func45, Tryd.ntmps45
      go_wp2_with fail
      refine (H1.out _).mono ?_
      rintro e w2 ⟨rfl, hb⟩
      have hq := HQ0.out.below hb HQ0.out.lt
      have HB2 := Lib.hid (HB0.out.trans (hb.mono HB0.out.size))
      clear x0 x1 x2 x3 hb
      obtain ⟨x0, x1, x2, x3⟩ : _ := (⟨hq.cell 0, hq.cell 1, hq.cell 2, hq.cell 3⟩ : _ ∧ _ ∧ _ ∧ _)
      simp only [List.getElem?_toArray, List.getElem?_cons_zero, List.getElem?_cons_succ] at x0 x1 x2 x3
      clear hq
      go_wp2_with fail
      refine (H2.out w2 HB2.out).mono ?_
      rintro e w3 ⟨rfl, hb⟩
      have HB3 := Lib.hid (HB2.out.trans (hb.mono HB2.out.size))
      clear hb
      go_wp2_with fail
      go_ret
      exact ⟨rfl, HB3.out⟩
theorem tx_all (N : Nat) : ∀ (s : ByteArray) (f : Fr), f.size ≤ N → TxC s f := by
  induction N with
  | zero => exact fun s f hf => txt_of s f fun s' f' h => by omega
  | succ N ih => exact fun s f hf => txt_of s f fun s' f' h => ih s' f' (by omega)

/-- What both FormatTerm answer. -/
def fmB (k n : Int) (s : ByteArray) (f : Fr) : List UInt8 := if validT k n s f = true then txT k n s f else []
end Go.Proofs.YtkgapidhoeegmaaDoor

/- The text of a term with operators, as plain data. No condition. -/
import Derived.Test.YtmgfndgmebignaaDoorProg
import Derived.Test.YtmgfndgmebignaaDoorTxQ
import Derived.Test.YtmgfndgmebignaaDoorOpA
import Derived.Test.YtmgfndgmebignaaDoorOpL
import Derived.Test.YtmgfndgmebignaaDoorTxI
import Derived.Test.YtmgfndgmebignaaDoorTxK
namespace Go.Proofs.YtmgfndgmebignaaDoor.wr
open Go.RowKit

/-- A text, what it adds as the rest of a list, and its level as an operand. -/
abbrev W3 := List UInt8 × List UInt8 × Int
def infB (k : Int) (s : ByteArray) (len : Nat) : Bool := k == 3 && (len == 2 && decide (0 < op.level s.data.toList))
def soleB (k : Int) (s : ByteArray) (len : Nat) : Bool := k == 3 && (len == 0 && decide (0 < op.level s.data.toList))
def olv (k : Int) (s : ByteArray) (len : Nat) : Int := if infB k s len = true then op.level s.data.toList else if soleB k s len = true then 4 else 0
/-- A byte with which a right operand can begin. -/
def plC (c : UInt8) : Bool := (decide (97 ≤ c.toNat) && decide (c.toNat ≤ 122)) || (decide (48 ≤ c.toNat) && decide (c.toNat ≤ 57)) || (decide (65 ≤ c.toNat) && decide (c.toNat ≤ 90)) || c == 91 || c == 40
def plB : List UInt8 → Bool
  | [] => false
  | c :: _ => plC c
def spB (l : List UInt8) : List UInt8 := if l = [105, 115] ∨ l = [109, 111, 100] then 32 :: (l ++ [32]) else l
def braB (t : List UInt8) : List UInt8 := 40 :: (t ++ [41])
/-- A left operand, and a right one, where a level is the highest one. -/
def leftB (r : W3) (l : Int) : List UInt8 := if l < r.2.2 then braB r.1 else r.1
def rightB (r : W3) (l : Int) : List UInt8 := if l < r.2.2 ∨ plB r.1 = false then braB r.1 else r.1
def lfl (n : Int) : Int := if n = 3 then 2 else n
def none3 : W3 := ([], [], 0)
def bodyB (k n : Int) (s : ByteArray) (len : Nat) (r : List W3) : List UInt8 :=
  if k = 1 then letB n else if k = 2 then Lib.itoa n else
    if pairB k s len = true then 91 :: ((r.getD 0 none3).1 ++ ((r.getD 1 none3).2.1 ++ [93])) else
    if infB k s len = true then leftB (r.getD 0 none3) (lfl (op.level s.data.toList)) ++ (spB s.data.toList ++ rightB (r.getD 1 none3) (op.level s.data.toList - 1)) else
    s.data.toList ++ argsB (r.map Prod.fst)
def elt (k n : Int) (s : ByteArray) (len : Nat) (r : List W3) : W3 :=
  (bodyB k n s len r, (if pairB k s len = true then 44 :: ((r.getD 0 none3).1 ++ (r.getD 1 none3).2.1) else if nilB k s len = true then [] else 124 :: bodyB k n s len r), olv k s len)
def txL : Fr → List W3
  | .nil => []
  | .cons k n s kids rest => elt k n s kids.len (txL kids) :: txL rest
def txT (k n : Int) (s : ByteArray) (f : Fr) : List UInt8 := (elt k n s f.len (txL f)).1
def tlT (k n : Int) (s : ByteArray) (f : Fr) : List UInt8 := (elt k n s f.len (txL f)).2.1
/-- The texts of a row. -/
def txs (f : Fr) : List (List UInt8) := (txL f).map Prod.fst
theorem txs_cons (k n : Int) (s : ByteArray) (kids rest : Fr) : txs (.cons k n s kids rest) = txT k n s kids :: txs rest := rfl
theorem txT_var (n : Int) (s : ByteArray) (f : Fr) : txT 1 n s f = letB n := by unfold txT elt bodyB; rw [if_pos rfl]
theorem txT_int (n : Int) (s : ByteArray) (f : Fr) : txT 2 n s f = Lib.itoa n := by unfold txT elt bodyB; rw [if_neg (by decide), if_pos rfl]
theorem txT_pair {k : Int} (n : Int) {s : ByteArray} {k1 n1 k2 n2 : Int} {s1 s2 : ByteArray} {kd1 kd2 : Fr} (h : pairB k s 2 = true) :
    txT k n s (.cons k1 n1 s1 kd1 (.cons k2 n2 s2 kd2 .nil)) = 91 :: (txT k1 n1 s1 kd1 ++ (tlT k2 n2 s2 kd2 ++ [93])) := by
  obtain ⟨_, rfl, _⟩ := pairB_len h
  show bodyB 3 n s 2 _ = _
  unfold bodyB
  rw [if_neg (by decide), if_neg (by decide), if_pos h]
  rfl
theorem tlT_pair {k : Int} (n : Int) {s : ByteArray} {k1 n1 k2 n2 : Int} {s1 s2 : ByteArray} {kd1 kd2 : Fr} (h : pairB k s 2 = true) :
    tlT k n s (.cons k1 n1 s1 kd1 (.cons k2 n2 s2 kd2 .nil)) = 44 :: (txT k1 n1 s1 kd1 ++ tlT k2 n2 s2 kd2) := by
  show (if pairB k s 2 = true then _ else _) = _
  rw [if_pos h]
  rfl
/-- A left operand's text, and a right one's. -/
def lefT (k n : Int) (s : ByteArray) (f : Fr) (l : Int) : List UInt8 := if l < olv k s f.len then braB (txT k n s f) else txT k n s f
def rigT (k n : Int) (s : ByteArray) (f : Fr) (l : Int) : List UInt8 := if l < olv k s f.len ∨ plB (txT k n s f) = false then braB (txT k n s f) else txT k n s f
theorem txT_inf {n : Int} {s : ByteArray} {k1 n1 k2 n2 : Int} {s1 s2 : ByteArray} {kd1 kd2 : Fr} (hp : pairB 3 s 2 = false) (h : infB 3 s 2 = true) :
    txT 3 n s (.cons k1 n1 s1 kd1 (.cons k2 n2 s2 kd2 .nil)) = lefT k1 n1 s1 kd1 (lfl (op.level s.data.toList)) ++ (spB s.data.toList ++ rigT k2 n2 s2 kd2 (op.level s.data.toList - 1)) := by
  show bodyB 3 n s 2 _ = _
  unfold bodyB
  rw [if_neg (by decide), if_neg (by decide), hp, if_neg (by decide), if_pos h]
  rfl
theorem txT_str {n : Int} {s : ByteArray} {f : Fr} (h : pairB 3 s f.len = false) (hi : infB 3 s f.len = false) : txT 3 n s f = s.data.toList ++ argsB (txs f) := by
  show bodyB 3 n s f.len _ = _
  unfold bodyB
  rw [if_neg (by decide), if_neg (by decide), h, hi]
  rfl
theorem tlT_nil {k n : Int} {s : ByteArray} {f : Fr} (h : nilB k s f.len = true) : tlT k n s f = [] := by
  have hp : pairB k s f.len = false := by
    unfold nilB at h
    unfold pairB
    simp only [Bool.and_eq_true, beq_iff_eq] at h
    rw [h.2.2]; simp
  show (if pairB k s f.len = true then _ else _) = _
  rw [hp, h]
  rfl
theorem tlT_end {k n : Int} {s : ByteArray} {f : Fr} (hp : pairB k s f.len = false) (h : nilB k s f.len = false) : tlT k n s f = 124 :: txT k n s f := by
  show (if pairB k s f.len = true then _ else _) = _
  rw [hp, h]
  rfl
/-- What stands behind the last element of a list. -/
def endB (k n : Int) (s : ByteArray) (f : Fr) : List UInt8 := if nilB k s f.len = true then [] else 124 :: txT k n s f
theorem tlT_not {k n : Int} {s : ByteArray} {f : Fr} (hp : pairB k s f.len = false) : tlT k n s f = endB k n s f := by
  unfold endB
  cases h : nilB k s f.len
  · rw [tlT_end hp h]; rfl
  · rw [tlT_nil h]; rfl
/-- The rest of a list: its elements, then its end. -/
theorem tlT_split (N : Nat) : ∀ (k n : Int) (s : ByteArray) (f : Fr), f.size ≤ N → ∀ k' n' s' f', tails k n s f = .cons k' n' s' f' .nil → tlT k n s f = (txs (fronts k s f)).flatMap (fun x => 44 :: x) ++ endB k' n' s' f' := by
  induction N with
  | zero =>
    intro k n s f hf k' n' s' f' ht
    have hp : pairB k s f.len = false := by
      cases f with
      | nil => unfold pairB; simp [Fr.len]
      | cons _ _ _ _ _ => simp [Fr.size] at hf
    rw [(pair_no n hp).2] at ht
    rw [(pair_no n hp).1, tlT_not hp]
    simp only [Fr.cons.injEq, and_true] at ht
    obtain ⟨rfl, rfl, rfl, rfl⟩ := ht
    rfl
  | succ N ih =>
    intro k n s f hf k' n' s' f' ht
    cases hp : pairB k s f.len
    · rw [(pair_no n hp).2] at ht
      rw [(pair_no n hp).1, tlT_not hp]
      simp only [Fr.cons.injEq, and_true] at ht
      obtain ⟨rfl, rfl, rfl, rfl⟩ := ht
      rfl
    · obtain ⟨k1, n1, s1, kd1, k2, n2, s2, kd2, rfl, hfr, htl⟩ := pair_yes n hp
      have h2 := ih k2 n2 s2 kd2 (by simp only [Fr.size] at hf; omega) k' n' s' f' (by rw [← htl]; exact ht)
      rw [tlT_pair n hp, hfr, txs_cons, h2]
      simp
theorem txT_list {k n : Int} {s : ByteArray} {f : Fr} (hp : pairB k s f.len = true) {k' n' : Int} {s' : ByteArray} {f' : Fr} (ht : tails k n s f = .cons k' n' s' f' .nil) :
    ∃ k1 n1 s1 kd1 r, fronts k s f = .cons k1 n1 s1 kd1 r ∧ txT k n s f = 91 :: (txT k1 n1 s1 kd1 ++ ((txs r).flatMap (fun x => 44 :: x) ++ (endB k' n' s' f' ++ [93]))) := by
  obtain ⟨k1, n1, s1, kd1, k2, n2, s2, kd2, rfl, hfr, htl⟩ := pair_yes n hp
  refine ⟨k1, n1, s1, kd1, _, hfr, ?_⟩
  rw [txT_pair n hp, tlT_split kd2.size k2 n2 s2 kd2 (Nat.le_refl _) k' n' s' f' (by rw [← htl]; exact ht), List.append_assoc]


/-- Texts are not long. -/
theorem txs_len (f : Fr) : (txs f).length = f.len := by
  induction f with
  | nil => rfl
  | cons _ _ _ _ _ _ ih => rw [txs_cons, List.length_cons, ih]; rfl
theorem lefT_len (k n : Int) (s : ByteArray) (f : Fr) (l : Int) : (lefT k n s f l).length ≤ (txT k n s f).length + 2 := by
  unfold lefT braB
  split
  · simp only [List.length_cons, List.length_append, List.length_nil]; omega
  · omega
theorem rigT_len (k n : Int) (s : ByteArray) (f : Fr) (l : Int) : (rigT k n s f l).length ≤ (txT k n s f).length + 2 := by
  unfold rigT braB
  split
  · simp only [List.length_cons, List.length_append, List.length_nil]; omega
  · omega
theorem spB_len (l : List UInt8) : (spB l).length ≤ l.length + 2 := by
  unfold spB
  split
  · simp only [List.length_cons, List.length_append, List.length_nil]; omega
  · omega
/-- Text or rest, whichever is longer. -/
def mxL : List W3 → Nat
  | [] => 0
  | t :: ts => max (t.1.length + 3) t.2.1.length + mxL ts
theorem mxL_args : ∀ f : Fr, f.len + ((txs f).map List.length).sum ≤ mxL (txL f)
  | .nil => Nat.le_refl _
  | .cons k n s kids rest => by
    have := mxL_args rest
    show rest.len + 1 + ((txT k n s kids).length + ((txs rest).map List.length).sum) ≤ max ((txT k n s kids).length + 3) _ + mxL (txL rest)
    omega
theorem tx_len (f : Fr) : smF f → mxL (txL f) ≤ 32 * nodes f := by
  induction f with
  | nil => exact fun _ => Nat.le_refl _
  | cons k n s kids rest ihk ihr =>
    rintro ⟨⟨h1, h2⟩, h3, h4⟩
    have a := ihk h3
    have b := ihr h4
    have hb : max ((txT k n s kids).length + 3) (tlT k n s kids).length ≤ 32 * (nodes kids + 1) := by
      cases hp : pairB k s kids.len
      · have hlen : (txT k n s kids).length + 3 ≤ 32 * (nodes kids + 1) := by
          have h6 : s.data.toList.length = s.size := rfl
          cases hi : infB k s kids.len
          · show (bodyB k n s kids.len (txL kids)).length + 3 ≤ _
            unfold bodyB
            split
            · simp only [letB, List.length_cons, List.length_nil]; omega
            · split
              · have := itoa_small n (h2 (by assumption)); omega
              · rw [hp, hi]
                have h5 := args_len (txs kids)
                have h7 := mxL_args kids
                rw [txs_len] at h5
                show (s.data.toList ++ argsB (txs kids)).length + 3 ≤ _
                rw [List.length_append]
                omega
          · have hi' := hi
            unfold infB at hi'
            simp only [Bool.and_eq_true, beq_iff_eq] at hi'
            obtain ⟨rfl, hl, _⟩ := hi'
            obtain ⟨k1, n1, s1, kd1, k2, n2, s2, kd2, rfl⟩ : ∃ k1 n1 s1 kd1 k2 n2 s2 kd2, kids = .cons k1 n1 s1 kd1 (.cons k2 n2 s2 kd2 .nil) := by
              match kids, hl with
              | .cons k1 n1 s1 kd1 (.cons k2 n2 s2 kd2 .nil), _ => exact ⟨k1, n1, s1, kd1, k2, n2, s2, kd2, rfl⟩
              | .nil, h => cases h
              | .cons _ _ _ _ .nil, h => cases h
              | .cons _ _ _ _ (.cons _ _ _ _ (.cons _ _ _ _ _)), h => simp [Fr.len] at h
            have e1 : max ((txT k1 n1 s1 kd1).length + 3) (tlT k1 n1 s1 kd1).length + (max ((txT k2 n2 s2 kd2).length + 3) (tlT k2 n2 s2 kd2).length + 0) ≤ 32 * nodes (.cons k1 n1 s1 kd1 (.cons k2 n2 s2 kd2 .nil)) := a
            rw [txT_inf hp hi]
            have e2 := lefT_len k1 n1 s1 kd1 (lfl (op.level s.data.toList))
            have e3 := rigT_len k2 n2 s2 kd2 (op.level s.data.toList - 1)
            have e4 := spB_len s.data.toList
            simp only [List.length_append]
            omega
        rw [tlT_not hp]
        unfold endB
        split
        · simp only [List.length_nil]; omega
        · rw [List.length_cons]; omega
      · obtain ⟨k1, n1, s1, kd1, k2, n2, s2, kd2, rfl, hfr, htl⟩ := pair_yes n hp
        have e1 : max ((txT k1 n1 s1 kd1).length + 3) (tlT k1 n1 s1 kd1).length + (max ((txT k2 n2 s2 kd2).length + 3) (tlT k2 n2 s2 kd2).length + 0) ≤ 32 * nodes (.cons k1 n1 s1 kd1 (.cons k2 n2 s2 kd2 .nil)) := a
        rw [txT_pair n hp, tlT_pair n hp]
        simp only [List.length_cons, List.length_append, List.length_nil]
        omega
    have e : mxL (txL (.cons k n s kids rest)) = max ((txT k n s kids).length + 3) (tlT k n s kids).length + mxL (txL rest) := rfl
    rw [e]
    simp only [nodes]
    omega
theorem txT_len {k n : Int} {s : ByteArray} {f : Fr} (h1 : s.size ≤ 6) (h2 : k = 2 → -999 ≤ n ∧ n ≤ 999) (h3 : smF f) : (txT k n s f).length + 3 ≤ 32 * (nodes f + 1) ∧ (tlT k n s f).length ≤ 32 * (nodes f + 1) := by
  have h := tx_len (.cons k n s f .nil) ⟨⟨h1, h2⟩, h3, trivial⟩
  have e : mxL (txL (.cons k n s f .nil)) = max ((txT k n s f).length + 3) (tlT k n s f).length + 0 := rfl
  rw [e] at h
  simp only [nodes] at h
  omega
theorem txT_shape {k n : Int} {s : ByteArray} {f : Fr} {d : Int} (h : shapeT k n s f d = true) : (txT k n s f).length + 3 ≤ 32 * (nodes f + 1) ∧ (tlT k n s f).length ≤ 32 * (nodes f + 1) := by
  have h1 := smF_shape (.cons k n s f .nil) d (by rw [shapeF_cons, h]; rfl)
  exact txT_len h1.1.1 h1.1.2 h1.2.1
/-- The texts of a row that is written from element j on. -/
def moreB (j : Nat) (f : Fr) : List UInt8 := if j = 0 then (match txs f with | [] => [] | t :: ts => 40 :: (t ++ ts.flatMap (fun x => 44 :: x))) else (txs f).flatMap (fun x => 44 :: x)
theorem argsB_more (f : Fr) : argsB (txs f) = if f.len = 0 then [] else moreB 0 f ++ [41] := by
  cases f with
  | nil => rfl
  | cons k n s kids rest =>
    rw [if_neg (by simp [Fr.len]), txs_cons]
    unfold moreB
    simp [argsB, txs_cons]
theorem inf_kids {k : Int} {s : ByteArray} {kids : Fr} (hi : infB k s kids.len = true) : k = 3 ∧ 0 < op.level s.data.toList ∧ ∃ k1 n1 s1 kd1 k2 n2 s2 kd2, kids = .cons k1 n1 s1 kd1 (.cons k2 n2 s2 kd2 .nil) := by
  unfold infB at hi
  simp only [Bool.and_eq_true, beq_iff_eq, decide_eq_true_eq] at hi
  obtain ⟨rfl, hl, hv⟩ := hi
  refine ⟨rfl, hv, ?_⟩
  match kids, hl with
  | .cons k1 n1 s1 kd1 (.cons k2 n2 s2 kd2 .nil), _ => exact ⟨k1, n1, s1, kd1, k2, n2, s2, kd2, rfl⟩
  | .nil, h => cases h
  | .cons _ _ _ _ .nil, h => cases h
  | .cons _ _ _ _ (.cons _ _ _ _ (.cons _ _ _ _ _)), h => simp [Fr.len] at h
/-- What is still to be written of a row without brackets, from element j on. -/
def remB (j : Nat) (f : Fr) : List UInt8 := if j = 0 then (match txs f with | [] => [] | t :: ts => t ++ ts.flatMap (fun x => 44 :: x)) else (txs f).flatMap (fun x => 44 :: x)
theorem remB_zero (k n : Int) (s : ByteArray) (kids rest : Fr) : remB 0 (.cons k n s kids rest) = txT k n s kids ++ remB 1 rest := by
  unfold remB
  rw [if_pos rfl, if_neg (by decide), txs_cons]
theorem remB_step (j : Nat) (hj : j ≠ 0) (k n : Int) (s : ByteArray) (kids rest : Fr) : remB j (.cons k n s kids rest) = 44 :: (txT k n s kids ++ remB (j + 1) rest) := by
  unfold remB
  rw [if_neg hj, if_neg (by omega), txs_cons, List.flatMap_cons]
  rfl
theorem remB_nil (j : Nat) : remB j .nil = [] := by unfold remB; split <;> rfl
theorem moreB_rem (f : Fr) (h : f.len ≠ 0) : moreB 0 f = 40 :: remB 0 f := by
  cases f with
  | nil => exact absurd rfl h
  | cons k n s kids rest => rfl
theorem argsB_rem (f : Fr) : argsB (txs f) = if f.len = 0 then [] else 40 :: (remB 0 f ++ [41]) := by
  rw [argsB_more]
  by_cases h : f.len = 0
  · rw [if_pos h, if_pos h]
  · rw [if_neg h, if_neg h, moreB_rem f h]; rfl
theorem txT_rem {k n : Int} {s : ByteArray} {f : Fr} (hp : pairB k s f.len = true) {k' n' : Int} {s' : ByteArray} {f' : Fr} (ht : tails k n s f = .cons k' n' s' f' .nil) : txT k n s f = 91 :: (remB 0 (fronts k s f) ++ (endB k' n' s' f' ++ [93])) := by
  obtain ⟨k1, n1, s1, kd1, r, hf, hx⟩ := txT_list hp ht
  rw [hx, hf, remB_zero]
  unfold remB
  rw [if_neg (by decide)]
  simp
end Go.Proofs.YtmgfndgmebignaaDoor.wr

/- The table of operators as a map whose entries read as text and level. Condition: the table of operators lies in its variable. -/
namespace Go.Proofs.YtmgfndgmebignaaDoor.op
open Go.RowKit Go.WideMaps Go.Maps

/-- An operator reads as its name, its text and its level. -/
def opR2 : Value → Option (DataW Unit × List MemPlace)
  | .agg ⟨[.string a, .string b, .int .i64 l]⟩ => some (.agg [.lit (.string a.data.toList), .lit (.string b.data.toList), .lit (.int .i64 l)], [])
  | _ => none
theorem opR2_inv {v : Value} {s t : List UInt8} {l : Int} {ps : List MemPlace} (h : opR2 v = some (.agg [.lit (.string s), .lit (.string t), .lit (.int .i64 l)], ps)) : v = .agg #[.string ⟨s.toArray⟩, .string ⟨t.toArray⟩, .int .i64 l] := by
  unfold opR2 at h
  split at h
  · rename_i a b l'
    simp only [Option.some.injEq, Prod.mk.injEq, DataW.agg.injEq, List.cons.injEq, DataW.lit.injEq, Lit.string.injEq, Lit.int.injEq, true_and, and_true] at h
    obtain ⟨⟨h1, h2, rfl⟩, _⟩ := h
    rw [str_of h1, str_of h2]
  · cases h
def opE (r : List UInt8 × List UInt8 × Int) : DataW Unit := .agg [.lit (.string r.1), .lit (.string r.2.1), .lit (.int .i64 r.2.2)]
def opZ : DataW Unit := .agg [.lit (.string []), .lit (.string []), .lit (.int .i64 0)]
def opD2 (k : Nat) : DataW Unit := (tab.take k).foldl (fun D r => D.put (.string r.1) (opE r)) (.map [])
theorem opD2_succ (k : Nat) (h : k < 14) : opD2 (k + 1) = (opD2 k).put (.string (nm k).data.toList) (.agg [.lit (.string (nm k).data.toList), .lit (.string (tx k).data.toList), .lit (.int .i64 (lv k))]) := by
  have hl : k < tab.length := h
  have e : tab.take (k + 1) = tab.take k ++ [tab.getD k ([], [], 0)] := by
    rw [List.take_add_one, List.getElem?_eq_getElem hl]
    simp [List.getD, List.getElem?_eq_getElem hl]
  unfold opD2
  rw [e, List.foldl_append]
  rfl
theorem fold2_no (l : List UInt8) (z : DataW Unit) : ∀ (rs : List (List UInt8 × List UInt8 × Int)) (D : DataW Unit), (∀ r ∈ rs, r.1 ≠ l) →
    (rs.foldl (fun D r => D.put (.string r.1) (opE r)) D).atKey (.string l) z = D.atKey (.string l) z ∧
    has (rs.foldl (fun D r => D.put (.string r.1) (opE r)) D) (.string l) = has D (.string l)
  | [], D, _ => ⟨rfl, rfl⟩
  | r :: rs, D, h => by
    have h1 : r.1 ≠ l := h r (by simp)
    have hne : (Lit.string l) ≠ Lit.string r.1 := fun e => h1 (by injection e with e; exact e.symm)
    obtain ⟨h2, h3⟩ := fold2_no l z rs (D.put (.string r.1) (opE r)) fun x hx => h x (by simp [hx])
    exact ⟨h2.trans (atKey_put_other hne _ _), h3.trans (has_put_other hne _)⟩
theorem at2_yes : ∀ r ∈ tab, (opD2 14).atKey (.string r.1) opZ = opE r ∧ has (opD2 14) (.string r.1) = true := by
  intro r hr
  simp only [tab, List.mem_cons, List.not_mem_nil, or_false] at hr
  rcases hr with rfl | rfl | rfl | rfl | rfl | rfl | rfl | rfl | rfl | rfl | rfl | rfl | rfl | rfl <;> exact ⟨by kernel_rfl, by kernel_rfl⟩
/-- What the full table answers. -/
theorem at2_all (l : List UInt8) : (0 < level l ∧ (opD2 14).atKey (.string l) opZ = .agg [.lit (.string l), .lit (.string (wr.spB l)), .lit (.int .i64 (level l))] ∧ has (opD2 14) (.string l) = true) ∨
    (level l = 0 ∧ (opD2 14).atKey (.string l) opZ = .agg [.lit (.string []), .lit (.string []), .lit (.int .i64 0)] ∧ has (opD2 14) (.string l) = false) := by
  by_cases h : ∃ r ∈ tab, r.1 = l
  · obtain ⟨r, hr, rfl⟩ := h
    obtain ⟨h1, h2⟩ := at2_yes r hr
    have all : ∀ r ∈ tab, 0 < r.2.2 ∧ wr.spB r.1 = r.2.1 := by decide
    rw [level_at r hr, (all r hr).2]
    exact .inl ⟨(all r hr).1, h1, h2⟩
  · have hn : ∀ r ∈ tab, r.1 ≠ l := fun r hr e => h ⟨r, hr, e⟩
    have h1 := fold2_no l opZ tab (.map []) hn
    exact .inr ⟨level_no l hn, h1.1.trans rfl, h1.2.trans rfl⟩

set_option maxRecDepth 100000 in
/-- impl.operatorTable. -/
theorem table2_any (w : World) (ht : OpTab w) :
    Calls Tryd.prog 29 #[] w fun e w' => e = .returned (.map (some w.heap.size)) ∧ w'.ownsMap Tryd.prog 9 opR2 w.heap.size 14 (opD2 14) ∧ Below w.heap.size w w' := by
  have hm := make_hint 46 9 64
  have HM := fun kd n w => hm kd n Tryd.underlying46 w
  clear hm
  have hb0 : Below w.heap.size w (w.alloc (.map #[] 0)) := (Below.refl _ _).alloc (Nat.le_refl _) _
  have ht1 := ht.below hb0
  obtain ⟨tt, fr, htab⟩ := ht1
  have HT := Lib.hid htab
  have HB0 := Lib.hid hb0
  clear htab hb0 ht
  go_enter Tryd.func29, Tryd.ntmps29
  go_wp2_with (refine wpList_load_row rfl 75 _ rfl 0 rfl tt _ fr _ HT.out Tryd.underlying75 rfl (by kernel_rfl) ?_)
  go_loopw [6] (fun i wr => ∃ k : Nat, k ≤ 14 ∧ i = .int .i64 k ∧ wr.ownsMap Tryd.prog 9 opR2 w.heap.size k (opD2 k) ∧ Below w.heap.size w wr) (fun i _ => 14 - (intOf i).toNat)
  case atStart => exact ⟨0, Nat.zero_le _, rfl, World.ownsMap_made _ _ _ _, HB0.out⟩
  case round =>
    obtain ⟨k, hk, rfl, hown, hbw⟩ := hrel
    by_cases h14 : k < 14
    · have hx := fun w => index_op k h14 w
      have hkey := key_ok (nm k) (nm_size k)
      have hs := opD2_succ k h14
      have HS := Lib.hid hs
      have HB := Lib.hid hbw
      have hown1 := hown.alloc (.cells #[.string (nm k), .string (tx k), .int .i64 (lv k)] 64)
      have HO := Lib.hid hown1
      have him : (k : Int) < 14 := by omega
      clear hs hbw hown hown1
      generalize nm k = a at *
      generalize tx k = b at *
      generalize lv k = l at *
      go_wp2_with (first
        | (at_mapUpdate; refine wpList_mapUpdate_own _ rfl _ _ _ 46 rfl 9 64 law Tryd.underlying46 opR2 w.heap.size k _ rfl HO.out (by unfold maxLen; omega) _ _ _ rfl rfl hkey (.agg [.lit (.string a.data.toList), .lit (.string b.data.toList), .lit (.int .i64 l)]) [] rfl ?_; intro w1 hown2 hgrow1)
        | fail)
      have R1 := HS.out.symm ▸ hown2
      have R2 := (HB.out.alloc HB.out.size (.cells #[.string a, .string b, .int .i64 l] 64)).grown hgrow1 (by simpa using Nat.le_succ_of_le HB.out.size) (fun j hj => by cases hj; exact Nat.le_refl _)
      have H1 := Lib.hid R1
      have H2 := Lib.hid R2
      clear R1 R2 hown2 hgrow1 hkey hx
      go_wp2_with fail
      go_roundw
      case rel => exact ⟨k + 1, by omega, by go_num, H1.out, H2.out⟩
      case measure => simp [intOf]; omega
    · obtain rfl : k = 14 := by omega
      have HO := Lib.hid hown
      have HB := Lib.hid hbw
      clear hown hbw
      go_wp2_with fail
      go_ret
      exact ⟨rfl, HO.out, HB.out⟩
/-- The map of operators lies in block ob. -/
def OpM (w : World) (ob : Nat) : Prop := w.ownsMap Tryd.prog 9 opR2 ob 14 (opD2 14)
end Go.Proofs.YtmgfndgmebignaaDoor.op

/- The elements of a list and its tail are smaller and well-formed. No condition. -/
namespace Go.Proofs.YtmgfndgmebignaaDoor.wr
open Go.RowKit

theorem fr_facts (N : Nat) : ∀ (k n : Int) (s : ByteArray) (f : Fr) (d : Int), f.size ≤ N → shapeT k n s f d = true → shapeF (fronts k s f) d = true ∧ (∀ j k' n' s' kids rest, (fronts k s f).drop j = .cons k' n' s' kids rest → kids.size < f.size) ∧ ∀ k' n' s' f', tails k n s f = .cons k' n' s' f' .nil → shapeT k' n' s' f' d = true ∧ f'.size ≤ f.size ∧ (pairB k s f.len = true → f'.size < f.size) := by
  induction N with
  | zero =>
    intro k n s f d hf hs
    have hp : pairB k s f.len = false := by
      cases f with
      | nil => unfold pairB; simp [Fr.len]
      | cons _ _ _ _ _ => simp [Fr.size] at hf
    rw [(pair_no n hp).1, (pair_no n hp).2]
    refine ⟨rfl, fun j _ _ _ _ _ h => by (cases j <;> cases h), fun k' n' s' f' h => ?_⟩
    simp only [Fr.cons.injEq, and_true] at h
    obtain ⟨rfl, rfl, rfl, rfl⟩ := h
    exact ⟨hs, Nat.le_refl _, fun e => by rw [hp] at e; cases e⟩
  | succ N ih =>
    intro k n s f d hf hs
    cases hp : pairB k s f.len
    · rw [(pair_no n hp).1, (pair_no n hp).2]
      refine ⟨rfl, fun j _ _ _ _ _ h => by (cases j <;> cases h), fun k' n' s' f' h => ?_⟩
      simp only [Fr.cons.injEq, and_true] at h
      obtain ⟨rfl, rfl, rfl, rfl⟩ := h
      exact ⟨hs, Nat.le_refl _, fun e => by cases e⟩
    · obtain ⟨k1, n1, s1, kd1, k2, n2, s2, kd2, rfl, hfr, htl⟩ := pair_yes n hp
      have hk := shapeT_kids hs
      rw [shapeF_cons, shapeF_cons, Bool.and_eq_true, Bool.and_eq_true] at hk
      have up : ∀ {k n : Int} {s : ByteArray} {f : Fr}, shapeT k n s f (d - 1) = true → shapeT k n s f d = true := fun {k n s f} h => by
        have := shapeF_mono (.cons k n s f .nil) (d - 1) d (by omega) (by rw [shapeF_cons, h]; rfl)
        rw [shapeF_cons, Bool.and_eq_true] at this
        exact this.1
      simp only [Fr.size] at hf
      obtain ⟨a1, a2, a3⟩ := ih k2 n2 s2 kd2 d (by omega) (up hk.2.1)
      rw [hfr, htl]
      refine ⟨by rw [shapeF_cons, up hk.1, a1]; rfl, fun j k' n' s' kids rest h => ?_, fun k' n' s' f' h => ?_⟩
      · cases j with
        | zero =>
          injection h with h1 h2 h3 h4 h5
          subst h4
          simp only [Fr.size]; omega
        | succ j =>
          have := a2 j k' n' s' kids rest h
          simp only [Fr.size]; omega
      · obtain ⟨b1, b2, _⟩ := a3 k' n' s' f' h
        exact ⟨b1, by simp only [Fr.size]; omega, fun _ => by simp only [Fr.size]; omega⟩
theorem fr_nodes (N : Nat) : ∀ (k n : Int) (s : ByteArray) (f : Fr), f.size ≤ N → nodes (fronts k s f) ≤ nodes f ∧ ∀ k' n' s' f', tails k n s f = .cons k' n' s' f' .nil → nodes f' ≤ nodes f := by
  induction N with
  | zero =>
    intro k n s f hf
    have hp : pairB k s f.len = false := by
      cases f with
      | nil => unfold pairB; simp [Fr.len]
      | cons _ _ _ _ _ => simp [Fr.size] at hf
    rw [(pair_no n hp).1, (pair_no n hp).2]
    refine ⟨Nat.zero_le _, fun k' n' s' f' h => ?_⟩
    simp only [Fr.cons.injEq, and_true] at h
    obtain ⟨rfl, rfl, rfl, rfl⟩ := h
    exact Nat.le_refl _
  | succ N ih =>
    intro k n s f hf
    cases hp : pairB k s f.len
    · rw [(pair_no n hp).1, (pair_no n hp).2]
      refine ⟨Nat.zero_le _, fun k' n' s' f' h => ?_⟩
      simp only [Fr.cons.injEq, and_true] at h
      obtain ⟨rfl, rfl, rfl, rfl⟩ := h
      exact Nat.le_refl _
    · obtain ⟨k1, n1, s1, kd1, k2, n2, s2, kd2, rfl, hfr, htl⟩ := pair_yes n hp
      simp only [Fr.size] at hf
      obtain ⟨a1, a2⟩ := ih k2 n2 s2 kd2 (by omega)
      rw [hfr, htl]
      refine ⟨by simp only [nodes]; omega, fun k' n' s' f' h => ?_⟩
      have := a2 k' n' s' f' h
      simp only [nodes]; omega
theorem tails_form (N : Nat) : ∀ (k n : Int) (s : ByteArray) (f : Fr), f.size ≤ N → ∃ k' n' s' f', tails k n s f = .cons k' n' s' f' .nil := by
  induction N with
  | zero =>
    intro k n s f hf
    have hp : pairB k s f.len = false := by
      cases f with
      | nil => unfold pairB; simp [Fr.len]
      | cons _ _ _ _ _ => simp [Fr.size] at hf
    exact ⟨k, n, s, f, (pair_no n hp).2⟩
  | succ N ih =>
    intro k n s f hf
    cases hp : pairB k s f.len
    · exact ⟨k, n, s, f, (pair_no n hp).2⟩
    · obtain ⟨k1, n1, s1, kd1, k2, n2, s2, kd2, rfl, _, htl⟩ := pair_yes n hp
      rw [htl]
      simp only [Fr.size] at hf
      exact ih k2 n2 s2 kd2 (by omega)
end Go.Proofs.YtmgfndgmebignaaDoor.wr

/- An opWriter in memory. Condition: the nodes lie in memory below the writer and are well-formed; the table of powers of ten in its variable. -/
namespace Go.Proofs.YtmgfndgmebignaaDoor.wr
open Go.RowKit

/-- The function that writes parts: the writer's own. -/
def fW (mb : Nat) : Value := .func (.func 15) #[.pointer (some ⟨mb, 0, none⟩)] #[]
def TW (ob mb : Nat) (bs : List UInt8) (w : World) : Prop := ∃ tv, Blk w mb 48 #[tv, fW mb, .map (some ob)] ∧ w.ownsRow (mb + 1) 5 1 tv bs.length (Lib.byteCells bs)
theorem TW.below {ob mb : Nat} {bs : List UInt8} {w w' : World} (h : TW ob mb bs w) (hb : Below w.heap.size w w') : TW ob mb bs w' := by
  obtain ⟨tv, hq, ho⟩ := h
  exact ⟨tv, hq.below hb hq.lt, ho.kept (row := none) ⟨hb.os, hb.tape, hb.output, hb.size, fun k hk _ => hb.block k hk⟩ (by cases tv.ownBlock <;> simp)⟩
/-- One byte more. -/
theorem TW.step {ob mb g cap : Nat} {bs add : List UInt8} {w w1 w6 : World} {tv : Value} (hq : Blk w mb 48 #[tv, fW mb, .map (some ob)]) (ho : w.ownsRow (mb + 1) 5 1 tv bs.length (Lib.byteCells bs)) (h1 : Below w.heap.size w w1)
    (hg : w1.grownBy w6 tv.ownBlock) (ho6 : w6.ownsRow (mb + 1) 5 1 (.slice (some ⟨g, 0, none⟩) (bs.length + add.length) cap) (bs.length + add.length) (Lib.byteCells bs ++ Lib.byteCells add)) :
    TW ob mb (bs ++ add) (w6.setCell ⟨mb, 0, none⟩ (.slice (some ⟨g, 0, none⟩) (bs.length + add.length) cap)) ∧ TF mb w (w6.setCell ⟨mb, 0, none⟩ (.slice (some ⟨g, 0, none⟩) (bs.length + add.length) cap)) ∧ Blk w6 mb 48 #[tv, fW mb, .map (some ob)] := by
  have hmlt := hq.lt
  have hne : some mb ≠ tv.ownBlock := fun e => by have := (ho.lt mb e.symm).1; omega
  have hq1 := hq.below h1 hmlt
  have hq6 : Blk w6 mb 48 #[tv, fW mb, .map (some ob)] := hq1.keep (hg.block mb (Nat.lt_of_lt_of_le hmlt h1.size) hne)
  have h2 : TF mb w w6 := by
    refine ⟨(h1.mono (Nat.le_of_lt hmlt)).grown hg (Nat.le_trans (Nat.le_of_lt hmlt) h1.size) fun k hk => by have := (ho.lt k hk).1; omega, ?_⟩
    refine (TF.below h1 (Nat.le_of_lt hmlt)).2.grown hg fun k hk => ?_
    obtain ⟨c, fz, hc⟩ := row_kind ho k hk
    exact ⟨c, fz, (h1.block k (ho.lt k hk).2).trans hc⟩
  refine ⟨⟨.slice (some ⟨g, 0, none⟩) (bs.length + add.length) cap, ?_, ?_⟩, h2.set_ 0 _, hq6⟩
  · have h := hq6.set_ 0 (.slice (some ⟨g, 0, none⟩) (bs.length + add.length) cap)
    simpa using h
  · have e1 : (bs ++ add).length = bs.length + add.length := List.length_append
    have e2 : Lib.byteCells (bs ++ add) = Lib.byteCells bs ++ Lib.byteCells add := by simp [Lib.byteCells]
    rw [e1, e2]
    refine ho6.kept (row := some mb) ⟨rfl, rfl, rfl, by simp [World.setCell], fun k _ hk => ?_⟩ (.inr fun e => ?_)
    · exact heap_setCell_other _ _ _ _ fun e => hk (by rw [e])
    · have := (ho6.lt mb e).1
      omega
theorem TW.step1 {ob mb g cap : Nat} {bs : List UInt8} {c : UInt8} {x : Int} {w w6 : World} {tv : Value} (hq : Blk w mb 48 #[tv, fW mb, .map (some ob)]) (ho : w.ownsRow (mb + 1) 5 1 tv bs.length (Lib.byteCells bs)) (hc : (c.toNat : Int) = x)
    (hg : (w.alloc (.cells #[.int .u8 x] 5)).grownBy w6 tv.ownBlock) (ho6 : w6.ownsRow (mb + 1) 5 1 (.slice (some ⟨g, 0, none⟩) (bs.length + 1) cap) (bs.length + 1) (Lib.byteCells bs ++ [.int .u8 x])) :
    TW ob mb (bs ++ [c]) (w6.setCell ⟨mb, 0, none⟩ (.slice (some ⟨g, 0, none⟩) (bs.length + 1) cap)) ∧ TF mb w (w6.setCell ⟨mb, 0, none⟩ (.slice (some ⟨g, 0, none⟩) (bs.length + 1) cap)) ∧ Blk w6 mb 48 #[tv, fW mb, .map (some ob)] :=
  TW.step (add := [c]) hq ho ((Below.refl _ _).alloc (Nat.le_refl _) _) hg (by
    have e : Lib.byteCells [c] = [.int .u8 x] := by rw [← hc]; rfl
    rw [e]; exact ho6)
theorem TW.mid {ob mb : Nat} {bs : List UInt8} {w w1 w6 : World} {tv : Value} (hq : Blk w mb 48 #[tv, fW mb, .map (some ob)]) (ho : w.ownsRow (mb + 1) 5 1 tv bs.length (Lib.byteCells bs)) (h1 : Below w.heap.size w w1) (hg : w1.grownBy w6 tv.ownBlock) : TF mb w w6 := by
  have hmlt := hq.lt
  refine ⟨(h1.mono (Nat.le_of_lt hmlt)).grown hg (Nat.le_trans (Nat.le_of_lt hmlt) h1.size) fun k hk => by have := (ho.lt k hk).1; omega, ?_⟩
  refine (TF.below h1 (Nat.le_of_lt hmlt)).2.grown hg fun k hk => ?_
  obtain ⟨c, fz, hc⟩ := row_kind ho k hk
  exact ⟨c, fz, (h1.block k (ho.lt k hk).2).trans hc⟩
/-- The tables that a writer asks: powers of ten, and the map of operators. -/
def Pow10 (ob mb : Nat) (w : World) : Prop := Lib.TabBelow Tryd.prog mb w "internal/strconv.uint64pow10" .u64 Lib.pow10Tab ∧ ob < mb ∧ op.OpM w ob
theorem OpM_keep {w w' : World} {ob mb : Nat} (h : op.OpM w ob) (hb : Below mb w w') (ho : ob < mb) : op.OpM w' ob := by
  obtain ⟨es, clock, he, hr⟩ := h
  exact ⟨es, clock, (hb.block ob ho).trans he, hr⟩
theorem Pow10.on {w w' : World} {ob mb : Nat} (h : Pow10 ob mb w) (hb : Below mb w w') : Pow10 ob mb w' := ⟨h.1.on hb, h.2.1, OpM_keep h.2.2 hb h.2.1⟩
def OwC (s : ByteArray) (f : Fr) : Prop := ∀ (k n d : Int) (v : Value) (lo hi ob mb : Nat) (bs : List UInt8) (w : World), shapeT k n s f d = true → NdV w lo hi k n s f v → hi ≤ mb → TW ob mb bs w → bs.length + (txT k n s f).length ≤ 1073741824 → Pow10 ob mb w → nodes f ≤ 1048576 →
  Calls Tryd.prog 15 #[.pointer (some ⟨mb, 0, none⟩), v] w fun e w' => e = .returned (.tuple #[]) ∧ TW ob mb (bs ++ txT k n s f) w' ∧ TF mb w w'
def WtC (s : ByteArray) (f : Fr) : Prop := ∀ (k n d : Int) (v : Value) (lo hi ob mb : Nat) (bs : List UInt8) (w : World), infB k s f.len = false → shapeT k n s f d = true → NdV w lo hi k n s f v → hi ≤ mb → TW ob mb bs w → bs.length + (txT k n s f).length ≤ 1073741824 → Pow10 ob mb w → nodes f ≤ 1048576 →
  Calls Tryd.prog 31 #[.pointer (some ⟨mb, 0, none⟩), v] w fun e w' => e = .returned (.tuple #[]) ∧ TW ob mb (bs ++ txT k n s f) w' ∧ TF mb w w'
end Go.Proofs.YtmgfndgmebignaaDoor.wr

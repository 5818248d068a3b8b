/- The keys of the index of keys: a name, a number of arguments and a text; what the index holds. No condition. -/
import Derived.Test.YtlapdnllncoomaaDoorProg
import Derived.Test.YtlapdnllncoomaaDoorZmDE38
import Derived.Test.YtlapdnllncoomaaDoorPk
import Derived.Test.YtlapdnllncoomaaDoorMk
import Derived.Test.YtlapdnllncoomaaDoorAs
import Derived.WalkKit
import Derived.WalkSpells
import Derived.Outline
import Derived.Lib.ItoaLen
import Derived.Lib.SlBytesConst
namespace Go.Proofs.YtlapdnllncoomaaDoor
open Go.RowKit Go.WideMaps Go.Maps Go.ChangeShapes
open Classical

theorem rowK3 : (109 : TypeId) < Tryd.prog.types.size := of_decide_eq_true (by kernel_rfl)
theorem typeK3 : Tryd.prog.keyType 109 = true := by kernel_rfl
theorem cellsK3 : Tryd.prog.cellsOf 109 = 3 := by kernel_rfl
set_option maxRecDepth 100000 in
theorem lawK3 : Keyed Tryd.prog 109 := Keyed.of_law (deep_law_laid laidOutK (m := 4) (by omega) rowK3 (by kernel_rfl) (by kernel_rfl))
/-- A key that is a struct of a struct of a string and a number, and of a string, in whatever program. -/
theorem key_struct3 {P : Program} {k kp ks ki : TypeId} {f0 f1 g0 g1 : Field} (hu : P.underlying k = some (.struct #[f0, f1])) (ht : P.keyType k = true) (hc : P.cellsOf k = 3) (h0 : f0.type = kp) (h1 : f1.type = ks) (o0 : f0.offset = 0) (o1 : f1.offset = 2) (n0 : f0.name ≠ "_") (n1 : f1.name ≠ "_")
    (hup : P.underlying kp = some (.struct #[g0, g1])) (hcp : P.cellsOf kp = 2) (e0 : g0.type = ks) (e1 : g1.type = ki) (p0 : g0.offset = 0) (p1 : g1.offset = 1) (m0 : g0.name ≠ "_") (m1 : g1.name ≠ "_")
    (us : P.underlying ks = some .string) (ui : P.underlying ki = some (.int .i64)) (cs : P.cellsOf ks = 1) (ci : P.cellsOf ki = 1) (d : Nat) (hd : P.types.size = d + 2) (s : ByteArray) (a : Int) (t : ByteArray) (hs : s.size ≤ maxLen) (hw : (Lit.int .i64 a).wf = true) (hts : t.size ≤ maxLen) :
    keyOf P k (.agg #[.string s, .int .i64 a, .string t]) = some (.string (keyBytes [.string s.data.toList, .int .i64 a, .string t.data.toList])) := by
  unfold keyOf
  have hm : ∀ (i : Nat) (x : i < 2), ¬[g0, g1][i].name = "_" := fun i hi => by
    rcases i with _ | _ | i
    · exact m0
    · exact m1
    · omega
  simp [hu, ht, Value.formed, hc, hd, Program.keyLits, h0, h1, o0, o1, n0, n1, hup, hcp, e0, e1, p0, p1, us, ui, cs, ci, Value.cells, hs, hw, hts]
  rw [if_pos hm]
  rfl
/-- The key of a name, a number of arguments and a text. -/
def kk (s : ByteArray) (a : Nat) (key : List UInt8) : Lit := .string (keyBytes [.string s.data.toList, .int .i64 (a : Int), .string key])
set_option maxRecDepth 100000 in
theorem sizeK3 : Tryd.prog.types.size = (Tryd.prog.types.size - 2) + 2 := by
  have h : (2 : Nat) ≤ Tryd.prog.types.size := of_decide_eq_true (by kernel_rfl)
  exact (Nat.sub_add_cancel h).symm
set_option maxRecDepth 100000 in
theorem kk_key (s : ByteArray) (a : Nat) (key : List UInt8) (hs : s.size ≤ maxLen) (ha : a ≤ maxLen) (hk : key.length ≤ maxLen) : keyOf Tryd.prog 109 (.agg #[.string s, .int .i64 (a : Int), .string ⟨key.toArray⟩]) = some (kk s a key) :=
  key_struct3 Tryd.underlying109 typeK3 cellsK3 rfl rfl rfl rfl (by decide) (by decide) Tryd.underlying88 cellsK rfl rfl rfl rfl (by decide) (by decide) Tryd.underlying9 Tryd.underlying3 (by kernel_rfl) (by kernel_rfl) _ sizeK3 s a ⟨key.toArray⟩ hs (by unfold maxLen at ha; exact WalkArith.wf_i64 (by omega)) (by simpa [ByteArray.size] using hk)
theorem kk_inj {s s' : ByteArray} {a a' : Nat} {key key' : List UInt8} (hs : s.size ≤ maxLen) (ha : a ≤ maxLen) (hk : key.length ≤ maxLen) (hs' : s'.size ≤ maxLen) (ha' : a' ≤ maxLen) (hk' : key'.length ≤ maxLen) (h : kk s a key = kk s' a' key') : s = s' ∧ a = a' ∧ key = key' := by
  have h1 := lawK3.inj (kk_key s a key hs ha hk) ((kk_key s' a' key' hs' ha' hk').trans (by rw [h]))
  simp at h1
  exact ⟨h1.1, by omega, h1.2.2⟩
theorem keyF_len {f : Fr} {d : Int} (h : shapeF f d = true) : (keyF f).length ≤ 64 := by
  cases f with
  | nil => simp [keyF]
  | cons k n s kids rest =>
    rw [keyF_cons]
    rcases first_of h with ⟨rfl, _⟩ | ⟨rfl, h1, h2⟩ | ⟨rfl, h1, h2⟩
    · rw [if_pos rfl]; simp
    · rw [if_neg (by omega), if_pos rfl]
      exact Nat.le_trans (Lib.itoa_length_le n (by omega) (by omega)) (by omega)
    · rw [if_neg (by omega), if_neg (by omega)]
      have hz : s.data.toList.length ≤ 6 := nameB_size h1
      have hdl : (Lib.decDigits kids.len).length ≤ 20 := by rw [Lib.decDigits_length]; exact Lib.nDigits_le20 _ (by omega)
      simp only [List.length_append, List.length_cons]
      omega
/-- The key of a clause. -/
def ck (c : Cl) : Lit := kk c.s c.kids.len (keyF c.kids)
def WfK (c : Cl) : Prop := WfC c ∧ shapeF c.kids 29 = true
theorem ck_inj {c c' : Cl} (h : WfK c) (h' : WfK c') (he : ck c = ck c') : c.s = c'.s ∧ c.kids.len = c'.kids.len ∧ keyF c.kids = keyF c'.kids :=
  kk_inj h.1.1 h.1.2 (by have := keyF_len h.2; unfold maxLen; omega) h'.1.1 h'.1.2 (by have := keyF_len h'.2; unfold maxLen; omega) he
/-- The index of keys holds what the clauses ds give. -/
def KxD (D : DataW Unit) (cs ds : List Cl) : Prop :=
  (∀ c ∈ ds, D.atKey (ck c) .nil = .slice (lits .i64 (ixK cs c.s c.kids.len (keyF c.kids))) [] ∧ Maps.has D (ck c) = true) ∧ ∀ l, (∀ c ∈ ds, ck c ≠ l) → D.atKey l .nil = .nil ∧ Maps.has D l = false
/-- While one place is filled. -/
def KyD (D D' : DataW Unit) (l0 : Lit) (ys : List Int) : Prop :=
  (∀ l, l ≠ l0 → D'.atKey l .nil = D.atKey l .nil ∧ Maps.has D' l = Maps.has D l) ∧ HoldsD D' l0 ys ∧ (ys ≠ [] → Maps.has D' l0 = true)
theorem KxD.start (cs : List Cl) : KxD (.map []) cs [] := ⟨fun c hc => by simp at hc, fun l _ => ⟨rfl, rfl⟩⟩
theorem KxD.known {D : DataW Unit} {cs ds : List Cl} {c : Cl} (h : KxD D cs ds) (hw : ∀ x ∈ ds, WfK x) (hc : WfK c) (hk : Maps.has D (ck c) = true) : KxD D cs (ds ++ [c]) := by
  have hex : ∃ c' ∈ ds, ck c' = ck c := by
    refine Classical.byContradiction fun hn => ?_
    have := (h.2 (ck c) fun c' hc' e => hn ⟨c', hc', e⟩).2
    rw [hk] at this
    cases this
  obtain ⟨c', hc', he⟩ := hex
  refine ⟨fun x hx => ?_, fun l hl => h.2 l fun x hx => hl x (by simp [hx])⟩
  rcases List.mem_append.1 hx with hx | hx
  · exact h.1 x hx
  · obtain rfl : x = c := by simpa using hx
    have h1 := h.1 c' hc'
    obtain ⟨e1, e2, e3⟩ := ck_inj (hw c' hc') hc he
    rw [he, e1, e2, e3] at h1
    exact h1
theorem KxD.begin {D : DataW Unit} {cs ds : List Cl} {c : Cl} (h : KxD D cs ds) (hk : Maps.has D (ck c) = false) : KyD D D (ck c) [] := by
  refine ⟨fun l _ => ⟨rfl, rfl⟩, .inl ⟨rfl, (h.2 (ck c) fun c' hc' e => ?_).1⟩, fun h => absurd rfl h⟩
  have := (h.1 c' hc').2
  rw [e, hk] at this
  cases this
theorem KyD.step {D D' : DataW Unit} {s : ByteArray} {a : Nat} {key : List UInt8} {ys : List Int} {w : World} {base : Nat} {e : TypeId} {v' : Value} {z : Int} (h : KyD D D' (kk s a key) ys) (hM : IsMap D') (ho : w.ownsInts base e .i64 v' (ys ++ [z])) : KyD D (D'.put (kk s a key) (rowDatum .i64 v' (ys ++ [z]))) (kk s a key) (ys ++ [z]) := by
  rw [ho.datum_pos (H := Unit) (by simp)]
  refine ⟨fun l hl => ⟨?_, ?_⟩, .inr ⟨by simp, atKey_put_same hM (by trivial) _ _⟩, fun _ => has_put_same hM (by trivial) _⟩
  · rw [atKey_put_other hl, (h.1 l hl).1]
  · rw [has_put_other hl, (h.1 l hl).2]
theorem KxD.done {D D' : DataW Unit} {cs ds : List Cl} {c : Cl} (h : KxD D cs ds) (hk : Maps.has D (ck c) = false) (hy : KyD D D' (ck c) (ixK cs c.s c.kids.len (keyF c.kids))) (hne : ixK cs c.s c.kids.len (keyF c.kids) ≠ []) : KxD D' cs (ds ++ [c]) := by
  have hno : ∀ x ∈ ds, ck x ≠ ck c := fun x hx e => by
    have := (h.1 x hx).2
    rw [e, hk] at this
    cases this
  refine ⟨fun x hx => ?_, fun l hl => ?_⟩
  · rcases List.mem_append.1 hx with hx | hx
    · rw [(hy.1 _ (hno x hx)).1, (hy.1 _ (hno x hx)).2]
      exact h.1 x hx
    · obtain rfl : x = c := by simpa using hx
      refine ⟨?_, hy.2.2 hne⟩
      rcases hy.2.1 with ⟨h1, _⟩ | ⟨_, h1⟩
      · exact absurd h1 hne
      · exact h1
  · have hlc : l ≠ ck c := fun e => hl c (by simp) e.symm
    rw [(hy.1 l hlc).1, (hy.1 l hlc).2]
    exact h.2 l fun x hx => hl x (by simp [hx])
end Go.Proofs.YtlapdnllncoomaaDoor

/- spec.l1Pair, l1Nil, impl.isEmptyList: what a list's nodes are. Condition: the term lies in memory. -/
namespace Go.Proofs.YtlapdnllncoomaaDoor
open Go.RowKit

def dotB (s : ByteArray) : Bool := s.data.toList == [46]
def emptyB (s : ByteArray) : Bool := s.data.toList == [91, 93]
/-- A pair of a list. -/
def pairB (k : Int) (s : ByteArray) (len : Nat) : Bool := k == 3 && (dotB s && len == 2)
/-- The empty list. -/
def nilB (k : Int) (s : ByteArray) (len : Nat) : Bool := k == 3 && (emptyB s && len == 0)

/-! The elements of a list, and what stands behind the last pair. -/
def fronts : Int → ByteArray → Fr → Fr
  | k, s, .cons k1 n1 s1 kd1 (.cons k2 _ s2 kd2 .nil) => if pairB k s 2 = true then .cons k1 n1 s1 kd1 (fronts k2 s2 kd2) else .nil
  | _, _, _ => .nil
def tails : Int → Int → ByteArray → Fr → Fr
  | k, n, s, .cons k1 n1 s1 kd1 (.cons k2 n2 s2 kd2 .nil) => if pairB k s 2 = true then tails k2 n2 s2 kd2 else .cons k n s (.cons k1 n1 s1 kd1 (.cons k2 n2 s2 kd2 .nil)) .nil
  | k, n, s, f => .cons k n s f .nil
theorem two_of (f : Fr) (h : f.len = 2) : ∃ k1 n1 s1 kd1 k2 n2 s2 kd2, f = .cons k1 n1 s1 kd1 (.cons k2 n2 s2 kd2 .nil) := by
  cases f with
  | nil => simp [Fr.len] at h
  | cons k1 n1 s1 kd1 r =>
    cases r with
    | nil => simp [Fr.len] at h
    | cons k2 n2 s2 kd2 r =>
      cases r with
      | nil => exact ⟨_, _, _, _, _, _, _, _, rfl⟩
      | cons _ _ _ _ _ => simp [Fr.len] at h
theorem pairB_len {k : Int} {s : ByteArray} {len : Nat} (h : pairB k s len = true) : len = 2 ∧ k = 3 ∧ dotB s = true := by
  simp only [pairB, Bool.and_eq_true, beq_iff_eq] at h
  exact ⟨h.2.2, h.1, h.2.1⟩
theorem pair_yes {k : Int} (n : Int) {s : ByteArray} {f : Fr} (h : pairB k s f.len = true) : ∃ k1 n1 s1 kd1 k2 n2 s2 kd2, f = .cons k1 n1 s1 kd1 (.cons k2 n2 s2 kd2 .nil) ∧ fronts k s f = .cons k1 n1 s1 kd1 (fronts k2 s2 kd2) ∧ tails k n s f = tails k2 n2 s2 kd2 := by
  have hl := (pairB_len h).1
  obtain ⟨k1, n1, s1, kd1, k2, n2, s2, kd2, rfl⟩ := two_of f hl
  have h2 : pairB k s 2 = true := h
  exact ⟨k1, n1, s1, kd1, k2, n2, s2, kd2, rfl, by rw [fronts, if_pos h2], by rw [tails, if_pos h2]⟩
theorem pair_no {k : Int} (n : Int) {s : ByteArray} {f : Fr} (h : pairB k s f.len = false) : fronts k s f = .nil ∧ tails k n s f = .cons k n s f .nil := by
  by_cases hl : f.len = 2
  · obtain ⟨k1, n1, s1, kd1, k2, n2, s2, kd2, rfl⟩ := two_of f hl
    have h2 : ¬ pairB k s 2 = true := by rw [Bool.not_eq_true]; exact h
    exact ⟨by rw [fronts, if_neg h2], by rw [tails, if_neg h2]⟩
  · cases f with
    | nil => exact ⟨rfl, rfl⟩
    | cons k1 n1 s1 kd1 r =>
      cases r with
      | nil => exact ⟨rfl, rfl⟩
      | cons k2 n2 s2 kd2 r =>
        cases r with
        | nil => simp [Fr.len] at hl
        | cons _ _ _ _ _ => exact ⟨rfl, rfl⟩
/-- The term is a list. -/
def listB (k n : Int) (s : ByteArray) (f : Fr) : Bool := match tails k n s f with
  | .cons k' _ s' f' _ => nilB k' s' f'.len
  | .nil => false
theorem app_assoc (a b c : Fr) : (a.app b).app c = a.app (b.app c) := by
  induction a with
  | nil => rfl
  | cons _ _ _ _ _ _ ih => simp only [Fr.app, ih]
theorem app_nil (a : Fr) : a.app .nil = a := by
  induction a with
  | nil => rfl
  | cons _ _ _ _ _ _ ih => simp only [Fr.app, ih]
end Go.Proofs.YtlapdnllncoomaaDoor

/- The text of a term, as plain data. No condition. -/
namespace Go.Proofs.YtlapdnllncoomaaDoor
open Go.RowKit

def letB (n : Int) : List UInt8 := [UInt8.ofNat (65 + n.toNat)]
/-- Texts with commas between and brackets around. -/
def argsB : List (List UInt8) → List UInt8
  | [] => []
  | t :: ts => 40 :: (t ++ (ts.flatMap (fun x => 44 :: x) ++ [41]))
abbrev TT := List UInt8 × List UInt8
/-- The text of a term, and what it adds as the rest of a list. -/
def bodyB (k n : Int) (s : ByteArray) (len : Nat) (r : List TT) : List UInt8 :=
  if k = 1 then letB n else if k = 2 then Lib.itoa n else
    if pairB k s len = true then 91 :: ((r.getD 0 ([], [])).1 ++ ((r.getD 1 ([], [])).2 ++ [93])) else s.data.toList ++ argsB (r.map Prod.fst)
def elt (k n : Int) (s : ByteArray) (len : Nat) (r : List TT) : TT :=
  (bodyB k n s len r, if pairB k s len = true then 44 :: ((r.getD 0 ([], [])).1 ++ (r.getD 1 ([], [])).2) else if nilB k s len = true then [] else 124 :: bodyB k n s len r)
def txL : Fr → List TT
  | .nil => []
  | .cons k n s kids rest => elt k n s kids.len (txL kids) :: txL rest
def txT (k n : Int) (s : ByteArray) (f : Fr) : List UInt8 := (elt k n s f.len (txL f)).1
def tlT (k n : Int) (s : ByteArray) (f : Fr) : List UInt8 := (elt k n s f.len (txL f)).2
/-- The texts of a row. -/
def txs (f : Fr) : List (List UInt8) := (txL f).map Prod.fst
theorem txs_cons (k n : Int) (s : ByteArray) (kids rest : Fr) : txs (.cons k n s kids rest) = txT k n s kids :: txs rest := rfl
theorem txT_var (n : Int) (s : ByteArray) (f : Fr) : txT 1 n s f = letB n := by unfold txT elt bodyB; rw [if_pos rfl]
theorem txT_int (n : Int) (s : ByteArray) (f : Fr) : txT 2 n s f = Lib.itoa n := by unfold txT elt bodyB; rw [if_neg (by decide), if_pos rfl]
theorem txT_pair {k : Int} (n : Int) {s : ByteArray} {k1 n1 k2 n2 : Int} {s1 s2 : ByteArray} {kd1 kd2 : Fr} (h : pairB k s 2 = true) :
    txT k n s (.cons k1 n1 s1 kd1 (.cons k2 n2 s2 kd2 .nil)) = 91 :: (txT k1 n1 s1 kd1 ++ (tlT k2 n2 s2 kd2 ++ [93])) := by
  obtain ⟨_, rfl, _⟩ := pairB_len h
  show bodyB 3 n s 2 _ = _
  unfold bodyB
  rw [if_neg (by decide), if_neg (by decide), if_pos h]
  rfl
theorem tlT_pair {k : Int} (n : Int) {s : ByteArray} {k1 n1 k2 n2 : Int} {s1 s2 : ByteArray} {kd1 kd2 : Fr} (h : pairB k s 2 = true) :
    tlT k n s (.cons k1 n1 s1 kd1 (.cons k2 n2 s2 kd2 .nil)) = 44 :: (txT k1 n1 s1 kd1 ++ tlT k2 n2 s2 kd2) := by
  show (if pairB k s 2 = true then _ else _) = _
  rw [if_pos h]
  rfl
theorem txT_str {n : Int} {s : ByteArray} {f : Fr} (h : pairB 3 s f.len = false) : txT 3 n s f = s.data.toList ++ argsB (txs f) := by
  show bodyB 3 n s f.len _ = _
  unfold bodyB
  rw [if_neg (by decide), if_neg (by decide), h]
  rfl
theorem tlT_nil {k n : Int} {s : ByteArray} {f : Fr} (h : nilB k s f.len = true) : tlT k n s f = [] := by
  have hp : pairB k s f.len = false := by
    unfold nilB at h
    unfold pairB
    simp only [Bool.and_eq_true, beq_iff_eq] at h
    rw [h.2.2]; simp
  show (if pairB k s f.len = true then _ else _) = _
  rw [hp, h]
  rfl
theorem tlT_end {k n : Int} {s : ByteArray} {f : Fr} (hp : pairB k s f.len = false) (h : nilB k s f.len = false) : tlT k n s f = 124 :: txT k n s f := by
  show (if pairB k s f.len = true then _ else _) = _
  rw [hp, h]
  rfl
/-- What stands behind the last element of a list. -/
def endB (k n : Int) (s : ByteArray) (f : Fr) : List UInt8 := if nilB k s f.len = true then [] else 124 :: txT k n s f
theorem tlT_not {k n : Int} {s : ByteArray} {f : Fr} (hp : pairB k s f.len = false) : tlT k n s f = endB k n s f := by
  unfold endB
  cases h : nilB k s f.len
  · rw [tlT_end hp h]; rfl
  · rw [tlT_nil h]; rfl
/-- The rest of a list: its elements, then its end. -/
theorem tlT_split (N : Nat) : ∀ (k n : Int) (s : ByteArray) (f : Fr), f.size ≤ N → ∀ k' n' s' f', tails k n s f = .cons k' n' s' f' .nil → tlT k n s f = (txs (fronts k s f)).flatMap (fun x => 44 :: x) ++ endB k' n' s' f' := by
  induction N with
  | zero =>
    intro k n s f hf k' n' s' f' ht
    have hp : pairB k s f.len = false := by
      cases f with
      | nil => unfold pairB; simp [Fr.len]
      | cons _ _ _ _ _ => simp [Fr.size] at hf
    rw [(pair_no n hp).2] at ht
    rw [(pair_no n hp).1, tlT_not hp]
    simp only [Fr.cons.injEq, and_true] at ht
    obtain ⟨rfl, rfl, rfl, rfl⟩ := ht
    rfl
  | succ N ih =>
    intro k n s f hf k' n' s' f' ht
    cases hp : pairB k s f.len
    · rw [(pair_no n hp).2] at ht
      rw [(pair_no n hp).1, tlT_not hp]
      simp only [Fr.cons.injEq, and_true] at ht
      obtain ⟨rfl, rfl, rfl, rfl⟩ := ht
      rfl
    · obtain ⟨k1, n1, s1, kd1, k2, n2, s2, kd2, rfl, hfr, htl⟩ := pair_yes n hp
      have h2 := ih k2 n2 s2 kd2 (by simp only [Fr.size] at hf; omega) k' n' s' f' (by rw [← htl]; exact ht)
      rw [tlT_pair n hp, hfr, txs_cons, h2]
      simp
theorem txT_list {k n : Int} {s : ByteArray} {f : Fr} (hp : pairB k s f.len = true) {k' n' : Int} {s' : ByteArray} {f' : Fr} (ht : tails k n s f = .cons k' n' s' f' .nil) :
    ∃ k1 n1 s1 kd1 r, fronts k s f = .cons k1 n1 s1 kd1 r ∧ txT k n s f = 91 :: (txT k1 n1 s1 kd1 ++ ((txs r).flatMap (fun x => 44 :: x) ++ (endB k' n' s' f' ++ [93]))) := by
  obtain ⟨k1, n1, s1, kd1, k2, n2, s2, kd2, rfl, hfr, htl⟩ := pair_yes n hp
  refine ⟨k1, n1, s1, kd1, _, hfr, ?_⟩
  rw [txT_pair n hp, tlT_split kd2.size k2 n2 s2 kd2 (Nat.le_refl _) k' n' s' f' (by rw [← htl]; exact ht), List.append_assoc]

/-- Texts are not long. -/
theorem itoa_small (n : Int) (h : -999 ≤ n ∧ n ≤ 999) : (Lib.itoa n).length ≤ 21 := Lib.itoa_length_le n (by omega) (by omega)
def smF : Fr → Prop
  | .nil => True
  | .cons k n s kids rest => (s.size ≤ 6 ∧ (k = 2 → -999 ≤ n ∧ n ≤ 999)) ∧ smF kids ∧ smF rest
theorem flat_len : ∀ ts : List (List UInt8), (ts.flatMap (fun x => 44 :: x)).length = ts.length + (ts.map List.length).sum
  | [] => rfl
  | t :: ts => by simp only [List.flatMap_cons, List.length_append, List.length_cons, List.map_cons, List.sum_cons, flat_len ts]; omega
theorem args_len (ts : List (List UInt8)) : (argsB ts).length ≤ ts.length + (ts.map List.length).sum + 1 := by
  cases ts with
  | nil => exact Nat.zero_le _
  | cons t ts =>
    simp only [argsB, List.length_cons, List.length_append, flat_len, List.map_cons, List.sum_cons, List.length_nil]
    omega
theorem txs_len (f : Fr) : (txs f).length = f.len := by
  induction f with
  | nil => rfl
  | cons _ _ _ _ _ _ ih => rw [txs_cons, List.length_cons, ih]; rfl
/-- Text or rest, whichever is longer. -/
def mxL : List TT → Nat
  | [] => 0
  | t :: ts => max (t.1.length + 1) t.2.length + mxL ts
theorem mxL_args : ∀ f : Fr, f.len + ((txs f).map List.length).sum ≤ mxL (txL f)
  | .nil => Nat.le_refl _
  | .cons k n s kids rest => by
    have := mxL_args rest
    show rest.len + 1 + ((txT k n s kids).length + ((txs rest).map List.length).sum) ≤ max ((txT k n s kids).length + 1) _ + mxL (txL rest)
    omega
theorem mxL_at : ∀ (ts : List TT) (j : Nat) (t : TT), ts[j]? = some t → max (t.1.length + 1) t.2.length ≤ mxL ts
  | [], j, t, h => by simp at h
  | t' :: ts, 0, t, h => by
    simp at h
    subst h
    simp only [mxL]; omega
  | t' :: ts, j + 1, t, h => by
    have := mxL_at ts j t (by simpa using h)
    simp only [mxL]; omega
theorem tx_len (f : Fr) : smF f → mxL (txL f) ≤ 32 * nodes f := by
  induction f with
  | nil => exact fun _ => Nat.le_refl _
  | cons k n s kids rest ihk ihr =>
    rintro ⟨⟨h1, h2⟩, h3, h4⟩
    have a := ihk h3
    have b := ihr h4
    have hb : max ((txT k n s kids).length + 1) (tlT k n s kids).length ≤ 32 * (nodes kids + 1) := by
      cases hp : pairB k s kids.len
      · have hlen : (txT k n s kids).length + 1 ≤ 32 * (nodes kids + 1) := by
          show (bodyB k n s kids.len (txL kids)).length + 1 ≤ _
          unfold bodyB
          split
          · simp only [letB, List.length_cons, List.length_nil]; omega
          · split
            · have := itoa_small n (h2 (by assumption)); omega
            · rw [hp]
              have h5 := args_len (txs kids)
              have h6 : s.data.toList.length = s.size := rfl
              have h7 := mxL_args kids
              rw [txs_len] at h5
              show (s.data.toList ++ argsB (txs kids)).length + 1 ≤ _
              rw [List.length_append]
              omega
        rw [tlT_not hp]
        unfold endB
        split
        · simp only [List.length_nil]; omega
        · rw [List.length_cons]; omega
      · obtain ⟨k1, n1, s1, kd1, k2, n2, s2, kd2, rfl, hfr, htl⟩ := pair_yes n hp
        have e1 : max ((txT k1 n1 s1 kd1).length + 1) (tlT k1 n1 s1 kd1).length + (max ((txT k2 n2 s2 kd2).length + 1) (tlT k2 n2 s2 kd2).length + 0) ≤ 32 * nodes (.cons k1 n1 s1 kd1 (.cons k2 n2 s2 kd2 .nil)) := a
        rw [txT_pair n hp, tlT_pair n hp]
        simp only [List.length_cons, List.length_append, List.length_nil]
        omega
    have e : mxL (txL (.cons k n s kids rest)) = max ((txT k n s kids).length + 1) (tlT k n s kids).length + mxL (txL rest) := rfl
    rw [e]
    simp only [nodes]
    omega
theorem txT_len {k n : Int} {s : ByteArray} {f : Fr} (h1 : s.size ≤ 6) (h2 : k = 2 → -999 ≤ n ∧ n ≤ 999) (h3 : smF f) : (txT k n s f).length + 1 ≤ 32 * (nodes f + 1) ∧ (tlT k n s f).length ≤ 32 * (nodes f + 1) := by
  have h := tx_len (.cons k n s f .nil) ⟨⟨h1, h2⟩, h3, trivial⟩
  have e : mxL (txL (.cons k n s f .nil)) = max ((txT k n s f).length + 1) (tlT k n s f).length + 0 := rfl
  rw [e] at h
  simp only [nodes] at h
  omega
end Go.Proofs.YtlapdnllncoomaaDoor

/- The model's texts of terms: spec.l1Letter, l18Dec, l1Dec, l1Text, l1List. Condition: the term lies in memory and is well-formed. -/
namespace Go.Proofs.YtlapdnllncoomaaDoor
open Go.RowKit

theorem str_app (a b : List UInt8) : (.string (⟨a.toArray⟩ ++ ⟨b.toArray⟩) : Value) = .string ⟨(a ++ b).toArray⟩ := congrArg Value.string (ByteArray.mk_append_mk a b)
theorem str_own (s : ByteArray) : s = ⟨s.data.toList.toArray⟩ := by cases s; simp
theorem one_byteV (x : Int) (c : UInt8) (hc : (c.toNat : Int) = x) (w : World) : (convert 112 9 (.slice (some ⟨w.heap.size, 0, none⟩) 1 1)).run Tryd.prog (w.alloc (.cells #[.int .u8 x] 5)) =
    .ok (.string ⟨[c].toArray⟩) (w.alloc (.cells #[.int .u8 x] 5)) := by
  refine run_convert_bytes_back _ _ _ 5 ⟨w.heap.size, 0, none⟩ 1 [c] Tryd.underlying112 Tryd.underlying5 Tryd.underlying9 fun i hi => ?_
  obtain rfl : i = 0 := by simpa using hi
  have h := (Blk.new w 5 #[.int .u8 x]).cell 0
  show (w.alloc _).cell? ⟨w.heap.size, 0, none⟩ = some (.int .u8 (c.toNat : Int))
  rw [h, hc]
  rfl
set_option maxRecDepth 100000 in
set_option maxHeartbeats 1000000 in
/-- spec.l18Dec at a number that is not negative. -/
theorem dec18_any (n : Nat) (hn : n ≤ 999) (w : World) : Calls Tryd.prog 57 #[.int .i64 (n : Int)] w fun e w' => e = .returned (.string ⟨(Lib.decDigits n).toArray⟩) ∧ Below w.heap.size w w' := by
  have t0 : ¬ (n : Int) < -9223372036854775807 := by omega
  have t1 : ¬ (n : Int) < 0 := by omega
  go_enter Tryd.func57, Tryd.ntmps57
  go_wp2_with fail
  go_loopw [3, 0] (fun o i wr => ∃ (j : Nat) (out : List UInt8), j ≤ n ∧ out.length + j ≤ 4 + n ∧ i = .int .i64 j ∧ o = .string ⟨out.toArray⟩ ∧ Lib.decDigits j ++ out = Lib.decDigits n ∧ Below w.heap.size w wr) (fun _ i _ => (intOf i).toNat)
  case atStart => exact ⟨n, [], Nat.le_refl _, by simp, rfl, rfl, by simp, Below.refl _ _⟩
  case round =>
    obtain ⟨j, out, hj, hl, rfl, rfl, hd, hb⟩ := hrel
    have HD := Lib.hid hd
    have HB := Lib.hid hb
    clear hd hb
    by_cases h9 : j ≤ 9
    · have hc : ((UInt8.ofNat (48 + j)).toNat : Int) = 48 + (j : Int) := by rw [UInt8.toNat_ofNat']; omega
      have kc := one_byteV (48 + (j : Int)) (UInt8.ofNat (48 + j)) hc wr
      have HV : Hid (([UInt8.ofNat (48 + j)] ++ out) = Lib.decDigits n) := Lib.hid (by
        have h := HD.out
        rw [Lib.decDigits_one (by omega)] at h
        exact h)
      have t9 : ¬ (9 : Int) < j := by omega
      clear hc
      generalize UInt8.ofNat (48 + j) = d at *
      go_wp2_with fail
      go_ret
      rw [← HV.out, ← ByteArray.mk_append_mk]
      exact ⟨rfl, HB.out.alloc HB.out.size _⟩
    · have t9 : (9 : Int) < j := by omega
      have hc : ((UInt8.ofNat (48 + j % 10)).toNat : Int) = 48 + (j : Int) % 10 := by rw [UInt8.toNat_ofNat']; omega
      have kc := one_byteV (48 + (j : Int) % 10) (UInt8.ofNat (48 + j % 10)) hc wr
      have HE : Hid (Lib.decDigits (j / 10) ++ (UInt8.ofNat (48 + j % 10) :: out) = Lib.decDigits n) := Lib.hid (by
        rw [← HD.out, Lib.decDigits.eq_def j, dif_neg (by omega), List.append_assoc]
        rfl)
      clear hc
      generalize UInt8.ofNat (48 + j % 10) = d at *
      go_wp2_with fail
      go_roundw
      case rel => exact ⟨j / 10, d :: out, by omega, by simp only [List.length_cons]; omega, by go_num, str_app [d] out, HE.out, HB.out.alloc HB.out.size _⟩
      case measure => simp [intOf]; omega
set_option maxRecDepth 100000 in
/-- spec.l1Dec. -/
theorem dec_any (n : Int) (hn : -999 ≤ n ∧ n ≤ 999) (w : World) : Calls Tryd.prog 56 #[.int .i64 n] w fun e w' => e = .returned (.string ⟨(Lib.itoa n).toArray⟩) ∧ Below w.heap.size w w' := by
  by_cases h0 : n < 0
  · obtain ⟨m, rfl⟩ : ∃ m : Nat, n = -(m : Int) := ⟨n.natAbs, by omega⟩
    have C1 := dec18_any m (by omega) w
    have HV : Hid ((⟨#[45]⟩ : ByteArray) ++ ⟨(Lib.decDigits m).toArray⟩ = ⟨(Lib.itoa (-(m : Int))).toArray⟩) := Lib.hid (by
      rw [Lib.itoa_neg m (by omega)]
      exact ByteArray.mk_append_mk [45] _)
    have hlen : (Lib.decDigits m).length ≤ 20 := by rw [Lib.decDigits_length]; exact Lib.nDigits_le20 m (by omega)
    generalize Lib.decDigits m = l at *
    have H1 := Lib.hid C1
    clear C1
    go_enter Tryd.func56, Tryd.ntmps56
    go_wp2_with fail
    refine H1.out.mono ?_
    rintro e w2 ⟨rfl, hb⟩
    have HB := Lib.hid hb
    clear hb
    go_wp2_with fail
    go_ret
    rw [← HV.out]; exact ⟨rfl, HB.out⟩
  · obtain ⟨m, rfl⟩ : ∃ m : Nat, n = (m : Int) := ⟨n.toNat, by omega⟩
    have C1 := dec18_any m (by omega) w
    have HV : Hid (Lib.itoa (m : Int) = Lib.decDigits m) := Lib.hid (Lib.itoa_nonneg m)
    have H1 := Lib.hid C1
    clear C1
    go_enter Tryd.func56, Tryd.ntmps56
    go_wp2_with fail
    refine H1.out.mono ?_
    rintro e w2 ⟨rfl, hb⟩
    have HB := Lib.hid hb
    clear hb
    go_wp2_with fail
    go_ret
    rw [HV.out]; exact ⟨rfl, HB.out⟩
end Go.Proofs.YtlapdnllncoomaaDoor

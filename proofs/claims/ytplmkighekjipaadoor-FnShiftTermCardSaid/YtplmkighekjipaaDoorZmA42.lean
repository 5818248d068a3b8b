/- impl.CompareTerms: the program's standard order, over its nodes. Condition: both terms lie in memory, the table of signs in its variable. -/
import Derived.Test.YtplmkighekjipaaDoorProg
import Derived.Test.YtplmkighekjipaaDoorZmA41
namespace Go.Proofs.YtplmkighekjipaaDoor
open Go.RowKit

/-! Which method an interface value has, and what a type assertion finds. -/
@[go_sem] theorem mth_v (d : Nat) (x : Value) (w : World) : (method (d + 3) 56 x "loop.example/prologserver/impl.rank").run Tryd.prog w = .ok (139, x) w := by kernel_rfl
@[go_sem] theorem mth_n (d : Nat) (x : Value) (w : World) : (method (d + 3) 132 x "loop.example/prologserver/impl.rank").run Tryd.prog w = .ok (142, x) w := by kernel_rfl
@[go_sem] theorem mth_s (d : Nat) (x : Value) (w : World) : (method (d + 3) 113 x "loop.example/prologserver/impl.rank").run Tryd.prog w = .ok (141, x) w := by kernel_rfl

/-- cmp.Compare at int. -/
theorem cmpInt_any (a b : Int) (w : World) : Calls Tryd.prog 81 #[.int .i64 a, .int .i64 b] w fun e w' => e = .returned (.int .i64 (lessI a b)) ∧ w = w' := by
  have ta : (a != a) = false := by simp
  have tb : (b != b) = false := by simp
  rcases Int.lt_trichotomy a b with h | h | h
  · have HV : Hid (lessI a b = -1) := Lib.hid (by unfold lessI; rw [if_pos h])
    go_enter Tryd.func81, Tryd.ntmps81
    go_wp2
    go_ret
    rw [HV.out]; exact ⟨rfl, rfl⟩
  · subst h
    have HV : Hid (lessI a a = 0) := Lib.hid (by unfold lessI; rw [if_neg (by omega), if_neg (by omega)])
    have h1 : ¬ a < a := by omega
    go_enter Tryd.func81, Tryd.ntmps81
    go_wp2
    go_ret
    rw [HV.out]; exact ⟨rfl, rfl⟩
  · have HV : Hid (lessI a b = 1) := Lib.hid (by unfold lessI; rw [if_neg (by omega), if_pos h])
    have h1 : ¬ a < b := by omega
    go_enter Tryd.func81, Tryd.ntmps81
    go_wp2
    go_ret
    rw [HV.out]; exact ⟨rfl, rfl⟩
/-- cmp.Compare at the variables. -/
theorem cmpVar_any (a b : Int) (w : World) : Calls Tryd.prog 82 #[.int .i64 a, .int .i64 b] w fun e w' => e = .returned (.int .i64 (lessI a b)) ∧ w = w' := by
  have ta : (a != a) = false := by simp
  have tb : (b != b) = false := by simp
  rcases Int.lt_trichotomy a b with h | h | h
  · have HV : Hid (lessI a b = -1) := Lib.hid (by unfold lessI; rw [if_pos h])
    go_enter Tryd.func82, Tryd.ntmps82
    go_wp2
    go_ret
    rw [HV.out]; exact ⟨rfl, rfl⟩
  · subst h
    have HV : Hid (lessI a a = 0) := Lib.hid (by unfold lessI; rw [if_neg (by omega), if_neg (by omega)])
    have h1 : ¬ a < a := by omega
    go_enter Tryd.func82, Tryd.ntmps82
    go_wp2
    go_ret
    rw [HV.out]; exact ⟨rfl, rfl⟩
  · have HV : Hid (lessI a b = 1) := Lib.hid (by unfold lessI; rw [if_neg (by omega), if_pos h])
    have h1 : ¬ a < b := by omega
    go_enter Tryd.func82, Tryd.ntmps82
    go_wp2
    go_ret
    rw [HV.out]; exact ⟨rfl, rfl⟩
/-- cmp.Compare at the numbers. -/
theorem cmpNum_any (a b : Int) (w : World) : Calls Tryd.prog 83 #[.int .i64 a, .int .i64 b] w fun e w' => e = .returned (.int .i64 (lessI a b)) ∧ w = w' := by
  have ta : (a != a) = false := by simp
  have tb : (b != b) = false := by simp
  rcases Int.lt_trichotomy a b with h | h | h
  · have HV : Hid (lessI a b = -1) := Lib.hid (by unfold lessI; rw [if_pos h])
    go_enter Tryd.func83, Tryd.ntmps83
    go_wp2
    go_ret
    rw [HV.out]; exact ⟨rfl, rfl⟩
  · subst h
    have HV : Hid (lessI a a = 0) := Lib.hid (by unfold lessI; rw [if_neg (by omega), if_neg (by omega)])
    have h1 : ¬ a < a := by omega
    go_enter Tryd.func83, Tryd.ntmps83
    go_wp2
    go_ret
    rw [HV.out]; exact ⟨rfl, rfl⟩
  · have HV : Hid (lessI a b = 1) := Lib.hid (by unfold lessI; rw [if_neg (by omega), if_pos h])
    have h1 : ¬ a < b := by omega
    go_enter Tryd.func83, Tryd.ntmps83
    go_wp2
    go_ret
    rw [HV.out]; exact ⟨rfl, rfl⟩
/-- cmp.Compare at string. -/
theorem cmpStr_any (a b : ByteArray) (w : World) : Calls Tryd.prog 97 #[.string a, .string b] w fun e w' => e = .returned (.int .i64 (lessS a b)) ∧ w = w' := by
  have ta : (!(a.toList == a.toList)) = false := by simp
  have tb : (!(b.toList == b.toList)) = false := by simp
  have ta' : (a.toList != a.toList) = false := by simp
  have tb' : (b.toList != b.toList) = false := by simp
  cases h1 : Op.bytesLess a.toList b.toList
  · cases h2 : (a.toList == b.toList)
    · have HV : Hid (lessS a b = 1) := Lib.hid (by unfold lessS; rw [h1, h2]; rfl)
      have h3 : (!Op.bytesLess a.toList b.toList && !(a.toList == b.toList)) = true := by rw [h1, h2]; rfl
      go_enter Tryd.func97, Tryd.ntmps97
      go_wp2
      go_ret
      rw [HV.out]; exact ⟨rfl, rfl⟩
    · have HV : Hid (lessS a b = 0) := Lib.hid (by unfold lessS; rw [h1, h2]; rfl)
      have h3 : (!Op.bytesLess a.toList b.toList && !(a.toList == b.toList)) = false := by rw [h1, h2]; rfl
      go_enter Tryd.func97, Tryd.ntmps97
      go_wp2
      go_ret
      rw [HV.out]; exact ⟨rfl, rfl⟩
  · have HV : Hid (lessS a b = -1) := Lib.hid (by unfold lessS; rw [h1]; rfl)
    go_enter Tryd.func97, Tryd.ntmps97
    go_wp2
    go_ret
    rw [HV.out]; exact ⟨rfl, rfl⟩
/-- The first of two numbers that is not 0. -/
def firstOf (a b : Int) : Int := if a = 0 then b else a
/-- cmp.Or of two numbers. -/
theorem or_any (a b : Int) (g : Nat) (w : World) (h0 : w.cell? ⟨g, 0, none⟩ = some (.int .i64 a)) (h1 : w.cell? ⟨g, 1, none⟩ = some (.int .i64 b)) :
    Calls Tryd.prog 96 #[.slice (some ⟨g, 0, none⟩) 2 2] w fun e w' => e = .returned (.int .i64 (firstOf a b)) ∧ w = w' := by
  go_enter Tryd.func96, Tryd.ntmps96
  go_wp2_with fail
  go_loop [8] (fun i => ∃ j : Nat, j ≤ 2 ∧ i = .int .i64 j ∧ (1 ≤ j → a = 0) ∧ (2 ≤ j → b = 0)) (fun i => 2 - (intOf i).toNat)
  case atStart => exact ⟨0, by omega, rfl, fun h => absurd h (by omega), fun h => absurd h (by omega)⟩
  case round =>
    obtain ⟨j, hj, rfl, ha, hb⟩ := hrel
    have HA := Lib.hid ha
    have HB := Lib.hid hb
    clear ha hb
    rcases (show j = 0 ∨ j = 1 ∨ j = 2 by omega) with rfl | rfl | rfl
    · by_cases h : a = 0
      · subst h
        go_wp2_with fail
        go_round
        case rel => exact ⟨1, by omega, rfl, fun _ => trivial, fun h => absurd h (by omega)⟩
        case measure => simp [intOf]
      · have HV : Hid (firstOf a b = a) := Lib.hid (by unfold firstOf; rw [if_neg h])
        have t : (a != 0) = true := by simpa using h
        clear h
        go_wp2_with fail
        go_ret
        rw [HV.out]; exact ⟨rfl, rfl⟩
    · have ha := HA.out (by omega)
      have HV : Hid (firstOf a b = b) := Lib.hid (by unfold firstOf; rw [if_pos ha])
      clear ha
      by_cases h : b = 0
      · subst h
        go_wp2_with fail
        go_round
        case rel => exact ⟨2, by omega, rfl, fun _ => HA.out (by omega), fun _ => trivial⟩
        case measure => simp [intOf]
      · have t : (b != 0) = true := by simpa using h
        clear h
        go_wp2_with fail
        go_ret
        rw [HV.out]; exact ⟨rfl, rfl⟩
    · have HV : Hid (firstOf a b = 0) := Lib.hid (by unfold firstOf; rw [if_pos (HA.out (by omega)), HB.out (by omega)])
      go_wp2_with fail
      go_ret
      rw [HV.out]; exact ⟨rfl, rfl⟩

theorem bytesLess_irrefl (l : List UInt8) : Op.bytesLess l l = false := by
  induction l with
  | nil => rfl
  | cons x xs ih => simp [Op.bytesLess, ih]
theorem lessS_zero (a b : ByteArray) : lessS a b = 0 ↔ (a.toList == b.toList) = true := by
  unfold lessS
  constructor
  · intro h
    by_cases h1 : Op.bytesLess a.toList b.toList = true
    · rw [if_pos h1] at h; omega
    · rw [if_neg h1] at h
      by_cases h2 : (a.toList == b.toList) = true
      · exact h2
      · rw [if_neg h2] at h; omega
  · intro h
    have e : a.toList = b.toList := by simpa using h
    rw [if_neg (by rw [e, bytesLess_irrefl]; simp), if_pos h]
theorem lessI_zero (a b : Int) : lessI a b = 0 ↔ a = b := by
  unfold lessI
  constructor
  · intro h
    split at h
    · omega
    · split at h <;> omega
  · rintro rfl
    rw [if_neg (by omega), if_neg (by omega)]
/-- The order of two structures, as the program finds it. -/
def cmpSt (s : ByteArray) (f : Fr) (s' : ByteArray) (g : Fr) : Int :=
  if firstOf (lessI f.len g.len) (lessS s s') = 0 then cmpF f g else firstOf (lessI f.len g.len) (lessS s s')
theorem cmpSt_eq (n : Int) (s : ByteArray) (f : Fr) (n' : Int) (s' : ByteArray) (g : Fr) : cmpT 3 n s f 3 n' s' g = cmpSt s f s' g := by
  unfold cmpT cmpH cmpSt firstOf rankT
  have hz := lessI_zero f.len g.len
  have hs := lessS_zero s s'
  by_cases h1 : f.len = g.len
  · rw [if_pos (by rw [h1]), if_pos rfl, if_pos h1]
    have e0 : lessI f.len g.len = 0 := hz.2 (by rw [h1])
    rw [if_pos e0]
    by_cases h2 : (s.toList == s'.toList) = true
    · rw [if_pos h2, if_pos (hs.2 h2)]
    · rw [if_neg h2, if_neg (fun h => h2 (hs.1 h))]
  · have e0 : lessI f.len g.len ≠ 0 := fun h => h1 (by have := hz.1 h; omega)
    rw [if_neg e0, if_neg e0]
    by_cases h3 : (if (3 : Int) = 3 ∧ 0 < f.len then (4 : Int) else 3) = if (3 : Int) = 3 ∧ 0 < g.len then 4 else 3
    · rw [if_pos h3, if_pos rfl, if_neg h1]
    · rw [if_neg h3]
      by_cases a : 0 < f.len <;> by_cases b : 0 < g.len
      · exact absurd (by rw [if_pos ⟨rfl, a⟩, if_pos ⟨rfl, b⟩]) h3
      · rw [if_pos ⟨rfl, a⟩, if_neg (fun h => b h.2)]
        unfold lessI; rw [if_neg (by omega), if_pos (by omega), if_neg (by omega), if_pos (by omega)]
      · rw [if_neg (fun h => a h.2), if_pos ⟨rfl, b⟩]
        unfold lessI; rw [if_pos (by omega), if_pos (by omega)]
      · omega

def CmV (s : ByteArray) (f : Fr) (s' : ByteArray) (g : Fr) : Prop := ∀ (k n k' n' d : Int) (v v' : Value) (lo hi lo' hi' : Nat) (w : World), shapeT k n s f d = true → shapeT k' n' s' g d = true → NdV w lo hi k n s f v → NdV w lo' hi' k' n' s' g v' → hi ≤ w.heap.size → hi' ≤ w.heap.size →
  Calls Tryd.prog 64 #[v, v'] w fun e w' => e = .returned (.int .i64 (cmpT k n s f k' n' s' g)) ∧ Below w.heap.size w w'
def CmSt (s : ByteArray) (f : Fr) (s' : ByteArray) (g : Fr) : Prop := ∀ (d : Int) (A B : Option Addr) (cap cap' lo hi lo' hi' : Nat) (w : World), shapeF f d = true → shapeF g d = true → NdS w lo hi f A cap → NdS w lo' hi' g B cap' → hi ≤ w.heap.size → hi' ≤ w.heap.size →
  Calls Tryd.prog 84 #[.agg #[.string s, .slice A f.len cap], .agg #[.string s', .slice B g.len cap']] w fun e w' => e = .returned (.int .i64 (cmpSt s f s' g)) ∧ Below w.heap.size w w'

/-! The methods rank. -/
theorem rk_v (x : Value) (w : World) : Calls Tryd.prog 139 #[x] w fun e w' => e = .returned (.int .i64 0) ∧ w = w' := by
  go_enter Tryd.func139, Tryd.ntmps139
  go_wp2_with fail
  go_ret
  exact ⟨rfl, rfl⟩
theorem rk_n (x : Value) (w : World) : Calls Tryd.prog 142 #[x] w fun e w' => e = .returned (.int .i64 1) ∧ w = w' := by
  go_enter Tryd.func142, Tryd.ntmps142
  go_wp2_with fail
  go_ret
  exact ⟨rfl, rfl⟩
theorem rk_s (s : ByteArray) (A : Option Addr) (len cap : Nat) (w : World) : Calls Tryd.prog 141 #[.agg #[.string s, .slice A len cap]] w fun e w' => e = .returned (.int .i64 2) ∧ Below w.heap.size w w' := by
  go_enter Tryd.func141, Tryd.ntmps141
  go_wp2_with fail
  go_ret
  exact ⟨rfl, by repeat (first | exact Below.refl _ _ | exact (Below.refl _ _).alloc (Nat.le_refl _) _)⟩
theorem cmpT_lt (k n : Int) (s : ByteArray) (f : Fr) (k' n' : Int) (s' : ByteArray) (g : Fr) (h : k < k') (h3 : k ≠ 3) : cmpT k n s f k' n' s' g = -1 := by
  have e : rankT k f.len = k := by unfold rankT; rw [if_neg (fun h => h3 h.1)]
  have e' : k < rankT k' g.len := by unfold rankT; split <;> omega
  unfold cmpT cmpH
  rw [e, if_neg (by omega)]
  unfold lessI; rw [if_pos e']
theorem cmpT_gt (k n : Int) (s : ByteArray) (f : Fr) (k' n' : Int) (s' : ByteArray) (g : Fr) (h : k' < k) (h3 : k' ≠ 3) : cmpT k n s f k' n' s' g = 1 := by
  have e : rankT k' g.len = k' := by unfold rankT; rw [if_neg (fun h => h3 h.1)]
  have e' : k' < rankT k f.len := by unfold rankT; split <;> omega
  unfold cmpT cmpH
  rw [e, if_neg (by omega)]
  unfold lessI; rw [if_neg (by omega), if_pos e']

set_option maxRecDepth 100000 in
set_option maxHeartbeats 4000000 in
theorem cmV_of (s : ByteArray) (f : Fr) (s' : ByteArray) (g : Fr) (h : CmSt s f s' g) : CmV s f s' g := by
  intro k n k' n' d v v' lo hi lo' hi' w hs hs' hv hv' hh hh'
  have HS := Lib.hid (shapeT_kids hs)
  have HS' := Lib.hid (shapeT_kids hs')
  have HH := Lib.hid h
  clear hs hs' h
  rcases hv with ⟨rfl, rfl⟩ | ⟨rfl, rfl⟩ | ⟨rfl, A, cap, rfl, hk⟩ <;> rcases hv' with ⟨rfl, rfl⟩ | ⟨rfl, rfl⟩ | ⟨rfl, B, cap', rfl, hk'⟩
  · have HV : Hid (cmpT 1 n s f 1 n' s' g = lessI n n') := Lib.hid (by unfold cmpT cmpH rankT; simp)
    have C0 := fun w => cmpInt_any 0 0 w
    rw [show lessI 0 0 = 0 by rfl] at C0
    have H0 := Lib.hid C0
    clear C0
    go_enter Tryd.func64, Tryd.ntmps64
    go_wp2_with fail
    refine (rk_v _ _).mono ?_
    rintro e w' ⟨rfl, rfl⟩
    go_wp2_with fail
    refine (rk_v _ _).mono ?_
    rintro e w' ⟨rfl, rfl⟩
    go_wp2_with fail
    refine (H0.out _).mono ?_
    rintro e w' ⟨rfl, rfl⟩
    go_wp2_with fail
    refine (cmpVar_any _ _ _).mono ?_
    rintro e w' ⟨rfl, rfl⟩
    go_wp2_with fail
    go_ret
    rw [HV.out]
    exact ⟨rfl, Below.refl _ _⟩
  · have HV : Hid (cmpT 1 n s f 2 n' s' g = -1) := Lib.hid (cmpT_lt _ _ _ _ _ _ _ _ (by omega) (by omega))
    have C0 := fun w => cmpInt_any 0 1 w
    rw [show lessI 0 1 = -1 by rfl] at C0
    have H0 := Lib.hid C0
    clear C0
    go_enter Tryd.func64, Tryd.ntmps64
    go_wp2_with fail
    refine (rk_v _ _).mono ?_
    rintro e w' ⟨rfl, rfl⟩
    go_wp2_with fail
    refine (rk_n _ _).mono ?_
    rintro e w' ⟨rfl, rfl⟩
    go_wp2_with fail
    refine (H0.out _).mono ?_
    rintro e w' ⟨rfl, rfl⟩
    go_wp2_with fail
    go_ret
    rw [HV.out]
    exact ⟨rfl, Below.refl _ _⟩
  · have HV : Hid (cmpT 1 n s f 3 n' s' g = -1) := Lib.hid (cmpT_lt _ _ _ _ _ _ _ _ (by omega) (by omega))
    have C0 := fun w => cmpInt_any 0 2 w
    rw [show lessI 0 2 = -1 by rfl] at C0
    have H0 := Lib.hid C0
    clear C0
    go_enter Tryd.func64, Tryd.ntmps64
    go_wp2_with fail
    refine (rk_v _ _).mono ?_
    rintro e w' ⟨rfl, rfl⟩
    go_wp2_with fail
    refine (rk_s _ _ _ _ _).mono ?_
    rintro e w2 ⟨rfl, hbs⟩
    have HBS := Lib.hid hbs
    clear hbs
    go_wp2_with fail
    refine (H0.out _).mono ?_
    rintro e w' ⟨rfl, rfl⟩
    go_wp2_with fail
    go_ret
    rw [HV.out]
    exact ⟨rfl, HBS.out⟩
  · have HV : Hid (cmpT 2 n s f 1 n' s' g = 1) := Lib.hid (cmpT_gt _ _ _ _ _ _ _ _ (by omega) (by omega))
    have C0 := fun w => cmpInt_any 1 0 w
    rw [show lessI 1 0 = 1 by rfl] at C0
    have H0 := Lib.hid C0
    clear C0
    go_enter Tryd.func64, Tryd.ntmps64
    go_wp2_with fail
    refine (rk_n _ _).mono ?_
    rintro e w' ⟨rfl, rfl⟩
    go_wp2_with fail
    refine (rk_v _ _).mono ?_
    rintro e w' ⟨rfl, rfl⟩
    go_wp2_with fail
    refine (H0.out _).mono ?_
    rintro e w' ⟨rfl, rfl⟩
    go_wp2_with fail
    go_ret
    rw [HV.out]
    exact ⟨rfl, Below.refl _ _⟩
  · have HV : Hid (cmpT 2 n s f 2 n' s' g = lessI n n') := Lib.hid (by unfold cmpT cmpH rankT; simp)
    have C0 := fun w => cmpInt_any 1 1 w
    rw [show lessI 1 1 = 0 by rfl] at C0
    have H0 := Lib.hid C0
    clear C0
    go_enter Tryd.func64, Tryd.ntmps64
    go_wp2_with fail
    refine (rk_n _ _).mono ?_
    rintro e w' ⟨rfl, rfl⟩
    go_wp2_with fail
    refine (rk_n _ _).mono ?_
    rintro e w' ⟨rfl, rfl⟩
    go_wp2_with fail
    refine (H0.out _).mono ?_
    rintro e w' ⟨rfl, rfl⟩
    go_wp2_with fail
    refine (cmpNum_any _ _ _).mono ?_
    rintro e w' ⟨rfl, rfl⟩
    go_wp2_with fail
    go_ret
    rw [HV.out]
    exact ⟨rfl, Below.refl _ _⟩
  · have HV : Hid (cmpT 2 n s f 3 n' s' g = -1) := Lib.hid (cmpT_lt _ _ _ _ _ _ _ _ (by omega) (by omega))
    have C0 := fun w => cmpInt_any 1 2 w
    rw [show lessI 1 2 = -1 by rfl] at C0
    have H0 := Lib.hid C0
    clear C0
    go_enter Tryd.func64, Tryd.ntmps64
    go_wp2_with fail
    refine (rk_n _ _).mono ?_
    rintro e w' ⟨rfl, rfl⟩
    go_wp2_with fail
    refine (rk_s _ _ _ _ _).mono ?_
    rintro e w2 ⟨rfl, hbs⟩
    have HBS := Lib.hid hbs
    clear hbs
    go_wp2_with fail
    refine (H0.out _).mono ?_
    rintro e w' ⟨rfl, rfl⟩
    go_wp2_with fail
    go_ret
    rw [HV.out]
    exact ⟨rfl, HBS.out⟩
  · have HV : Hid (cmpT 3 n s f 1 n' s' g = 1) := Lib.hid (cmpT_gt _ _ _ _ _ _ _ _ (by omega) (by omega))
    have C0 := fun w => cmpInt_any 2 0 w
    rw [show lessI 2 0 = 1 by rfl] at C0
    have H0 := Lib.hid C0
    clear C0
    go_enter Tryd.func64, Tryd.ntmps64
    go_wp2_with fail
    refine (rk_s _ _ _ _ _).mono ?_
    rintro e w2 ⟨rfl, hbs⟩
    have HBS := Lib.hid hbs
    clear hbs
    go_wp2_with fail
    refine (rk_v _ _).mono ?_
    rintro e w' ⟨rfl, rfl⟩
    go_wp2_with fail
    refine (H0.out _).mono ?_
    rintro e w' ⟨rfl, rfl⟩
    go_wp2_with fail
    go_ret
    rw [HV.out]
    exact ⟨rfl, HBS.out⟩
  · have HV : Hid (cmpT 3 n s f 2 n' s' g = 1) := Lib.hid (cmpT_gt _ _ _ _ _ _ _ _ (by omega) (by omega))
    have C0 := fun w => cmpInt_any 2 1 w
    rw [show lessI 2 1 = 1 by rfl] at C0
    have H0 := Lib.hid C0
    clear C0
    go_enter Tryd.func64, Tryd.ntmps64
    go_wp2_with fail
    refine (rk_s _ _ _ _ _).mono ?_
    rintro e w2 ⟨rfl, hbs⟩
    have HBS := Lib.hid hbs
    clear hbs
    go_wp2_with fail
    refine (rk_n _ _).mono ?_
    rintro e w' ⟨rfl, rfl⟩
    go_wp2_with fail
    refine (H0.out _).mono ?_
    rintro e w' ⟨rfl, rfl⟩
    go_wp2_with fail
    go_ret
    rw [HV.out]
    exact ⟨rfl, HBS.out⟩
  · have HV : Hid (cmpT 3 n s f 3 n' s' g = cmpSt s f s' g) := Lib.hid (cmpSt_eq _ _ _ _ _ _)
    have C0 := fun w => cmpInt_any 2 2 w
    rw [show lessI 2 2 = 0 by rfl] at C0
    have C1 := fun w1 (hb : Below w.heap.size w w1) => HH.out (d - 1) A B cap cap' lo hi lo' hi' w1 HS.out HS'.out (hk.keep (fun p _ hp => hb.cell (by omega)) (Nat.le_refl _) (Nat.le_refl _)) (hk'.keep (fun p _ hp => hb.cell (by omega)) (Nat.le_refl _) (Nat.le_refl _)) (Nat.le_trans hh hb.size) (Nat.le_trans hh' hb.size)
    have H0 := Lib.hid C0
    have H1 := Lib.hid C1
    clear C0 C1 hk hk'
    go_enter Tryd.func64, Tryd.ntmps64
    go_wp2_with fail
    refine (rk_s _ _ _ _ _).mono ?_
    rintro e w2 ⟨rfl, hb2⟩
    have HB2 := Lib.hid hb2
    clear hb2
    go_wp2_with fail
    refine (rk_s _ _ _ _ _).mono ?_
    rintro e w3 ⟨rfl, hb3⟩
    have HB3 := Lib.hid (HB2.out.trans (hb3.mono HB2.out.size))
    clear hb3
    go_wp2_with fail
    refine (H0.out _).mono ?_
    rintro e w' ⟨rfl, rfl⟩
    go_wp2_with fail
    have hq := Blk.new w3 113 #[.string s, .slice A f.len cap]
    have e0 := hq.cell 0
    have e1 := hq.cell 1
    simp only [List.getElem?_toArray, List.getElem?_cons_zero, List.getElem?_cons_succ] at e0 e1
    have hb4 : Below w.heap.size w (w3.alloc (.cells #[.string s, .slice A f.len cap] 113)) := HB3.out.trans ((Below.refl _ _).alloc HB3.out.size _)
    clear hq
    generalize w3.alloc (.cells #[.string s, .slice A f.len cap] 113) = w4 at *
    have HB4 := Lib.hid hb4
    clear hb4
    go_still_tail 3, (by kernel_rfl)
    change wpList _ _ _ _ _ w4.drew
    have hbd : Below w.heap.size w w4.drew := HB4.out.drew
    generalize w4.drew = w6 at hbd ⊢
    clear e0 e1
    have HD := Lib.hid hbd
    clear hbd
    go_wp2_with fail
    refine (H1.out _ HD.out).mono ?_
    rintro e w5 ⟨rfl, hb5⟩
    have HB5 := Lib.hid (HD.out.trans (hb5.mono HD.out.size))
    clear hb5
    go_wp2_with fail
    go_ret
    rw [HV.out]
    exact ⟨rfl, HB5.out⟩

end Go.Proofs.YtplmkighekjipaaDoor

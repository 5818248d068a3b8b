/- impl.TermSame of a term and the term itself: true. Condition: the term's row lies in memory. -/
import Derived.Test.YtkgihpddjppmdaaDoorProg
import Derived.Test.YtkgihpddjppmdaaDoorZmAB47
import Derived.Test.YtkgihpddjppmdaaDoorSpecC
import Derived.Test.YtkgihpddjppmdaaDoorImplV
import Derived.WalkLawsBesides
import Derived.Deep.RegionHeld3
import Derived.StillTailTactics
import Derived.Test.YtkgihpddjppmdaaDoorAs
namespace Go.Proofs.YtkgihpddjppmdaaDoor
open Go.RowKit Go.ChangeMaps Go.MapKept

theorem kp_eqs (p : Addr) (w : World) : (binOp .eql 57 (.pointer (some p)) (.pointer (some p))).run Tryd.prog w = .ok (.bool true) w := by
  have hi : (Tryd.prog.info? 25).map (fun i => i.size) = some 4 := by kernel_rfl
  obtain ⟨j, hj, _⟩ := Option.map_eq_some_iff.1 hi
  have e : ∀ x y, Op.equal 57 x y = Op.equalIn (9999 + 1) 57 x y := fun _ _ => rfl
  have h : (Op.equalIn (9999 + 1) 57 (.pointer (some p)) (.pointer (some p))).run Tryd.prog w = .ok true w := by
    generalize 9999 = d
    simp [Op.equalIn, run_underlying Tryd.underlying57, sizeOf, typeInfo, hj, run_sameAddr_same]
  simp only [binOp]
  simp [e, h]
/-- The stack of one pair, or of none. -/
def SlP (w : World) (G : Nat) (cs : Array Value) (v : Value) (m cp : Nat) (wr : World) : Prop :=
  (v = .slice (some ⟨G, 0, none⟩) m cp ∧ m ≤ cp ∧ cp ≤ 1048601) ∧ m ≤ 1 ∧ Blk wr G 55 cs ∧ Below w.heap.size w wr ∧ w.heap.size < G
theorem SlP.pop {w wr wc : World} {G m cp : Nat} {cs : Array Value} {v : Value} (h : SlP w G cs v (m + 1) cp wr) (hb : Below wr.heap.size wr wc) : SlP w G cs (.slice (some ⟨G, 0, none⟩) m cp) m cp wc :=
  ⟨⟨rfl, by have := h.1.2.1; omega, h.1.2.2⟩, by have := h.2.1; omega, h.2.2.1.below hb h.2.2.1.lt, h.2.2.2.1.trans (hb.mono h.2.2.2.1.size), h.2.2.2.2⟩

set_option maxRecDepth 100000 in
set_option maxHeartbeats 4000000 in
theorem self_any (k n : Int) (s : ByteArray) (f : Fr) (A : Option Addr) (cap : Nat) (L : List Nat) (w : World) (ho : OwnS w f A cap L) :
    Calls Tryd.prog 7 #[.agg #[.int .i64 k, .int .i64 n, .string s, .slice A f.len cap], .agg #[.int .i64 k, .int .i64 n, .string s, .slice A f.len cap]] w fun e w' => e = .returned (.bool true) ∧ Below w.heap.size w w' := by
  have hmm := @run_makeMap Tryd.prog
  have hA : f.len = 0 ∨ 0 < f.len ∧ f.len ≤ cap ∧ cap ≤ maxLen ∧ ∃ b, A = some ⟨b, 0, none⟩ := by
    obtain ⟨h1, h2, ⟨h3, _⟩ | ⟨b, L', cs, rfl, _⟩⟩ := ho
    · exact .inl h3
    · by_cases h0 : f.len = 0
      · exact .inl h0
      · exact .inr ⟨by omega, h1, h2, b, rfl⟩
  have hst : ∀ W, W = (((w.alloc (.cells #[.int .i64 k, .int .i64 n, .string s, .slice A f.len cap] 25)).alloc (.cells #[.int .i64 k, .int .i64 n, .string s, .slice A f.len cap] 25)).alloc (.map #[] 0)) →
      SlP w (w.heap.size + 1 + 1 + 1) #[.int .i64 k, .int .i64 n, .string s, .slice A f.len cap, .int .i64 k, .int .i64 n, .string s, .slice A f.len cap] (.slice (some ⟨w.heap.size + 1 + 1 + 1, 0, none⟩) 1 1) 1 1 (W.alloc (.cells #[.int .i64 k, .int .i64 n, .string s, .slice A f.len cap, .int .i64 k, .int .i64 n, .string s, .slice A f.len cap] 55)) := by
    rintro W rfl
    have hb2 := two_alloc w (.cells #[.int .i64 k, .int .i64 n, .string s, .slice A f.len cap] 25) (.cells #[.int .i64 k, .int .i64 n, .string s, .slice A f.len cap] 25)
    have hs2 : ((w.alloc (.cells #[.int .i64 k, .int .i64 n, .string s, .slice A f.len cap] 25)).alloc (.cells #[.int .i64 k, .int .i64 n, .string s, .slice A f.len cap] 25)).heap.size = w.heap.size + 1 + 1 := by simp
    generalize ((w.alloc (.cells #[.int .i64 k, .int .i64 n, .string s, .slice A f.len cap] 25)).alloc (.cells #[.int .i64 k, .int .i64 n, .string s, .slice A f.len cap] 25)) = w2 at *
    have hs3 : (w2.alloc (.map #[] 0)).heap.size = w.heap.size + 1 + 1 + 1 := by simp [hs2]
    have hb3 := (hb2.alloc hb2.size (.map #[] 0)).alloc (by rw [hs3]; omega) (.cells #[.int .i64 k, .int .i64 n, .string s, .slice A f.len cap, .int .i64 k, .int .i64 n, .string s, .slice A f.len cap] 55)
    have hq := Blk.new (w2.alloc (.map #[] 0)) 55 #[.int .i64 k, .int .i64 n, .string s, .slice A f.len cap, .int .i64 k, .int .i64 n, .string s, .slice A f.len cap]
    rw [hs3] at hq
    exact ⟨⟨rfl, Nat.le_refl _, by omega⟩, Nat.le_refl _, hq, hb3, by omega⟩
  have HST := Lib.hid (hst _ rfl)
  clear hst ho
  have tk : (k != k) = false := by simp
  have tn : (n != n) = false := by simp
  have ts : (s.toList != s.toList) = false := by simp
  have tl : ((f.len : Int) != (f.len : Int)) = false := by simp
  have ts2 : (!(s.toList == s.toList)) = false := by simp
  generalize f.len = l at *
  have HA := Lib.hid hA
  clear hA
  generalize hG : w.heap.size + 1 + 1 + 1 = G at *
  go_enter Tryd.func7, Tryd.ntmps7
  go_wp2_with fail
  clear hG
  go_loopw [6] (fun v wr => ∃ (m cp : Nat), SlP w G #[.int .i64 k, .int .i64 n, .string s, .slice A l cap, .int .i64 k, .int .i64 n, .string s, .slice A l cap] v m cp wr) (fun v _ => lenV v)
  case atStart => exact ⟨1, 1, HST.out⟩
  case round =>
    obtain ⟨m, cp, hp⟩ := hrel
    cases m with
    | zero =>
      have HB := Lib.hid hp.2.2.2.1
      obtain ⟨⟨rfl, -⟩, -⟩ := hp
      go_wp2_with fail
      go_ret
      exact ⟨rfl, HB.out⟩
    | succ m =>
      have hm := hp.2.1
      have hz : m = 0 := by omega
      have HP := Lib.hid hp
      have hq := hp.2.2.1
      have hgl := hq.lt
      have c0 : wr.cell? ⟨G, m * 8, none⟩ = some (.int .i64 k) := by rw [hz]; exact hq.cell 0
      have c1 : wr.cell? ⟨G, m * 8 + 1, none⟩ = some (.int .i64 n) := by rw [hz]; exact hq.cell 1
      have c2 : wr.cell? ⟨G, m * 8 + 2, none⟩ = some (.string s) := by rw [hz]; exact hq.cell 2
      have c3 : wr.cell? ⟨G, m * 8 + 3, none⟩ = some (.slice A l cap) := by rw [hz]; exact hq.cell 3
      have c4 : wr.cell? ⟨G, m * 8 + 4, none⟩ = some (.int .i64 k) := by rw [hz]; exact hq.cell 4
      have c5 : wr.cell? ⟨G, m * 8 + 5, none⟩ = some (.int .i64 n) := by rw [hz]; exact hq.cell 5
      have c6 : wr.cell? ⟨G, m * 8 + 6, none⟩ = some (.string s) := by rw [hz]; exact hq.cell 6
      have c7 : wr.cell? ⟨G, m * 8 + 7, none⟩ = some (.slice A l cap) := by rw [hz]; exact hq.cell 7
      have hc1 := hp.1.2.1
      have hc2 := hp.1.2.2
      obtain ⟨⟨rfl, -⟩, -⟩ := hp
      have im0 : (0 : Int) ≤ (m : Int) := Int.natCast_nonneg _
      have im1 : (m : Int) < (m : Int) + 1 := by omega
      have em : ((m + 1 : Nat) : Int) - 1 = (m : Int) := by omega
      have em2 : ((m : Int) + 1) - 1 = (m : Int) := by omega
      clear hq hz hm
      go_wp2_with fail
      go_cut [7, 8] (fun u u' wx => ∃ hx hy : Nat, u = .pointer (some ⟨hx, 0, none⟩) ∧ u' = .pointer (some ⟨hy, 0, none⟩) ∧ Blk wx hx 25 #[.int .i64 k, .int .i64 n, .string s, .slice A l cap] ∧ Blk wx hy 25 #[.int .i64 k, .int .i64 n, .string s, .slice A l cap] ∧ Below wr.heap.size wr wx)
      case first =>
        clear tk tn ts tl ts2
        go_region
        all_goals
          go_wp2_with fail
          go_meet
        all_goals
          have tb := boxes wr #[.int .i64 k, .int .i64 n, .string s, .slice A l cap] #[.int .i64 k, .int .i64 n, .string s, .slice A l cap]
          first
            | with_reducible exact ⟨_, _, rfl, rfl, tb.1, tb.2.1, tb.2.2⟩
            | with_reducible exact ⟨_, _, rfl, rfl, tb.2.1, tb.1, tb.2.2⟩
            | fail
      case rest =>
        obtain ⟨hx, hy, rfl, rfl, bx, bY, hb⟩ := hcut
        obtain ⟨a0, a1, a2, a3⟩ := cells4i bx
        obtain ⟨b0, b1, b2, b3⟩ := cells4i bY
        have HPOP := Lib.hid (HP.out.pop hb)
        have HX := Lib.hid bx
        have HY := Lib.hid bY
        have hxl := HX.out.lt
        have hyl := HY.out.lt
        clear hb bx bY c0 c1 c2 c3 c4 c5 c6 c7
        rcases HA.out with hl | ⟨hl, hc, hmx, b, rfl⟩
        · have t6 : ((l : Int) == 0) = true := by rw [hl]; rfl
          clear hl
          go_wp2_with fail
          go_roundw
          case rel => exact ⟨m, cp, HPOP.out⟩
          case measure => simp only [lenV]; omega
        · have t6 : ((l : Int) == 0) = false := by rw [beq_eq_false_iff_ne]; omega
          have im : (0 : Int) < (l : Int) := by omega
          generalize wc = wq at *
          go_wp2_with fail
          go_cut [9] (fun u wx => ∃ hq : Nat, u = .pointer (some ⟨hq, 0, none⟩) ∧ Blk wx hq 59 #[.pointer (some ⟨b, 0, none⟩), .pointer (some ⟨b, 0, none⟩), .int .i64 (l : Int)] ∧ Below wq.heap.size wq wx)
          case first =>
            go_region
            all_goals
              go_wp2_with fail
              go_meet
            all_goals first
              | (have tb := Blk.new wq 59 #[.pointer (some ⟨b, 0, none⟩), .pointer (some ⟨b, 0, none⟩), .int .i64 (l : Int)]
                 exact ⟨_, rfl, tb, ((Below.refl wq.heap.size wq).alloc (Nat.le_refl _) _).drew⟩)
              | fail
          case rest =>
            obtain ⟨hq, rfl, bq, hbq⟩ := hcut
            have p0 := bq.cell 0
            have p1 := bq.cell 1
            have p2 := bq.cell 2
            simp only [List.getElem?_toArray, List.getElem?_cons_zero, List.getElem?_cons_succ] at p0 p1 p2
            have q1 := kp_eqs ⟨b, 0, none⟩ wc
            have HB2 := Lib.hid hbq
            clear bq hbq
            go_wp2_with fail
            go_roundw
            case rel =>
              have h := HPOP.out
              exact ⟨m, cp, h.1, h.2.1, h.2.2.1.below HB2.out h.2.2.1.lt, h.2.2.2.1.trans (HB2.out.mono h.2.2.2.1.size), h.2.2.2.2⟩
            case measure => simp only [lenV]; omega
/-- impl.TermSame at terms of blocks of their own. -/
theorem tsame_own2 (k n : Int) (s : ByteArray) (f : Fr) (A : Option Addr) (cap : Nat) (k' n' : Int) (s' : ByteArray) (g : Fr) (B : Option Addr) (cap' : Nat) (L M : List Nat) (w : World) (ho : OwnS w f A cap L) (ho' : OwnS w g B cap' M) (hn : (L ++ M).Nodup) (hM : nodes f ≤ 1048576) :
    Calls Tryd.prog 7 #[.agg #[.int .i64 k, .int .i64 n, .string s, .slice A f.len cap], .agg #[.int .i64 k', .int .i64 n', .string s', .slice B g.len cap']] w fun e w' => e = .returned (.bool (eqT k n s f k' n' s' g)) ∧ Below w.heap.size w w' :=
  same_any ⟨k, n, s, f, A, cap, L, k', n', s', g, B, cap', M⟩ w ⟨ho, ho'⟩ hn (fun y hy => by
    rcases List.mem_append.1 hy with h | h
    · exact ho.lt y h
    · exact ho'.lt y h) (by show nodes f ≤ _; omega)
end Go.Proofs.YtkgihpddjppmdaaDoor

/- spec.CompareTerms: the model's standard order. Condition: both terms lie in memory. -/
namespace Go.Proofs.YtkgihpddjppmdaaDoor
open Go.RowKit

def lessI (a b : Int) : Int := if a < b then -1 else if b < a then 1 else 0
def lessS (a b : ByteArray) : Int := if Op.bytesLess a.toList b.toList = true then -1 else if (a.toList == b.toList) = true then 0 else 1
def rankT (k : Int) (len : Nat) : Int := if k = 3 ∧ 0 < len then 4 else k
/-- The order of two terms, their arguments being in the order c. -/
def cmpH (k n : Int) (s : ByteArray) (len : Nat) (k' n' : Int) (s' : ByteArray) (len' : Nat) (c : Int) : Int :=
  if rankT k len = rankT k' len' then (if k = 3 then (if len = len' then (if (s.toList == s'.toList) = true then c else lessS s s') else lessI len len') else lessI n n') else lessI (rankT k len) (rankT k' len')
def cmpF : Fr → Fr → Int
  | .cons k n s kids rest, .cons k' n' s' kids' rest' => if cmpH k n s kids.len k' n' s' kids'.len (cmpF kids kids') = 0 then cmpF rest rest' else cmpH k n s kids.len k' n' s' kids'.len (cmpF kids kids')
  | _, _ => 0
def cmpT (k n : Int) (s : ByteArray) (f : Fr) (k' n' : Int) (s' : ByteArray) (g : Fr) : Int := cmpH k n s f.len k' n' s' g.len (cmpF f g)
theorem lessI_range (a b : Int) : -1 ≤ lessI a b ∧ lessI a b ≤ 1 := by unfold lessI; split <;> (try split) <;> omega
theorem lessS_range (a b : ByteArray) : -1 ≤ lessS a b ∧ lessS a b ≤ 1 := by unfold lessS; split <;> (try split) <;> omega
theorem cmpH_range (k n : Int) (s : ByteArray) (len : Nat) (k' n' : Int) (s' : ByteArray) (len' : Nat) (c : Int) (h : -1 ≤ c ∧ c ≤ 1) : -1 ≤ cmpH k n s len k' n' s' len' c ∧ cmpH k n s len k' n' s' len' c ≤ 1 := by
  unfold cmpH
  repeat' split
  · exact h
  · exact lessS_range _ _
  · exact lessI_range _ _
  · exact lessI_range _ _
  · exact lessI_range _ _
theorem cmpF_range (f : Fr) : ∀ g, -1 ≤ cmpF f g ∧ cmpF f g ≤ 1 := by
  induction f with
  | nil => intro g; simp only [cmpF]; omega
  | cons k n s kids rest ihk ihr =>
    intro g
    cases g with
    | nil => simp only [cmpF]; omega
    | cons k' n' s' kids' rest' =>
      simp only [cmpF]
      split
      · exact ihr rest'
      · exact cmpH_range _ _ _ _ _ _ _ _ _ (ihk kids')
theorem cmpF_cons (k n : Int) (s : ByteArray) (kids rest : Fr) (k' n' : Int) (s' : ByteArray) (kids' rest' : Fr) :
    cmpF (.cons k n s kids rest) (.cons k' n' s' kids' rest') = if cmpT k n s kids k' n' s' kids' = 0 then cmpF rest rest' else cmpT k n s kids k' n' s' kids' := rfl

/-- The boxes of two arguments, read in a later world. -/
theorem box8 {w w' : World} {t : TypeId} {a b c d a' b' c' d' : Value} (hb : Below (w.heap.size + 2) ((w.alloc (.cells #[a, b, c, d] t)).alloc (.cells #[a', b', c', d'] t)) w') :
    w'.cell? ⟨w.heap.size, 0, none⟩ = some a ∧ w'.cell? ⟨w.heap.size, 1, none⟩ = some b ∧ w'.cell? ⟨w.heap.size, 2, none⟩ = some c ∧ w'.cell? ⟨w.heap.size, 3, none⟩ = some d ∧
      w'.cell? ⟨w.heap.size + 1, 0, none⟩ = some a' ∧ w'.cell? ⟨w.heap.size + 1, 1, none⟩ = some b' ∧ w'.cell? ⟨w.heap.size + 1, 2, none⟩ = some c' ∧ w'.cell? ⟨w.heap.size + 1, 3, none⟩ = some d' := by
  have h1 := cells4 (((Blk.new w t #[a, b, c, d]).alloc (.cells #[a', b', c', d'] t)).below hb (by omega))
  have h0 := Blk.new (w.alloc (.cells #[a, b, c, d] t)) t #[a', b', c', d']
  rw [show (w.alloc (.cells #[a, b, c, d] t)).heap.size = w.heap.size + 1 by simp] at h0
  have h2 := cells4 (h0.below hb (by omega))
  exact ⟨h1.1, h1.2.1, h1.2.2.1, h1.2.2.2, h2.1, h2.2.1, h2.2.2.1, h2.2.2.2⟩

theorem boxA {w w' : World} {t : TypeId} {a b c d a' b' c' d' : Value} (hb : Below (w.heap.size + 2) ((w.alloc (.cells #[a, b, c, d] t)).alloc (.cells #[a', b', c', d'] t)) w') : w'.cell? ⟨w.heap.size, 3, none⟩ = some d := (box8 hb).2.2.2.1
theorem boxB {w w' : World} {t : TypeId} {a b c d a' b' c' d' : Value} (hb : Below (w.heap.size + 2) ((w.alloc (.cells #[a, b, c, d] t)).alloc (.cells #[a', b', c', d'] t)) w') : w'.cell? ⟨w.heap.size + 1, 3, none⟩ = some d' := (box8 hb).2.2.2.2.2.2.2

end Go.Proofs.YtkgihpddjppmdaaDoor

/- impl.countNodes, impl.CountNodes, spec.CountNodes. Condition: the term lies in memory, the table of signs in its variable. -/
namespace Go.Proofs.YtkgihpddjppmdaaDoor
open Go.RowKit


/-- What CountNodes answers. -/
def countT (k n : Int) (s : ByteArray) (f : Fr) : Int := if validT k n s f = true then 1 + nodes f else 0

end Go.Proofs.YtkgihpddjppmdaaDoor

/- impl.CompareTerms: the program's standard order, over its nodes. Condition: both terms lie in memory, the table of signs in its variable. -/
namespace Go.Proofs.YtkgihpddjppmdaaDoor
open Go.RowKit

/-! Which method an interface value has, and what a type assertion finds. -/
@[go_sem] theorem mth_v (d : Nat) (x : Value) (w : World) : (method (d + 3) 48 x "loop.example/prologserver/impl.rank").run Tryd.prog w = .ok (80, x) w := by kernel_rfl
@[go_sem] theorem mth_n (d : Nat) (x : Value) (w : World) : (method (d + 3) 93 x "loop.example/prologserver/impl.rank").run Tryd.prog w = .ok (83, x) w := by kernel_rfl
@[go_sem] theorem mth_s (d : Nat) (x : Value) (w : World) : (method (d + 3) 84 x "loop.example/prologserver/impl.rank").run Tryd.prog w = .ok (82, x) w := by kernel_rfl

/-- cmp.Compare at int. -/
theorem cmpInt_any (a b : Int) (w : World) : Calls Tryd.prog 47 #[.int .i64 a, .int .i64 b] w fun e w' => e = .returned (.int .i64 (lessI a b)) ∧ w = w' := by
  have ta : (a != a) = false := by simp
  have tb : (b != b) = false := by simp
  rcases Int.lt_trichotomy a b with h | h | h
  · have HV : Hid (lessI a b = -1) := Lib.hid (by unfold lessI; rw [if_pos h])
    go_enter Tryd.func47, Tryd.ntmps47
    go_wp2
    go_ret
    rw [HV.out]; exact ⟨rfl, rfl⟩
  · subst h
    have HV : Hid (lessI a a = 0) := Lib.hid (by unfold lessI; rw [if_neg (by omega), if_neg (by omega)])
    have h1 : ¬ a < a := by omega
    go_enter Tryd.func47, Tryd.ntmps47
    go_wp2
    go_ret
    rw [HV.out]; exact ⟨rfl, rfl⟩
  · have HV : Hid (lessI a b = 1) := Lib.hid (by unfold lessI; rw [if_neg (by omega), if_pos h])
    have h1 : ¬ a < b := by omega
    go_enter Tryd.func47, Tryd.ntmps47
    go_wp2
    go_ret
    rw [HV.out]; exact ⟨rfl, rfl⟩
/-- cmp.Compare at the variables. -/
theorem cmpVar_any (a b : Int) (w : World) : Calls Tryd.prog 48 #[.int .i64 a, .int .i64 b] w fun e w' => e = .returned (.int .i64 (lessI a b)) ∧ w = w' := by
  have ta : (a != a) = false := by simp
  have tb : (b != b) = false := by simp
  rcases Int.lt_trichotomy a b with h | h | h
  · have HV : Hid (lessI a b = -1) := Lib.hid (by unfold lessI; rw [if_pos h])
    go_enter Tryd.func48, Tryd.ntmps48
    go_wp2
    go_ret
    rw [HV.out]; exact ⟨rfl, rfl⟩
  · subst h
    have HV : Hid (lessI a a = 0) := Lib.hid (by unfold lessI; rw [if_neg (by omega), if_neg (by omega)])
    have h1 : ¬ a < a := by omega
    go_enter Tryd.func48, Tryd.ntmps48
    go_wp2
    go_ret
    rw [HV.out]; exact ⟨rfl, rfl⟩
  · have HV : Hid (lessI a b = 1) := Lib.hid (by unfold lessI; rw [if_neg (by omega), if_pos h])
    have h1 : ¬ a < b := by omega
    go_enter Tryd.func48, Tryd.ntmps48
    go_wp2
    go_ret
    rw [HV.out]; exact ⟨rfl, rfl⟩
/-- cmp.Compare at the numbers. -/
theorem cmpNum_any (a b : Int) (w : World) : Calls Tryd.prog 49 #[.int .i64 a, .int .i64 b] w fun e w' => e = .returned (.int .i64 (lessI a b)) ∧ w = w' := by
  have ta : (a != a) = false := by simp
  have tb : (b != b) = false := by simp
  rcases Int.lt_trichotomy a b with h | h | h
  · have HV : Hid (lessI a b = -1) := Lib.hid (by unfold lessI; rw [if_pos h])
    go_enter Tryd.func49, Tryd.ntmps49
    go_wp2
    go_ret
    rw [HV.out]; exact ⟨rfl, rfl⟩
  · subst h
    have HV : Hid (lessI a a = 0) := Lib.hid (by unfold lessI; rw [if_neg (by omega), if_neg (by omega)])
    have h1 : ¬ a < a := by omega
    go_enter Tryd.func49, Tryd.ntmps49
    go_wp2
    go_ret
    rw [HV.out]; exact ⟨rfl, rfl⟩
  · have HV : Hid (lessI a b = 1) := Lib.hid (by unfold lessI; rw [if_neg (by omega), if_pos h])
    have h1 : ¬ a < b := by omega
    go_enter Tryd.func49, Tryd.ntmps49
    go_wp2
    go_ret
    rw [HV.out]; exact ⟨rfl, rfl⟩
/-- cmp.Compare at string. -/
theorem cmpStr_any (a b : ByteArray) (w : World) : Calls Tryd.prog 59 #[.string a, .string b] w fun e w' => e = .returned (.int .i64 (lessS a b)) ∧ w = w' := by
  have ta : (!(a.toList == a.toList)) = false := by simp
  have tb : (!(b.toList == b.toList)) = false := by simp
  have ta' : (a.toList != a.toList) = false := by simp
  have tb' : (b.toList != b.toList) = false := by simp
  cases h1 : Op.bytesLess a.toList b.toList
  · cases h2 : (a.toList == b.toList)
    · have HV : Hid (lessS a b = 1) := Lib.hid (by unfold lessS; rw [h1, h2]; rfl)
      have h3 : (!Op.bytesLess a.toList b.toList && !(a.toList == b.toList)) = true := by rw [h1, h2]; rfl
      go_enter Tryd.func59, Tryd.ntmps59
      go_wp2
      go_ret
      rw [HV.out]; exact ⟨rfl, rfl⟩
    · have HV : Hid (lessS a b = 0) := Lib.hid (by unfold lessS; rw [h1, h2]; rfl)
      have h3 : (!Op.bytesLess a.toList b.toList && !(a.toList == b.toList)) = false := by rw [h1, h2]; rfl
      go_enter Tryd.func59, Tryd.ntmps59
      go_wp2
      go_ret
      rw [HV.out]; exact ⟨rfl, rfl⟩
  · have HV : Hid (lessS a b = -1) := Lib.hid (by unfold lessS; rw [h1]; rfl)
    go_enter Tryd.func59, Tryd.ntmps59
    go_wp2
    go_ret
    rw [HV.out]; exact ⟨rfl, rfl⟩
/-- The first of two numbers that is not 0. -/
def firstOf (a b : Int) : Int := if a = 0 then b else a
/-- cmp.Or of two numbers. -/
theorem or_any (a b : Int) (g : Nat) (w : World) (h0 : w.cell? ⟨g, 0, none⟩ = some (.int .i64 a)) (h1 : w.cell? ⟨g, 1, none⟩ = some (.int .i64 b)) :
    Calls Tryd.prog 58 #[.slice (some ⟨g, 0, none⟩) 2 2] w fun e w' => e = .returned (.int .i64 (firstOf a b)) ∧ w = w' := by
  go_enter Tryd.func58, Tryd.ntmps58
  go_wp2_with fail
  go_loop [8] (fun i => ∃ j : Nat, j ≤ 2 ∧ i = .int .i64 j ∧ (1 ≤ j → a = 0) ∧ (2 ≤ j → b = 0)) (fun i => 2 - (intOf i).toNat)
  case atStart => exact ⟨0, by omega, rfl, fun h => absurd h (by omega), fun h => absurd h (by omega)⟩
  case round =>
    obtain ⟨j, hj, rfl, ha, hb⟩ := hrel
    have HA := Lib.hid ha
    have HB := Lib.hid hb
    clear ha hb
    rcases (show j = 0 ∨ j = 1 ∨ j = 2 by omega) with rfl | rfl | rfl
    · by_cases h : a = 0
      · subst h
        go_wp2_with fail
        go_round
        case rel => exact ⟨1, by omega, rfl, fun _ => trivial, fun h => absurd h (by omega)⟩
        case measure => simp [intOf]
      · have HV : Hid (firstOf a b = a) := Lib.hid (by unfold firstOf; rw [if_neg h])
        have t : (a != 0) = true := by simpa using h
        clear h
        go_wp2_with fail
        go_ret
        rw [HV.out]; exact ⟨rfl, rfl⟩
    · have ha := HA.out (by omega)
      have HV : Hid (firstOf a b = b) := Lib.hid (by unfold firstOf; rw [if_pos ha])
      clear ha
      by_cases h : b = 0
      · subst h
        go_wp2_with fail
        go_round
        case rel => exact ⟨2, by omega, rfl, fun _ => HA.out (by omega), fun _ => trivial⟩
        case measure => simp [intOf]
      · have t : (b != 0) = true := by simpa using h
        clear h
        go_wp2_with fail
        go_ret
        rw [HV.out]; exact ⟨rfl, rfl⟩
    · have HV : Hid (firstOf a b = 0) := Lib.hid (by unfold firstOf; rw [if_pos (HA.out (by omega)), HB.out (by omega)])
      go_wp2_with fail
      go_ret
      rw [HV.out]; exact ⟨rfl, rfl⟩

theorem bytesLess_irrefl (l : List UInt8) : Op.bytesLess l l = false := by
  induction l with
  | nil => rfl
  | cons x xs ih => simp [Op.bytesLess, ih]
theorem lessS_zero (a b : ByteArray) : lessS a b = 0 ↔ (a.toList == b.toList) = true := by
  unfold lessS
  constructor
  · intro h
    by_cases h1 : Op.bytesLess a.toList b.toList = true
    · rw [if_pos h1] at h; omega
    · rw [if_neg h1] at h
      by_cases h2 : (a.toList == b.toList) = true
      · exact h2
      · rw [if_neg h2] at h; omega
  · intro h
    have e : a.toList = b.toList := by simpa using h
    rw [if_neg (by rw [e, bytesLess_irrefl]; simp), if_pos h]
theorem lessI_zero (a b : Int) : lessI a b = 0 ↔ a = b := by
  unfold lessI
  constructor
  · intro h
    split at h
    · omega
    · split at h <;> omega
  · rintro rfl
    rw [if_neg (by omega), if_neg (by omega)]
/-- The order of two structures, as the program finds it. -/
def cmpSt (s : ByteArray) (f : Fr) (s' : ByteArray) (g : Fr) : Int :=
  if firstOf (lessI f.len g.len) (lessS s s') = 0 then cmpF f g else firstOf (lessI f.len g.len) (lessS s s')
theorem cmpSt_eq (n : Int) (s : ByteArray) (f : Fr) (n' : Int) (s' : ByteArray) (g : Fr) : cmpT 3 n s f 3 n' s' g = cmpSt s f s' g := by
  unfold cmpT cmpH cmpSt firstOf rankT
  have hz := lessI_zero f.len g.len
  have hs := lessS_zero s s'
  by_cases h1 : f.len = g.len
  · rw [if_pos (by rw [h1]), if_pos rfl, if_pos h1]
    have e0 : lessI f.len g.len = 0 := hz.2 (by rw [h1])
    rw [if_pos e0]
    by_cases h2 : (s.toList == s'.toList) = true
    · rw [if_pos h2, if_pos (hs.2 h2)]
    · rw [if_neg h2, if_neg (fun h => h2 (hs.1 h))]
  · have e0 : lessI f.len g.len ≠ 0 := fun h => h1 (by have := hz.1 h; omega)
    rw [if_neg e0, if_neg e0]
    by_cases h3 : (if (3 : Int) = 3 ∧ 0 < f.len then (4 : Int) else 3) = if (3 : Int) = 3 ∧ 0 < g.len then 4 else 3
    · rw [if_pos h3, if_pos rfl, if_neg h1]
    · rw [if_neg h3]
      by_cases a : 0 < f.len <;> by_cases b : 0 < g.len
      · exact absurd (by rw [if_pos ⟨rfl, a⟩, if_pos ⟨rfl, b⟩]) h3
      · rw [if_pos ⟨rfl, a⟩, if_neg (fun h => b h.2)]
        unfold lessI; rw [if_neg (by omega), if_pos (by omega), if_neg (by omega), if_pos (by omega)]
      · rw [if_neg (fun h => a h.2), if_pos ⟨rfl, b⟩]
        unfold lessI; rw [if_pos (by omega), if_pos (by omega)]
      · omega

def CmV (s : ByteArray) (f : Fr) (s' : ByteArray) (g : Fr) : Prop := ∀ (k n k' n' d : Int) (v v' : Value) (lo hi lo' hi' : Nat) (w : World), shapeT k n s f d = true → shapeT k' n' s' g d = true → NdV w lo hi k n s f v → NdV w lo' hi' k' n' s' g v' → hi ≤ w.heap.size → hi' ≤ w.heap.size →
  Calls Tryd.prog 43 #[v, v'] w fun e w' => e = .returned (.int .i64 (cmpT k n s f k' n' s' g)) ∧ Below w.heap.size w w'
def CmSt (s : ByteArray) (f : Fr) (s' : ByteArray) (g : Fr) : Prop := ∀ (d : Int) (A B : Option Addr) (cap cap' lo hi lo' hi' : Nat) (w : World), shapeF f d = true → shapeF g d = true → NdS w lo hi f A cap → NdS w lo' hi' g B cap' → hi ≤ w.heap.size → hi' ≤ w.heap.size →
  Calls Tryd.prog 50 #[.agg #[.string s, .slice A f.len cap], .agg #[.string s', .slice B g.len cap']] w fun e w' => e = .returned (.int .i64 (cmpSt s f s' g)) ∧ Below w.heap.size w w'

/-! The methods rank. -/
theorem rk_v (x : Value) (w : World) : Calls Tryd.prog 80 #[x] w fun e w' => e = .returned (.int .i64 0) ∧ w = w' := by
  go_enter Tryd.func80, Tryd.ntmps80
  go_wp2_with fail
  go_ret
  exact ⟨rfl, rfl⟩
theorem rk_n (x : Value) (w : World) : Calls Tryd.prog 83 #[x] w fun e w' => e = .returned (.int .i64 1) ∧ w = w' := by
  go_enter Tryd.func83, Tryd.ntmps83
  go_wp2_with fail
  go_ret
  exact ⟨rfl, rfl⟩
theorem rk_s (s : ByteArray) (A : Option Addr) (len cap : Nat) (w : World) : Calls Tryd.prog 82 #[.agg #[.string s, .slice A len cap]] w fun e w' => e = .returned (.int .i64 2) ∧ Below w.heap.size w w' := by
  go_enter Tryd.func82, Tryd.ntmps82
  go_wp2_with fail
  go_ret
  exact ⟨rfl, by repeat (first | exact Below.refl _ _ | exact (Below.refl _ _).alloc (Nat.le_refl _) _)⟩
theorem cmpT_lt (k n : Int) (s : ByteArray) (f : Fr) (k' n' : Int) (s' : ByteArray) (g : Fr) (h : k < k') (h3 : k ≠ 3) : cmpT k n s f k' n' s' g = -1 := by
  have e : rankT k f.len = k := by unfold rankT; rw [if_neg (fun h => h3 h.1)]
  have e' : k < rankT k' g.len := by unfold rankT; split <;> omega
  unfold cmpT cmpH
  rw [e, if_neg (by omega)]
  unfold lessI; rw [if_pos e']
theorem cmpT_gt (k n : Int) (s : ByteArray) (f : Fr) (k' n' : Int) (s' : ByteArray) (g : Fr) (h : k' < k) (h3 : k' ≠ 3) : cmpT k n s f k' n' s' g = 1 := by
  have e : rankT k' g.len = k' := by unfold rankT; rw [if_neg (fun h => h3 h.1)]
  have e' : k' < rankT k f.len := by unfold rankT; split <;> omega
  unfold cmpT cmpH
  rw [e, if_neg (by omega)]
  unfold lessI; rw [if_neg (by omega), if_pos e']

set_option maxRecDepth 100000 in
set_option maxHeartbeats 4000000 in
theorem cmV_of (s : ByteArray) (f : Fr) (s' : ByteArray) (g : Fr) (h : CmSt s f s' g) : CmV s f s' g := by
  intro k n k' n' d v v' lo hi lo' hi' w hs hs' hv hv' hh hh'
  have HS := Lib.hid (shapeT_kids hs)
  have HS' := Lib.hid (shapeT_kids hs')
  have HH := Lib.hid h
  clear hs hs' h
  rcases hv with ⟨rfl, rfl⟩ | ⟨rfl, rfl⟩ | ⟨rfl, A, cap, rfl, hk⟩ <;> rcases hv' with ⟨rfl, rfl⟩ | ⟨rfl, rfl⟩ | ⟨rfl, B, cap', rfl, hk'⟩
  · have HV : Hid (cmpT 1 n s f 1 n' s' g = lessI n n') := Lib.hid (by unfold cmpT cmpH rankT; simp)
    have C0 := fun w => cmpInt_any 0 0 w
    rw [show lessI 0 0 = 0 by rfl] at C0
    have H0 := Lib.hid C0
    clear C0
    go_enter Tryd.func43, Tryd.ntmps43
    go_wp2_with fail
    refine (rk_v _ _).mono ?_
    rintro e w' ⟨rfl, rfl⟩
    go_wp2_with fail
    refine (rk_v _ _).mono ?_
    rintro e w' ⟨rfl, rfl⟩
    go_wp2_with fail
    refine (H0.out _).mono ?_
    rintro e w' ⟨rfl, rfl⟩
    go_wp2_with fail
    refine (cmpVar_any _ _ _).mono ?_
    rintro e w' ⟨rfl, rfl⟩
    go_wp2_with fail
    go_ret
    rw [HV.out]
    exact ⟨rfl, Below.refl _ _⟩
  · have HV : Hid (cmpT 1 n s f 2 n' s' g = -1) := Lib.hid (cmpT_lt _ _ _ _ _ _ _ _ (by omega) (by omega))
    have C0 := fun w => cmpInt_any 0 1 w
    rw [show lessI 0 1 = -1 by rfl] at C0
    have H0 := Lib.hid C0
    clear C0
    go_enter Tryd.func43, Tryd.ntmps43
    go_wp2_with fail
    refine (rk_v _ _).mono ?_
    rintro e w' ⟨rfl, rfl⟩
    go_wp2_with fail
    refine (rk_n _ _).mono ?_
    rintro e w' ⟨rfl, rfl⟩
    go_wp2_with fail
    refine (H0.out _).mono ?_
    rintro e w' ⟨rfl, rfl⟩
    go_wp2_with fail
    go_ret
    rw [HV.out]
    exact ⟨rfl, Below.refl _ _⟩
  · have HV : Hid (cmpT 1 n s f 3 n' s' g = -1) := Lib.hid (cmpT_lt _ _ _ _ _ _ _ _ (by omega) (by omega))
    have C0 := fun w => cmpInt_any 0 2 w
    rw [show lessI 0 2 = -1 by rfl] at C0
    have H0 := Lib.hid C0
    clear C0
    go_enter Tryd.func43, Tryd.ntmps43
    go_wp2_with fail
    refine (rk_v _ _).mono ?_
    rintro e w' ⟨rfl, rfl⟩
    go_wp2_with fail
    refine (rk_s _ _ _ _ _).mono ?_
    rintro e w2 ⟨rfl, hbs⟩
    have HBS := Lib.hid hbs
    clear hbs
    go_wp2_with fail
    refine (H0.out _).mono ?_
    rintro e w' ⟨rfl, rfl⟩
    go_wp2_with fail
    go_ret
    rw [HV.out]
    exact ⟨rfl, HBS.out⟩
  · have HV : Hid (cmpT 2 n s f 1 n' s' g = 1) := Lib.hid (cmpT_gt _ _ _ _ _ _ _ _ (by omega) (by omega))
    have C0 := fun w => cmpInt_any 1 0 w
    rw [show lessI 1 0 = 1 by rfl] at C0
    have H0 := Lib.hid C0
    clear C0
    go_enter Tryd.func43, Tryd.ntmps43
    go_wp2_with fail
    refine (rk_n _ _).mono ?_
    rintro e w' ⟨rfl, rfl⟩
    go_wp2_with fail
    refine (rk_v _ _).mono ?_
    rintro e w' ⟨rfl, rfl⟩
    go_wp2_with fail
    refine (H0.out _).mono ?_
    rintro e w' ⟨rfl, rfl⟩
    go_wp2_with fail
    go_ret
    rw [HV.out]
    exact ⟨rfl, Below.refl _ _⟩
  · have HV : Hid (cmpT 2 n s f 2 n' s' g = lessI n n') := Lib.hid (by unfold cmpT cmpH rankT; simp)
    have C0 := fun w => cmpInt_any 1 1 w
    rw [show lessI 1 1 = 0 by rfl] at C0
    have H0 := Lib.hid C0
    clear C0
    go_enter Tryd.func43, Tryd.ntmps43
    go_wp2_with fail
    refine (rk_n _ _).mono ?_
    rintro e w' ⟨rfl, rfl⟩
    go_wp2_with fail
    refine (rk_n _ _).mono ?_
    rintro e w' ⟨rfl, rfl⟩
    go_wp2_with fail
    refine (H0.out _).mono ?_
    rintro e w' ⟨rfl, rfl⟩
    go_wp2_with fail
    refine (cmpNum_any _ _ _).mono ?_
    rintro e w' ⟨rfl, rfl⟩
    go_wp2_with fail
    go_ret
    rw [HV.out]
    exact ⟨rfl, Below.refl _ _⟩
  · have HV : Hid (cmpT 2 n s f 3 n' s' g = -1) := Lib.hid (cmpT_lt _ _ _ _ _ _ _ _ (by omega) (by omega))
    have C0 := fun w => cmpInt_any 1 2 w
    rw [show lessI 1 2 = -1 by rfl] at C0
    have H0 := Lib.hid C0
    clear C0
    go_enter Tryd.func43, Tryd.ntmps43
    go_wp2_with fail
    refine (rk_n _ _).mono ?_
    rintro e w' ⟨rfl, rfl⟩
    go_wp2_with fail
    refine (rk_s _ _ _ _ _).mono ?_
    rintro e w2 ⟨rfl, hbs⟩
    have HBS := Lib.hid hbs
    clear hbs
    go_wp2_with fail
    refine (H0.out _).mono ?_
    rintro e w' ⟨rfl, rfl⟩
    go_wp2_with fail
    go_ret
    rw [HV.out]
    exact ⟨rfl, HBS.out⟩
  · have HV : Hid (cmpT 3 n s f 1 n' s' g = 1) := Lib.hid (cmpT_gt _ _ _ _ _ _ _ _ (by omega) (by omega))
    have C0 := fun w => cmpInt_any 2 0 w
    rw [show lessI 2 0 = 1 by rfl] at C0
    have H0 := Lib.hid C0
    clear C0
    go_enter Tryd.func43, Tryd.ntmps43
    go_wp2_with fail
    refine (rk_s _ _ _ _ _).mono ?_
    rintro e w2 ⟨rfl, hbs⟩
    have HBS := Lib.hid hbs
    clear hbs
    go_wp2_with fail
    refine (rk_v _ _).mono ?_
    rintro e w' ⟨rfl, rfl⟩
    go_wp2_with fail
    refine (H0.out _).mono ?_
    rintro e w' ⟨rfl, rfl⟩
    go_wp2_with fail
    go_ret
    rw [HV.out]
    exact ⟨rfl, HBS.out⟩
  · have HV : Hid (cmpT 3 n s f 2 n' s' g = 1) := Lib.hid (cmpT_gt _ _ _ _ _ _ _ _ (by omega) (by omega))
    have C0 := fun w => cmpInt_any 2 1 w
    rw [show lessI 2 1 = 1 by rfl] at C0
    have H0 := Lib.hid C0
    clear C0
    go_enter Tryd.func43, Tryd.ntmps43
    go_wp2_with fail
    refine (rk_s _ _ _ _ _).mono ?_
    rintro e w2 ⟨rfl, hbs⟩
    have HBS := Lib.hid hbs
    clear hbs
    go_wp2_with fail
    refine (rk_n _ _).mono ?_
    rintro e w' ⟨rfl, rfl⟩
    go_wp2_with fail
    refine (H0.out _).mono ?_
    rintro e w' ⟨rfl, rfl⟩
    go_wp2_with fail
    go_ret
    rw [HV.out]
    exact ⟨rfl, HBS.out⟩
  · have HV : Hid (cmpT 3 n s f 3 n' s' g = cmpSt s f s' g) := Lib.hid (cmpSt_eq _ _ _ _ _ _)
    have C0 := fun w => cmpInt_any 2 2 w
    rw [show lessI 2 2 = 0 by rfl] at C0
    have C1 := fun w1 (hb : Below w.heap.size w w1) => HH.out (d - 1) A B cap cap' lo hi lo' hi' w1 HS.out HS'.out (hk.keep (fun p _ hp => hb.cell (by omega)) (Nat.le_refl _) (Nat.le_refl _)) (hk'.keep (fun p _ hp => hb.cell (by omega)) (Nat.le_refl _) (Nat.le_refl _)) (Nat.le_trans hh hb.size) (Nat.le_trans hh' hb.size)
    have H0 := Lib.hid C0
    have H1 := Lib.hid C1
    clear C0 C1 hk hk'
    go_enter Tryd.func43, Tryd.ntmps43
    go_wp2_with fail
    refine (rk_s _ _ _ _ _).mono ?_
    rintro e w2 ⟨rfl, hb2⟩
    have HB2 := Lib.hid hb2
    clear hb2
    go_wp2_with fail
    refine (rk_s _ _ _ _ _).mono ?_
    rintro e w3 ⟨rfl, hb3⟩
    have HB3 := Lib.hid (HB2.out.trans (hb3.mono HB2.out.size))
    clear hb3
    go_wp2_with fail
    refine (H0.out _).mono ?_
    rintro e w' ⟨rfl, rfl⟩
    go_wp2_with fail
    have hq := Blk.new w3 84 #[.string s, .slice A f.len cap]
    have e0 := hq.cell 0
    have e1 := hq.cell 1
    simp only [List.getElem?_toArray, List.getElem?_cons_zero, List.getElem?_cons_succ] at e0 e1
    have hb4 : Below w.heap.size w (w3.alloc (.cells #[.string s, .slice A f.len cap] 84)) := HB3.out.trans ((Below.refl _ _).alloc HB3.out.size _)
    clear hq
    generalize w3.alloc (.cells #[.string s, .slice A f.len cap] 84) = w4 at *
    have HB4 := Lib.hid hb4
    clear hb4
    go_still_tail 3, (by kernel_rfl)
    change wpList _ _ _ _ _ w4.drew
    have hbd : Below w.heap.size w w4.drew := HB4.out.drew
    generalize w4.drew = w6 at hbd ⊢
    clear e0 e1
    have HD := Lib.hid hbd
    clear hbd
    go_wp2_with fail
    refine (H1.out _ HD.out).mono ?_
    rintro e w5 ⟨rfl, hb5⟩
    have HB5 := Lib.hid (HD.out.trans (hb5.mono HD.out.size))
    clear hb5
    go_wp2_with fail
    go_ret
    rw [HV.out]
    exact ⟨rfl, HB5.out⟩

end Go.Proofs.YtkgihpddjppmdaaDoor

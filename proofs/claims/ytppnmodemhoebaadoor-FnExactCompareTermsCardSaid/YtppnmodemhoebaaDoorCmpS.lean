/- spec.CompareTerms: the model's standard order. Condition: both terms lie in memory. -/
import Derived.Test.YtppnmodemhoebaaDoorProg
import Derived.Test.YtppnmodemhoebaaDoorSpecC
import Derived.Test.YtppnmodemhoebaaDoorImplV
import Derived.WalkLawsBesides
import Derived.Deep.RegionHeld3
import Derived.StillTailTactics
namespace Go.Proofs.YtppnmodemhoebaaDoor
open Go.RowKit

def lessI (a b : Int) : Int := if a < b then -1 else if b < a then 1 else 0
def lessS (a b : ByteArray) : Int := if Op.bytesLess a.toList b.toList = true then -1 else if (a.toList == b.toList) = true then 0 else 1
def rankT (k : Int) (len : Nat) : Int := if k = 3 ∧ 0 < len then 4 else k
/-- The order of two terms, their arguments being in the order c. -/
def cmpH (k n : Int) (s : ByteArray) (len : Nat) (k' n' : Int) (s' : ByteArray) (len' : Nat) (c : Int) : Int :=
  if rankT k len = rankT k' len' then (if k = 3 then (if len = len' then (if (s.toList == s'.toList) = true then c else lessS s s') else lessI len len') else lessI n n') else lessI (rankT k len) (rankT k' len')
def cmpF : Fr → Fr → Int
  | .cons k n s kids rest, .cons k' n' s' kids' rest' => if cmpH k n s kids.len k' n' s' kids'.len (cmpF kids kids') = 0 then cmpF rest rest' else cmpH k n s kids.len k' n' s' kids'.len (cmpF kids kids')
  | _, _ => 0
def cmpT (k n : Int) (s : ByteArray) (f : Fr) (k' n' : Int) (s' : ByteArray) (g : Fr) : Int := cmpH k n s f.len k' n' s' g.len (cmpF f g)
theorem lessI_range (a b : Int) : -1 ≤ lessI a b ∧ lessI a b ≤ 1 := by unfold lessI; split <;> (try split) <;> omega
theorem lessS_range (a b : ByteArray) : -1 ≤ lessS a b ∧ lessS a b ≤ 1 := by unfold lessS; split <;> (try split) <;> omega
theorem cmpH_range (k n : Int) (s : ByteArray) (len : Nat) (k' n' : Int) (s' : ByteArray) (len' : Nat) (c : Int) (h : -1 ≤ c ∧ c ≤ 1) : -1 ≤ cmpH k n s len k' n' s' len' c ∧ cmpH k n s len k' n' s' len' c ≤ 1 := by
  unfold cmpH
  repeat' split
  · exact h
  · exact lessS_range _ _
  · exact lessI_range _ _
  · exact lessI_range _ _
  · exact lessI_range _ _
theorem cmpF_range (f : Fr) : ∀ g, -1 ≤ cmpF f g ∧ cmpF f g ≤ 1 := by
  induction f with
  | nil => intro g; simp only [cmpF]; omega
  | cons k n s kids rest ihk ihr =>
    intro g
    cases g with
    | nil => simp only [cmpF]; omega
    | cons k' n' s' kids' rest' =>
      simp only [cmpF]
      split
      · exact ihr rest'
      · exact cmpH_range _ _ _ _ _ _ _ _ _ (ihk kids')
theorem cmpF_cons (k n : Int) (s : ByteArray) (kids rest : Fr) (k' n' : Int) (s' : ByteArray) (kids' rest' : Fr) :
    cmpF (.cons k n s kids rest) (.cons k' n' s' kids' rest') = if cmpT k n s kids k' n' s' kids' = 0 then cmpF rest rest' else cmpT k n s kids k' n' s' kids' := rfl

/-- spec.l1Less. -/
theorem lessI_any (a b : Int) (w : World) : Calls Tryd.prog 62 #[.int .i64 a, .int .i64 b] w fun e w' => e = .returned (.int .i64 (lessI a b)) ∧ w = w' := by
  rcases Int.lt_trichotomy a b with h | h | h
  · have HV : Hid (lessI a b = -1) := Lib.hid (by unfold lessI; rw [if_pos h])
    go_enter Tryd.func62, Tryd.ntmps62
    go_wp2_with fail
    go_ret
    rw [HV.out]; exact ⟨rfl, rfl⟩
  · subst h
    have HV : Hid (lessI a a = 0) := Lib.hid (by unfold lessI; rw [if_neg (by omega), if_neg (by omega)])
    have h1 : ¬ a < a := by omega
    go_enter Tryd.func62, Tryd.ntmps62
    go_wp2_with fail
    go_ret
    rw [HV.out]; exact ⟨rfl, rfl⟩
  · have HV : Hid (lessI a b = 1) := Lib.hid (by unfold lessI; rw [if_neg (by omega), if_pos h])
    have h1 : ¬ a < b := by omega
    go_enter Tryd.func62, Tryd.ntmps62
    go_wp2_with fail
    go_ret
    rw [HV.out]; exact ⟨rfl, rfl⟩

/-- spec.l1Before. -/
theorem lessS_any (a b : ByteArray) (w : World) : Calls Tryd.prog 63 #[.string a, .string b] w fun e w' => e = .returned (.int .i64 (lessS a b)) ∧ w = w' := by
  cases h1 : Op.bytesLess a.toList b.toList
  · cases h2 : (a.toList == b.toList)
    · have HV : Hid (lessS a b = 1) := Lib.hid (by unfold lessS; rw [h1, h2]; rfl)
      have h3 : (!Op.bytesLess a.toList b.toList && !(a.toList == b.toList)) = true := by rw [h1, h2]; rfl
      go_enter Tryd.func63, Tryd.ntmps63
      go_wp2_with fail
      go_ret
      rw [HV.out]; exact ⟨rfl, rfl⟩
    · have HV : Hid (lessS a b = 0) := Lib.hid (by unfold lessS; rw [h1, h2]; rfl)
      have h3 : (!Op.bytesLess a.toList b.toList && !(a.toList == b.toList)) = false := by rw [h1, h2]; rfl
      go_enter Tryd.func63, Tryd.ntmps63
      go_wp2_with fail
      go_ret
      rw [HV.out]; exact ⟨rfl, rfl⟩
  · have HV : Hid (lessS a b = -1) := Lib.hid (by unfold lessS; rw [h1]; rfl)
    go_enter Tryd.func63, Tryd.ntmps63
    go_wp2_with fail
    go_ret
    rw [HV.out]; exact ⟨rfl, rfl⟩

/-- spec.l1Rank. -/
theorem rank_any (k n : Int) (s : ByteArray) (A : Option Addr) (len cap : Nat) (w : World) :
    Calls Tryd.prog 61 #[.agg #[.int .i64 k, .int .i64 n, .string s, .slice A len cap]] w fun e w' => e = .returned (.int .i64 (rankT k len)) ∧ w' = w.alloc (.cells #[.int .i64 k, .int .i64 n, .string s, .slice A len cap] 31) := by
  by_cases h1 : k = 3
  · subst h1
    by_cases h2 : 0 < len
    · have HV : Hid (rankT 3 len = 4) := Lib.hid (by unfold rankT; rw [if_pos ⟨rfl, h2⟩])
      go_enter Tryd.func61, Tryd.ntmps61
      go_wp2_with fail
      go_ret
      rw [HV.out]; exact ⟨rfl, rfl⟩
    · have HV : Hid (rankT 3 len = 3) := Lib.hid (by unfold rankT; rw [if_neg (fun h => h2 h.2)])
      have d1 : decide ((0 : Int) < (len : Int)) = false := decide_eq_false (by omega)
      obtain rfl : len = 0 := by omega
      go_enter Tryd.func61, Tryd.ntmps61
      go_wp2_with fail
      go_ret
      rw [HV.out]; exact ⟨rfl, rfl⟩
  · have HV : Hid (rankT k len = k) := Lib.hid (by unfold rankT; rw [if_neg (fun h => h1 h.1)])
    have t1 : (k == 3) = false := by rw [beq_eq_false_iff_ne]; exact h1
    go_enter Tryd.func61, Tryd.ntmps61
    go_wp2_with fail
    go_ret
    rw [HV.out]; exact ⟨rfl, rfl⟩

/-- The boxes of two arguments, read in a later world. -/
theorem box8 {w w' : World} {t : TypeId} {a b c d a' b' c' d' : Value} (hb : Below (w.heap.size + 2) ((w.alloc (.cells #[a, b, c, d] t)).alloc (.cells #[a', b', c', d'] t)) w') :
    w'.cell? ⟨w.heap.size, 0, none⟩ = some a ∧ w'.cell? ⟨w.heap.size, 1, none⟩ = some b ∧ w'.cell? ⟨w.heap.size, 2, none⟩ = some c ∧ w'.cell? ⟨w.heap.size, 3, none⟩ = some d ∧
      w'.cell? ⟨w.heap.size + 1, 0, none⟩ = some a' ∧ w'.cell? ⟨w.heap.size + 1, 1, none⟩ = some b' ∧ w'.cell? ⟨w.heap.size + 1, 2, none⟩ = some c' ∧ w'.cell? ⟨w.heap.size + 1, 3, none⟩ = some d' := by
  have h1 := cells4 (((Blk.new w t #[a, b, c, d]).alloc (.cells #[a', b', c', d'] t)).below hb (by omega))
  have h0 := Blk.new (w.alloc (.cells #[a, b, c, d] t)) t #[a', b', c', d']
  rw [show (w.alloc (.cells #[a, b, c, d] t)).heap.size = w.heap.size + 1 by simp] at h0
  have h2 := cells4 (h0.below hb (by omega))
  exact ⟨h1.1, h1.2.1, h1.2.2.1, h1.2.2.2, h2.1, h2.2.1, h2.2.2.1, h2.2.2.2⟩

theorem boxA {w w' : World} {t : TypeId} {a b c d a' b' c' d' : Value} (hb : Below (w.heap.size + 2) ((w.alloc (.cells #[a, b, c, d] t)).alloc (.cells #[a', b', c', d'] t)) w') : w'.cell? ⟨w.heap.size, 3, none⟩ = some d := (box8 hb).2.2.2.1
theorem boxB {w w' : World} {t : TypeId} {a b c d a' b' c' d' : Value} (hb : Below (w.heap.size + 2) ((w.alloc (.cells #[a, b, c, d] t)).alloc (.cells #[a', b', c', d'] t)) w') : w'.cell? ⟨w.heap.size + 1, 3, none⟩ = some d' := (box8 hb).2.2.2.2.2.2.2

def CmS (s : ByteArray) (f : Fr) (s' : ByteArray) (g : Fr) : Prop := ∀ (k n k' n' : Int) (A B : Option Addr) (cap cap' lo hi lo' hi' : Nat) (w : World), KidsAt w lo hi f A cap → KidsAt w lo' hi' g B cap' → hi ≤ w.heap.size → hi' ≤ w.heap.size →
  Calls Tryd.prog 41 #[.agg #[.int .i64 k, .int .i64 n, .string s, .slice A f.len cap], .agg #[.int .i64 k', .int .i64 n', .string s', .slice B g.len cap']] w fun e w' => e = .returned (.int .i64 (cmpT k n s f k' n' s' g)) ∧ Below w.heap.size w w'

set_option maxRecDepth 100000 in
set_option maxHeartbeats 4000000 in
theorem cmS_of (s : ByteArray) (f : Fr) (s' : ByteArray) (g : Fr) (h : ∀ i k n s kids rest k' n' s' kids' rest', f.drop i = .cons k n s kids rest → g.drop i = .cons k' n' s' kids' rest' → CmS s kids s' kids') : CmS s f s' g := by
  intro k n k' n' A B cap cap' lo hi lo' hi' w hk hk' hh hh'
  have HK := Lib.hid hk
  have HK' := Lib.hid hk'
  have HH := Lib.hid h
  have HHI := Lib.hid hh
  have HHI' := Lib.hid hh'
  have hl := hk.1
  have hm := hk.2.1
  have hl' := hk'.1
  have hm' := hk'.2.1
  unfold maxLen at hm hm'
  clear hk hk' h hh hh'
  have HE : Hid (cmpT k n s f k' n' s' g = cmpH k n s f.len k' n' s' g.len (cmpF f g)) := Lib.hid rfl
  by_cases hr : rankT k f.len = rankT k' g.len
  · have t1 : (rankT k f.len != rankT k' g.len) = false := by simpa using hr
    have HE2 : Hid (cmpT k n s f k' n' s' g = if k = 3 then (if f.len = g.len then (if (s.toList == s'.toList) = true then cmpF f g else lessS s s') else lessI f.len g.len) else lessI n n') := Lib.hid (by rw [HE.out]; unfold cmpH; rw [if_pos hr])
    clear HE hr
    by_cases h3 : k = 3
    · subst h3
      have t3 : ((3 : Int) != 3) = false := by simp
      by_cases hlen : f.len = g.len
      · have t4 : ((f.len : Int) != (g.len : Int)) = false := by rw [hlen]; simp
        cases hn : (s.toList == s'.toList)
        · have t5 : (s.toList != s'.toList) = true := by simp [bne, hn]
          have t6 : (!(s.toList == s'.toList)) = true := by rw [hn]; rfl
          have HV : Hid (cmpT 3 n s f k' n' s' g = lessS s s') := Lib.hid (by rw [HE2.out, if_pos rfl, if_pos hlen, hn]; rfl)
          clear HE2 hlen
          go_enter Tryd.func41, Tryd.ntmps41
          go_wp2_with fail
          go_region_held3 (fun w' => w'.cell? ⟨w.heap.size, 0, none⟩ = some (.int .i64 3) ∧ w'.cell? ⟨w.heap.size, 1, none⟩ = some (.int .i64 n) ∧ w'.cell? ⟨w.heap.size, 2, none⟩ = some (.string s) ∧ w'.cell? ⟨w.heap.size, 3, none⟩ = some (.slice A f.len cap) ∧
              w'.cell? ⟨w.heap.size + 1, 0, none⟩ = some (.int .i64 k') ∧ w'.cell? ⟨w.heap.size + 1, 1, none⟩ = some (.int .i64 n') ∧ w'.cell? ⟨w.heap.size + 1, 2, none⟩ = some (.string s') ∧ w'.cell? ⟨w.heap.size + 1, 3, none⟩ = some (.slice B g.len cap'))
            (first | exact box8 (t := 31) (by repeat (first | exact Below.refl _ _ | refine Below.drew ?_ | refine Below.alloc ?_ (by simp <;> omega) _)) | go_keep)
            (first
              | (go_at_call 61; refine (rank_any _ _ _ _ _ _ _).mono ?_; rintro e w2 ⟨rfl, rfl⟩))
          go_wp2_with fail
          refine (lessS_any _ _ _).mono ?_
          rintro e w2 ⟨rfl, rfl⟩
          go_wp2_with fail
          go_ret
          rw [HV.out]
          exact ⟨rfl, (by repeat (first | exact Below.refl _ _ | refine Below.drew ?_ | refine Below.alloc ?_ (by simp <;> omega) _))⟩
        · have t5 : (s.toList != s'.toList) = false := by simp [bne, hn]
          have t6 : (!(s.toList == s'.toList)) = false := by rw [hn]; rfl
          have HV : Hid (cmpT 3 n s f k' n' s' g = cmpF f g) := Lib.hid (by rw [HE2.out, if_pos rfl, if_pos hlen, hn]; rfl)
          have HG : Hid (g.len = f.len) := Lib.hid hlen.symm
          generalize hv : cmpF f g = v at *
          have HV0 := Lib.hid hv
          clear HE2 hv hlen
          go_enter Tryd.func41, Tryd.ntmps41
          go_wp2_with fail
          go_region_held3 (fun w' => w'.cell? ⟨w.heap.size, 0, none⟩ = some (.int .i64 3) ∧ w'.cell? ⟨w.heap.size, 1, none⟩ = some (.int .i64 n) ∧ w'.cell? ⟨w.heap.size, 2, none⟩ = some (.string s) ∧ w'.cell? ⟨w.heap.size, 3, none⟩ = some (.slice A f.len cap) ∧
              w'.cell? ⟨w.heap.size + 1, 0, none⟩ = some (.int .i64 k') ∧ w'.cell? ⟨w.heap.size + 1, 1, none⟩ = some (.int .i64 n') ∧ w'.cell? ⟨w.heap.size + 1, 2, none⟩ = some (.string s') ∧ w'.cell? ⟨w.heap.size + 1, 3, none⟩ = some (.slice B g.len cap'))
            (first | exact box8 (t := 31) (by repeat (first | exact Below.refl _ _ | refine Below.drew ?_ | refine Below.alloc ?_ (by simp <;> omega) _)) | go_keep)
            (first
              | (go_at_call 61; refine (rank_any _ _ _ _ _ _ _).mono ?_; rintro e w2 ⟨rfl, rfl⟩))
          go_wp2_with fail
          go_loopw [5] (fun i wr => ∃ (j : Nat), j ≤ f.len ∧ i = .int .i64 j ∧ cmpF (f.drop j) (g.drop j) = v ∧ wr.cell? ⟨w.heap.size, 3, none⟩ = some (.slice A f.len cap) ∧ wr.cell? ⟨w.heap.size + 1, 3, none⟩ = some (.slice B g.len cap') ∧ w.heap.size + 1 < wr.heap.size ∧ Below w.heap.size w wr) (fun i _ => f.len - (intOf i).toNat)
          case atStart =>
            exact ⟨0, Nat.zero_le _, rfl, HV0.out, boxA (w := w) (t := 31) (a := .int .i64 3) (b := .int .i64 n) (c := .string s) (d := .slice A f.len cap) (a' := .int .i64 k') (b' := .int .i64 n') (c' := .string s') (d' := .slice B g.len cap') (by repeat (first | exact Below.refl _ _ | refine Below.drew ?_ | refine Below.alloc ?_ (by simp <;> omega) _)), boxB (w := w) (t := 31) (a := .int .i64 3) (b := .int .i64 n) (c := .string s) (d := .slice A f.len cap) (a' := .int .i64 k') (b' := .int .i64 n') (c' := .string s') (d' := .slice B g.len cap') (by repeat (first | exact Below.refl _ _ | refine Below.drew ?_ | refine Below.alloc ?_ (by simp <;> omega) _)), by simp <;> omega, (by repeat (first | exact Below.refl _ _ | refine Below.drew ?_ | refine Below.alloc ?_ (by simp <;> omega) _))⟩
          case round =>
            obtain ⟨j, hj, rfl, hv, q1, q2, hsz, hbw⟩ := hrel
            by_cases hlt : j < f.len
            · have hltg : j < g.len := by rw [HG.out]; exact hlt
              obtain ⟨kk, nn, s1, kids, hd⟩ := Fr.drop_cons j f hlt
              obtain ⟨kk', nn', s1', kids', hd'⟩ := Fr.drop_cons j g hltg
              obtain ⟨b, o, rfl, hlb, hbb, hrow⟩ := HK.out.2.2 (by omega)
              obtain ⟨b', o', rfl, hlb', hbb', hrow'⟩ := HK'.out.2.2 (by omega)
              obtain ⟨hfit, A', cp, c0, c1, c2, c3, hkid⟩ := hrow.elem hd
              obtain ⟨hfit', B', cp', c0', c1', c2', c3', hkid'⟩ := hrow'.elem hd'
              rw [hd, hd', cmpF_cons] at hv
              have hlo : (⟨b, o, none⟩ : Addr).block < w.heap.size := Nat.lt_of_lt_of_le hbb HHI.out
              have hlo' : (⟨b', o', none⟩ : Addr).block < w.heap.size := Nat.lt_of_lt_of_le hbb' HHI'.out
              have k0 := (hbw.cell (p := ⟨b, o + j * 4, none⟩) hlo).trans c0
              have k1 := (hbw.cell (p := ⟨b, o + j * 4 + 1, none⟩) hlo).trans c1
              have k2 := (hbw.cell (p := ⟨b, o + j * 4 + 2, none⟩) hlo).trans c2
              have k3 := (hbw.cell (p := ⟨b, o + j * 4 + 3, none⟩) hlo).trans c3
              have j0 := (hbw.cell (p := ⟨b', o' + j * 4, none⟩) hlo').trans c0'
              have j1 := (hbw.cell (p := ⟨b', o' + j * 4 + 1, none⟩) hlo').trans c1'
              have j2 := (hbw.cell (p := ⟨b', o' + j * 4 + 2, none⟩) hlo').trans c2'
              have j3 := (hbw.cell (p := ⟨b', o' + j * 4 + 3, none⟩) hlo').trans c3'
              have C1 : ∀ w1, Below wr.heap.size wr w1 → _ := fun w1 hb1 =>
                HH.out _ _ _ _ _ _ _ _ _ _ _ hd hd' kk nn kk' nn' A' B' cp cp' lo hi lo' hi' w1 (hkid.below (hbw.trans (hb1.mono hbw.size)) HHI.out) (hkid'.below (hbw.trans (hb1.mono hbw.size)) HHI'.out) (Nat.le_trans HHI.out (hbw.trans (hb1.mono hbw.size)).size) (Nat.le_trans HHI'.out (hbw.trans (hb1.mono hbw.size)).size)
              have htr : -1 ≤ cmpT kk nn s1 kids kk' nn' s1' kids' ∧ cmpT kk nn s1 kids kk' nn' s1' kids' ≤ 1 := cmpH_range _ _ _ _ _ _ _ _ _ (cmpF_range _ _)
              generalize cmpT kk nn s1 kids kk' nn' s1' kids' = t at *
              have H1 := Lib.hid C1
              have HB := Lib.hid hbw
              have HE := Lib.hid hv
              clear C1 hbw hv c0 c1 c2 c3 c0' c1' c2' c3' hkid hkid' hrow hrow' hfit hfit' hd hd' hlo hlo' t4
              by_cases ht0 : t = 0
              · subst ht0
                have HF : Hid (cmpF (f.drop (j + 1)) (g.drop (j + 1)) = v) := Lib.hid (by rw [← HE.out]; rfl)
                go_wp2_with fail
                go_still_tail 10, (by kernel_rfl)
                change wpList _ _ _ _ _ wr.drew
                have hbd : Below wr.heap.size wr wr.drew := (Below.refl _ _).drew
                generalize wr.drew = w2 at hbd ⊢
                have HD := Lib.hid hbd
                clear hbd k0 k1 k2 k3 j0 j1 j2 j3
                go_wp2_with fail
                refine (H1.out _ HD.out).mono ?_
                rintro e w3 ⟨rfl, hb3⟩
                have h3 := HD.out.trans (hb3.mono HD.out.size)
                have q1' := (h3.cell (p := ⟨w.heap.size, 3, none⟩) (by simp only; omega)).trans q1
                have q2' := (h3.cell (p := ⟨w.heap.size + 1, 3, none⟩) (by simp only; omega)).trans q2
                have hsz' : w.heap.size + 1 < w3.heap.size := Nat.lt_of_lt_of_le hsz h3.size
                have HB3 := Lib.hid h3
                clear hb3 h3
                go_wp2_with fail
                go_roundw
                case rel => exact ⟨j + 1, by omega, by go_num, HF.out, q1', q2', hsz', HB.out.trans (HB3.out.mono HB.out.size)⟩
                case measure => simp [intOf]; omega
              · have HF : Hid (v = t) := Lib.hid (by rw [← HE.out, if_neg ht0])
                have tt0 : (t != 0) = true := by simpa using ht0
                clear ht0
                go_wp2_with fail
                go_still_tail 10, (by kernel_rfl)
                change wpList _ _ _ _ _ wr.drew
                have hbd : Below wr.heap.size wr wr.drew := (Below.refl _ _).drew
                generalize wr.drew = w2 at hbd ⊢
                have HD := Lib.hid hbd
                clear hbd k0 k1 k2 k3 j0 j1 j2 j3
                go_wp2_with fail
                refine (H1.out _ HD.out).mono ?_
                rintro e w3 ⟨rfl, hb3⟩
                have h3 := HD.out.trans (hb3.mono HD.out.size)
                have HB3 := Lib.hid h3
                clear hb3 h3
                go_wp2_with fail
                go_ret
                rw [HV.out, HF.out]
                exact ⟨rfl, HB.out.trans (HB3.out.mono HB.out.size)⟩
            · obtain rfl : j = f.len := by omega
              have HE : Hid (v = 0) := Lib.hid (by
                have h1 := Fr.drop_len f
                rw [← hv, h1]; rfl)
              have HB := Lib.hid hbw
              clear hbw hv
              go_wp2_with fail
              go_ret
              rw [HV.out, HE.out]
              exact ⟨rfl, HB.out⟩
      · have HV : Hid (cmpT 3 n s f k' n' s' g = lessI f.len g.len) := Lib.hid (by rw [HE2.out, if_pos rfl, if_neg hlen])
        have t4 : ((f.len : Int) != (g.len : Int)) = true := by simp; omega
        have t5 : ¬ (f.len : Int) = (g.len : Int) := by omega
        clear HE2 hlen
        go_enter Tryd.func41, Tryd.ntmps41
        go_wp2_with fail
        go_region_held3 (fun w' => w'.cell? ⟨w.heap.size, 0, none⟩ = some (.int .i64 3) ∧ w'.cell? ⟨w.heap.size, 1, none⟩ = some (.int .i64 n) ∧ w'.cell? ⟨w.heap.size, 2, none⟩ = some (.string s) ∧ w'.cell? ⟨w.heap.size, 3, none⟩ = some (.slice A f.len cap) ∧
            w'.cell? ⟨w.heap.size + 1, 0, none⟩ = some (.int .i64 k') ∧ w'.cell? ⟨w.heap.size + 1, 1, none⟩ = some (.int .i64 n') ∧ w'.cell? ⟨w.heap.size + 1, 2, none⟩ = some (.string s') ∧ w'.cell? ⟨w.heap.size + 1, 3, none⟩ = some (.slice B g.len cap'))
          (first | exact box8 (t := 31) (by repeat (first | exact Below.refl _ _ | refine Below.drew ?_ | refine Below.alloc ?_ (by simp <;> omega) _)) | go_keep)
          (first
            | (go_at_call 61; refine (rank_any _ _ _ _ _ _ _).mono ?_; rintro e w2 ⟨rfl, rfl⟩))
        go_wp2_with fail
        refine (lessI_any _ _ _).mono ?_
        rintro e w2 ⟨rfl, rfl⟩
        go_wp2_with fail
        go_ret
        rw [HV.out]
        exact ⟨rfl, (by repeat (first | exact Below.refl _ _ | refine Below.drew ?_ | refine Below.alloc ?_ (by simp <;> omega) _))⟩
    · have HV : Hid (cmpT k n s f k' n' s' g = lessI n n') := Lib.hid (by rw [HE2.out, if_neg h3])
      have t3 : (k != 3) = true := by simpa using h3
      clear HE2 h3
      go_enter Tryd.func41, Tryd.ntmps41
      go_wp2_with fail
      go_region_held3 (fun w' => w'.cell? ⟨w.heap.size, 0, none⟩ = some (.int .i64 k) ∧ w'.cell? ⟨w.heap.size, 1, none⟩ = some (.int .i64 n) ∧ w'.cell? ⟨w.heap.size, 2, none⟩ = some (.string s) ∧ w'.cell? ⟨w.heap.size, 3, none⟩ = some (.slice A f.len cap) ∧
        w'.cell? ⟨w.heap.size + 1, 0, none⟩ = some (.int .i64 k') ∧ w'.cell? ⟨w.heap.size + 1, 1, none⟩ = some (.int .i64 n') ∧ w'.cell? ⟨w.heap.size + 1, 2, none⟩ = some (.string s') ∧ w'.cell? ⟨w.heap.size + 1, 3, none⟩ = some (.slice B g.len cap'))
      (first | exact box8 (t := 31) (by repeat (first | exact Below.refl _ _ | refine Below.drew ?_ | refine Below.alloc ?_ (by simp <;> omega) _)) | go_keep)
        (first
          | (go_at_call 61; refine (rank_any _ _ _ _ _ _ _).mono ?_; rintro e w2 ⟨rfl, rfl⟩))
      go_wp2_with fail
      refine (lessI_any _ _ _).mono ?_
      rintro e w2 ⟨rfl, rfl⟩
      go_wp2_with fail
      go_ret
      rw [HV.out]
      exact ⟨rfl, (by repeat (first | exact Below.refl _ _ | refine Below.drew ?_ | refine Below.alloc ?_ (by simp <;> omega) _))⟩
  · have HV : Hid (cmpT k n s f k' n' s' g = lessI (rankT k f.len) (rankT k' g.len)) := Lib.hid (by rw [HE.out]; unfold cmpH; rw [if_neg hr])
    have t1 : (rankT k f.len != rankT k' g.len) = true := by simpa using hr
    clear HE hr
    go_enter Tryd.func41, Tryd.ntmps41
    go_wp2_with fail
    go_region_held3 (fun w' => w'.cell? ⟨w.heap.size, 0, none⟩ = some (.int .i64 k) ∧ w'.cell? ⟨w.heap.size, 1, none⟩ = some (.int .i64 n) ∧ w'.cell? ⟨w.heap.size, 2, none⟩ = some (.string s) ∧ w'.cell? ⟨w.heap.size, 3, none⟩ = some (.slice A f.len cap) ∧
        w'.cell? ⟨w.heap.size + 1, 0, none⟩ = some (.int .i64 k') ∧ w'.cell? ⟨w.heap.size + 1, 1, none⟩ = some (.int .i64 n') ∧ w'.cell? ⟨w.heap.size + 1, 2, none⟩ = some (.string s') ∧ w'.cell? ⟨w.heap.size + 1, 3, none⟩ = some (.slice B g.len cap'))
      (first | exact box8 (t := 31) (by repeat (first | exact Below.refl _ _ | refine Below.drew ?_ | refine Below.alloc ?_ (by simp <;> omega) _)) | go_keep)
      (first
        | (go_at_call 61; refine (rank_any _ _ _ _ _ _ _).mono ?_; rintro e w2 ⟨rfl, rfl⟩))
    go_wp2_with fail
    go_region_held3 (fun w' => w'.cell? ⟨w.heap.size, 0, none⟩ = some (.int .i64 k) ∧ w'.cell? ⟨w.heap.size, 1, none⟩ = some (.int .i64 n) ∧ w'.cell? ⟨w.heap.size, 2, none⟩ = some (.string s) ∧ w'.cell? ⟨w.heap.size, 3, none⟩ = some (.slice A f.len cap) ∧
        w'.cell? ⟨w.heap.size + 1, 0, none⟩ = some (.int .i64 k') ∧ w'.cell? ⟨w.heap.size + 1, 1, none⟩ = some (.int .i64 n') ∧ w'.cell? ⟨w.heap.size + 1, 2, none⟩ = some (.string s') ∧ w'.cell? ⟨w.heap.size + 1, 3, none⟩ = some (.slice B g.len cap'))
      (first | exact box8 (t := 31) (by repeat (first | exact Below.refl _ _ | refine Below.drew ?_ | refine Below.alloc ?_ (by simp <;> omega) _)) | go_keep)
      (first
        | (go_at_call 61; refine (rank_any _ _ _ _ _ _ _).mono ?_; rintro e w2 ⟨rfl, rfl⟩)
        | (go_at_call 62; refine (lessI_any _ _ _).mono ?_; rintro e w2 ⟨rfl, rfl⟩))
    go_wp2_with fail
    go_ret
    rw [HV.out]
    exact ⟨rfl, (by repeat (first | exact Below.refl _ _ | refine Below.drew ?_ | refine Below.alloc ?_ (by simp <;> omega) _))⟩
theorem cm_all (N : Nat) : ∀ (s : ByteArray) (f : Fr) (s' : ByteArray) (g : Fr), f.size ≤ N → CmS s f s' g := by
  induction N with
  | zero =>
    intro s f s' g hf
    refine cmS_of s f s' g fun i k n s kids rest k' n' s' kids' rest' hd _ => ?_
    have h1 := Fr.size_drop i f
    rw [hd] at h1
    simp only [Fr.size] at h1
    omega
  | succ N ih =>
    intro s f s' g hf
    refine cmS_of s f s' g fun i k n s kids rest k' n' s' kids' rest' hd _ => ih s kids s' kids' ?_
    have h1 := Fr.size_drop i f
    rw [hd] at h1
    simp only [Fr.size] at h1
    omega
/-- spec.l1Compare. -/
theorem cmS_any (s : ByteArray) (f : Fr) (s' : ByteArray) (g : Fr) : CmS s f s' g := cm_all f.size s f s' g (Nat.le_refl _)
end Go.Proofs.YtppnmodemhoebaaDoor

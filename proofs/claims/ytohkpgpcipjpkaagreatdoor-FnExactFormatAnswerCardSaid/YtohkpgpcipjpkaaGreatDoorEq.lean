/- laws.eqTerm, laws.eqTermS: terms are compared field by field. Condition: both lie in memory. -/
import Derived.Test.YtohkpgpcipjpkaaGreatDoorProg
import Derived.Test.YtohkpgpcipjpkaaGreatDoorFr
import Derived.WalkKit
import Derived.WalkSpells
import Derived.Outline
import Derived.StillTailTactics
namespace Go.Proofs.YtohkpgpcipjpkaaGreatDoor
open Go.RowKit

/-- Two rows are equal, field by field. -/
def eqF : Fr → Fr → Bool
  | .nil, .nil => true
  | .cons k n s kids rest, .cons k' n' s' kids' rest' => (k == k') && ((n == n') && ((s.data.toList == s'.data.toList) && (eqF kids kids' && eqF rest rest')))
  | _, _ => false
def eqT (k n : Int) (s : ByteArray) (f : Fr) (k' n' : Int) (s' : ByteArray) (g : Fr) : Bool := (k == k') && ((n == n') && ((s.data.toList == s'.data.toList) && eqF f g))
theorem eqF_len (f : Fr) : ∀ g, eqF f g = true → f.len = g.len := by
  induction f with
  | nil => intro g h; cases g with
    | nil => rfl
    | cons _ _ _ _ _ => cases h
  | cons k n s kids rest _ ihr =>
    intro g h
    cases g with
    | nil => cases h
    | cons k' n' s' kids' rest' =>
      simp only [eqF, Bool.and_eq_true] at h
      simp only [Fr.len]; rw [ihr rest' h.2.2.2.2]
theorem eqF_cons (k n : Int) (s : ByteArray) (kids rest : Fr) (k' n' : Int) (s' : ByteArray) (kids' rest' : Fr) :
    eqF (.cons k n s kids rest) (.cons k' n' s' kids' rest') = (eqT k n s kids k' n' s' kids' && eqF rest rest') := by
  simp only [eqF, eqT, Bool.and_assoc]
theorem eqF_refl (f : Fr) : eqF f f = true := by
  induction f with
  | nil => rfl
  | cons k n s kids rest ihk ihr => simp [eqF, ihk, ihr]
theorem eqT_refl (k n : Int) (s : ByteArray) (f : Fr) : eqT k n s f k n s f = true := by simp [eqT, eqF_refl]

def EqS (f g : Fr) : Prop := ∀ (A B : Option Addr) (cap cap' lo hi lo' hi' : Nat) (w : World), KidsAt w lo hi f A cap → KidsAt w lo' hi' g B cap' → hi ≤ w.heap.size → hi' ≤ w.heap.size →
  Calls Tryz.prog 10 #[.slice A f.len cap, .slice B g.len cap'] w fun e w' => e = .returned (.bool (eqF f g)) ∧ Below w.heap.size w w'
def EqT (s : ByteArray) (f : Fr) (s' : ByteArray) (g : Fr) : Prop := ∀ (k n k' n' : Int) (A B : Option Addr) (cap cap' lo hi lo' hi' : Nat) (w : World), KidsAt w lo hi f A cap → KidsAt w lo' hi' g B cap' → hi ≤ w.heap.size → hi' ≤ w.heap.size →
  Calls Tryz.prog 22 #[.agg #[.int .i64 k, .int .i64 n, .string s, .slice A f.len cap], .agg #[.int .i64 k', .int .i64 n', .string s', .slice B g.len cap']] w fun e w' => e = .returned (.bool (eqT k n s f k' n' s' g)) ∧ Below w.heap.size w w'

theorem two_alloc (w : World) (o o' : Obj) : Below w.heap.size w ((w.alloc o).alloc o') := ((Below.refl _ _).alloc (Nat.le_refl _) _).alloc (by simp) _

set_option maxHeartbeats 1000000 in
theorem eqT_of (s : ByteArray) (f : Fr) (s' : ByteArray) (g : Fr) (h : EqS f g) : EqT s f s' g := by
  intro k n k' n' A B cap cap' lo hi lo' hi' w hk hk' hh hh'
  have C1 : ∀ w1, Below w.heap.size w w1 → Calls Tryz.prog 10 #[.slice A f.len cap, .slice B g.len cap'] w1 fun e w' => e = .returned (.bool (eqF f g)) ∧ Below w1.heap.size w1 w' :=
    fun w1 hb => h A B cap cap' lo hi lo' hi' w1 (hk.below hb hh) (hk'.below hb hh') (Nat.le_trans hh hb.size) (Nat.le_trans hh' hb.size)
  clear h hk hk' hh hh'
  generalize f.len = fl at *
  generalize g.len = gl at *
  by_cases h1 : k = k'
  · by_cases h2 : n = n'
    · by_cases h3 : s.data.toList = s'.data.toList
      · subst h1 h2
        have HV : Hid (eqT k n s f k n s' g = eqF f g) := Lib.hid (by simp [eqT, h3])
        have t1 : (k != k) = false := by simp
        have t2 : (n != n) = false := by simp
        have t3 : (s.toList != s'.toList) = false := by rw [ByteArray.toList_eq, ByteArray.toList_eq, h3]; simp
        have t4 : (!(s.toList == s'.toList)) = false := t3
        generalize eqF f g = v at *
        have H1 := Lib.hid C1
        clear C1 h3
        cases v
        all_goals
          go_enter Tryz.func22, Tryz.ntmps22
          go_wp2_with fail
          refine (H1.out _ (two_alloc w _ _)).mono ?_
          rintro e w' ⟨rfl, hb⟩
          have HB := Lib.hid hb
          clear hb
          go_wp2_with fail
          go_ret
          rw [HV.out]
          exact ⟨rfl, (two_alloc w _ _).trans (HB.out.mono (by simp; omega))⟩
      · have HV : Hid (eqT k n s f k' n' s' g = false) := Lib.hid (by simp only [eqT]; rw [show (s.data.toList == s'.data.toList) = false by simpa using h3]; simp)
        subst h1 h2
        have t1 : (k != k) = false := by simp
        have t2 : (n != n) = false := by simp
        have t4 : (!(s.toList == s'.toList)) = true := by rw [ByteArray.toList_eq, ByteArray.toList_eq]; simpa using h3
        have t3 : (s.toList != s'.toList) = true := t4
        clear C1 h3
        go_enter Tryz.func22, Tryz.ntmps22
        go_wp2_with fail
        go_ret
        rw [HV.out]
        exact ⟨rfl, two_alloc w _ _⟩
    · have HV : Hid (eqT k n s f k' n' s' g = false) := Lib.hid (by simp [eqT, h2])
      subst h1
      have t1 : (k != k) = false := by simp
      have t2 : (n != n') = true := by simpa using h2
      clear C1 h2
      go_enter Tryz.func22, Tryz.ntmps22
      go_wp2_with fail
      go_ret
      rw [HV.out]
      exact ⟨rfl, two_alloc w _ _⟩
  · have HV : Hid (eqT k n s f k' n' s' g = false) := Lib.hid (by simp [eqT, h1])
    have t1 : (k != k') = true := by simpa using h1
    clear C1 h1
    go_enter Tryz.func22, Tryz.ntmps22
    go_wp2_with fail
    go_ret
    rw [HV.out]
    exact ⟨rfl, two_alloc w _ _⟩

set_option maxRecDepth 100000 in
set_option maxHeartbeats 1000000 in
theorem eqS_of (f g : Fr) (h : ∀ i k n s kids rest k' n' s' kids' rest', f.drop i = .cons k n s kids rest → g.drop i = .cons k' n' s' kids' rest' → EqT s kids s' kids') : EqS f g := by
  intro A B cap cap' lo hi lo' hi' w hk hk' hh hh'
  by_cases hlen : f.len = g.len
  · have HK := Lib.hid hk
    have HK' := Lib.hid hk'
    have HH := Lib.hid h
    have HHI := Lib.hid hh
    have HHI' := Lib.hid hh'
    have hl := hk.1
    have hm := hk.2.1
    unfold maxLen at hm
    clear hk hk' h hh hh'
    rw [← hlen]
    have HG : Hid (g.len = f.len) := Lib.hid hlen.symm
    clear hlen
    generalize hn : f.len = len at *
    have HN := Lib.hid hn
    clear hn
    generalize hv : eqF f g = v
    have HV := Lib.hid hv
    clear hv
    have t0 : ((len : Int) != (len : Int)) = false := by simp
    go_enter Tryz.func10, Tryz.ntmps10
    go_wp2_with fail
    go_loopw [5] (fun i wr => ∃ (k : Nat), k ≤ len ∧ i = .int .i64 k ∧ eqF (f.drop k) (g.drop k) = v ∧ Below w.heap.size w wr) (fun i _ => len - (intOf i).toNat)
    case atStart => exact ⟨0, Nat.zero_le _, rfl, HV.out, Below.refl _ _⟩
    case round =>
      obtain ⟨k, hk, rfl, hv, hb⟩ := hrel
      by_cases hlt : k < len
      · obtain ⟨kk, nn, s, kids, hd⟩ := Fr.drop_cons k f (by rw [HN.out]; exact hlt)
        obtain ⟨kk', nn', s', kids', hd'⟩ := Fr.drop_cons k g (by rw [HG.out]; exact hlt)
        obtain ⟨b, o, rfl, hlb, hbb, hrow⟩ := HK.out.2.2 (by rw [HN.out]; omega)
        obtain ⟨b', o', rfl, hlb', hbb', hrow'⟩ := HK'.out.2.2 (by rw [HG.out]; omega)
        obtain ⟨hfit, A', cp, c0, c1, c2, c3, hkid⟩ := hrow.elem hd
        obtain ⟨hfit', B', cp', c0', c1', c2', c3', hkid'⟩ := hrow'.elem hd'
        rw [hd, hd', eqF_cons] at hv
        have hlo : (⟨b, o, none⟩ : Addr).block < w.heap.size := Nat.lt_of_lt_of_le hbb HHI.out
        have hlo' : (⟨b', o', none⟩ : Addr).block < w.heap.size := Nat.lt_of_lt_of_le hbb' HHI'.out
        have k0 := (hb.cell (p := ⟨b, o + k * 4, none⟩) hlo).trans c0
        have k1 := (hb.cell (p := ⟨b, o + k * 4 + 1, none⟩) hlo).trans c1
        have k2 := (hb.cell (p := ⟨b, o + k * 4 + 2, none⟩) hlo).trans c2
        have k3 := (hb.cell (p := ⟨b, o + k * 4 + 3, none⟩) hlo).trans c3
        have j0 := (hb.cell (p := ⟨b', o' + k * 4, none⟩) hlo').trans c0'
        have j1 := (hb.cell (p := ⟨b', o' + k * 4 + 1, none⟩) hlo').trans c1'
        have j2 := (hb.cell (p := ⟨b', o' + k * 4 + 2, none⟩) hlo').trans c2'
        have j3 := (hb.cell (p := ⟨b', o' + k * 4 + 3, none⟩) hlo').trans c3'
        have C1 : ∀ w1, Below wr.heap.size wr w1 → _ := fun w1 hb1 =>
          have hb2 := hb.trans (hb1.mono hb.size)
          HH.out _ _ _ _ _ _ _ _ _ _ _ hd hd' kk nn kk' nn' A' B' cp cp' lo hi lo' hi' w1 (hkid.below hb2 HHI.out) (hkid'.below hb2 HHI'.out) (Nat.le_trans HHI.out hb2.size) (Nat.le_trans HHI'.out hb2.size)
        generalize eqT kk nn s kids kk' nn' s' kids' = t at *
        have H1 := Lib.hid C1
        have HB := Lib.hid hb
        have HE := Lib.hid hv
        clear C1 hb hv c0 c1 c2 c3 c0' c1' c2' c3' hkid hkid' hrow hrow' hfit hfit' hd hd' hlo hlo'
        cases t
        · have HF : Hid (v = false) := Lib.hid (by rw [← HE.out]; rfl)
          go_wp2_with fail
          go_still_tail 8, (by kernel_rfl)
          change wpList _ _ _ _ _ wr.drew
          have hbd : Below wr.heap.size wr wr.drew := (Below.refl _ _).drew
          generalize wr.drew = w2 at hbd ⊢
          have HD := Lib.hid hbd
          clear hbd k0 k1 k2 k3 j0 j1 j2 j3
          go_wp2_with fail
          refine (H1.out _ HD.out).mono ?_
          rintro e w3 ⟨rfl, hb3⟩
          have HB3 := Lib.hid hb3
          clear hb3
          go_wp2_with fail
          go_ret
          rw [HF.out]
          exact ⟨rfl, (HB.out.trans (HD.out.mono HB.out.size)).trans (HB3.out.mono (Nat.le_trans HB.out.size HD.out.size))⟩
        · have HF : Hid (eqF (f.drop (k + 1)) (g.drop (k + 1)) = v) := Lib.hid (by rw [← HE.out]; rfl)
          go_wp2_with fail
          go_still_tail 8, (by kernel_rfl)
          change wpList _ _ _ _ _ wr.drew
          have hbd : Below wr.heap.size wr wr.drew := (Below.refl _ _).drew
          generalize wr.drew = w2 at hbd ⊢
          have HD := Lib.hid hbd
          clear hbd k0 k1 k2 k3 j0 j1 j2 j3
          go_wp2_with fail
          refine (H1.out _ HD.out).mono ?_
          rintro e w3 ⟨rfl, hb3⟩
          have HB3 := Lib.hid hb3
          clear hb3
          go_wp2_with fail
          go_roundw
          case rel => exact ⟨k + 1, by omega, by go_num, HF.out, (HB.out.trans (HD.out.mono HB.out.size)).trans (HB3.out.mono (Nat.le_trans HB.out.size HD.out.size))⟩
          case measure => simp [intOf]; omega
      · obtain rfl : k = len := by omega
        have HE : Hid (v = true) := Lib.hid (by
          have h1 := Fr.drop_len f
          have h2 := Fr.drop_len g
          rw [HN.out] at h1
          rw [HG.out] at h2
          rw [← hv, h1, h2]; rfl)
        have HB := Lib.hid hb
        clear hb hv
        go_wp2_with fail
        go_ret
        rw [HE.out]
        exact ⟨rfl, HB.out⟩
  · have HV : Hid (eqF f g = false) := Lib.hid (by
      rw [← Bool.not_eq_true]
      exact fun hh => hlen (eqF_len f g hh))
    have m1 := hk.1
    have m2 := hk.2.1
    have m3 := hk'.1
    have m4 := hk'.2.1
    unfold maxLen at m2 m4
    clear hk hk' h hh hh'
    generalize f.len = fl at *
    generalize g.len = gl at *
    have t0 : ((fl : Int) != (gl : Int)) = true := by simp; omega
    have t1 : ¬ (fl : Int) = (gl : Int) := by omega
    clear hlen
    go_enter Tryz.func10, Tryz.ntmps10
    go_wp2_with fail
    go_ret
    rw [HV.out]
    exact ⟨rfl, Below.refl _ _⟩

theorem eq_all (N : Nat) : ∀ f g : Fr, f.size ≤ N → EqS f g := by
  induction N with
  | zero =>
    intro f g hf
    refine eqS_of f g fun i k n s kids rest k' n' s' kids' rest' hd _ => ?_
    have h1 := Fr.size_drop i f
    rw [hd] at h1
    simp only [Fr.size] at h1
    omega
  | succ N ih =>
    intro f g hf
    refine eqS_of f g fun i k n s kids rest k' n' s' kids' rest' hd _ => eqT_of s kids s' kids' (ih kids kids' ?_)
    have h1 := Fr.size_drop i f
    rw [hd] at h1
    simp only [Fr.size] at h1
    omega
/-- laws.eqTermS. -/
theorem eqS_any (f g : Fr) : EqS f g := eq_all f.size f g (Nat.le_refl _)
/-- laws.eqTerm. -/
theorem eqT_any (s : ByteArray) (f : Fr) (s' : ByteArray) (g : Fr) : EqT s f s' g := eqT_of s f s' g (eqS_any f g)
end Go.Proofs.YtohkpgpcipjpkaaGreatDoor

/- spec.TermValid and what it calls: the model's validity. Condition: the term lies in memory. -/
import Derived.Test.YtihmgodiiohdnaaGreatDoorProg
import Derived.Test.YtihmgodiiohdnaaGreatDoorValid
import Derived.Test.YtihmgodiiohdnaaGreatDoorNvWalks
import Derived.Test.YtihmgodiiohdnaaGreatDoorOwn
import Derived.WalkKit
import Derived.WalkSpells
import Derived.Outline
namespace Go.Proofs.YtihmgodiiohdnaaGreatDoor
open Go.RowKit

theorem empty_yes {s : ByteArray} (h : noName s = true) : s.toList.isEmpty = true := by rw [ByteArray.toList_eq]; exact h
theorem empty_no {s : ByteArray} (h : noName s = false) : s.toList.isEmpty = false := by rw [ByteArray.toList_eq]; exact h

/-- The box of an argument, read in a later world. -/
theorem boxed {w w2 : World} {t : TypeId} {cs : Array Value} (hb : Below (w.alloc (.cells cs t)).heap.size (w.alloc (.cells cs t)) w2) (i : Nat) : w2.cell? ⟨w.heap.size, i, none⟩ = cs[i]? :=
  ((Blk.new w t cs).below hb (by simp)).cell i

set_option maxRecDepth 100000 in
set_option maxHeartbeats 2000000 in
/-- spec.l1Own. -/
theorem own_any (k n : Int) (s : ByteArray) (A : Option Addr) (len cap : Nat) (w : World) (hf : Fits k n s) (hl : len ≤ maxLen) :
    Calls Tryz.prog 67 #[.agg #[.int .i64 k, .int .i64 n, .string s, .slice A len cap]] w fun e w' => e = .returned (.bool (ownB k n s len)) ∧ Below w.heap.size w w' := by
  have hs := Lib.hid hf.2.2
  clear hf
  unfold maxLen at hl
  have hb0 : ∀ o, Below w.heap.size w (w.alloc o) := fun o => (Below.refl _ _).alloc (Nat.le_refl _) _
  have HB0 := Lib.hid hb0
  clear hb0
  by_cases k1 : k = 1
  · subst k1
    by_cases hp : (0 ≤ n ∧ n ≤ 25) ∧ noName s = true ∧ len = 0
    · obtain ⟨⟨h1, h2⟩, h3, rfl⟩ := hp
      have HV : Hid (ownB 1 n s 0 = true) := Lib.hid (by simp [ownB, h1, h2, h3])
      have e1 := empty_yes h3
      have d2 : decide (n ≤ 25) = true := decide_eq_true h2
      clear h3
      go_enter Tryz.func67, Tryz.ntmps67
      go_wp2_with fail
      go_ret
      rw [HV.out]; exact ⟨rfl, HB0.out _⟩
    · have HV : Hid (ownB 1 n s len = false) := Lib.hid (by
        rw [← Bool.not_eq_true]
        intro h
        apply hp
        simp [ownB] at h
        obtain ⟨⟨⟨h1, h2⟩, h3⟩, h4⟩ := h
        exact ⟨⟨h1, h2⟩, h3, h4⟩)
      have hw : n < 0 ∨ (0 ≤ n ∧ 25 < n) ∨ ((0 ≤ n ∧ n ≤ 25) ∧ noName s = false) ∨ ((0 ≤ n ∧ n ≤ 25) ∧ noName s = true ∧ len ≠ 0) := by
        by_cases a : n < 0
        · exact .inl a
        · by_cases b : 25 < n
          · exact .inr (.inl ⟨by omega, b⟩)
          · right; right
            cases hc : noName s
            · exact .inl ⟨⟨by omega, by omega⟩, rfl⟩
            · exact .inr ⟨⟨by omega, by omega⟩, rfl, fun hz => hp ⟨⟨by omega, by omega⟩, hc, hz⟩⟩
      clear hp
      rcases hw with a | ⟨a, b⟩ | ⟨⟨a, b⟩, c⟩ | ⟨⟨a, b⟩, c, d⟩
      · go_enter Tryz.func67, Tryz.ntmps67
        go_wp2_with fail
        go_ret
        rw [HV.out]; exact ⟨rfl, HB0.out _⟩
      · have d2 : decide (n ≤ 25) = false := decide_eq_false (by omega)
        go_enter Tryz.func67, Tryz.ntmps67
        go_wp2_with fail
        go_ret
        rw [HV.out]; exact ⟨rfl, HB0.out _⟩
      · have d2 : decide (n ≤ 25) = true := decide_eq_true b
        have e1 := empty_no c
        clear c
        go_enter Tryz.func67, Tryz.ntmps67
        go_wp2_with fail
        go_ret
        rw [HV.out]; exact ⟨rfl, HB0.out _⟩
      · have d2 : decide (n ≤ 25) = true := decide_eq_true b
        have e1 := empty_yes c
        have t1 : ((len : Int) == 0) = false := by rw [beq_eq_false_iff_ne]; omega
        clear c d
        go_enter Tryz.func67, Tryz.ntmps67
        go_wp2_with fail
        go_ret
        rw [HV.out]; exact ⟨rfl, HB0.out _⟩
  · by_cases k2 : k = 2
    · subst k2
      clear k1
      by_cases hp : (-999 ≤ n ∧ n ≤ 999) ∧ noName s = true ∧ len = 0
      · obtain ⟨⟨h1, h2⟩, h3, rfl⟩ := hp
        have HV : Hid (ownB 2 n s 0 = true) := Lib.hid (by simp [ownB, h1, h2, h3])
        have e1 := empty_yes h3
        have d2 : decide (n ≤ 999) = true := decide_eq_true h2
        clear h3
        go_enter Tryz.func67, Tryz.ntmps67
        go_wp2_with fail
        go_ret
        rw [HV.out]; exact ⟨rfl, HB0.out _⟩
      · have HV : Hid (ownB 2 n s len = false) := Lib.hid (by
          rw [← Bool.not_eq_true]
          intro h
          apply hp
          simp [ownB] at h
          obtain ⟨⟨⟨h1, h2⟩, h3⟩, h4⟩ := h
          exact ⟨⟨h1, h2⟩, h3, h4⟩)
        have hw : n < -999 ∨ (-999 ≤ n ∧ 999 < n) ∨ ((-999 ≤ n ∧ n ≤ 999) ∧ noName s = false) ∨ ((-999 ≤ n ∧ n ≤ 999) ∧ noName s = true ∧ len ≠ 0) := by
          by_cases a : n < -999
          · exact .inl a
          · by_cases b : 999 < n
            · exact .inr (.inl ⟨by omega, b⟩)
            · right; right
              cases hc : noName s
              · exact .inl ⟨⟨by omega, by omega⟩, rfl⟩
              · exact .inr ⟨⟨by omega, by omega⟩, rfl, fun hz => hp ⟨⟨by omega, by omega⟩, hc, hz⟩⟩
        clear hp
        rcases hw with a | ⟨a, b⟩ | ⟨⟨a, b⟩, c⟩ | ⟨⟨a, b⟩, c, d⟩
        · go_enter Tryz.func67, Tryz.ntmps67
          go_wp2_with fail
          go_ret
          rw [HV.out]; exact ⟨rfl, HB0.out _⟩
        · have d2 : decide (n ≤ 999) = false := decide_eq_false (by omega)
          go_enter Tryz.func67, Tryz.ntmps67
          go_wp2_with fail
          go_ret
          rw [HV.out]; exact ⟨rfl, HB0.out _⟩
        · have d2 : decide (n ≤ 999) = true := decide_eq_true b
          have e1 := empty_no c
          clear c
          go_enter Tryz.func67, Tryz.ntmps67
          go_wp2_with fail
          go_ret
          rw [HV.out]; exact ⟨rfl, HB0.out _⟩
        · have d2 : decide (n ≤ 999) = true := decide_eq_true b
          have e1 := empty_yes c
          have t1 : ((len : Int) == 0) = false := by rw [beq_eq_false_iff_ne]; omega
          clear c d
          go_enter Tryz.func67, Tryz.ntmps67
          go_wp2_with fail
          go_ret
          rw [HV.out]; exact ⟨rfl, HB0.out _⟩
    · have t1 : (k == 1) = false := by rw [beq_eq_false_iff_ne]; exact k1
      have t2 : (k == 2) = false := by rw [beq_eq_false_iff_ne]; exact k2
      by_cases k3 : k = 3
      · subst k3
        clear k1 k2 t1 t2
        by_cases h0 : n = 0
        · subst h0
          have C1 : ∀ w1, Below w.heap.size w w1 → _ := fun w1 hb => nv.spec_any s w1 hs.out
          have HE : Hid (ownB 3 0 s len = (nv.nameB s.data.toList && decide (len ≤ 4))) := Lib.hid (by simp [ownB])
          generalize nv.nameB s.data.toList = v at *
          have H1 := Lib.hid C1
          clear C1
          cases v
          · have HV : Hid (ownB 3 0 s len = false) := Lib.hid (by rw [HE.out]; rfl)
            go_enter Tryz.func67, Tryz.ntmps67
            go_wp2_with fail
            refine (H1.out _ (HB0.out _)).mono ?_
            rintro e w2 ⟨rfl, hb⟩
            have HB := Lib.hid hb
            clear hb
            go_wp2_with fail
            go_ret
            rw [HV.out]; exact ⟨rfl, (HB0.out _).trans (HB.out.mono (by simp))⟩
          · by_cases h4 : len ≤ 4
            · have HV : Hid (ownB 3 0 s len = true) := Lib.hid (by rw [HE.out, decide_eq_true h4]; rfl)
              have d4 : decide ((len : Int) ≤ 4) = true := decide_eq_true (by omega)
              go_enter Tryz.func67, Tryz.ntmps67
              go_wp2_with fail
              refine (H1.out _ (HB0.out _)).mono ?_
              rintro e w2 ⟨rfl, hb⟩
              have hcell := boxed hb 3
              simp only [List.getElem?_toArray, List.getElem?_cons_zero, List.getElem?_cons_succ] at hcell
              have HB := Lib.hid hb
              clear hb
              go_wp2_with fail
              go_ret
              rw [HV.out]; exact ⟨rfl, (HB0.out _).trans (HB.out.mono (by simp))⟩
            · have HV : Hid (ownB 3 0 s len = false) := Lib.hid (by rw [HE.out, decide_eq_false h4]; rfl)
              have d4 : decide ((len : Int) ≤ 4) = false := decide_eq_false (by omega)
              go_enter Tryz.func67, Tryz.ntmps67
              go_wp2_with fail
              refine (H1.out _ (HB0.out _)).mono ?_
              rintro e w2 ⟨rfl, hb⟩
              have hcell := boxed hb 3
              simp only [List.getElem?_toArray, List.getElem?_cons_zero, List.getElem?_cons_succ] at hcell
              have HB := Lib.hid hb
              clear hb
              go_wp2_with fail
              go_ret
              rw [HV.out]; exact ⟨rfl, (HB0.out _).trans (HB.out.mono (by simp))⟩
        · have HV : Hid (ownB 3 n s len = false) := Lib.hid (by simp [ownB, h0])
          have t3 : (n == 0) = false := by rw [beq_eq_false_iff_ne]; exact h0
          clear h0
          go_enter Tryz.func67, Tryz.ntmps67
          go_wp2_with fail
          go_ret
          rw [HV.out]; exact ⟨rfl, HB0.out _⟩
      · have t3 : (k == 3) = false := by rw [beq_eq_false_iff_ne]; exact k3
        have HV : Hid (ownB k n s len = false) := Lib.hid (by simp only [ownB, t1, t2, t3]; rfl)
        clear k1 k2 k3
        go_enter Tryz.func67, Tryz.ntmps67
        go_wp2_with fail
        go_ret
        rw [HV.out]; exact ⟨rfl, HB0.out _⟩

def ShT (s : ByteArray) (f : Fr) : Prop := ∀ (k n d : Int) (A : Option Addr) (cap lo hi : Nat) (w : World), KidsAt w lo hi f A cap → hi ≤ w.heap.size → Fits k n s → -1 ≤ d → d ≤ 30 →
  Calls Tryz.prog 47 #[.agg #[.int .i64 k, .int .i64 n, .string s, .slice A f.len cap], .int .i64 d] w fun e w' => e = .returned (.bool (shapeT k n s f d)) ∧ Below w.heap.size w w'

set_option maxRecDepth 100000 in
set_option maxHeartbeats 2000000 in
theorem shT_of (s : ByteArray) (f : Fr) (h : ∀ i k n s kids rest, f.drop i = .cons k n s kids rest → ShT s kids) : ShT s f := by
  intro k n d A cap lo hi w hk hh hf h0 h1
  have HK := Lib.hid hk
  have HH := Lib.hid h
  have HHI := Lib.hid hh
  have hl := hk.1
  have hm := hk.2.1
  have hlm : f.len ≤ maxLen := Nat.le_trans hl hm
  have C1 := fun w1 => own_any k n s A f.len cap w1 hf hlm
  have hb0 : ∀ o, Below w.heap.size w (w.alloc o) := fun o => (Below.refl _ _).alloc (Nat.le_refl _) _
  have HB0 := Lib.hid hb0
  unfold maxLen at hm
  clear hk h hh hf hb0 hlm
  have HE : Hid (shapeT k n s f d = (decide (1 ≤ d) && (ownB k n s f.len && shapeF f (d - 1)))) := Lib.hid rfl
  generalize hn : f.len = len at *
  have HN := Lib.hid hn
  clear hn
  by_cases hd : d < 1
  · have HV : Hid (shapeT k n s f d = false) := Lib.hid (by rw [HE.out, decide_eq_false (by omega)]; rfl)
    clear C1
    go_enter Tryz.func47, Tryz.ntmps47
    go_wp2_with fail
    go_ret
    rw [HV.out]; exact ⟨rfl, HB0.out _⟩
  · generalize ownB k n s len = v at *
    have H1 := Lib.hid C1
    clear C1
    cases v
    · have HV : Hid (shapeT k n s f d = false) := Lib.hid (by rw [HE.out]; simp)
      go_enter Tryz.func47, Tryz.ntmps47
      go_wp2_with fail
      refine (H1.out _).mono ?_
      rintro e w2 ⟨rfl, hb⟩
      have HB := Lib.hid hb
      clear hb
      go_wp2_with fail
      go_ret
      rw [HV.out]; exact ⟨rfl, (HB0.out _).trans (HB.out.mono (by simp))⟩
    · have HV : Hid (shapeT k n s f d = shapeF f (d - 1)) := Lib.hid (by rw [HE.out, decide_eq_true (by omega)]; simp)
      generalize hv : shapeF f (d - 1) = v at *
      have HV0 := Lib.hid hv
      clear hv HE
      go_enter Tryz.func47, Tryz.ntmps47
      go_wp2_with fail
      refine (H1.out _).mono ?_
      rintro e w2 ⟨rfl, hb⟩
      have hcell := boxed hb 3
      simp only [List.getElem?_toArray, List.getElem?_cons_zero, List.getElem?_cons_succ] at hcell
      have hb2 : Below w.heap.size w w2 := (HB0.out _).trans (hb.mono (by simp))
      have hsz : w.heap.size < w2.heap.size := by have := hb.size; simp at this; omega
      have HB := Lib.hid hb2
      clear hb hb2
      go_wp2_with fail
      go_loopw [5] (fun i wr => ∃ (k : Nat), k ≤ len ∧ i = .int .i64 k ∧ shapeF (f.drop k) (d - 1) = v ∧ Below w2.heap.size w2 wr) (fun i _ => len - (intOf i).toNat)
      case atStart => exact ⟨0, Nat.zero_le _, rfl, HV0.out, Below.refl _ _⟩
      case round =>
        obtain ⟨k, hk, rfl, hv, hbr⟩ := hrel
        have hcr := (hbr.cell (p := ⟨w.heap.size, 3, none⟩) hsz).trans hcell
        have hbw : Below w.heap.size w wr := HB.out.trans (hbr.mono (by omega))
        by_cases hlt : k < len
        · obtain ⟨kk, nn, s, kids, hd'⟩ := Fr.drop_cons k f (by rw [HN.out]; exact hlt)
          obtain ⟨b, o, rfl, hlb, hbb, hrow⟩ := HK.out.2.2 (by rw [HN.out]; omega)
          obtain ⟨hfit, A', cap', c0, c1, c2, c3, hkid⟩ := hrow.elem hd'
          rw [hd', shapeF_cons] at hv
          have hlo : (⟨b, o, none⟩ : Addr).block < w.heap.size := Nat.lt_of_lt_of_le hbb HHI.out
          have k0 := (hbw.cell (p := ⟨b, o + k * 4, none⟩) hlo).trans c0
          have k1 := (hbw.cell (p := ⟨b, o + k * 4 + 1, none⟩) hlo).trans c1
          have k2 := (hbw.cell (p := ⟨b, o + k * 4 + 2, none⟩) hlo).trans c2
          have k3 := (hbw.cell (p := ⟨b, o + k * 4 + 3, none⟩) hlo).trans c3
          have C2 := HH.out _ _ _ _ _ _ hd' kk nn (d - 1) A' cap' lo hi wr (hkid.below hbw HHI.out) (Nat.le_trans HHI.out hbw.size) hfit (by omega) (by omega)
          generalize shapeT kk nn s kids (d - 1) = t at *
          have H2 := Lib.hid C2
          have HBR := Lib.hid hbr
          have HE := Lib.hid hv
          clear C2 hbr hbw hv c0 c1 c2 c3 hkid hrow hfit hd' hlo hcell H1
          cases t
          · have HF : Hid (v = false) := Lib.hid (by rw [← HE.out]; rfl)
            go_wp2_with fail
            refine H2.out.mono ?_
            rintro e w3 ⟨rfl, hb3⟩
            have HB3 := Lib.hid hb3
            clear hb3
            go_wp2_with fail
            go_ret
            rw [HV.out, HF.out]
            exact ⟨rfl, (HB.out.trans (HBR.out.mono (by omega))).trans (HB3.out.mono (by have := HBR.out.size; omega))⟩
          · have HF : Hid (shapeF (f.drop (k + 1)) (d - 1) = v) := Lib.hid (by rw [← HE.out]; rfl)
            go_wp2_with fail
            refine H2.out.mono ?_
            rintro e w3 ⟨rfl, hb3⟩
            have HB3 := Lib.hid hb3
            clear hb3
            go_wp2_with fail
            go_roundw
            case rel => exact ⟨k + 1, by omega, by go_num, HF.out, HBR.out.trans (HB3.out.mono HBR.out.size)⟩
            case measure => simp [intOf]; omega
        · obtain rfl : k = len := by omega
          have HE : Hid (v = true) := Lib.hid (by
            have h1 := Fr.drop_len f
            rw [HN.out] at h1
            rw [← hv, h1]; rfl)
          have HBW := Lib.hid hbw
          clear hbr hbw hv hcell H1
          go_wp2_with fail
          go_ret
          rw [HV.out, HE.out]
          exact ⟨rfl, HBW.out⟩
theorem sh_all (N : Nat) : ∀ (s : ByteArray) (f : Fr), f.size ≤ N → ShT s f := by
  induction N with
  | zero =>
    intro s f hf
    refine shT_of s f fun i k n s kids rest hd => ?_
    have h1 := Fr.size_drop i f
    rw [hd] at h1
    simp only [Fr.size] at h1
    omega
  | succ N ih =>
    intro s f hf
    refine shT_of s f fun i k n s kids rest hd => ih s kids ?_
    have h1 := Fr.size_drop i f
    rw [hd] at h1
    simp only [Fr.size] at h1
    omega
/-- spec.l1Shape. -/
theorem shT_any (s : ByteArray) (f : Fr) : ShT s f := sh_all f.size s f (Nat.le_refl _)
end Go.Proofs.YtihmgodiiohdnaaGreatDoor

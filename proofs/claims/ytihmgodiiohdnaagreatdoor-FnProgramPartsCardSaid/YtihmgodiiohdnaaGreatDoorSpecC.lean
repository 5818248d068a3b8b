/- spec.l1Count, spec.TermValid, spec.CountNodes. Condition: the term lies in memory and has at most 2^20 nodes. -/
import Derived.Test.YtihmgodiiohdnaaGreatDoorProg
import Derived.Test.YtihmgodiiohdnaaGreatDoorSpecV
namespace Go.Proofs.YtihmgodiiohdnaaGreatDoor
open Go.RowKit

theorem nodes_elem (i : Nat) : ∀ (f : Fr) {k n : Int} {s : ByteArray} {kids rest : Fr}, f.drop i = .cons k n s kids rest → nodes kids + 1 + nodes rest ≤ nodes f := by
  induction i with
  | zero =>
    intro f k n s kids rest h
    cases f with
    | nil => cases h
    | cons k' n' s' kids' rest' =>
      injection h with h1 h2 h3 h4 h5
      subst h4 h5
      simp only [nodes]; omega
  | succ i ih =>
    intro f k n s kids rest h
    cases f with
    | nil => cases h
    | cons k' n' s' kids' rest' =>
      have := ih rest' h
      simp only [nodes]; omega

def CtT (s : ByteArray) (f : Fr) : Prop := ∀ (k n most : Int) (A : Option Addr) (cap lo hi : Nat) (w : World), KidsAt w lo hi f A cap → hi ≤ w.heap.size → nodes f ≤ 1048576 → 0 ≤ most → most ≤ 120 →
  Calls Tryz.prog 48 #[.agg #[.int .i64 k, .int .i64 n, .string s, .slice A f.len cap], .int .i64 most] w fun e w' => e = .returned (.int .i64 (cntF f most 1)) ∧ Below w.heap.size w w'

set_option maxRecDepth 100000 in
set_option maxHeartbeats 2000000 in
theorem ctT_of (s : ByteArray) (f : Fr) (h : ∀ i k n s kids rest, f.drop i = .cons k n s kids rest → CtT s kids) : CtT s f := by
  intro k n most A cap lo hi w hk hh hnd h0 h1
  have HK := Lib.hid hk
  have HH := Lib.hid h
  have HHI := Lib.hid hh
  have HND := Lib.hid hnd
  have hl := hk.1
  have hm := hk.2.1
  have hbox := ((Blk.new w 30 #[.int .i64 k, .int .i64 n, .string s, .slice A f.len cap]).cell 3)
  simp only [List.getElem?_toArray, List.getElem?_cons_zero, List.getElem?_cons_succ] at hbox
  have hb0 : Below w.heap.size w (w.alloc (.cells #[.int .i64 k, .int .i64 n, .string s, .slice A f.len cap] 30)) := (Below.refl _ _).alloc (Nat.le_refl _) _
  have hsz0 : w.heap.size < (w.alloc (.cells #[.int .i64 k, .int .i64 n, .string s, .slice A f.len cap] 30)).heap.size := by simp
  unfold maxLen at hm
  clear hk h hh hnd
  have hv0 : cntF f most 1 = cntF f most 1 := rfl
  generalize hv : cntF f most 1 = v at hv0 ⊢
  have HV := Lib.hid hv
  clear hv hv0
  generalize hn : f.len = len at *
  have HN := Lib.hid hn
  clear hn
  go_enter Tryz.func48, Tryz.ntmps48
  go_wp2_with fail
  generalize w.alloc (.cells #[.int .i64 k, .int .i64 n, .string s, .slice A len cap] 30) = w2 at *
  have HB0 := Lib.hid hb0
  clear hb0
  go_loopw [5, 6] (fun c i wr => ∃ (j : Nat) (z : Int), j ≤ len ∧ i = .int .i64 j ∧ c = .int .i64 z ∧ cntF (f.drop j) most z = v ∧ 1 ≤ z ∧ z + nodes (f.drop j) ≤ 1 + nodes f ∧ Below w2.heap.size w2 wr) (fun _ i _ => len - (intOf i).toNat)
  case atStart => exact ⟨0, 1, Nat.zero_le _, rfl, rfl, HV.out, by omega, by show (1 : Int) + nodes f ≤ 1 + nodes f; omega, Below.refl _ _⟩
  case round =>
    obtain ⟨j, z, hj, rfl, rfl, hv, hz1, hz2, hbr⟩ := hrel
    have hcr := (hbr.cell (p := ⟨w.heap.size, 3, none⟩) hsz0).trans hbox
    have hbw : Below w.heap.size w wr := HB0.out.trans (hbr.mono (by omega))
    have hz3 : z ≤ 1048577 := by have := HND.out; omega
    have HZ2 := Lib.hid hz2
    clear hz2
    by_cases hlt : j < len
    · by_cases hle : z ≤ most
      · have dle : decide (z ≤ most) = true := decide_eq_true hle
        obtain ⟨kk, nn, s', kids, hd'⟩ := Fr.drop_cons j f (by rw [HN.out]; exact hlt)
        obtain ⟨b, o, rfl, hlb, hbb, hrow⟩ := HK.out.2.2 (by rw [HN.out]; omega)
        obtain ⟨hfit, A', cap', c0, c1, c2, c3, hkid⟩ := hrow.elem hd'
        have hne := nodes_elem j f hd'
        have hz2 := HZ2.out
        rw [hd'] at hv hz2
        simp only [cntF, if_pos hle] at hv
        simp only [nodes] at hz2
        have hlo : (⟨b, o, none⟩ : Addr).block < w.heap.size := Nat.lt_of_lt_of_le hbb HHI.out
        have k0 := (hbw.cell (p := ⟨b, o + j * 4, none⟩) hlo).trans c0
        have k1 := (hbw.cell (p := ⟨b, o + j * 4 + 1, none⟩) hlo).trans c1
        have k2 := (hbw.cell (p := ⟨b, o + j * 4 + 2, none⟩) hlo).trans c2
        have k3 := (hbw.cell (p := ⟨b, o + j * 4 + 3, none⟩) hlo).trans c3
        have C2 := HH.out _ _ _ _ _ _ hd' kk nn (most - z) A' cap' lo hi wr (hkid.below hbw HHI.out) (Nat.le_trans HHI.out hbw.size) (by have := HND.out; omega) (by omega) (by omega)
        have hsp := cntF_spec kids (most - z) 1
        generalize cntF kids (most - z) 1 = r at *
        have r1 := hsp.1
        have r2 : r ≤ 1048577 := by have := hsp.2.1; have := HND.out; omega
        have HR : Hid (z + r + nodes (f.drop (j + 1)) ≤ 1 + nodes f) := Lib.hid (by have := hsp.2.1; omega)
        have H2 := Lib.hid C2
        have HBR := Lib.hid hbr
        have HE := Lib.hid hv
        clear C2 hbr hbw hv c0 c1 c2 c3 hkid hrow hfit hd' hlo hbox hsp hne hz2 HZ2
        go_wp2_with fail
        refine H2.out.mono ?_
        rintro e w3 ⟨rfl, hb3⟩
        have HB3 := Lib.hid hb3
        clear hb3
        go_wp2_with fail
        go_roundw
        case rel => exact ⟨j + 1, z + r, by omega, by go_num, rfl, HE.out, by omega, HR.out, HBR.out.trans (HB3.out.mono HBR.out.size)⟩
        case measure => simp [intOf]; omega
      · have dle : decide (z ≤ most) = false := decide_eq_false hle
        have HE : Hid (v = z) := Lib.hid (by rw [← hv]; exact (cntF_spec _ most z).2.2.2.2 (by omega))
        have HBW := Lib.hid hbw
        clear hbr hbw hv hbox
        go_wp2_with fail
        go_ret
        rw [HE.out]
        exact ⟨rfl, HBW.out⟩
    · obtain rfl : j = len := by omega
      have HE : Hid (v = z) := Lib.hid (by
        have h1 := Fr.drop_len f
        rw [HN.out] at h1
        rw [← hv, h1]; rfl)
      have HBW := Lib.hid hbw
      clear hbr hbw hv hbox
      go_wp2_with fail
      go_ret
      rw [HE.out]
      exact ⟨rfl, HBW.out⟩
theorem ct_all (N : Nat) : ∀ (s : ByteArray) (f : Fr), f.size ≤ N → CtT s f := by
  induction N with
  | zero =>
    intro s f hf
    refine ctT_of s f fun i k n s kids rest hd => ?_
    have h1 := Fr.size_drop i f
    rw [hd] at h1
    simp only [Fr.size] at h1
    omega
  | succ N ih =>
    intro s f hf
    refine ctT_of s f fun i k n s kids rest hd => ih s kids ?_
    have h1 := Fr.size_drop i f
    rw [hd] at h1
    simp only [Fr.size] at h1
    omega
/-- spec.l1Count. -/
theorem ctT_any (s : ByteArray) (f : Fr) : CtT s f := ct_all f.size s f (Nat.le_refl _)

set_option maxRecDepth 100000 in
set_option maxHeartbeats 1000000 in
/-- spec.TermValid. -/
theorem specValid_any (k n : Int) (s : ByteArray) (f : Fr) (A : Option Addr) (cap lo hi : Nat) (w : World) (hk : KidsAt w lo hi f A cap) (hh : hi ≤ w.heap.size) (hf : Fits k n s) (hnd : nodes f ≤ 1048576) :
    Calls Tryz.prog 32 #[.agg #[.int .i64 k, .int .i64 n, .string s, .slice A f.len cap]] w fun e w' => e = .returned (.bool (validT k n s f)) ∧ Below w.heap.size w w' := by
  have C1 := fun w1 (hb : Below w.heap.size w w1) => shT_any s f k n 30 A cap lo hi w1 (hk.below hb hh) (Nat.le_trans hh hb.size) hf (by omega) (by omega)
  have C2 := fun w1 (hb : Below w.heap.size w w1) => ctT_any s f k n 120 A cap lo hi w1 (hk.below hb hh) (Nat.le_trans hh hb.size) hnd (by omega) (by omega)
  have hv := validT_cnt k n s f
  have hb0 : ∀ o, Below w.heap.size w (w.alloc o) := fun o => (Below.refl _ _).alloc (Nat.le_refl _) _
  have HB0 := Lib.hid hb0
  generalize validT k n s f = v at *
  generalize shapeT k n s f 30 = t at *
  generalize cntF f 120 1 = c at *
  have H1 := Lib.hid C1
  have H2 := Lib.hid C2
  have HV := Lib.hid hv
  clear C1 C2 hv hk hh hf hnd hb0
  cases t
  · have HE : Hid (v = false) := Lib.hid (by rw [HV.out]; rfl)
    go_enter Tryz.func32, Tryz.ntmps32
    go_wp2_with fail
    refine (H1.out _ (HB0.out _)).mono ?_
    rintro e w2 ⟨rfl, hb⟩
    have HB := Lib.hid hb
    clear hb
    go_wp2_with fail
    go_ret
    rw [HE.out]; exact ⟨rfl, (HB0.out _).trans (HB.out.mono (by simp))⟩
  · by_cases hc : c ≤ 120
    · have HE : Hid (v = true) := Lib.hid (by rw [HV.out, decide_eq_true hc]; rfl)
      have d1 : decide (c ≤ 120) = true := decide_eq_true hc
      go_enter Tryz.func32, Tryz.ntmps32
      go_wp2_with fail
      refine (H1.out _ (HB0.out _)).mono ?_
      rintro e w2 ⟨rfl, hb⟩
      have e0 := boxed hb 0
      have e1 := boxed hb 1
      have e2 := boxed hb 2
      have e3 := boxed hb 3
      simp only [List.getElem?_toArray, List.getElem?_cons_zero, List.getElem?_cons_succ] at e0 e1 e2 e3
      have hbw : Below w.heap.size w w2 := (HB0.out _).trans (hb.mono (by simp))
      have HB := Lib.hid hbw
      clear hb hbw
      go_wp2_with fail
      refine (H2.out _ HB.out).mono ?_
      rintro e w3 ⟨rfl, hb3⟩
      have HB3 := Lib.hid hb3
      clear hb3
      go_wp2_with fail
      go_ret
      rw [HE.out]; exact ⟨rfl, HB.out.trans (HB3.out.mono HB.out.size)⟩
    · have HE : Hid (v = false) := Lib.hid (by rw [HV.out, decide_eq_false hc]; rfl)
      have d1 : decide (c ≤ 120) = false := decide_eq_false hc
      go_enter Tryz.func32, Tryz.ntmps32
      go_wp2_with fail
      refine (H1.out _ (HB0.out _)).mono ?_
      rintro e w2 ⟨rfl, hb⟩
      have e0 := boxed hb 0
      have e1 := boxed hb 1
      have e2 := boxed hb 2
      have e3 := boxed hb 3
      simp only [List.getElem?_toArray, List.getElem?_cons_zero, List.getElem?_cons_succ] at e0 e1 e2 e3
      have hbw : Below w.heap.size w w2 := (HB0.out _).trans (hb.mono (by simp))
      have HB := Lib.hid hbw
      clear hb hbw
      go_wp2_with fail
      refine (H2.out _ HB.out).mono ?_
      rintro e w3 ⟨rfl, hb3⟩
      have HB3 := Lib.hid hb3
      clear hb3
      go_wp2_with fail
      go_ret
      rw [HE.out]; exact ⟨rfl, HB.out.trans (HB3.out.mono HB.out.size)⟩
end Go.Proofs.YtihmgodiiohdnaaGreatDoor

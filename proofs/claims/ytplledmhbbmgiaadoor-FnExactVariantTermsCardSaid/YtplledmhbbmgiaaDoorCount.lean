/- impl.countNodes, impl.CountNodes, spec.CountNodes. Condition: the term lies in memory, the table of signs in its variable. -/
import Derived.Test.YtplledmhbbmgiaaDoorProg
import Derived.Test.YtplledmhbbmgiaaDoorImplV
import Derived.Test.YtplledmhbbmgiaaDoorAs
namespace Go.Proofs.YtplledmhbbmgiaaDoor
open Go.RowKit


def CnT (s : ByteArray) (f : Fr) : Prop := ∀ (k n d : Int) (v : Value) (lo hi : Nat) (w : World), shapeT k n s f d = true → NdV w lo hi k n s f v → hi ≤ w.heap.size → nodes f ≤ 1048576 →
  Calls Tryd.prog 32 #[v] w fun e w' => e = .returned (.int .i64 (1 + nodes f)) ∧ Below w.heap.size w w'

set_option maxRecDepth 100000 in
set_option maxHeartbeats 2000000 in
theorem cnT_of (s : ByteArray) (f : Fr) (h : ∀ i k n s kids rest, f.drop i = .cons k n s kids rest → CnT s kids) : CnT s f := by
  intro k n d v lo hi w hs hv hh hnd
  have hb0 : ∀ o, Below w.heap.size w (w.alloc o) := fun o => (Below.refl _ _).alloc (Nat.le_refl _) _
  have HB0 := Lib.hid hb0
  clear hb0
  rcases hv with ⟨rfl, rfl⟩ | ⟨rfl, rfl⟩ | ⟨rfl, A, cap, rfl, hk⟩
  · have HV : Hid ((1 : Int) + nodes f = 1) := Lib.hid (by rw [nodes_len f (shapeT_len hs (by omega))]; rfl)
    clear hs h hnd
    go_enter Tryd.func32, Tryd.ntmps32
    go_wp2_with fail
    go_ret
    rw [HV.out]; exact ⟨rfl, HB0.out _⟩
  · have HV : Hid ((1 : Int) + nodes f = 1) := Lib.hid (by rw [nodes_len f (shapeT_len hs (by omega))]; rfl)
    clear hs h hnd
    go_enter Tryd.func32, Tryd.ntmps32
    go_wp2_with fail
    go_ret
    rw [HV.out]; exact ⟨rfl, HB0.out _⟩
  · have HSH := Lib.hid (shapeT_kids hs)
    have HK := Lib.hid hk
    have HH := Lib.hid h
    have HND := Lib.hid hnd
    have HHI := Lib.hid hh
    have hl := hk.1
    have hm := hk.2.1
    unfold maxLen at hm
    clear hs hk h hnd hh
    generalize hn : f.len = len at *
    have HN := Lib.hid hn
    clear hn
    go_enter Tryd.func32, Tryd.ntmps32
    go_wp2_with fail
    have hb0 := HB0.out (.cells #[.string s, .slice A len cap] 85)
    have HB1 := Lib.hid hb0
    generalize w.alloc (.cells #[.string s, .slice A len cap] 85) = w2 at *
    clear hb0
    go_loopw [17, 3] (fun i c wr => ∃ (j : Nat) (z : Int), j ≤ len ∧ i = .int .i64 j ∧ c = .int .i64 z ∧ 1 ≤ z ∧ z + nodes (f.drop j) = 1 + nodes f ∧ shapeF (f.drop j) (d - 1) = true ∧ Below w.heap.size w wr) (fun i _ _ => len - (intOf i).toNat)
    case atStart => exact ⟨0, 1, Nat.zero_le _, rfl, rfl, by omega, rfl, HSH.out, HB1.out⟩
    case round =>
      obtain ⟨j, z, hj, rfl, rfl, hz1, hz2, hsh, hbw⟩ := hrel
      by_cases hlt : j < len
      · obtain ⟨kk, nn, s', kids, hd'⟩ := Fr.drop_cons j f (by rw [HN.out]; exact hlt)
        obtain ⟨b, rfl, hlb, hbb, hrow⟩ := HK.out.2.2 (by rw [HN.out]; omega)
        obtain ⟨vv, hcell, hnv⟩ := hrow.elem hd'
        rw [Nat.zero_add] at hcell
        rw [hd'] at hz2 hsh
        rw [shapeF_cons, Bool.and_eq_true] at hsh
        simp only [nodes] at hz2
        have hlo : (⟨b, j, none⟩ : Addr).block < w.heap.size := Nat.lt_of_lt_of_le hbb HHI.out
        have k0 := (hbw.cell (p := ⟨b, j, none⟩) hlo).trans hcell
        have hnd := HND.out
        have C2 := HH.out _ _ _ _ _ _ hd' kk nn (d - 1) vv lo hi wr hsh.1 (hnv.keep (fun p _ hp => hbw.cell (by have := HHI.out; omega)) (Nat.le_refl _) (Nat.le_refl _)) (Nat.le_trans HHI.out hbw.size) (by omega)
        obtain ⟨T, x, rfl⟩ := hnv.iface
        have HZ : Hid (z + (1 + (nodes kids : Int)) + nodes (f.drop (j + 1)) = 1 + nodes f) := Lib.hid (by omega)
        have hkn : (nodes kids : Int) ≤ 1048576 := by omega
        have hzn : z ≤ 1048577 := by omega
        have hk0 : (0 : Int) ≤ (nodes kids : Int) := Int.natCast_nonneg _
        have H2 := Lib.hid C2
        have HS2 := Lib.hid hsh.2
        have HBW := Lib.hid hbw
        clear C2 hsh hbw hz2 hcell hnv hrow hlo hd' hnd
        generalize (nodes kids : Int) = c at *
        go_wp2_with fail
        refine H2.out.mono ?_
        rintro e w3 ⟨rfl, hb3⟩
        have HB3 := Lib.hid hb3
        clear hb3
        go_wp2_with fail
        go_roundw
        case rel => exact ⟨j + 1, _, by omega, by go_num, rfl, by omega, HZ.out, HS2.out, HBW.out.trans (HB3.out.mono HBW.out.size)⟩
        case measure => simp [intOf]; omega
      · obtain rfl : j = len := by omega
        have HE : Hid ((1 : Int) + nodes f = z) := Lib.hid (by
          have h1 := Fr.drop_len f
          rw [HN.out] at h1
          rw [h1] at hz2
          have z0 : nodes .nil = 0 := rfl
          rw [z0] at hz2
          omega)
        have HBW := Lib.hid hbw
        clear hsh hbw hz2
        go_wp2_with fail
        go_ret
        rw [HE.out]
        exact ⟨rfl, HBW.out⟩
theorem cn_all (N : Nat) : ∀ (s : ByteArray) (f : Fr), f.size ≤ N → CnT s f := by
  induction N with
  | zero =>
    intro s f hf
    refine cnT_of s f fun i k n s kids rest hd => ?_
    have h1 := Fr.size_drop i f
    rw [hd] at h1
    simp only [Fr.size] at h1
    omega
  | succ N ih =>
    intro s f hf
    refine cnT_of s f fun i k n s kids rest hd => ih s kids ?_
    have h1 := Fr.size_drop i f
    rw [hd] at h1
    simp only [Fr.size] at h1
    omega
/-- impl's countNodes. -/
theorem cnT_any (s : ByteArray) (f : Fr) : CnT s f := cn_all f.size s f (Nat.le_refl _)

/-- What CountNodes answers. -/
def countT (k n : Int) (s : ByteArray) (f : Fr) : Int := if validT k n s f = true then 1 + nodes f else 0

set_option maxRecDepth 100000 in
set_option maxHeartbeats 1000000 in
/-- spec.CountNodes. -/
theorem specCount_any (k n : Int) (s : ByteArray) (f : Fr) (A : Option Addr) (cap lo hi : Nat) (w : World) (hk : KidsAt w lo hi f A cap) (hh : hi ≤ w.heap.size) (hf : Fits k n s) (hnd : nodes f ≤ 1048576) :
    Calls Tryd.prog 9 #[.agg #[.int .i64 k, .int .i64 n, .string s, .slice A f.len cap]] w fun e w' => e = .returned (.int .i64 (countT k n s f)) ∧ Below w.heap.size w w' := by
  have C1 := fun w1 (hb : Below w.heap.size w w1) => specValid_any k n s f A cap lo hi w1 (hk.below hb hh) (Nat.le_trans hh hb.size) hf hnd
  have C2 := fun w1 (hb : Below w.heap.size w w1) => ctT_any s f k n 120 A cap lo hi w1 (hk.below hb hh) (Nat.le_trans hh hb.size) hnd (by omega) (by omega)
  have hb0 : ∀ o, Below w.heap.size w (w.alloc o) := fun o => (Below.refl _ _).alloc (Nat.le_refl _) _
  have HB0 := Lib.hid hb0
  have hct : validT k n s f = true → cntF f 120 1 = countT k n s f := fun hv => by
    unfold countT
    rw [if_pos hv]
    have h1 := hv
    unfold validT at h1
    rw [Bool.and_eq_true, decide_eq_true_iff] at h1
    exact (cntF_spec f 120 1).2.2.1 (by omega)
  have hcf : validT k n s f = false → countT k n s f = 0 := fun hv => by unfold countT; rw [hv]; rfl
  generalize validT k n s f = v at *
  generalize countT k n s f = c at *
  have H1 := Lib.hid C1
  have HC := Lib.hid hct
  have HF := Lib.hid hcf
  clear C1 hk hh hf hnd hb0 hct hcf
  cases v
  · have HE := Lib.hid (HF.out rfl)
    clear C2
    go_enter Tryd.func9, Tryd.ntmps9
    go_wp2_with fail
    refine (H1.out _ (HB0.out _)).mono ?_
    rintro e w2 ⟨rfl, hb⟩
    have HB := Lib.hid hb
    clear hb
    go_wp2_with fail
    go_ret
    rw [HE.out]; exact ⟨rfl, (HB0.out _).trans (HB.out.mono (by simp))⟩
  · rw [HC.out rfl] at C2
    have H2 := Lib.hid C2
    clear C2
    go_enter Tryd.func9, Tryd.ntmps9
    go_wp2_with fail
    refine (H1.out _ (HB0.out _)).mono ?_
    rintro e w2 ⟨rfl, hb⟩
    obtain ⟨e0, e1, e2, e3⟩ := cells4 ((Blk.new w 29 #[.int .i64 k, .int .i64 n, .string s, .slice A f.len cap]).below hb (by simp))
    have hbw : Below w.heap.size w w2 := (HB0.out _).trans (hb.mono (by simp))
    have HB := Lib.hid hbw
    clear hb hbw
    go_wp2_with fail
    refine (H2.out _ HB.out).mono ?_
    rintro e w3 ⟨rfl, hb3⟩
    have HB3 := Lib.hid hb3
    clear hb3
    go_wp2_with fail
    go_ret
    exact ⟨rfl, HB.out.trans (HB3.out.mono HB.out.size)⟩

set_option maxRecDepth 100000 in
set_option maxHeartbeats 1000000 in
/-- impl.CountNodes. -/
theorem implCount_any (k n : Int) (s : ByteArray) (f : Fr) (A : Option Addr) (cap lo hi : Nat) (w : World) (hk : KidsAt w lo hi f A cap) (hh : hi ≤ w.heap.size) (hf : Fits k n s) (hnd : nodes f ≤ 1048576) (ht : nv.Tab w) :
    Calls Tryd.prog 11 #[.agg #[.int .i64 k, .int .i64 n, .string s, .slice A f.len cap]] w fun e w' => e = .returned (.int .i64 (countT k n s f)) ∧ Below w.heap.size w w' := by
  have hlt := tab_lt ht
  have C1 := fun w1 (hb : Below w.heap.size w w1) => nodeOf_any k n s f A cap lo hi w1 (hk.below hb hh) (Nat.le_trans hh hb.size) hf hnd (tab_below ht hb hlt)
  have C2 := fun w1 w2 v (hv : validT k n s f = true) (hn : NdV w2 w1 w2.heap.size k n s f v) => cnT_any s f k n 30 v w1 w2.heap.size w2 (by
    unfold validT at hv
    rw [Bool.and_eq_true] at hv
    exact hv.1) hn (Nat.le_refl _) hnd
  have H1 := Lib.hid C1
  have H2 := Lib.hid C2
  clear C1 C2 hk hf hnd ht
  go_enter Tryd.func11, Tryd.ntmps11
  go_wp2_with fail
  refine (H1.out _ ((Below.refl _ _).alloc (Nat.le_refl _) _)).mono ?_
  rintro e w2 ⟨hb, hr⟩
  have hb2 : Below w.heap.size w w2 := ((Below.refl _ _).alloc (Nat.le_refl _) _).trans (hb.mono (by simp))
  rcases hr with ⟨hok, v, rfl, hv⟩ | ⟨hok, rfl⟩
  · have C3 := H2.out _ _ _ hok hv
    have HC : Hid (countT k n s f = 1 + nodes f) := Lib.hid (by unfold countT; rw [if_pos hok])
    have H3 := Lib.hid C3
    have HB := Lib.hid hb2
    clear hb hb2 hok hv C3
    go_wp2_with fail
    refine H3.out.mono ?_
    rintro e w3 ⟨rfl, hb3⟩
    have HB3 := Lib.hid hb3
    clear hb3
    go_wp2_with fail
    go_ret
    rw [HC.out]; exact ⟨rfl, HB.out.trans (HB3.out.mono HB.out.size)⟩
  · have HC : Hid (countT k n s f = 0) := Lib.hid (by unfold countT; rw [hok]; rfl)
    have HB := Lib.hid hb2
    clear hb hb2 hok
    go_wp2_with fail
    go_ret
    rw [HC.out]; exact ⟨rfl, HB.out⟩
end Go.Proofs.YtplledmhbbmgiaaDoor

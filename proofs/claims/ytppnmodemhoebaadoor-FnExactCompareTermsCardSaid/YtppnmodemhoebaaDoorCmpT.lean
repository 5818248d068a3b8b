/- spec.CompareTerms, impl.CompareTerms. Condition: both terms lie in memory, the table of signs in its variable. -/
import Derived.Test.YtppnmodemhoebaaDoorProg
import Derived.Test.YtppnmodemhoebaaDoorCmpJ
import Derived.Test.YtppnmodemhoebaaDoorBoth
import Derived.Test.YtppnmodemhoebaaDoorLawTV
namespace Go.Proofs.YtppnmodemhoebaaDoor
open Go.RowKit

/-- What CompareTerms answers. -/
def cmpR (k n : Int) (s : ByteArray) (f : Fr) (k' n' : Int) (s' : ByteArray) (g : Fr) : Int := if validT k n s f = true ∧ validT k' n' s' g = true then cmpT k n s f k' n' s' g else 0

set_option maxRecDepth 100000 in
set_option maxHeartbeats 2000000 in
/-- spec.CompareTerms. -/
theorem specCmp_any (k n : Int) (s : ByteArray) (f : Fr) (k' n' : Int) (s' : ByteArray) (g : Fr) (A B : Option Addr) (cap cap' lo hi lo' hi' : Nat) (w : World)
    (hk : KidsAt w lo hi f A cap) (hk' : KidsAt w lo' hi' g B cap') (hh : hi ≤ w.heap.size) (hh' : hi' ≤ w.heap.size) (hf : Fits k n s) (hf' : Fits k' n' s') (hnd : nodes f ≤ 1048576) (hnd' : nodes g ≤ 1048576) :
    Calls Tryd.prog 19 #[.agg #[.int .i64 k, .int .i64 n, .string s, .slice A f.len cap], .agg #[.int .i64 k', .int .i64 n', .string s', .slice B g.len cap']] w fun e w' => e = .returned (.int .i64 (cmpR k n s f k' n' s' g)) ∧ Below w.heap.size w w' := by
  have C1 := fun w1 (hb : Below w.heap.size w w1) => specValid_any k n s f A cap lo hi w1 (hk.below hb hh) (Nat.le_trans hh hb.size) hf hnd
  have C2 := fun w1 (hb : Below w.heap.size w w1) => specValid_any k' n' s' g B cap' lo' hi' w1 (hk'.below hb hh') (Nat.le_trans hh' hb.size) hf' hnd'
  have C3 := fun w1 (hb : Below w.heap.size w w1) => cmS_any s f s' g k n k' n' A B cap cap' lo hi lo' hi' w1 (hk.below hb hh) (hk'.below hb hh') (Nat.le_trans hh hb.size) (Nat.le_trans hh' hb.size)
  have HR : Hid (cmpR k n s f k' n' s' g = if validT k n s f = true ∧ validT k' n' s' g = true then cmpT k n s f k' n' s' g else 0) := Lib.hid rfl
  have HT := Lib.hid (two_alloc w (.cells #[.int .i64 k, .int .i64 n, .string s, .slice A f.len cap] 31) (.cells #[.int .i64 k', .int .i64 n', .string s', .slice B g.len cap'] 31))
  generalize cmpT k n s f k' n' s' g = c at *
  generalize validT k n s f = v at *
  generalize validT k' n' s' g = v' at *
  generalize cmpR k n s f k' n' s' g = r at *
  have H1 := Lib.hid C1
  have H2 := Lib.hid C2
  have H3 := Lib.hid C3
  clear C1 C2 C3 hk hk' hh hh' hf hf' hnd hnd'
  cases v
  · have HV : Hid (r = 0) := Lib.hid (by rw [HR.out]; simp)
    go_enter Tryd.func19, Tryd.ntmps19
    go_wp2_with fail
    refine (H1.out _ HT.out).mono ?_
    rintro e w2 ⟨rfl, hb⟩
    have HB := Lib.hid hb
    clear hb
    go_wp2_with fail
    go_ret
    rw [HV.out]; exact ⟨rfl, HT.out.trans (HB.out.mono HT.out.size)⟩
  · go_enter Tryd.func19, Tryd.ntmps19
    go_wp2_with fail
    refine (H1.out _ HT.out).mono ?_
    rintro e w2 ⟨rfl, hb⟩
    obtain ⟨a0, a1, a2, a3, b0, b1, b2, b3⟩ := box8 (hb.mono (by simp))
    have hbw : Below w.heap.size w w2 := HT.out.trans (hb.mono HT.out.size)
    have hsz : w.heap.size + 1 < w2.heap.size := by have := hb.size; simp at this; omega
    have HB := Lib.hid hbw
    clear hb hbw
    cases v'
    · have HV : Hid (r = 0) := Lib.hid (by rw [HR.out]; simp)
      go_wp2_with fail
      refine (H2.out _ HB.out).mono ?_
      rintro e w3 ⟨rfl, hb⟩
      have HB2 := Lib.hid hb
      clear hb
      go_wp2_with fail
      go_ret
      rw [HV.out]; exact ⟨rfl, HB.out.trans (HB2.out.mono HB.out.size)⟩
    · have HV : Hid (r = c) := Lib.hid (by rw [HR.out]; simp)
      go_wp2_with fail
      refine (H2.out _ HB.out).mono ?_
      rintro e w3 ⟨rfl, hb⟩
      have c0 := (hb.cell (p := ⟨w.heap.size, 0, none⟩) (by simp only; omega)).trans a0
      have c1 := (hb.cell (p := ⟨w.heap.size, 1, none⟩) (by simp only; omega)).trans a1
      have c2 := (hb.cell (p := ⟨w.heap.size, 2, none⟩) (by simp only; omega)).trans a2
      have c3 := (hb.cell (p := ⟨w.heap.size, 3, none⟩) (by simp only; omega)).trans a3
      have d0 := (hb.cell (p := ⟨w.heap.size + 1, 0, none⟩) (by simp only; omega)).trans b0
      have d1 := (hb.cell (p := ⟨w.heap.size + 1, 1, none⟩) (by simp only; omega)).trans b1
      have d2 := (hb.cell (p := ⟨w.heap.size + 1, 2, none⟩) (by simp only; omega)).trans b2
      have d3 := (hb.cell (p := ⟨w.heap.size + 1, 3, none⟩) (by simp only; omega)).trans b3
      have HB2 := Lib.hid (HB.out.trans (hb.mono HB.out.size))
      clear hb a0 a1 a2 a3 b0 b1 b2 b3
      go_wp2_with fail
      refine (H3.out _ HB2.out).mono ?_
      rintro e w4 ⟨rfl, hb⟩
      have HB3 := Lib.hid (HB2.out.trans (hb.mono HB2.out.size))
      clear hb
      go_wp2_with fail
      go_ret
      rw [HV.out]; exact ⟨rfl, HB3.out⟩

set_option maxRecDepth 100000 in
set_option maxHeartbeats 2000000 in
/-- impl.CompareTerms. -/
theorem implCmp_any (k n : Int) (s : ByteArray) (f : Fr) (k' n' : Int) (s' : ByteArray) (g : Fr) (A B : Option Addr) (cap cap' lo hi lo' hi' : Nat) (w : World)
    (hk : KidsAt w lo hi f A cap) (hk' : KidsAt w lo' hi' g B cap') (hh : hi ≤ w.heap.size) (hh' : hi' ≤ w.heap.size) (hf : Fits k n s) (hf' : Fits k' n' s') (hnd : nodes f ≤ 1048576) (hnd' : nodes g ≤ 1048576) (ht : nv.Tab w) :
    Calls Tryd.prog 20 #[.agg #[.int .i64 k, .int .i64 n, .string s, .slice A f.len cap], .agg #[.int .i64 k', .int .i64 n', .string s', .slice B g.len cap']] w fun e w' => e = .returned (.int .i64 (cmpR k n s f k' n' s' g)) ∧ Below w.heap.size w w' := by
  have hlt := tab_lt ht
  have C1 := fun w1 (hb : Below w.heap.size w w1) => both_any k n s f k' n' s' g A B cap cap' lo hi lo' hi' w1 (hk.below hb hh) (hk'.below hb hh') (Nat.le_trans hh hb.size) (Nat.le_trans hh' hb.size) hf hf' hnd hnd' (tab_below ht hb hlt)
  have hsh : ∀ (k n : Int) (s : ByteArray) (f : Fr), validT k n s f = true → shapeT k n s f 30 = true := fun k n s f h => by
    unfold validT at h
    rw [Bool.and_eq_true] at h
    exact h.1
  have C3 := fun w1 v v' l1 h1 l2 h2 (hv : validT k n s f = true) (hv' : validT k' n' s' g = true) (hn : NdV w1 l1 h1 k n s f v) (hn' : NdV w1 l2 h2 k' n' s' g v') (hl : h1 ≤ w1.heap.size) (hl' : h2 ≤ w1.heap.size) =>
    cmV_any s f s' g k n k' n' 30 v v' l1 h1 l2 h2 w1 (hsh _ _ _ _ hv) (hsh _ _ _ _ hv') hn hn' hl hl'
  have HR : Hid (cmpR k n s f k' n' s' g = if validT k n s f = true ∧ validT k' n' s' g = true then cmpT k n s f k' n' s' g else 0) := Lib.hid rfl
  have HT := Lib.hid (two_alloc w (.cells #[.int .i64 k, .int .i64 n, .string s, .slice A f.len cap] 31) (.cells #[.int .i64 k', .int .i64 n', .string s', .slice B g.len cap'] 31))
  generalize cmpR k n s f k' n' s' g = r at *
  have H1 := Lib.hid C1
  have H3 := Lib.hid C3
  clear C1 C3 hk hk' hh hh' hf hf' hnd hnd' ht hsh
  go_enter Tryd.func20, Tryd.ntmps20
  go_wp2_with fail
  refine (H1.out _ HT.out).mono ?_
  rintro e w3 ⟨hb, hr⟩
  have hbw : Below w.heap.size w w3 := HT.out.trans (hb.mono HT.out.size)
  rcases hr with ⟨⟨hok, hok'⟩, v, v', rfl, hv, hv'⟩ | ⟨hok, rfl⟩
  · have HE : Hid (r = cmpT k n s f k' n' s' g) := Lib.hid (by rw [HR.out, if_pos ⟨hok, hok'⟩])
    have C4 := H3.out w3 v v' _ _ _ _ hok hok' hv hv' (Nat.le_refl _) (Nat.le_refl _)
    obtain ⟨T1, x1, rfl⟩ := hv.iface
    obtain ⟨T2, x2, rfl⟩ := hv'.iface
    have H4 := Lib.hid C4
    have HB2 := Lib.hid hbw
    clear hb hbw hok hok' hv hv' C4
    go_wp2_with fail
    refine H4.out.mono ?_
    rintro e w4 ⟨rfl, hb⟩
    have HB3 := Lib.hid (HB2.out.trans (hb.mono HB2.out.size))
    clear hb
    go_wp2_with fail
    go_ret
    rw [HE.out]; exact ⟨rfl, HB3.out⟩
  · have HE : Hid (r = 0) := Lib.hid (by rw [HR.out, if_neg hok])
    have HB := Lib.hid hbw
    clear hb hbw hok
    go_wp2_with fail
    go_ret
    rw [HE.out]; exact ⟨rfl, HB.out⟩
end Go.Proofs.YtppnmodemhoebaaDoor

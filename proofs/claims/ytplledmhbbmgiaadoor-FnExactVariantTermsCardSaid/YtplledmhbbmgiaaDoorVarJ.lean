/- impl.VariantTerms. Condition: the terms lie in memory, the table of signs in its variable. -/
import Derived.Test.YtplledmhbbmgiaaDoorProg
import Derived.Test.YtplledmhbbmgiaaDoorVarI
import Derived.Test.YtplledmhbbmgiaaDoorVarS
namespace Go.Proofs.YtplledmhbbmgiaaDoor
open Go.RowKit

theorem validT_shapeJ {k n : Int} {s : ByteArray} {f : Fr} (h : validT k n s f = true) : shapeT k n s f 30 = true := by
  unfold validT at h
  rw [Bool.and_eq_true] at h
  exact h.1
set_option maxRecDepth 100000 in
set_option maxHeartbeats 4000000 in
/-- impl.VariantTerms. -/
theorem implVar_any (k n : Int) (s : ByteArray) (f : Fr) (k' n' : Int) (s' : ByteArray) (g : Fr) (A B : Option Addr) (cap cap' lo hi lo' hi' : Nat) (w : World)
    (hk : KidsAt w lo hi f A cap) (hk' : KidsAt w lo' hi' g B cap') (hh : hi ≤ w.heap.size) (hh' : hi' ≤ w.heap.size) (hf : Fits k n s) (hf' : Fits k' n' s') (hnd : nodes f ≤ 1048576) (hnd' : nodes g ≤ 1048576) (ht : nv.Tab w) :
    Calls Tryd.prog 22 #[.agg #[.int .i64 k, .int .i64 n, .string s, .slice A f.len cap], .agg #[.int .i64 k', .int .i64 n', .string s', .slice B g.len cap']] w fun e w' => e = .returned (.bool (vrB k n s f k' n' s' g)) ∧ Below w.heap.size w w' := by
  have hlt := tab_lt ht
  have C1 := fun w1 (hb : Below w.heap.size w w1) => both_any k n s f k' n' s' g A B cap cap' lo hi lo' hi' w1 (hk.below hb hh) (hk'.below hb hh') (Nat.le_trans hh hb.size) (Nat.le_trans hh' hb.size) hf hf' hnd hnd' (tab_below ht hb hlt)
  have HV : Hid (vrB k n s f k' n' s' g = (validT k n s f && (validT k' n' s' g && vrC k n s f k' n' s' g))) := Lib.hid rfl
  have HC : Hid (vrC k n s f k' n' s' g = eqT k (renN (canV k n f) k n) s (renF (canV k n f) f) k' (renN (canV k' n' g) k' n') s' (renF (canV k' n' g) g)) := Lib.hid rfl
  have HT := Lib.hid (two_alloc w (.cells #[.int .i64 k, .int .i64 n, .string s, .slice A f.len cap] 29) (.cells #[.int .i64 k', .int .i64 n', .string s', .slice B g.len cap'] 29))
  generalize vrB k n s f k' n' s' g = r at *
  have HND := Lib.hid hnd
  have HND' := Lib.hid hnd'
  have H1 := Lib.hid C1
  clear C1 hk hk' hh hh' hf hf' hnd hnd' ht
  have hmf : ∀ (fn : Fn) (first cap : Array Value) (w : World), (Instr.makeFunc fn first cap).run Tryd.prog w = .ok (.func fn first cap) w := fun _ _ _ _ => rfl
  go_enter Tryd.func22, Tryd.ntmps22
  go_wp2_with fail
  refine (H1.out _ HT.out).mono ?_
  rintro e w3 ⟨hb, hr⟩
  have hbw : Below w.heap.size w w3 := HT.out.trans (hb.mono HT.out.size)
  rcases hr with ⟨⟨hok, hok'⟩, v, v', rfl, hv, hv'⟩ | ⟨hok, rfl⟩
  · have hsh := validT_shapeJ hok
    have hsh' := validT_shapeJ hok'
    have HE : Hid (r = vrC k n s f k' n' s' g) := Lib.hid (by rw [HV.out, hok, hok']; rfl)
    have HB3 := Lib.hid hbw
    have hs3 := hbw.size
    have HNV := Lib.hid hv
    have HNV' := Lib.hid hv'
    have HSH := Lib.hid hsh
    have HSH' := Lib.hid hsh'
    obtain ⟨T1, x1, rfl⟩ := hv.iface
    obtain ⟨T2, x2, rfl⟩ := hv'.iface
    clear hb hbw hok hok' hv hv' hsh hsh'
    go_wp2_with fail
    refine (newNum_any w3).mono ?_
    rintro e w4 ⟨rfl, hN, hb4, hs4⟩
    have C2 := nsT_any k n 30 s f (.iface T1 x1) 0 w3.heap.size _ _ _ _ _ w4 HSH.out (HNV.out.keep (fun p _ hp => hb4.cell hp) (Nat.zero_le _) (Nat.le_refl _)) (by omega) (Nat.le_refl _) hN (by omega) (by have := HND.out; simp; omega)
    have H2 := Lib.hid C2
    have HB4 := Lib.hid hb4
    clear hN hb4 C2
    go_wp2_with fail
    refine H2.out.mono ?_
    rintro e w5 ⟨vo, u, rfl, hN5, hw5, _, hn⟩
    have hn1 := hn _ (List.prefix_refl _)
    have hb5 : Below w3.heap.size w3 w5 := HB4.out.trans (hw5.below (by omega) fun x hx => by
      simp [ownV, Value.ownBlock] at hx
      omega)
    have hs5 := hb5.size
    have hs45 := hw5.size
    obtain ⟨T3, x3, rfl⟩ := hn1.iface
    have HN1 := Lib.hid (NdVIn.range (lo := 0) (hi := w5.heap.size) (fun x hx => ⟨Nat.zero_le _, hx.2.1⟩) hn1)
    have HB5 := Lib.hid hb5
    clear hN5 hw5 hn hn1 hb5 H2
    go_wp2_with fail
    refine (newNum_any w5).mono ?_
    rintro e w6 ⟨rfl, hN, hb6, hs6⟩
    have C2 := nsT_any k' n' 30 s' g (.iface T2 x2) 0 w3.heap.size _ _ _ _ _ w6 HSH'.out ((HNV'.out.keep (fun p _ hp => HB5.out.cell hp) (Nat.zero_le _) (Nat.le_refl _)).keep (fun p _ hp => hb6.cell (by omega)) (Nat.zero_le _) (Nat.le_refl _)) (by omega) hs5 hN (by omega) (by have := HND'.out; simp; omega)
    have H2 := Lib.hid C2
    have HB6 := Lib.hid hb6
    clear hN hb6 C2
    go_wp2_with fail
    refine H2.out.mono ?_
    rintro e w7 ⟨vo', u', rfl, hN7, hw7, _, hn⟩
    have hn2 := hn _ (List.prefix_refl _)
    have hb7 : Below w5.heap.size w5 w7 := HB6.out.trans (hw7.below (by omega) fun x hx => by
      simp [ownV, Value.ownBlock] at hx
      omega)
    obtain ⟨T4, x4, rfl⟩ := hn2.iface
    have hn2' := NdVIn.range (lo := 0) (hi := w7.heap.size) (fun x hx => ⟨Nat.zero_le _, hx.2.1⟩) hn2
    have hn1' := HN1.out.keep (w' := w7) (lo' := 0) (hi' := w5.heap.size) (fun p _ hp => hb7.cell hp) (Nat.zero_le _) (Nat.le_refl _)
    have C5 := sameNode_any k (renN (canV k n f) k n) s (renF (canV k n f) f) k' (renN (canV k' n' g) k' n') s' (renF (canV k' n' g) g) 30 _ _ 0 _ 0 _ w7 (shapeT_ren (canV_small HSH.out) HSH.out) (shapeT_ren (canV_small HSH'.out) HSH'.out) hn1' hn2' hb7.size (Nat.le_refl _)
    rw [← HC.out] at C5
    have H5 := Lib.hid C5
    have HB7 := Lib.hid ((HB3.out.trans (HB5.out.mono hs3)).trans (hb7.mono (by omega)))
    clear hN7 hw7 hn hn2 hb7 hn2' hn1' C5 H2
    go_wp2_with fail
    refine H5.out.mono ?_
    rintro e w8 ⟨rfl, hb⟩
    have HB8 := Lib.hid (HB7.out.trans (hb.mono HB7.out.size))
    clear hb
    go_wp2_with fail
    go_ret
    rw [HE.out]; exact ⟨rfl, HB8.out⟩
  · have HE : Hid (r = false) := Lib.hid (by
      rw [HV.out]
      cases h1 : validT k n s f
      · rfl
      · cases h2 : validT k' n' s' g
        · rfl
        · exact absurd ⟨h1, h2⟩ hok)
    have HB := Lib.hid hbw
    clear hb hbw hok
    go_wp2_with fail
    go_ret
    rw [HE.out]; exact ⟨rfl, HB.out⟩
end Go.Proofs.YtplledmhbbmgiaaDoor

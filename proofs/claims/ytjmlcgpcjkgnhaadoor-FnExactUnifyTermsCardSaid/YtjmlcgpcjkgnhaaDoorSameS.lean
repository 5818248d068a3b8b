/- spec.TermSame. Condition: the terms lie in memory. -/
import Derived.Test.YtjmlcgpcjkgnhaaDoorProg
import Derived.Test.YtjmlcgpcjkgnhaaDoorEq
import Derived.Test.YtjmlcgpcjkgnhaaDoorTb
namespace Go.Proofs.YtjmlcgpcjkgnhaaDoor
open Go.RowKit

def SaT (s : ByteArray) (f : Fr) : Prop := ∀ (s' : ByteArray) (g : Fr) (k n k' n' : Int) (A B : Option Addr) (cap cap' lo hi lo' hi' : Nat) (w : World), KidsAt w lo hi f A cap → KidsAt w lo' hi' g B cap' → hi ≤ w.heap.size → hi' ≤ w.heap.size →
  Calls Tryd.prog 44 #[.agg #[.int .i64 k, .int .i64 n, .string s, .slice A f.len cap], .agg #[.int .i64 k', .int .i64 n', .string s', .slice B g.len cap']] w fun e w' => e = .returned (.bool (eqT k n s f k' n' s' g)) ∧ Below w.heap.size w w'

set_option maxRecDepth 100000 in
set_option maxHeartbeats 4000000 in
theorem saT_of (s : ByteArray) (f : Fr) (h : ∀ i k n s kids rest, f.drop i = .cons k n s kids rest → SaT s kids) : SaT s f := by
  intro s' g k n k' n' A B cap cap' lo hi lo' hi' w hk hk' hh hh'
  have two : Below w.heap.size w ((w.alloc (.cells #[.int .i64 k, .int .i64 n, .string s, .slice A f.len cap] 31)).alloc (.cells #[.int .i64 k', .int .i64 n', .string s', .slice B g.len cap'] 31)) := two_alloc w _ _
  have HT := Lib.hid two
  clear two
  by_cases h1 : k = k'
  · by_cases h2 : n = n'
    · by_cases h3 : s.data.toList = s'.data.toList
      · by_cases h4 : f.len = g.len
        · have hv0 : eqT k n s f k' n' s' g = eqF f g := by subst h1 h2; simp [eqT, h3]
          rw [hv0]
          subst h1 h2
          have t1 : (k != k) = false := by simp
          have t2 : (n != n) = false := by simp
          have t3 : (s.toList != s'.toList) = false := by rw [ByteArray.toList_eq, ByteArray.toList_eq, h3]; simp
          have t4 : (!(s.toList == s'.toList)) = false := t3
          have HK := Lib.hid hk
          have HK' := Lib.hid hk'
          have HH := Lib.hid h
          have hl := hk.1
          have hl' := hk'.1
          have hm := hk.2.1
          have hm' := hk'.2.1
          unfold maxLen at hm hm'
          clear hk hk' h hv0 h3
          have HG : Hid (g.len = f.len) := Lib.hid h4.symm
          rw [← h4] at HT hl' ⊢
          clear h4
          generalize hv : eqF f g = v
          have HV := Lib.hid hv
          generalize hn : f.len = len at *
          have HN := Lib.hid hn
          have t5 : ((len : Int) != (len : Int)) = false := by simp
          have b0 : Blk ((w.alloc (.cells #[.int .i64 k, .int .i64 n, .string s, .slice A len cap] 31)).alloc (.cells #[.int .i64 k, .int .i64 n, .string s', .slice B len cap'] 31)) w.heap.size 31 #[.int .i64 k, .int .i64 n, .string s, .slice A len cap] := (Blk.new w _ _).alloc _
          have b1 : Blk ((w.alloc (.cells #[.int .i64 k, .int .i64 n, .string s, .slice A len cap] 31)).alloc (.cells #[.int .i64 k, .int .i64 n, .string s', .slice B len cap'] 31)) (w.heap.size + 1) 31 #[.int .i64 k, .int .i64 n, .string s', .slice B len cap'] := by
            have h := Blk.new (w.alloc (.cells #[.int .i64 k, .int .i64 n, .string s, .slice A len cap] 31)) 31 #[.int .i64 k, .int .i64 n, .string s', .slice B len cap']
            simpa using h
          clear hv hn
          go_enter Tryd.func44, Tryd.ntmps44
          go_wp2_with fail
          generalize ((w.alloc (.cells #[.int .i64 k, .int .i64 n, .string s, .slice A len cap] 31)).alloc (.cells #[.int .i64 k, .int .i64 n, .string s', .slice B len cap'] 31)) = w2 at *
          have HB0 := Lib.hid b0
          have HB1 := Lib.hid b1
          clear b0 b1
          go_loopw [5] (fun i wr => ∃ (j : Nat), j ≤ len ∧ i = .int .i64 j ∧ eqF (f.drop j) (g.drop j) = v ∧ Below w2.heap.size w2 wr) (fun i _ => len - (intOf i).toNat)
          case atStart => exact ⟨0, Nat.zero_le _, rfl, HV.out, Below.refl _ _⟩
          case round =>
            obtain ⟨j, hj, rfl, hv, hb⟩ := hrel
            have x3 := (HB0.out.below hb HB0.out.lt).cell 3
            have y3 := (HB1.out.below hb HB1.out.lt).cell 3
            simp only [List.getElem?_toArray, List.getElem?_cons_zero, List.getElem?_cons_succ] at x3 y3
            by_cases hlt : j < len
            · obtain ⟨kk, nn, sk, kids, hd⟩ := Fr.drop_cons j f (by rw [HN.out]; exact hlt)
              obtain ⟨kk', nn', sk', kids', hd'⟩ := Fr.drop_cons j g (by rw [HG.out]; exact hlt)
              obtain ⟨b, o, rfl, hlb, hbb, hrow⟩ := HK.out.2.2 (by rw [HN.out]; omega)
              obtain ⟨b', o', rfl, hlb', hbb', hrow'⟩ := HK'.out.2.2 (by rw [HG.out]; omega)
              obtain ⟨hfit, A', cp, c0, c1, c2, c3, hkid⟩ := hrow.elem hd
              obtain ⟨hfit', B', cp', c0', c1', c2', c3', hkid'⟩ := hrow'.elem hd'
              rw [hd, hd', eqF_cons] at hv
              have hbw : Below w.heap.size w wr := HT.out.trans (hb.mono HT.out.size)
              have hlo : (⟨b, o, none⟩ : Addr).block < w.heap.size := Nat.lt_of_lt_of_le hbb hh
              have hlo' : (⟨b', o', none⟩ : Addr).block < w.heap.size := Nat.lt_of_lt_of_le hbb' hh'
              have k0 := (hbw.cell (p := ⟨b, o + j * 4, none⟩) hlo).trans c0
              have k1 := (hbw.cell (p := ⟨b, o + j * 4 + 1, none⟩) hlo).trans c1
              have k2 := (hbw.cell (p := ⟨b, o + j * 4 + 2, none⟩) hlo).trans c2
              have k3 := (hbw.cell (p := ⟨b, o + j * 4 + 3, none⟩) hlo).trans c3
              have j0 := (hbw.cell (p := ⟨b', o' + j * 4, none⟩) hlo').trans c0'
              have j1 := (hbw.cell (p := ⟨b', o' + j * 4 + 1, none⟩) hlo').trans c1'
              have j2 := (hbw.cell (p := ⟨b', o' + j * 4 + 2, none⟩) hlo').trans c2'
              have j3 := (hbw.cell (p := ⟨b', o' + j * 4 + 3, none⟩) hlo').trans c3'
              have C1 : ∀ w1, Below wr.heap.size wr w1 → _ := fun w1 hb1 =>
                have hb2 := hbw.trans (hb1.mono hbw.size)
                HH.out _ _ _ _ _ _ hd sk' kids' kk nn kk' nn' A' B' cp cp' lo hi lo' hi' w1 (hkid.below hb2 hh) (hkid'.below hb2 hh') (Nat.le_trans hh hb2.size) (Nat.le_trans hh' hb2.size)
              generalize eqT kk nn sk kids kk' nn' sk' kids' = t at *
              have H1 := Lib.hid C1
              have HB := Lib.hid hb
              have HE := Lib.hid hv
              clear C1 hb hbw hv c0 c1 c2 c3 c0' c1' c2' c3' hkid hkid' hrow hrow' hfit hfit' hd hd' hlo hlo'
              cases t
              · have HF : Hid (v = false) := Lib.hid (by rw [← HE.out]; rfl)
                go_wp2_with fail
                go_still_tail 10, (by kernel_rfl)
                change wpList _ _ _ _ _ wr.drew
                have hbd : Below wr.heap.size wr wr.drew := (Below.refl _ _).drew
                generalize wr.drew = wd at hbd ⊢
                have HD := Lib.hid hbd
                clear hbd k0 k1 k2 k3 j0 j1 j2 j3 x3 y3
                go_wp2_with fail
                refine (H1.out _ HD.out).mono ?_
                rintro e w3 ⟨rfl, hb3⟩
                have HB3 := Lib.hid (HB.out.trans ((HD.out.trans (hb3.mono HD.out.size)).mono HB.out.size))
                clear hb3
                go_wp2_with fail
                go_ret
                rw [HF.out]
                exact ⟨rfl, HT.out.trans (HB3.out.mono HT.out.size)⟩
              · have HF : Hid (eqF (f.drop (j + 1)) (g.drop (j + 1)) = v) := Lib.hid (by rw [← HE.out]; rfl)
                go_wp2_with fail
                go_still_tail 10, (by kernel_rfl)
                change wpList _ _ _ _ _ wr.drew
                have hbd : Below wr.heap.size wr wr.drew := (Below.refl _ _).drew
                generalize wr.drew = wd at hbd ⊢
                have HD := Lib.hid hbd
                clear hbd k0 k1 k2 k3 j0 j1 j2 j3 x3 y3
                go_wp2_with fail
                refine (H1.out _ HD.out).mono ?_
                rintro e w3 ⟨rfl, hb3⟩
                have HB3 := Lib.hid (HB.out.trans ((HD.out.trans (hb3.mono HD.out.size)).mono HB.out.size))
                clear hb3
                go_wp2_with fail
                go_roundw
                case rel => exact ⟨j + 1, by omega, by go_num, HF.out, HB3.out⟩
                case measure => simp [intOf]; omega
            · obtain rfl : j = len := by omega
              have HE : Hid (v = true) := Lib.hid (by
                have h1 := Fr.drop_len f
                have h2 := Fr.drop_len g
                rw [HN.out] at h1
                rw [HG.out] at h2
                rw [← hv, h1, h2]; rfl)
              have HB := Lib.hid hb
              clear hb hv
              go_wp2_with fail
              go_ret
              rw [HE.out]
              exact ⟨rfl, HT.out.trans (HB.out.mono HT.out.size)⟩
        · have HV : Hid (eqT k n s f k' n' s' g = false) := Lib.hid (by
            have : eqF f g = false := by
              rw [← Bool.not_eq_true]
              exact fun hh => h4 (eqF_len f g hh)
            simp [eqT, this])
          subst h1 h2
          have t1 : (k != k) = false := by simp
          have t2 : (n != n) = false := by simp
          have t3 : (s.toList != s'.toList) = false := by rw [ByteArray.toList_eq, ByteArray.toList_eq, h3]; simp
          have t4 : (!(s.toList == s'.toList)) = false := t3
          have t5 : ((f.len : Int) != (g.len : Int)) = true := by
            rw [bne_iff_ne]
            exact fun e => h4 (Int.ofNat.inj e)
          clear hk hk' h h3 h4
          generalize f.len = l1 at *
          generalize g.len = l2 at *
          go_enter Tryd.func44, Tryd.ntmps44
          go_wp2_with fail
          go_ret
          rw [HV.out]
          exact ⟨rfl, HT.out⟩
      · have HV : Hid (eqT k n s f k' n' s' g = false) := Lib.hid (by simp only [eqT]; rw [show (s.data.toList == s'.data.toList) = false by simpa using h3]; simp)
        subst h1 h2
        have t1 : (k != k) = false := by simp
        have t2 : (n != n) = false := by simp
        have t4 : (!(s.toList == s'.toList)) = true := by rw [ByteArray.toList_eq, ByteArray.toList_eq]; simpa using h3
        have t3 : (s.toList != s'.toList) = true := t4
        clear hk hk' h h3
        generalize f.len = l1 at *
        generalize g.len = l2 at *
        go_enter Tryd.func44, Tryd.ntmps44
        go_wp2_with fail
        go_ret
        rw [HV.out]
        exact ⟨rfl, HT.out⟩
    · have HV : Hid (eqT k n s f k' n' s' g = false) := Lib.hid (by simp [eqT, h2])
      subst h1
      have t1 : (k != k) = false := by simp
      have t2 : (n != n') = true := by simpa using h2
      clear hk hk' h h2
      generalize f.len = l1 at *
      generalize g.len = l2 at *
      go_enter Tryd.func44, Tryd.ntmps44
      go_wp2_with fail
      go_ret
      rw [HV.out]
      exact ⟨rfl, HT.out⟩
  · have HV : Hid (eqT k n s f k' n' s' g = false) := Lib.hid (by simp [eqT, h1])
    have t1 : (k != k') = true := by simpa using h1
    clear hk hk' h h1
    generalize f.len = l1 at *
    generalize g.len = l2 at *
    go_enter Tryd.func44, Tryd.ntmps44
    go_wp2_with fail
    go_ret
    rw [HV.out]
    exact ⟨rfl, HT.out⟩
theorem sa_all (N : Nat) : ∀ (s : ByteArray) (f : Fr), f.size ≤ N → SaT s f := by
  induction N with
  | zero =>
    intro s f hf
    refine saT_of s f fun i k n s kids rest hd => ?_
    have h1 := Fr.size_drop i f
    rw [hd] at h1
    simp only [Fr.size] at h1
    omega
  | succ N ih =>
    intro s f hf
    refine saT_of s f fun i k n s kids rest hd => ih s kids ?_
    have h1 := Fr.size_drop i f
    rw [hd] at h1
    simp only [Fr.size] at h1
    omega
end Go.Proofs.YtjmlcgpcjkgnhaaDoor

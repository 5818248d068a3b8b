/- spec.TermSame. Condition: the terms lie in memory. -/
import Derived.Test.YtnkaafimnkigpaaDoorProg
import Derived.Test.YtnkaafimnkigpaaDoorEq
import Derived.Test.YtnkaafimnkigpaaDoorTb
import Derived.Test.YtnkaafimnkigpaaDoorImplV
import Derived.Test.YtnkaafimnkigpaaDoorTo
import Derived.Test.YtnkaafimnkigpaaDoorZmAG42
import Derived.Deep.RegionHeld3
import Derived.Maps.Own
import Derived.Maps.OwnOps
import Derived.Maps.OwnSet
namespace Go.Proofs.YtnkaafimnkigpaaDoor
open Go.RowKit

def SaT (s : ByteArray) (f : Fr) : Prop := ∀ (s' : ByteArray) (g : Fr) (k n k' n' : Int) (A B : Option Addr) (cap cap' lo hi lo' hi' : Nat) (w : World), KidsAt w lo hi f A cap → KidsAt w lo' hi' g B cap' → hi ≤ w.heap.size → hi' ≤ w.heap.size →
  Calls Tryd.prog 58 #[.agg #[.int .i64 k, .int .i64 n, .string s, .slice A f.len cap], .agg #[.int .i64 k', .int .i64 n', .string s', .slice B g.len cap']] w fun e w' => e = .returned (.bool (eqT k n s f k' n' s' g)) ∧ Below w.heap.size w w'

set_option maxRecDepth 100000 in
set_option maxHeartbeats 4000000 in
theorem saT_of (s : ByteArray) (f : Fr) (h : ∀ i k n s kids rest, f.drop i = .cons k n s kids rest → SaT s kids) : SaT s f := by
  intro s' g k n k' n' A B cap cap' lo hi lo' hi' w hk hk' hh hh'
  have two : Below w.heap.size w ((w.alloc (.cells #[.int .i64 k, .int .i64 n, .string s, .slice A f.len cap] 31)).alloc (.cells #[.int .i64 k', .int .i64 n', .string s', .slice B g.len cap'] 31)) := two_alloc w _ _
  have HT := Lib.hid two
  clear two
  by_cases h1 : k = k'
  · by_cases h2 : n = n'
    · by_cases h3 : s.data.toList = s'.data.toList
      · by_cases h4 : f.len = g.len
        · have hv0 : eqT k n s f k' n' s' g = eqF f g := by subst h1 h2; simp [eqT, h3]
          rw [hv0]
          subst h1 h2
          have t1 : (k != k) = false := by simp
          have t2 : (n != n) = false := by simp
          have t3 : (s.toList != s'.toList) = false := by rw [ByteArray.toList_eq, ByteArray.toList_eq, h3]; simp
          have t4 : (!(s.toList == s'.toList)) = false := t3
          have HK := Lib.hid hk
          have HK' := Lib.hid hk'
          have HH := Lib.hid h
          have hl := hk.1
          have hl' := hk'.1
          have hm := hk.2.1
          have hm' := hk'.2.1
          unfold maxLen at hm hm'
          clear hk hk' h hv0 h3
          have HG : Hid (g.len = f.len) := Lib.hid h4.symm
          rw [← h4] at HT hl' ⊢
          clear h4
          generalize hv : eqF f g = v
          have HV := Lib.hid hv
          generalize hn : f.len = len at *
          have HN := Lib.hid hn
          have t5 : ((len : Int) != (len : Int)) = false := by simp
          have b0 : Blk ((w.alloc (.cells #[.int .i64 k, .int .i64 n, .string s, .slice A len cap] 31)).alloc (.cells #[.int .i64 k, .int .i64 n, .string s', .slice B len cap'] 31)) w.heap.size 31 #[.int .i64 k, .int .i64 n, .string s, .slice A len cap] := (Blk.new w _ _).alloc _
          have b1 : Blk ((w.alloc (.cells #[.int .i64 k, .int .i64 n, .string s, .slice A len cap] 31)).alloc (.cells #[.int .i64 k, .int .i64 n, .string s', .slice B len cap'] 31)) (w.heap.size + 1) 31 #[.int .i64 k, .int .i64 n, .string s', .slice B len cap'] := by
            have h := Blk.new (w.alloc (.cells #[.int .i64 k, .int .i64 n, .string s, .slice A len cap] 31)) 31 #[.int .i64 k, .int .i64 n, .string s', .slice B len cap']
            simpa using h
          clear hv hn
          go_enter Tryd.func58, Tryd.ntmps58
          go_wp2_with fail
          generalize ((w.alloc (.cells #[.int .i64 k, .int .i64 n, .string s, .slice A len cap] 31)).alloc (.cells #[.int .i64 k, .int .i64 n, .string s', .slice B len cap'] 31)) = w2 at *
          have HB0 := Lib.hid b0
          have HB1 := Lib.hid b1
          clear b0 b1
          go_loopw [5] (fun i wr => ∃ (j : Nat), j ≤ len ∧ i = .int .i64 j ∧ eqF (f.drop j) (g.drop j) = v ∧ Below w2.heap.size w2 wr) (fun i _ => len - (intOf i).toNat)
          case atStart => exact ⟨0, Nat.zero_le _, rfl, HV.out, Below.refl _ _⟩
          case round =>
            obtain ⟨j, hj, rfl, hv, hb⟩ := hrel
            have x3 := (HB0.out.below hb HB0.out.lt).cell 3
            have y3 := (HB1.out.below hb HB1.out.lt).cell 3
            simp only [List.getElem?_toArray, List.getElem?_cons_zero, List.getElem?_cons_succ] at x3 y3
            by_cases hlt : j < len
            · obtain ⟨kk, nn, sk, kids, hd⟩ := Fr.drop_cons j f (by rw [HN.out]; exact hlt)
              obtain ⟨kk', nn', sk', kids', hd'⟩ := Fr.drop_cons j g (by rw [HG.out]; exact hlt)
              obtain ⟨b, o, rfl, hlb, hbb, hrow⟩ := HK.out.2.2 (by rw [HN.out]; omega)
              obtain ⟨b', o', rfl, hlb', hbb', hrow'⟩ := HK'.out.2.2 (by rw [HG.out]; omega)
              obtain ⟨hfit, A', cp, c0, c1, c2, c3, hkid⟩ := hrow.elem hd
              obtain ⟨hfit', B', cp', c0', c1', c2', c3', hkid'⟩ := hrow'.elem hd'
              rw [hd, hd', eqF_cons] at hv
              have hbw : Below w.heap.size w wr := HT.out.trans (hb.mono HT.out.size)
              have hlo : (⟨b, o, none⟩ : Addr).block < w.heap.size := Nat.lt_of_lt_of_le hbb hh
              have hlo' : (⟨b', o', none⟩ : Addr).block < w.heap.size := Nat.lt_of_lt_of_le hbb' hh'
              have k0 := (hbw.cell (p := ⟨b, o + j * 4, none⟩) hlo).trans c0
              have k1 := (hbw.cell (p := ⟨b, o + j * 4 + 1, none⟩) hlo).trans c1
              have k2 := (hbw.cell (p := ⟨b, o + j * 4 + 2, none⟩) hlo).trans c2
              have k3 := (hbw.cell (p := ⟨b, o + j * 4 + 3, none⟩) hlo).trans c3
              have j0 := (hbw.cell (p := ⟨b', o' + j * 4, none⟩) hlo').trans c0'
              have j1 := (hbw.cell (p := ⟨b', o' + j * 4 + 1, none⟩) hlo').trans c1'
              have j2 := (hbw.cell (p := ⟨b', o' + j * 4 + 2, none⟩) hlo').trans c2'
              have j3 := (hbw.cell (p := ⟨b', o' + j * 4 + 3, none⟩) hlo').trans c3'
              have C1 : ∀ w1, Below wr.heap.size wr w1 → _ := fun w1 hb1 =>
                have hb2 := hbw.trans (hb1.mono hbw.size)
                HH.out _ _ _ _ _ _ hd sk' kids' kk nn kk' nn' A' B' cp cp' lo hi lo' hi' w1 (hkid.below hb2 hh) (hkid'.below hb2 hh') (Nat.le_trans hh hb2.size) (Nat.le_trans hh' hb2.size)
              generalize eqT kk nn sk kids kk' nn' sk' kids' = t at *
              have H1 := Lib.hid C1
              have HB := Lib.hid hb
              have HE := Lib.hid hv
              clear C1 hb hbw hv c0 c1 c2 c3 c0' c1' c2' c3' hkid hkid' hrow hrow' hfit hfit' hd hd' hlo hlo'
              cases t
              · have HF : Hid (v = false) := Lib.hid (by rw [← HE.out]; rfl)
                go_wp2_with fail
                go_still_tail 10, (by kernel_rfl)
                change wpList _ _ _ _ _ wr.drew
                have hbd : Below wr.heap.size wr wr.drew := (Below.refl _ _).drew
                generalize wr.drew = wd at hbd ⊢
                have HD := Lib.hid hbd
                clear hbd k0 k1 k2 k3 j0 j1 j2 j3 x3 y3
                go_wp2_with fail
                refine (H1.out _ HD.out).mono ?_
                rintro e w3 ⟨rfl, hb3⟩
                have HB3 := Lib.hid (HB.out.trans ((HD.out.trans (hb3.mono HD.out.size)).mono HB.out.size))
                clear hb3
                go_wp2_with fail
                go_ret
                rw [HF.out]
                exact ⟨rfl, HT.out.trans (HB3.out.mono HT.out.size)⟩
              · have HF : Hid (eqF (f.drop (j + 1)) (g.drop (j + 1)) = v) := Lib.hid (by rw [← HE.out]; rfl)
                go_wp2_with fail
                go_still_tail 10, (by kernel_rfl)
                change wpList _ _ _ _ _ wr.drew
                have hbd : Below wr.heap.size wr wr.drew := (Below.refl _ _).drew
                generalize wr.drew = wd at hbd ⊢
                have HD := Lib.hid hbd
                clear hbd k0 k1 k2 k3 j0 j1 j2 j3 x3 y3
                go_wp2_with fail
                refine (H1.out _ HD.out).mono ?_
                rintro e w3 ⟨rfl, hb3⟩
                have HB3 := Lib.hid (HB.out.trans ((HD.out.trans (hb3.mono HD.out.size)).mono HB.out.size))
                clear hb3
                go_wp2_with fail
                go_roundw
                case rel => exact ⟨j + 1, by omega, by go_num, HF.out, HB3.out⟩
                case measure => simp [intOf]; omega
            · obtain rfl : j = len := by omega
              have HE : Hid (v = true) := Lib.hid (by
                have h1 := Fr.drop_len f
                have h2 := Fr.drop_len g
                rw [HN.out] at h1
                rw [HG.out] at h2
                rw [← hv, h1, h2]; rfl)
              have HB := Lib.hid hb
              clear hb hv
              go_wp2_with fail
              go_ret
              rw [HE.out]
              exact ⟨rfl, HT.out.trans (HB.out.mono HT.out.size)⟩
        · have HV : Hid (eqT k n s f k' n' s' g = false) := Lib.hid (by
            have : eqF f g = false := by
              rw [← Bool.not_eq_true]
              exact fun hh => h4 (eqF_len f g hh)
            simp [eqT, this])
          subst h1 h2
          have t1 : (k != k) = false := by simp
          have t2 : (n != n) = false := by simp
          have t3 : (s.toList != s'.toList) = false := by rw [ByteArray.toList_eq, ByteArray.toList_eq, h3]; simp
          have t4 : (!(s.toList == s'.toList)) = false := t3
          have t5 : ((f.len : Int) != (g.len : Int)) = true := by
            rw [bne_iff_ne]
            exact fun e => h4 (Int.ofNat.inj e)
          clear hk hk' h h3 h4
          generalize f.len = l1 at *
          generalize g.len = l2 at *
          go_enter Tryd.func58, Tryd.ntmps58
          go_wp2_with fail
          go_ret
          rw [HV.out]
          exact ⟨rfl, HT.out⟩
      · have HV : Hid (eqT k n s f k' n' s' g = false) := Lib.hid (by simp only [eqT]; rw [show (s.data.toList == s'.data.toList) = false by simpa using h3]; simp)
        subst h1 h2
        have t1 : (k != k) = false := by simp
        have t2 : (n != n) = false := by simp
        have t4 : (!(s.toList == s'.toList)) = true := by rw [ByteArray.toList_eq, ByteArray.toList_eq]; simpa using h3
        have t3 : (s.toList != s'.toList) = true := t4
        clear hk hk' h h3
        generalize f.len = l1 at *
        generalize g.len = l2 at *
        go_enter Tryd.func58, Tryd.ntmps58
        go_wp2_with fail
        go_ret
        rw [HV.out]
        exact ⟨rfl, HT.out⟩
    · have HV : Hid (eqT k n s f k' n' s' g = false) := Lib.hid (by simp [eqT, h2])
      subst h1
      have t1 : (k != k) = false := by simp
      have t2 : (n != n') = true := by simpa using h2
      clear hk hk' h h2
      generalize f.len = l1 at *
      generalize g.len = l2 at *
      go_enter Tryd.func58, Tryd.ntmps58
      go_wp2_with fail
      go_ret
      rw [HV.out]
      exact ⟨rfl, HT.out⟩
  · have HV : Hid (eqT k n s f k' n' s' g = false) := Lib.hid (by simp [eqT, h1])
    have t1 : (k != k') = true := by simpa using h1
    clear hk hk' h h1
    generalize f.len = l1 at *
    generalize g.len = l2 at *
    go_enter Tryd.func58, Tryd.ntmps58
    go_wp2_with fail
    go_ret
    rw [HV.out]
    exact ⟨rfl, HT.out⟩
theorem sa_all (N : Nat) : ∀ (s : ByteArray) (f : Fr), f.size ≤ N → SaT s f := by
  induction N with
  | zero =>
    intro s f hf
    refine saT_of s f fun i k n s kids rest hd => ?_
    have h1 := Fr.size_drop i f
    rw [hd] at h1
    simp only [Fr.size] at h1
    omega
  | succ N ih =>
    intro s f hf
    refine saT_of s f fun i k n s kids rest hd => ih s kids ?_
    have h1 := Fr.size_drop i f
    rw [hd] at h1
    simp only [Fr.size] at h1
    omega
end Go.Proofs.YtnkaafimnkigpaaDoor

/- What every law's walk shares. No condition. -/
namespace Go.Proofs.YtnkaafimnkigpaaDoor
open Go.RowKit

theorem nodes_le_wt (f : Fr) : nodes f ≤ f.len + wt f := by
  induction f with
  | nil => exact Nat.le_refl _
  | cons k n s kids rest h1 h2 => simp only [nodes, Fr.len, wt]; omega
theorem kids_of_made {w w' : World} {f : Fr} {A : Option Addr} {cap : Nat} (h : Made w f A cap w') : KidsAt w' w.heap.size w'.heap.size f A cap ∧ Below w.heap.size w w' := by
  obtain ⟨L, ho, _, hL, hb⟩ := h
  exact ⟨ho.kids hL, hb⟩

end Go.Proofs.YtnkaafimnkigpaaDoor

/- spec.l3Match. Condition: the terms and the table lie in memory; the terms are well-formed. -/
namespace Go.Proofs.YtnkaafimnkigpaaDoor
open Go.RowKit

/-- What l3Match leaves. -/
def MsRes (w : World) (lo hi g : Nat) (r : Option St) (e : Ending) (w' : World) : Prop :=
  Wrote [g] w w' ∧ ((∃ st', r = some st' ∧ e = .returned (.bool true) ∧ KnS w' lo hi g st') ∨ (r = none ∧ e = .returned (.bool false)))
theorem shapeT_fits {k n : Int} {s : ByteArray} {f : Fr} {d : Int} (h : shapeT k n s f d = true) : Fits k n s ∧ (-999 ≤ n ∧ n ≤ 999) := by
  have hk := shapeT_kind h
  by_cases h3 : k = 3
  · subst h3
    obtain ⟨rfl, hnm, _, _⟩ := shapeT_struct h
    exact ⟨⟨by omega, by omega, by have := nameB_size hnm; unfold maxLen; omega⟩, by omega⟩
  · obtain ⟨rfl, _, hn⟩ := shapeT_leaf h h3
    exact ⟨⟨by omega, by omega, by unfold maxLen; simp [ByteArray.size]⟩, hn⟩
theorem MsRes.no {w w' : World} {lo hi g : Nat} {r : Option St} (hw : Wrote [g] w w') (hr : r = none) : MsRes w lo hi g r (.returned (.bool false)) w' := ⟨hw, .inr ⟨hr, rfl⟩⟩
theorem two_boxes (w : World) (a b : Array Value) : Below w.heap.size w ((w.alloc (.cells a 31)).alloc (.cells b 31)) ∧ Blk ((w.alloc (.cells a 31)).alloc (.cells b 31)) w.heap.size 31 a ∧ Blk ((w.alloc (.cells a 31)).alloc (.cells b 31)) (w.heap.size + 1) 31 b := by
  refine ⟨two_alloc w _ _, (Blk.new w _ _).alloc _, ?_⟩
  have h := Blk.new (w.alloc (.cells a 31)) 31 b
  simpa using h

end Go.Proofs.YtnkaafimnkigpaaDoor

/- A map of nodes as impl holds it; impl.alike. Condition: the nodes lie in memory and are well-formed. -/
namespace Go.Proofs.YtnkaafimnkigpaaDoor
open Go.RowKit Go.Maps

/-- A node as an element of a map: held as it is. -/
def heldR (v : Value) : Option (DataW Value × List MemPlace) := some (.held v, [])
theorem heldR_inv {v u : Value} {ps : List MemPlace} {z : DataW Value} (h : heldR v = some (z, ps)) (hz : z = .held u) : v = u := by
  unfold heldR at h
  subst hz
  injection h with h
  injection h with h _
  injection h
theorem zeroN (w : World) : (zeroValue 62).run Tryd.prog w = .ok .nilIface w := by kernel_rfl
theorem lawN : Keyed Tryd.prog 93 := int_keyed Tryd.underlying93
/-- The map in block mb holds the nodes of what st knows. -/
def MpS (w : World) (lo hi mb : Nat) (st : St) : Prop := ∃ D : DataW Value, w.ownsMap Tryd.prog 93 heldR mb st.length D ∧ IsMap D ∧ (∀ n, has D (.int .i64 n) = (lkS st n).isSome) ∧
  ∀ n m, lkS st n = some m → shapeT m.k m.n m.s m.f 30 = true ∧ ∃ v, D.atKey (.int .i64 n) (.held .nilIface) = .held v ∧ NdV w lo hi m.k m.n m.s m.f v
theorem MpS.wrote {w w' : World} {lo hi mb : Nat} {st : St} {L : List Nat} (h : MpS w lo hi mb st) (hb : Wrote L w w') (hg : mb ∉ L) (hh : hi ≤ w.heap.size) (hL : ∀ x ∈ L, hi ≤ x) : MpS w' lo hi mb st := by
  obtain ⟨D, hD, h1, h2, h3⟩ := h
  have hlt := hD.lt
  obtain ⟨es, clock, he, r⟩ := hD
  refine ⟨D, ⟨es, clock, (hb.block mb hlt hg).trans he, r⟩, h1, h2, fun n m hm => ?_⟩
  obtain ⟨a, v, b, c⟩ := h3 n m hm
  exact ⟨a, v, b, c.keep (fun p _ hp => hb.cell (by omega) fun e => by have := hL _ e; omega) (Nat.le_refl _) (Nat.le_refl _)⟩
theorem MpS.below {w w' : World} {lo hi mb : Nat} {st : St} (h : MpS w lo hi mb st) (hb : Below w.heap.size w w') (hh : hi ≤ w.heap.size) : MpS w' lo hi mb st := h.wrote (.of_below hb []) (by simp) hh (by simp)
theorem MpS.lt {w : World} {lo hi mb : Nat} {st : St} (h : MpS w lo hi mb st) : mb < w.heap.size := by
  obtain ⟨D, hD, _⟩ := h
  exact hD.lt
/-- One more. -/
theorem MpS.put {w w1 : World} {lo hi mb : Nat} {st : St} {D : DataW Value} {n : Int} {m : Nd} {v : Value} (h1 : IsMap D) (h2 : ∀ n, has D (.int .i64 n) = (lkS st n).isSome)
    (h3 : ∀ n m, lkS st n = some m → shapeT m.k m.n m.s m.f 30 = true ∧ ∃ v, D.atKey (.int .i64 n) (.held .nilIface) = .held v ∧ NdV w lo hi m.k m.n m.s m.f v) (hm : hi ≤ mb) (hh : hi ≤ w.heap.size)
    (hD : w1.ownsMap Tryd.prog 93 heldR mb (st.length + 1) (D.put (.int .i64 n) (.held v))) (hg : w.grownBy w1 (some mb)) (hs : shapeT m.k m.n m.s m.f 30 = true) (hv : NdV w lo hi m.k m.n m.s m.f v) : MpS w1 lo hi mb ((n, m) :: st) := by
  have far : ∀ p : Addr, lo ≤ p.block → p.block < hi → w1.cell? p = w.cell? p := fun p _ hp => World.cell?_of_block (hg.block p.block (by omega) (by simp; omega))
  refine ⟨_, hD, h1.put _ _, fun x => ?_, fun x o ho => ?_⟩
  · by_cases e : x = n
    · subst e
      rw [has_put_same h1 (show WideAt.IsKeyLit (.int .i64 x) from trivial), lkS_same]; rfl
    · rw [has_put_other (fun h => e (by injection h)), lkS_other _ _ _ _ e, h2]
  · by_cases e : x = n
    · subst e
      rw [lkS_same] at ho
      injection ho with ho
      subst ho
      exact ⟨hs, v, atKey_put_same h1 (show WideAt.IsKeyLit (.int .i64 x) from trivial) _ _, hv.keep far (Nat.le_refl _) (Nat.le_refl _)⟩
    · rw [lkS_other _ _ _ _ e] at ho
      obtain ⟨a, u, b, c⟩ := h3 x o ho
      exact ⟨a, u, (atKey_put_other (fun h => e (by injection h)) _ _).trans b, c.keep far (Nat.le_refl _) (Nat.le_refl _)⟩

set_option maxRecDepth 100000 in
/-- impl.alike. -/
theorem alike_any (s s' : ByteArray) (A B : Option Addr) (l l' cap cap' : Nat) (w : World) :
    Calls Tryd.prog 62 #[.agg #[.string s, .slice A l cap], .agg #[.string s', .slice B l' cap']] w fun e w' => e = .returned (.bool (s.data.toList == s'.data.toList && l == l')) ∧ Below w.heap.size w w' := by
  have HT := Lib.hid (two_alloc w (.cells #[.string s, .slice A l cap] 98) (.cells #[.string s', .slice B l' cap'] 98))
  by_cases h3 : s.data.toList = s'.data.toList
  · have t3 : (s.toList == s'.toList) = true := by rw [ByteArray.toList_eq, ByteArray.toList_eq, h3]; simp
    by_cases h4 : l = l'
    · subst h4
      have HV : Hid ((s.data.toList == s'.data.toList && l == l) = true) := Lib.hid (by rw [h3]; simp)
      have t5 : ((l : Int) == (l : Int)) = true := by simp
      generalize (s.data.toList == s'.data.toList && l == l) = r at *
      clear h3
      go_enter Tryd.func62, Tryd.ntmps62
      go_wp2_with fail
      go_ret
      rw [HV.out]; exact ⟨rfl, HT.out⟩
    · have HV : Hid ((s.data.toList == s'.data.toList && l == l') = false) := Lib.hid (by rw [show (l == l') = false by simpa using h4]; simp)
      have t5 : ((l : Int) == (l' : Int)) = false := by rw [beq_eq_false_iff_ne]; exact fun e => h4 (Int.ofNat.inj e)
      generalize (s.data.toList == s'.data.toList && l == l') = r at *
      clear h3 h4
      go_enter Tryd.func62, Tryd.ntmps62
      go_wp2_with fail
      go_ret
      rw [HV.out]; exact ⟨rfl, HT.out⟩
  · have HV : Hid ((s.data.toList == s'.data.toList && l == l') = false) := Lib.hid (by rw [show (s.data.toList == s'.data.toList) = false by simpa using h3]; rfl)
    have t3 : (s.toList == s'.toList) = false := by rw [ByteArray.toList_eq, ByteArray.toList_eq]; simpa using h3
    generalize (s.data.toList == s'.data.toList && l == l') = r at *
    clear h3
    go_enter Tryd.func62, Tryd.ntmps62
    go_wp2_with fail
    go_ret
    rw [HV.out]; exact ⟨rfl, HT.out⟩

end Go.Proofs.YtnkaafimnkigpaaDoor

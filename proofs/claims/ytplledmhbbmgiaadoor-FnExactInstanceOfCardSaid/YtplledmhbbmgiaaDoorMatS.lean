/- spec.l3Match. Condition: the terms and the table lie in memory; the terms are well-formed. -/
import Derived.Test.YtplledmhbbmgiaaDoorProg
import Derived.Test.YtplledmhbbmgiaaDoorMatch
import Derived.Test.YtplledmhbbmgiaaDoorSameS
import Derived.Test.YtplledmhbbmgiaaDoorLawTV0
import Derived.Deep.RegionHeld3
namespace Go.Proofs.YtplledmhbbmgiaaDoor
open Go.RowKit

/-- What l3Match leaves. -/
def MsRes (w : World) (lo hi g : Nat) (r : Option St) (e : Ending) (w' : World) : Prop :=
  Wrote [g] w w' ∧ ((∃ st', r = some st' ∧ e = .returned (.bool true) ∧ KnS w' lo hi g st') ∨ (r = none ∧ e = .returned (.bool false)))
theorem shapeT_fits {k n : Int} {s : ByteArray} {f : Fr} {d : Int} (h : shapeT k n s f d = true) : Fits k n s ∧ (-999 ≤ n ∧ n ≤ 999) := by
  have hk := shapeT_kind h
  by_cases h3 : k = 3
  · subst h3
    obtain ⟨rfl, hnm, _, _⟩ := shapeT_struct h
    exact ⟨⟨by omega, by omega, by have := nameB_size hnm; unfold maxLen; omega⟩, by omega⟩
  · obtain ⟨rfl, _, hn⟩ := shapeT_leaf h h3
    exact ⟨⟨by omega, by omega, by unfold maxLen; simp [ByteArray.size]⟩, hn⟩
theorem MsRes.no {w w' : World} {lo hi g : Nat} {r : Option St} (hw : Wrote [g] w w') (hr : r = none) : MsRes w lo hi g r (.returned (.bool false)) w' := ⟨hw, .inr ⟨hr, rfl⟩⟩
def MsT (s : ByteArray) (f : Fr) : Prop := ∀ (st : St) (s' : ByteArray) (f' : Fr) (k n k' n' : Int) (A B : Option Addr) (cap cap' lo hi g : Nat) (w : World), KidsAt w lo hi f A cap → KidsAt w lo hi f' B cap' → hi ≤ w.heap.size → hi ≤ g → shapeT k n s f 30 = true → shapeT k' n' s' f' 30 = true → KnS w lo hi g st →
  Calls Tryd.prog 50 #[.agg #[.int .i64 k, .int .i64 n, .string s, .slice A f.len cap], .agg #[.int .i64 k', .int .i64 n', .string s', .slice B f'.len cap'], .slice (some ⟨g, 0, none⟩) 26 26] w fun e w' => MsRes w lo hi g (mtT st k n s f k' n' s' f') e w'

theorem two_boxes (w : World) (a b : Array Value) : Below w.heap.size w ((w.alloc (.cells a 29)).alloc (.cells b 29)) ∧ Blk ((w.alloc (.cells a 29)).alloc (.cells b 29)) w.heap.size 29 a ∧ Blk ((w.alloc (.cells a 29)).alloc (.cells b 29)) (w.heap.size + 1) 29 b := by
  refine ⟨two_alloc w _ _, (Blk.new w _ _).alloc _, ?_⟩
  have h := Blk.new (w.alloc (.cells a 29)) 29 b
  simpa using h

set_option maxRecDepth 100000 in
set_option maxHeartbeats 4000000 in
/-- A variable of the general term. -/
theorem msVar (st : St) (i : Nat) (hi' : i < 26) (s' : ByteArray) (f' : Fr) (k' n' : Int) (A B : Option Addr) (cap cap' lo hi g : Nat) (w : World) (hk' : KidsAt w lo hi f' B cap') (hh : hi ≤ w.heap.size) (hg : hi ≤ g) (hs' : shapeT k' n' s' f' 30 = true) (hK : KnS w lo hi g st) :
    Calls Tryd.prog 50 #[.agg #[.int .i64 1, .int .i64 (i : Int), .string ⟨#[]⟩, .slice A Fr.nil.len cap], .agg #[.int .i64 k', .int .i64 n', .string s', .slice B f'.len cap'], .slice (some ⟨g, 0, none⟩) 26 26] w fun e w' => MsRes w lo hi g (mtV st (i : Int) ⟨k', n', s', f'⟩) e w' := by
  have hgl := hK.lt
  have hkr := shapeT_kind hs'
  have hkr0 : k' ≠ 0 := by omega
  have hkr1 : -9223372036854775808 ≤ k' ∧ k' ≤ 9223372036854775807 := by omega
  have ii0 : (0 : Int) ≤ (i : Int) := Int.natCast_nonneg _
  have ii1 : (i : Int) < 26 := by omega
  obtain ⟨cs, q0, hcs, hcell⟩ := hK
  have hci := hcell i hi'
  have g0 := q0.cell (i * 4)
  have fz0 := q0.frozen (i * 4)
  have fz1 := q0.frozen (i * 4 + 1)
  have fz2 := q0.frozen (i * 4 + 2)
  have fz3 := q0.frozen (i * 4 + 3)
  have e1 : ∃ u, w.cell? ⟨g, i * 4 + 1, none⟩ = some u := ⟨_, (q0.cell _).trans (Array.getElem?_eq_getElem (by omega))⟩
  have e2 : ∃ u, w.cell? ⟨g, i * 4 + 2, none⟩ = some u := ⟨_, (q0.cell _).trans (Array.getElem?_eq_getElem (by omega))⟩
  have e3 : ∃ u, w.cell? ⟨g, i * 4 + 3, none⟩ = some u := ⟨_, (q0.cell _).trans (Array.getElem?_eq_getElem (by omega))⟩
  have HKN : Hid (KnS w lo hi g st) := Lib.hid ⟨cs, q0, hcs, hcell⟩
  cases hlk : lkS st (i : Int) with
  | none =>
    have HV : Hid (mtV st (i : Int) ⟨k', n', s', f'⟩ = some (((i : Int), ⟨k', n', s', f'⟩) :: st)) := Lib.hid (by unfold mtV; rw [hlk])
    have hc0 : w.cell? ⟨g, i * 4, none⟩ = some (.int .i64 0) := g0.trans (hci.1 hlk)
    obtain ⟨u1, e1⟩ := e1
    obtain ⟨u2, e2⟩ := e2
    obtain ⟨u3, e3⟩ := e3
    have HP : Hid (∀ o o', MsRes w lo hi g (some (((i : Int), ⟨k', n', s', f'⟩) :: st)) (.returned (.bool true)) (((((((w.setCell ⟨g, i * 4, none⟩ (.int .i64 k')).setCell ⟨g, i * 4 + 1, none⟩ (.int .i64 n')).setCell ⟨g, i * 4 + 2, none⟩ (.string s')).setCell ⟨g, i * 4 + 3, none⟩ (.slice B f'.len cap')).alloc o).alloc o'))) := Lib.hid fun o o' => by
      have hw : Wrote [g] w ((((w.setCell ⟨g, i * 4, none⟩ (.int .i64 k')).setCell ⟨g, i * 4 + 1, none⟩ (.int .i64 n')).setCell ⟨g, i * 4 + 2, none⟩ (.string s')).setCell ⟨g, i * 4 + 3, none⟩ (.slice B f'.len cap')) := ((((Wrote.refl _ _).set_ (.inl (by simp)) _).set_ (.inl (by simp)) _).set_ (.inl (by simp)) _).set_ (.inl (by simp)) _
      have hk := HKN.out.put (n := n') (s := s') hi' hg hkr0 hkr1 hk'
      refine ⟨(hw.alloc o).alloc o', .inl ⟨_, rfl, rfl, ?_⟩⟩
      exact hk.below (two_alloc _ o o') (by simpa [World.setCell] using hh)
    clear hk' hs' q0 hcell hci g0 hlk
    go_enter Tryd.func50, Tryd.ntmps50
    go_wp2_with fail
    go_ret
    rw [HV.out]
    exact HP.out _ _
  | some m =>
    obtain ⟨hk0, hkr', Am, cm, c0, c1, c2, c3, hkm⟩ := hci.2 m hlk
    have HV : Hid (mtV st (i : Int) ⟨k', n', s', f'⟩ = if eqT m.k m.n m.s m.f k' n' s' f' = true then some st else none) := Lib.hid (by unfold mtV; rw [hlk])
    have x0 : w.cell? ⟨g, i * 4, none⟩ = some (.int .i64 m.k) := g0.trans c0
    have x1 : w.cell? ⟨g, i * 4 + 1, none⟩ = some (.int .i64 m.n) := (q0.cell _).trans c1
    have x2 : w.cell? ⟨g, i * 4 + 2, none⟩ = some (.string m.s) := (q0.cell _).trans c2
    have x3 : w.cell? ⟨g, i * 4 + 3, none⟩ = some (.slice Am m.f.len cm) := (q0.cell _).trans c3
    have tk : (m.k != 0) = true := by simpa using hk0
    obtain ⟨hb0, b0, b1⟩ := two_boxes w #[.int .i64 1, .int .i64 (i : Int), .string ⟨#[]⟩, .slice A Fr.nil.len cap] #[.int .i64 k', .int .i64 n', .string s', .slice B f'.len cap']
    have CE := fun w1 (hb : Below w.heap.size w w1) => sa_all _ m.s m.f (Nat.le_refl _) s' f' m.k m.n k' n' Am B cm cap' lo hi lo hi w1 (hkm.below hb hh) (hk'.below hb hh) (Nat.le_trans hh hb.size) (Nat.le_trans hh hb.size)
    generalize eqT m.k m.n m.s m.f k' n' s' f' = t at *
    have H1 := Lib.hid CE
    have HB0 := Lib.hid (And.intro hb0 (And.intro b0 b1))
    clear hk' hs' hkm CE hb0 q0 hcell hci g0 hlk c0 c1 c2 c3 fz0 fz1 fz2 fz3 e1 e2 e3
    go_enter Tryd.func50, Tryd.ntmps50
    go_wp2_with fail
    have hsz : w.heap.size < ((w.alloc (.cells #[.int .i64 1, .int .i64 (i : Int), .string ⟨#[]⟩, .slice A Fr.nil.len cap] 29)).alloc (.cells #[.int .i64 k', .int .i64 n', .string s', .slice B f'.len cap'] 29)).heap.size := by simp; omega
    have y0 := (HB0.out.1.cell (p := ⟨g, i * 4, none⟩) hgl).trans x0
    have y1 := (HB0.out.1.cell (p := ⟨g, i * 4 + 1, none⟩) hgl).trans x1
    have y2 := (HB0.out.1.cell (p := ⟨g, i * 4 + 2, none⟩) hgl).trans x2
    have y3 := (HB0.out.1.cell (p := ⟨g, i * 4 + 3, none⟩) hgl).trans x3
    generalize ((w.alloc (.cells #[.int .i64 1, .int .i64 (i : Int), .string ⟨#[]⟩, .slice A Fr.nil.len cap] 29)).alloc (.cells #[.int .i64 k', .int .i64 n', .string s', .slice B f'.len cap'] 29)) = w2 at *
    obtain ⟨a0, a1, a2, a3⟩ := cells4i HB0.out.2.1
    obtain ⟨b0, b1, b2, b3⟩ := cells4i HB0.out.2.2
    clear x0 x1 x2 x3
    go_region_held3 (fun w' => w'.cell? ⟨g, i * 4, none⟩ = some (.int .i64 m.k) ∧ w'.cell? ⟨g, i * 4 + 1, none⟩ = some (.int .i64 m.n) ∧ w'.cell? ⟨g, i * 4 + 2, none⟩ = some (.string m.s) ∧ w'.cell? ⟨g, i * 4 + 3, none⟩ = some (.slice Am m.f.len cm) ∧ w'.cell? ⟨w.heap.size, 1, none⟩ = some (.int .i64 (i : Int)) ∧
        w'.cell? ⟨w.heap.size + 1, 0, none⟩ = some (.int .i64 k') ∧ w'.cell? ⟨w.heap.size + 1, 1, none⟩ = some (.int .i64 n') ∧ w'.cell? ⟨w.heap.size + 1, 2, none⟩ = some (.string s') ∧ w'.cell? ⟨w.heap.size + 1, 3, none⟩ = some (.slice B f'.len cap'))
      (first | exact HF3.out | exact ⟨y0, y1, y2, y3, a1, b0, b1, b2, b3⟩)
      (first
        | (go_at_call 44
           refine (H1.out _ HB0.out.1.drew).mono ?_
           rintro e w3 ⟨rfl, hb3⟩
           have hd3 : Below w2.heap.size w2 w3 := (Below.refl w2.heap.size w2).drew.trans hb3
           have HF3 := Lib.hid (show w3.cell? ⟨g, i * 4, none⟩ = some (.int .i64 m.k) ∧ w3.cell? ⟨g, i * 4 + 1, none⟩ = some (.int .i64 m.n) ∧ w3.cell? ⟨g, i * 4 + 2, none⟩ = some (.string m.s) ∧ w3.cell? ⟨g, i * 4 + 3, none⟩ = some (.slice Am m.f.len cm) ∧ w3.cell? ⟨w.heap.size, 1, none⟩ = some (.int .i64 (i : Int)) ∧
              w3.cell? ⟨w.heap.size + 1, 0, none⟩ = some (.int .i64 k') ∧ w3.cell? ⟨w.heap.size + 1, 1, none⟩ = some (.int .i64 n') ∧ w3.cell? ⟨w.heap.size + 1, 2, none⟩ = some (.string s') ∧ w3.cell? ⟨w.heap.size + 1, 3, none⟩ = some (.slice B f'.len cap') from
            ⟨(hd3.cell (by have := HB0.out.1.size; show g < w2.heap.size; omega)).trans y0, (hd3.cell (by have := HB0.out.1.size; show g < w2.heap.size; omega)).trans y1, (hd3.cell (by have := HB0.out.1.size; show g < w2.heap.size; omega)).trans y2, (hd3.cell (by have := HB0.out.1.size; show g < w2.heap.size; omega)).trans y3, (hd3.cell HB0.out.2.1.lt).trans a1, (hd3.cell HB0.out.2.2.lt).trans b0, (hd3.cell HB0.out.2.2.lt).trans b1, (hd3.cell HB0.out.2.2.lt).trans b2, (hd3.cell HB0.out.2.2.lt).trans b3⟩)
           have HB3 := Lib.hid (HB0.out.1.trans (hd3.mono HB0.out.1.size))
           clear hb3 hd3))
    go_wp2_with fail
    go_ret
    rw [HV.out]
    cases t
    · exact ⟨.of_below HB3.out _, .inr ⟨rfl, rfl⟩⟩
    · exact ⟨.of_below HB3.out _, .inl ⟨st, rfl, rfl, HKN.out.below HB3.out hh⟩⟩

set_option maxRecDepth 100000 in
set_option maxHeartbeats 4000000 in
theorem msT_of (s : ByteArray) (f : Fr) (h : ∀ i k n s kids rest, f.drop i = .cons k n s kids rest → MsT s kids) : MsT s f := by
  intro st s' f' k n k' n' A B cap cap' lo hi g w hk hk' hh hg hs hs' hK
  by_cases hv1 : k = 1
  · subst hv1
    have hr : 0 ≤ n ∧ n ≤ 25 := by
      unfold shapeT ownB at hs
      simp only [Bool.and_eq_true, Bool.or_eq_true, decide_eq_true_eq, beq_iff_eq] at hs
      omega
    obtain ⟨rfl, rfl, _⟩ := shapeT_leaf hs (by omega)
    obtain ⟨i, rfl⟩ : ∃ i : Nat, n = (i : Int) := ⟨n.toNat, by omega⟩
    have C := msVar st i (by omega) s' f' k' n' A B cap cap' lo hi g w hk' hh hg hs' hK
    rw [show mtT st 1 (i : Int) ⟨#[]⟩ .nil k' n' s' f' = mtV st (i : Int) ⟨k', n', s', f'⟩ by unfold mtT; rw [if_pos rfl]]
    exact C
  · have t0 : (k == 1) = false := by rw [beq_eq_false_iff_ne]; exact hv1
    have hvt : mtT st k n s f k' n' s' f' = if hdB k n s f.len k' n' s' f'.len = true then mtF st f f' else none := by unfold mtT; rw [if_neg hv1]
    rw [hvt]
    clear hvt hv1
    generalize hr0 : (if hdB k n s f.len k' n' s' f'.len = true then mtF st f f' else none) = r
    by_cases h1 : k = k'
    · by_cases h2 : n = n'
      · by_cases h3 : s.data.toList = s'.data.toList
        · by_cases h4 : f.len = f'.len
          · have hv0 : hdB k n s f.len k' n' s' f'.len = true := by subst h1 h2; simp [hdB, h3, h4]
            rw [if_pos hv0] at hr0
            subst h1 h2
            obtain ⟨hT, b0, b1⟩ := two_boxes w #[.int .i64 k, .int .i64 n, .string s, .slice A f.len cap] #[.int .i64 k, .int .i64 n, .string s', .slice B f'.len cap']
            have HT := Lib.hid hT
            clear hT
            have t1 : (k != k) = false := by simp
            have t2 : (n != n) = false := by simp
            have t3 : (s.toList != s'.toList) = false := by rw [ByteArray.toList_eq, ByteArray.toList_eq, h3]; simp
            have t4 : (!(s.toList == s'.toList)) = false := t3
            have hK2 := hK.below HT.out hh
            have hgl := hK.lt
            have HK := Lib.hid hk
            have HK' := Lib.hid hk'
            have HH := Lib.hid h
            have HS := Lib.hid (shapeF_mono f 29 30 (by omega) (shapeT_kids hs))
            have HS' := Lib.hid (shapeF_mono f' 29 30 (by omega) (shapeT_kids hs'))
            have HKN := Lib.hid hK2
            have hl := hk.1
            have hl' := hk'.1
            have hm := hk.2.1
            have hm' := hk'.2.1
            unfold maxLen at hm hm'
            clear hk hk' h hv0 h3 hs hs' hK hK2
            have HG : Hid (f'.len = f.len) := Lib.hid h4.symm
            rw [← h4] at HT hl' b0 b1 HKN ⊢
            clear h4
            have HV := Lib.hid hr0
            generalize hn : f.len = len at *
            have HN := Lib.hid hn
            have t5 : ((len : Int) != (len : Int)) = false := by simp
            clear hr0 hn
            go_enter Tryd.func50, Tryd.ntmps50
            go_wp2_with fail
            generalize ((w.alloc (.cells #[.int .i64 k, .int .i64 n, .string s, .slice A len cap] 29)).alloc (.cells #[.int .i64 k, .int .i64 n, .string s', .slice B len cap'] 29)) = w2 at *
            have HB0 := Lib.hid b0
            have HB1 := Lib.hid b1
            clear b0 b1
            have hs2 := HT.out.size
            go_loopw [7] (fun i wr => ∃ (j : Nat) (st' : St), j ≤ len ∧ i = .int .i64 j ∧ mtF st' (f.drop j) (f'.drop j) = r ∧ shapeF (f.drop j) 30 = true ∧ shapeF (f'.drop j) 30 = true ∧ KnS wr lo hi g st' ∧ Wrote [g] w2 wr) (fun i _ => len - (intOf i).toNat)
            case atStart => exact ⟨0, st, Nat.zero_le _, rfl, HV.out, HS.out, HS'.out, HKN.out, .refl _ _⟩
            case round =>
              obtain ⟨j, st', hj, rfl, hv, hsf, hsf', hK, hb⟩ := hrel
              have x3 := (hb.blk HB0.out (by simp; omega)).cell 3
              have y3 := (hb.blk HB1.out (by simp; omega)).cell 3
              simp only [List.getElem?_toArray, List.getElem?_cons_zero, List.getElem?_cons_succ] at x3 y3
              by_cases hlt : j < len
              · obtain ⟨kk, nn, sk, kids, hd⟩ := Fr.drop_cons j f (by rw [HN.out]; exact hlt)
                obtain ⟨kk', nn', sk', kids', hd'⟩ := Fr.drop_cons j f' (by rw [HG.out]; exact hlt)
                obtain ⟨b, o, rfl, hlb, hbb, hrow⟩ := HK.out.2.2 (by rw [HN.out]; omega)
                obtain ⟨b', o', rfl, hlb', hbb', hrow'⟩ := HK'.out.2.2 (by rw [HG.out]; omega)
                obtain ⟨hfit, A', cp, c0, c1, c2, c3, hkid⟩ := hrow.elem hd
                obtain ⟨hfit', B', cp', c0', c1', c2', c3', hkid'⟩ := hrow'.elem hd'
                rw [hd, hd', mtF_cons] at hv
                rw [hd, shapeF_cons, Bool.and_eq_true] at hsf
                rw [hd', shapeF_cons, Bool.and_eq_true] at hsf'
                have hkeep : ∀ p : Addr, p.block < hi → wr.cell? p = w.cell? p := fun p hp => (hb.cell (by omega) (by simp; omega)).trans (HT.out.cell (by omega))
                have k0 := (hkeep ⟨b, o + j * 4, none⟩ hbb).trans c0
                have k1 := (hkeep ⟨b, o + j * 4 + 1, none⟩ hbb).trans c1
                have k2 := (hkeep ⟨b, o + j * 4 + 2, none⟩ hbb).trans c2
                have k3 := (hkeep ⟨b, o + j * 4 + 3, none⟩ hbb).trans c3
                have j0 := (hkeep ⟨b', o' + j * 4, none⟩ hbb').trans c0'
                have j1 := (hkeep ⟨b', o' + j * 4 + 1, none⟩ hbb').trans c1'
                have j2 := (hkeep ⟨b', o' + j * 4 + 2, none⟩ hbb').trans c2'
                have j3 := (hkeep ⟨b', o' + j * 4 + 3, none⟩ hbb').trans c3'
                have hsr := hb.size
                have C1 := fun w1 (hb1 : Below wr.heap.size wr w1) =>
                  HH.out _ _ _ _ _ _ hd st' sk' kids' kk nn kk' nn' A' B' cp cp' lo hi g w1 (hkid.keep fun p _ hp => (hb1.cell (by omega)).trans (hkeep p hp)) (hkid'.keep fun p _ hp => (hb1.cell (by omega)).trans (hkeep p hp)) (by have := hb1.size; omega) hg hsf.1 hsf'.1 (hK.below hb1 (by omega))
                generalize mtT st' kk nn sk kids kk' nn' sk' kids' = t at *
                have H1 := Lib.hid C1
                have HB := Lib.hid hb
                have HE := Lib.hid hv
                have HSA := Lib.hid (And.intro hsf.2 hsf'.2)
                clear C1 hb hv c0 c1 c2 c3 c0' c1' c2' c3' hkid hkid' hrow hrow' hfit hfit' hd hd' hsf hsf' hkeep hK
                go_wp2_with fail
                go_still_tail 11, (by kernel_rfl)
                change wpList _ _ _ _ _ wr.drew
                have hbd : Below wr.heap.size wr wr.drew := (Below.refl _ _).drew
                generalize wr.drew = wd at hbd ⊢
                have HD := Lib.hid hbd
                clear hbd k0 k1 k2 k3 j0 j1 j2 j3 x3 y3
                go_wp2_with fail
                refine (H1.out _ HD.out).mono ?_
                rintro e w3 ⟨hw3, hr⟩
                have HW3 : Hid (Wrote [g] w2 w3) := Lib.hid (HB.out.trans ((Wrote.of_below HD.out [g]).trans hw3))
                rcases hr with ⟨st2, rfl, rfl, hK3⟩ | ⟨rfl, rfl⟩
                · have HKN3 := Lib.hid hK3
                  clear hw3 hK3
                  go_wp2_with fail
                  go_roundw
                  case rel => exact ⟨j + 1, st2, by omega, by go_num, HE.out, HSA.out.1, HSA.out.2, HKN3.out, HW3.out⟩
                  case measure => simp [intOf]; omega
                · have HF : Hid (r = none) := Lib.hid HE.out.symm
                  clear hw3
                  go_wp2_with fail
                  go_ret
                  exact .no ((Wrote.of_below HT.out [g]).trans HW3.out) HF.out
              · obtain rfl : j = len := by omega
                have HE : Hid (r = some st') := Lib.hid (by
                  have h1 := Fr.drop_len f
                  rw [HN.out] at h1
                  rw [← hv, h1, mtF_nil])
                have HB := Lib.hid hb
                have HKN3 := Lib.hid hK
                clear hb hv hsf hsf' hK
                go_wp2_with fail
                go_ret
                exact ⟨(Wrote.of_below HT.out [g]).trans HB.out, .inl ⟨st', HE.out, rfl, HKN3.out⟩⟩
          · have HV : Hid (r = none) := Lib.hid (by rw [← hr0, if_neg]; intro e; simp only [hdB, Bool.and_eq_true, beq_iff_eq] at e; exact h4 e.2.2.2)
            subst h1 h2
            have t1 : (k != k) = false := by simp
            have t2 : (n != n) = false := by simp
            have t3 : (s.toList != s'.toList) = false := by rw [ByteArray.toList_eq, ByteArray.toList_eq, h3]; simp
            have t4 : (!(s.toList == s'.toList)) = false := t3
            have t5 : ((f.len : Int) != (f'.len : Int)) = true := by
              rw [bne_iff_ne]
              exact fun e => h4 (Int.ofNat.inj e)
            clear h3 h4
            clear hk hk' h hK hs hs' hr0
            generalize f.len = l1 at *
            generalize f'.len = l2 at *
            go_enter Tryd.func50, Tryd.ntmps50
            go_wp2_with fail
            go_ret
            exact .no (.of_below (two_alloc w _ _) _) HV.out
        · have HV : Hid (r = none) := Lib.hid (by rw [← hr0, if_neg]; intro e; simp only [hdB, Bool.and_eq_true, beq_iff_eq] at e; exact h3 e.2.2.1)
          subst h1 h2
          have t1 : (k != k) = false := by simp
          have t2 : (n != n) = false := by simp
          have t4 : (!(s.toList == s'.toList)) = true := by rw [ByteArray.toList_eq, ByteArray.toList_eq]; simpa using h3
          have t3 : (s.toList != s'.toList) = true := t4
          clear h3
          clear hk hk' h hK hs hs' hr0
          generalize f.len = l1 at *
          generalize f'.len = l2 at *
          go_enter Tryd.func50, Tryd.ntmps50
          go_wp2_with fail
          go_ret
          exact .no (.of_below (two_alloc w _ _) _) HV.out
      · have HV : Hid (r = none) := Lib.hid (by rw [← hr0, if_neg]; intro e; simp only [hdB, Bool.and_eq_true, beq_iff_eq] at e; exact h2 e.2.1)
        subst h1
        have t1 : (k != k) = false := by simp
        have t2 : (n != n') = true := by simpa using h2
        clear h2
        clear hk hk' h hK hs hs' hr0
        generalize f.len = l1 at *
        generalize f'.len = l2 at *
        go_enter Tryd.func50, Tryd.ntmps50
        go_wp2_with fail
        go_ret
        exact .no (.of_below (two_alloc w _ _) _) HV.out
    · have HV : Hid (r = none) := Lib.hid (by rw [← hr0, if_neg]; intro e; simp only [hdB, Bool.and_eq_true, beq_iff_eq] at e; exact h1 e.1)
      have t1 : (k != k') = true := by simpa using h1
      clear h1
      clear hk hk' h hK hs hs' hr0
      generalize f.len = l1 at *
      generalize f'.len = l2 at *
      go_enter Tryd.func50, Tryd.ntmps50
      go_wp2_with fail
      go_ret
      exact .no (.of_below (two_alloc w _ _) _) HV.out
theorem ms_all (N : Nat) : ∀ (s : ByteArray) (f : Fr), f.size ≤ N → MsT s f := by
  induction N with
  | zero =>
    intro s f hf
    refine msT_of s f fun i k n s kids rest hd => ?_
    have h1 := Fr.size_drop i f
    rw [hd] at h1
    simp only [Fr.size] at h1
    omega
  | succ N ih =>
    intro s f hf
    refine msT_of s f fun i k n s kids rest hd => ih s kids ?_
    have h1 := Fr.size_drop i f
    rw [hd] at h1
    simp only [Fr.size] at h1
    omega
end Go.Proofs.YtplledmhbbmgiaaDoor

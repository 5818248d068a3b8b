/- spec.l3Unify. Condition: the terms and the table lie in memory; the terms are well-formed. -/
import Derived.Test.YtkefpickpjjllaaDoorProg
import Derived.Test.YtkefpickpjjllaaDoorZmUT35
import Derived.Test.YtkefpickpjjllaaDoorZmUT34
import Derived.Deep.RegionHeld3
namespace Go.Proofs.YtkefpickpjjllaaDoor
open Go.RowKit

theorem Tm.wv {m : Nd} (h : Tm m) : wvN m := by
  have h1 : shapeF (.cons m.k m.n m.s m.f .nil) 30 = true := by rw [shapeF_cons, h.1]; rfl
  exact (wv_shape _ 30 h1).1
def TmF (f : Fr) : Prop := shapeF f 30 = true ∧ nodes f ≤ 1000
theorem Tm.kids {m : Nd} (h : Tm m) : TmF m.f := ⟨shapeF_mono m.f 29 30 (by omega) (shapeT_kids h.1), h.2⟩
theorem TmF.cons {k n : Int} {s : ByteArray} {f rest : Fr} (h : TmF (.cons k n s f rest)) : Tm ⟨k, n, s, f⟩ ∧ TmF rest := by
  obtain ⟨h1, h2⟩ := h
  rw [shapeF_cons, Bool.and_eq_true] at h1
  simp only [nodes] at h2
  exact ⟨⟨h1.1, by show nodes f ≤ 1000; omega⟩, h1.2, by omega⟩
theorem ShS.cons {σ : Sub} (h : ShS σ) {v : Int} {m : Nd} (hm : Tm m) : ShS ((v, m) :: σ) := by
  intro n t ht
  by_cases e : n = v
  · subst e
    rw [lkS_same] at ht
    injection ht with ht
    subst ht
    exact hm
  · rw [lkS_other _ _ _ _ e] at ht
    exact h n t ht
/-- What l3Unify leaves. -/
def UuRes (w : World) (lo hi g : Nat) (r : Option Sub) (e : Ending) (w' : World) : Prop :=
  Wrote [g] w w' ∧ ((∃ σ', r = some σ' ∧ e = .returned (.bool true) ∧ KnS w' lo hi g σ' ∧ Ok2 σ' ∧ ShS σ') ∨ (r = none ∧ e = .returned (.bool false)))
theorem UuRes.no {w w' : World} {lo hi g : Nat} {r : Option Sub} (hw : Wrote [g] w w') (hr : r = none) : UuRes w lo hi g r (.returned (.bool false)) w' := ⟨hw, .inr ⟨hr, rfl⟩⟩
def UuP (σ : Sub) (a b : Nd) (r : Option Sub) : Prop := ∀ (A B : Option Addr) (cap cap' lo hi g : Nat) (w : World), KidsAt w lo hi a.f A cap → KidsAt w lo hi b.f B cap' → hi ≤ w.heap.size → hi ≤ g → Tm a → Tm b → Ok2 σ → ShS σ → KnS w lo hi g σ →
  Calls Tryd.prog 20 #[.agg #[.int .i64 a.k, .int .i64 a.n, .string a.s, .slice A a.f.len cap], .agg #[.int .i64 b.k, .int .i64 b.n, .string b.s, .slice B b.f.len cap'], .slice (some ⟨g, 0, none⟩) 26 26] w fun e w' => UuRes w lo hi g r e w'
/-- Behind both walks: the two boxes, at block h and the next, hold what was walked to. -/
structure UuW (σ : Sub) (lo hi g h : Nat) (w1 : World) (m1 m2 : Nd) (A1 A2 : Option Addr) (c1 c2 : Nat) (wr : World) : Prop where
  b1 : Blk wr h 31 #[.int .i64 m1.k, .int .i64 m1.n, .string m1.s, .slice A1 m1.f.len c1]
  b2 : Blk wr (h + 1) 31 #[.int .i64 m2.k, .int .i64 m2.n, .string m2.s, .slice A2 m2.f.len c2]
  k1 : KidsAt wr lo hi m1.f A1 c1
  k2 : KidsAt wr lo hi m2.f A2 c2
  t1 : Tm m1
  t2 : Tm m2
  kn : KnS wr lo hi g σ
  wr : Wrote [h, h + 1] w1 wr
set_option maxRecDepth 100000 in
set_option maxHeartbeats 4000000 in
/-- The first is walked to a variable, the second is not the same one. -/
theorem uuLeft (σ : Sub) (a b : Nd) (h1 : (wk σ a).k = 1) (h2 : ¬ ((wk σ b).k = 1 ∧ (wk σ a).n = (wk σ b).n)) (r : Option Sub) (hr : Un σ a b r) : UuP σ a b r := by
  intro A B cap cap' lo hi g w hk hk' hh hg ha hb hσ hsσ hK
  have hgl := hK.lt
  obtain ⟨hb0, b0, b1⟩ := two_boxes w #[.int .i64 a.k, .int .i64 a.n, .string a.s, .slice A a.f.len cap] #[.int .i64 b.k, .int .i64 b.n, .string b.s, .slice B b.f.len cap']
  have hs1 : w.heap.size + 2 = ((w.alloc (.cells #[.int .i64 a.k, .int .i64 a.n, .string a.s, .slice A a.f.len cap] 31)).alloc (.cells #[.int .i64 b.k, .int .i64 b.n, .string b.s, .slice B b.f.len cap'] 31)).heap.size := by simp
  have hka := hk.below hb0 hh
  have hkb := hk'.below hb0 hh
  have hK1 := hK.below hb0 hh
  have hend := wk_end σ a hσ
  have hvf : lk σ (wk σ a).n = none := by
    rcases hend with h | h
    · exact absurd h1 h
    · exact h
  have hendb := wk_end σ b hσ
  have hta : (a.k = a.k) := rfl
  have C1 := walkS_any σ hσ hsσ a A cap lo hi g _ hka (by omega) hg hK1 ha
  have HB0 := Lib.hid (And.intro hb0 (And.intro b0 b1))
  have C2 := fun w3 (hw : Wrote [w.heap.size] ((w.alloc (.cells #[.int .i64 a.k, .int .i64 a.n, .string a.s, .slice A a.f.len cap] 31)).alloc (.cells #[.int .i64 b.k, .int .i64 b.n, .string b.s, .slice B b.f.len cap'] 31)) w3) =>
    walkS_any σ hσ hsσ b B cap' lo hi g w3 (hkb.keep fun p _ hp => hw.cell (by omega) (by simp; omega)) (by have := hw.size; omega) hg (hK1.wrote hw (by simp; omega) (by omega) (by simp; omega)) hb
  have HC1 := Lib.hid C1
  have HC2 := Lib.hid C2
  have HOK := Lib.hid hσ
  have HSS := Lib.hid hsσ
  have HK1 := Lib.hid hK1
  clear hk hk' ha hb hσ hsσ hK hka hkb hK1 C1 C2 hb0 b0 b1 hta
  generalize hm1 : wk σ a = m1 at *
  generalize hm2 : wk σ b = m2 at *
  have HFX := Lib.hid (And.intro h1 (And.intro h2 (And.intro hvf hendb)))
  clear h1 h2 hend hendb hvf
  go_enter Tryd.func20, Tryd.ntmps20
  go_wp2_with fail
  generalize ((w.alloc (.cells #[.int .i64 a.k, .int .i64 a.n, .string a.s, .slice A a.f.len cap] 31)).alloc (.cells #[.int .i64 b.k, .int .i64 b.n, .string b.s, .slice B b.f.len cap'] 31)) = w1 at *
  refine HC1.out.mono ?_
  rintro e w2 ⟨A1, c1, rfl, hk1, hb1, ht1⟩
  have p0 := HB0.out.2.1.below hb1 (by omega)
  have p1 := HB0.out.2.2.below hb1 (by omega)
  obtain ⟨f0, f1, f2, f3⟩ := frozen4 p0
  have e0 : ∃ u, w2.cell? ⟨w.heap.size, 0, none⟩ = some u := ⟨_, p0.cell 0⟩
  obtain ⟨x0, x1, x2, x3⟩ := cells4i p0
  obtain ⟨y0, y1, y2, y3⟩ := cells4i p1
  have HS2 : Hid (∀ w3 : World, w3 = ((((w2.setCell ⟨w.heap.size, 0, none⟩ (.int .i64 m1.k)).setCell ⟨w.heap.size, 1, none⟩ (.int .i64 m1.n)).setCell ⟨w.heap.size, 2, none⟩ (.string m1.s)).setCell ⟨w.heap.size, 3, none⟩ (.slice A1 m1.f.len c1)) →
      Wrote [w.heap.size] w1 w3 ∧ Blk w3 w.heap.size 31 #[.int .i64 m1.k, .int .i64 m1.n, .string m1.s, .slice A1 m1.f.len c1] ∧ Blk w3 (w.heap.size + 1) 31 #[.int .i64 b.k, .int .i64 b.n, .string b.s, .slice B b.f.len cap'] ∧ KidsAt w3 lo hi m1.f A1 c1 ∧ Tm m1) := Lib.hid (by
    rintro w3 rfl
    have hw : Wrote [w.heap.size] w2 ((((w2.setCell ⟨w.heap.size, 0, none⟩ (.int .i64 m1.k)).setCell ⟨w.heap.size, 1, none⟩ (.int .i64 m1.n)).setCell ⟨w.heap.size, 2, none⟩ (.string m1.s)).setCell ⟨w.heap.size, 3, none⟩ (.slice A1 m1.f.len c1)) :=
      ((((Wrote.refl _ _).set_ (.inl (by simp)) _).set_ (.inl (by simp)) _).set_ (.inl (by simp)) _).set_ (.inl (by simp)) _
    have h2 := hb1.size
    exact ⟨(Wrote.of_below hb1 _).trans hw, set4 p0 _ _ _ _, hw.blk p1 (by simp), hk1.keep fun p _ hp => hw.cell (by omega) (by simp; omega), ht1⟩)
  clear p0 p1 hk1 hb1 ht1 e0
  go_wp2_with fail
  refine (HC2.out _ (HS2.out _ rfl).1).mono ?_
  rintro e w4 ⟨A2, c2, rfl, hk2, hb2, ht2⟩
  obtain ⟨hw3, p0, p1, hk1, ht1⟩ := HS2.out _ rfl
  clear HS2 x0 x1 x2 x3 y0 y1 y2 y3 f0 f1 f2 f3 HC1 HC2
  obtain ⟨h1, h2, hvf, hendb⟩ := HFX.out
  obtain ⟨hms, hmf, hn0⟩ := shapeT_var (by have h3 := ht1.1; rw [h1] at h3; exact h3)
  obtain ⟨i, hni⟩ : ∃ i : Nat, m1.n = (i : Int) := ⟨m1.n.toNat, by omega⟩
  obtain rfl : m1 = ⟨1, i, ⟨#[]⟩, .nil⟩ := by
    obtain ⟨mk, mn, ms, mf⟩ := m1
    simp only at h1 hms hmf hni
    subst h1 hms hmf hni
    rfl
  have hi26 : i < 26 := by simp only at hn0; omega
  generalize ((((w2.setCell ⟨w.heap.size, 0, none⟩ (.int .i64 (⟨1, i, ⟨#[]⟩, .nil⟩ : Nd).k)).setCell ⟨w.heap.size, 1, none⟩ (.int .i64 (⟨1, i, ⟨#[]⟩, .nil⟩ : Nd).n)).setCell ⟨w.heap.size, 2, none⟩ (.string (⟨1, i, ⟨#[]⟩, .nil⟩ : Nd).s)).setCell ⟨w.heap.size, 3, none⟩ (.slice A1 (⟨1, i, ⟨#[]⟩, .nil⟩ : Nd).f.len c1)) = w3 at *
  have HNO : Hid (occN (suN (fin σ) m2) (i : Int) → r = none) := Lib.hid fun h => hr.det (Un.leftNo (by rw [hm1]) (by rw [hm1, hm2]; exact h2) (by rw [hm1, hm2]; exact h))
  have HYES : Hid (¬ occN (suN (fin σ) m2) (i : Int) → r = some (((i : Int), m2) :: σ)) := Lib.hid fun h => by
    have := hr.det (Un.left (by rw [hm1]) (by rw [hm1, hm2]; exact h2) (by rw [hm1, hm2]; exact h))
    rwa [hm1, hm2] at this
  have q0 := p0.below hb2 p0.lt
  have q1 := p1.below hb2 p1.lt
  obtain ⟨f0, f1, f2, f3⟩ := frozen4 q1
  obtain ⟨x0, x1, x2, x3⟩ := cells4i q0
  obtain ⟨y0, y1, y2, y3⟩ := cells4i q1
  have HW : Hid (∀ w5 : World, w5 = ((((w4.setCell ⟨w.heap.size + 1, 0, none⟩ (.int .i64 m2.k)).setCell ⟨w.heap.size + 1, 1, none⟩ (.int .i64 m2.n)).setCell ⟨w.heap.size + 1, 2, none⟩ (.string m2.s)).setCell ⟨w.heap.size + 1, 3, none⟩ (.slice A2 m2.f.len c2)) →
      UuW σ lo hi g w.heap.size w1 ⟨1, i, ⟨#[]⟩, .nil⟩ m2 A1 A2 c1 c2 w5) := Lib.hid (by
    rintro w5 rfl
    have hw : Wrote [w.heap.size + 1] w4 ((((w4.setCell ⟨w.heap.size + 1, 0, none⟩ (.int .i64 m2.k)).setCell ⟨w.heap.size + 1, 1, none⟩ (.int .i64 m2.n)).setCell ⟨w.heap.size + 1, 2, none⟩ (.string m2.s)).setCell ⟨w.heap.size + 1, 3, none⟩ (.slice A2 m2.f.len c2)) :=
      ((((Wrote.refl _ _).set_ (.inl (by simp)) _).set_ (.inl (by simp)) _).set_ (.inl (by simp)) _).set_ (.inl (by simp)) _
    have s3 := hw3.size
    have s4 := hb2.size
    have hw34 := (Wrote.of_below hb2 [w.heap.size + 1]).trans hw
    have hall := (hw3.more (L' := [w.heap.size, w.heap.size + 1]) fun x hx => by simp at hx; simp [hx]).trans (hw34.more (L' := [w.heap.size, w.heap.size + 1]) fun x hx => by simp at hx; simp [hx])
    exact ⟨hw.blk q0 (by simp), set4 q1 _ _ _ _, hk1.keep fun p _ hp => hw34.cell (by omega) (by simp; omega), hk2.keep fun p _ hp => hw.cell (by omega) (by simp; omega), ht1, ht2, HK1.out.wrote hall (by simp; omega) (by omega) (by simp; omega), hall⟩)
  have hs4 : w1.heap.size ≤ w4.heap.size := by have := hw3.size; have := hb2.size; omega
  have hcase : ((m2.k == 1) = true ∧ ((i : Int) == m2.n) = false) ∨ (m2.k == 1) = false := by
    by_cases hk : m2.k = 1
    · left
      refine ⟨by rw [hk]; rfl, ?_⟩
      rw [beq_eq_false_iff_ne]
      exact fun e => h2 ⟨hk, e⟩
    · right
      rw [beq_eq_false_iff_ne]
      exact hk
  have HM1 := Lib.hid hm1
  have HM2 := Lib.hid hm2
  clear q0 q1 hk2 hb2 ht2 hw3 p0 p1 hk1 ht1 hm1 hm2 h2 hr h1 hms hmf hn0 hni hvf hendb
  rcases hcase with ⟨t2, t3⟩ | t2
  all_goals
    go_wp2_with fail
    have hu := HW.out _ rfl
    clear HW f0 f1 f2 f3 x0 x1 x2 x3 y0 y1 y2 y3
    have hs5 : w4.heap.size = ((((w4.setCell ⟨w.heap.size + 1, 0, none⟩ (.int .i64 m2.k)).setCell ⟨w.heap.size + 1, 1, none⟩ (.int .i64 m2.n)).setCell ⟨w.heap.size + 1, 2, none⟩ (.string m2.s)).setCell ⟨w.heap.size + 1, 3, none⟩ (.slice A2 m2.f.len c2)).heap.size := by simp [World.setCell]
    generalize ((((w4.setCell ⟨w.heap.size + 1, 0, none⟩ (.int .i64 m2.k)).setCell ⟨w.heap.size + 1, 1, none⟩ (.int .i64 m2.n)).setCell ⟨w.heap.size + 1, 2, none⟩ (.string m2.s)).setCell ⟨w.heap.size + 1, 3, none⟩ (.slice A2 m2.f.len c2)) = w5 at *
    refine (within_any σ HOK.out HSS.out (i : Int) HFX.out.2.2.1 m2 A2 c2 lo hi g _ hu.k2 (by omega) hg hu.kn hu.t2).mono ?_
    rintro e w6 ⟨bb, rfl, hbo, hbl⟩
    have hs6 := hbl.size
    have hW6 : Wrote [g] w w6 := (((Wrote.of_below HB0.out.1 [g]).more_new hu.wr fun x hx => by simp at hx; right; omega)).trans (.of_below hbl _)
    have hKn := hu.kn.below hbl (by omega)
    have hk2 := hu.k2.below hbl (by omega)
    have ht2 := hu.t2
    have q0 := hu.b1.below hbl hu.b1.lt
    have q1 := hu.b2.below hbl hu.b2.lt
    obtain ⟨x0, x1, x2, x3⟩ := cells4i q0
    obtain ⟨y0, y1, y2, y3⟩ := cells4i q1
    cases bb
    · have hno : ¬ occN (suN (fin σ) m2) (i : Int) := fun h => by have := hbo.2 h; cases this
      have hr := HYES.out hno
      have hkr := shapeT_kind ht2.1
      have hP := hKn.put (n := m2.n) (s := m2.s) (k := m2.k) hi26 hg (by omega) (by omega) hk2
      have HP : Hid (UuRes w lo hi g r (.returned (.bool true)) ((((w6.setCell ⟨g, i * 4, none⟩ (.int .i64 m2.k)).setCell ⟨g, i * 4 + 1, none⟩ (.int .i64 m2.n)).setCell ⟨g, i * 4 + 2, none⟩ (.string m2.s)).setCell ⟨g, i * 4 + 3, none⟩ (.slice A2 m2.f.len c2))) := Lib.hid
        ⟨((((hW6.set_ (.inl (by simp)) _).set_ (.inl (by simp)) _).set_ (.inl (by simp)) _).set_ (.inl (by simp)) _), .inl ⟨_, hr, rfl, hP, (bind_ok HOK.out HFX.out.2.2.1 ht2.wv hno fun hk => by
          rcases HFX.out.2.2.2 with h | h
          · exact absurd hk h
          · exact h).1, HSS.out.cons ht2⟩⟩
      obtain ⟨cs, k0, hcs, hcell⟩ := hKn
      have hc0 : w6.cell? ⟨g, i * 4, none⟩ = some (.int .i64 0) := (k0.cell (i * 4)).trans ((hcell i hi26).1 HFX.out.2.2.1)
      obtain ⟨u1, e1⟩ : ∃ u, w6.cell? ⟨g, i * 4 + 1, none⟩ = some u := ⟨_, (k0.cell _).trans (Array.getElem?_eq_getElem (by omega))⟩
      obtain ⟨u2, e2⟩ : ∃ u, w6.cell? ⟨g, i * 4 + 2, none⟩ = some u := ⟨_, (k0.cell _).trans (Array.getElem?_eq_getElem (by omega))⟩
      obtain ⟨u3, e3⟩ : ∃ u, w6.cell? ⟨g, i * 4 + 3, none⟩ = some u := ⟨_, (k0.cell _).trans (Array.getElem?_eq_getElem (by omega))⟩
      have fz0 := k0.frozen (i * 4)
      have fz1 := k0.frozen (i * 4 + 1)
      have fz2 := k0.frozen (i * 4 + 2)
      have fz3 := k0.frozen (i * 4 + 3)
      have ii0 : (0 : Int) ≤ (i : Int) := Int.natCast_nonneg _
      have ii1 : (i : Int) < 26 := by omega
      clear hu hbo hbl hW6 hk2 ht2 q0 q1 hno hr hkr hP k0 hcs hcell
      go_wp2_with fail
      go_ret
      exact HP.out
    · have hr := HNO.out (hbo.1 rfl)
      have HP : Hid (UuRes w lo hi g r (.returned (.bool false)) w6) := Lib.hid (.no hW6 hr)
      clear hu hbo hbl hW6 hKn hk2 ht2 q0 q1 hr
      go_wp2_with fail
      go_ret
      exact HP.out
end Go.Proofs.YtkefpickpjjllaaDoor

/- spec.l3Unify, every way. Condition: the terms and the table lie in memory; the terms are well-formed. -/
namespace Go.Proofs.YtkefpickpjjllaaDoor
open Go.RowKit

theorem ba_eq {s s' : ByteArray} (h : s.data.toList = s'.data.toList) : s = s' := by
  obtain ⟨⟨l⟩⟩ := s
  obtain ⟨⟨l'⟩⟩ := s'
  simp only at h
  rw [h]
/-- One pair of a row. -/
theorem row_step {N : Nat} {σ : Sub} {k n : Int} {s : ByteArray} {f rest : Fr} {k' n' : Int} {s' : ByteArray} {f' rest' : Fr} {r : Option Sub} (h : unRow (unT N) σ (.cons k n s f rest) (.cons k' n' s' f' rest') = some r) :
    ∃ o, unT N σ ⟨k, n, s, f⟩ ⟨k', n', s', f'⟩ = some o ∧ (o = none → r = none) ∧ ∀ σ1, o = some σ1 → unRow (unT N) σ1 rest rest' = some r := by
  simp only [unRow] at h
  cases hu : unT N σ ⟨k, n, s, f⟩ ⟨k', n', s', f'⟩ with
  | none => rw [hu] at h; cases h
  | some o =>
    rw [hu] at h
    cases o with
    | none =>
      injection h with h
      exact ⟨none, rfl, fun _ => h.symm, fun σ1 h1 => by cases h1⟩
    | some σ1 => exact ⟨some σ1, rfl, fun h1 => (by cases h1), fun σ2 h2 => by injection h2 with h2; subst h2; exact h⟩
set_option maxRecDepth 100000 in
set_option maxHeartbeats 4000000 in
/-- Both ways are walked: what follows is asked of every world behind them. -/
theorem uu_of (N : Nat) (ih : ∀ σ a b r, unT N σ a b = some r → UuP σ a b r) (σ : Sub) (a b : Nd) (r : Option Sub) (hr : unT (N + 1) σ a b = some r) : UuP σ a b r := by
  by_cases hL : (wk σ a).k = 1 ∧ ¬ ((wk σ b).k = 1 ∧ (wk σ a).n = (wk σ b).n)
  · exact uuLeft σ a b hL.1 hL.2 r ⟨N + 1, hr⟩
  intro A B cap cap' lo hi g w hk hk' hh hg ha hb hσ hsσ hK
  have hgl := hK.lt
  obtain ⟨hb0, b0, b1⟩ := two_boxes w #[.int .i64 a.k, .int .i64 a.n, .string a.s, .slice A a.f.len cap] #[.int .i64 b.k, .int .i64 b.n, .string b.s, .slice B b.f.len cap']
  have hs1 : w.heap.size + 2 = ((w.alloc (.cells #[.int .i64 a.k, .int .i64 a.n, .string a.s, .slice A a.f.len cap] 31)).alloc (.cells #[.int .i64 b.k, .int .i64 b.n, .string b.s, .slice B b.f.len cap'] 31)).heap.size := by simp
  have hka := hk.below hb0 hh
  have hkb := hk'.below hb0 hh
  have hK1 := hK.below hb0 hh
  have henda := wk_end σ a hσ
  have hendb := wk_end σ b hσ
  have hta : (a.k = a.k) := rfl
  have C1 := walkS_any σ hσ hsσ a A cap lo hi g _ hka (by omega) hg hK1 ha
  have HB0 := Lib.hid (And.intro hb0 (And.intro b0 b1))
  have C2 := fun w3 (hw : Wrote [w.heap.size] ((w.alloc (.cells #[.int .i64 a.k, .int .i64 a.n, .string a.s, .slice A a.f.len cap] 31)).alloc (.cells #[.int .i64 b.k, .int .i64 b.n, .string b.s, .slice B b.f.len cap'] 31)) w3) =>
    walkS_any σ hσ hsσ b B cap' lo hi g w3 (hkb.keep fun p _ hp => hw.cell (by omega) (by simp; omega)) (by have := hw.size; omega) hg (hK1.wrote hw (by simp; omega) (by omega) (by simp; omega)) hb
  have HC1 := Lib.hid C1
  have HC2 := Lib.hid C2
  have HOK := Lib.hid hσ
  have HSS := Lib.hid hsσ
  have HK1 := Lib.hid hK1
  clear hk hk' ha hb hσ hsσ hK hka hkb hK1 C1 C2 hb0 b0 b1 hta
  generalize hm1 : wk σ a = m1 at *
  generalize hm2 : wk σ b = m2 at *
  have HFX := Lib.hid (And.intro hL (And.intro henda hendb))
  clear hL henda hendb
  go_enter Tryd.func20, Tryd.ntmps20
  go_wp2_with fail
  generalize ((w.alloc (.cells #[.int .i64 a.k, .int .i64 a.n, .string a.s, .slice A a.f.len cap] 31)).alloc (.cells #[.int .i64 b.k, .int .i64 b.n, .string b.s, .slice B b.f.len cap'] 31)) = w1 at *
  refine HC1.out.mono ?_
  rintro e w2 ⟨A1, c1, rfl, hk1, hb1, ht1⟩
  have p0 := HB0.out.2.1.below hb1 (by omega)
  have p1 := HB0.out.2.2.below hb1 (by omega)
  obtain ⟨f0, f1, f2, f3⟩ := frozen4 p0
  have e0 : ∃ u, w2.cell? ⟨w.heap.size, 0, none⟩ = some u := ⟨_, p0.cell 0⟩
  obtain ⟨x0, x1, x2, x3⟩ := cells4i p0
  obtain ⟨y0, y1, y2, y3⟩ := cells4i p1
  have HS2 : Hid (∀ w3 : World, w3 = ((((w2.setCell ⟨w.heap.size, 0, none⟩ (.int .i64 m1.k)).setCell ⟨w.heap.size, 1, none⟩ (.int .i64 m1.n)).setCell ⟨w.heap.size, 2, none⟩ (.string m1.s)).setCell ⟨w.heap.size, 3, none⟩ (.slice A1 m1.f.len c1)) →
      Wrote [w.heap.size] w1 w3 ∧ Blk w3 w.heap.size 31 #[.int .i64 m1.k, .int .i64 m1.n, .string m1.s, .slice A1 m1.f.len c1] ∧ Blk w3 (w.heap.size + 1) 31 #[.int .i64 b.k, .int .i64 b.n, .string b.s, .slice B b.f.len cap'] ∧ KidsAt w3 lo hi m1.f A1 c1 ∧ Tm m1) := Lib.hid (by
    rintro w3 rfl
    have hw : Wrote [w.heap.size] w2 ((((w2.setCell ⟨w.heap.size, 0, none⟩ (.int .i64 m1.k)).setCell ⟨w.heap.size, 1, none⟩ (.int .i64 m1.n)).setCell ⟨w.heap.size, 2, none⟩ (.string m1.s)).setCell ⟨w.heap.size, 3, none⟩ (.slice A1 m1.f.len c1)) :=
      ((((Wrote.refl _ _).set_ (.inl (by simp)) _).set_ (.inl (by simp)) _).set_ (.inl (by simp)) _).set_ (.inl (by simp)) _
    have h2 := hb1.size
    exact ⟨(Wrote.of_below hb1 _).trans hw, set4 p0 _ _ _ _, hw.blk p1 (by simp), hk1.keep fun p _ hp => hw.cell (by omega) (by simp; omega), ht1⟩)
  clear p0 p1 hk1 hb1 ht1 e0
  go_wp2_with fail
  refine (HC2.out _ (HS2.out _ rfl).1).mono ?_
  rintro e w4 ⟨A2, c2, rfl, hk2, hb2, ht2⟩
  obtain ⟨hw3, p0, p1, hk1, ht1⟩ := HS2.out _ rfl
  clear HS2 x0 x1 x2 x3 y0 y1 y2 y3 f0 f1 f2 f3 HC1 HC2
  obtain ⟨hL, henda, hendb⟩ := HFX.out
  generalize ((((w2.setCell ⟨w.heap.size, 0, none⟩ (.int .i64 m1.k)).setCell ⟨w.heap.size, 1, none⟩ (.int .i64 m1.n)).setCell ⟨w.heap.size, 2, none⟩ (.string m1.s)).setCell ⟨w.heap.size, 3, none⟩ (.slice A1 m1.f.len c1)) = w3 at *
  have q0 := p0.below hb2 p0.lt
  have q1 := p1.below hb2 p1.lt
  obtain ⟨f0, f1, f2, f3⟩ := frozen4 q1
  obtain ⟨x0, x1, x2, x3⟩ := cells4i q0
  obtain ⟨y0, y1, y2, y3⟩ := cells4i q1
  have HW : Hid (∀ w5 : World, w5 = ((((w4.setCell ⟨w.heap.size + 1, 0, none⟩ (.int .i64 m2.k)).setCell ⟨w.heap.size + 1, 1, none⟩ (.int .i64 m2.n)).setCell ⟨w.heap.size + 1, 2, none⟩ (.string m2.s)).setCell ⟨w.heap.size + 1, 3, none⟩ (.slice A2 m2.f.len c2)) →
      UuW σ lo hi g w.heap.size w1 m1 m2 A1 A2 c1 c2 w5) := Lib.hid (by
    rintro w5 rfl
    have hw : Wrote [w.heap.size + 1] w4 ((((w4.setCell ⟨w.heap.size + 1, 0, none⟩ (.int .i64 m2.k)).setCell ⟨w.heap.size + 1, 1, none⟩ (.int .i64 m2.n)).setCell ⟨w.heap.size + 1, 2, none⟩ (.string m2.s)).setCell ⟨w.heap.size + 1, 3, none⟩ (.slice A2 m2.f.len c2)) :=
      ((((Wrote.refl _ _).set_ (.inl (by simp)) _).set_ (.inl (by simp)) _).set_ (.inl (by simp)) _).set_ (.inl (by simp)) _
    have s3 := hw3.size
    have s4 := hb2.size
    have hw34 := (Wrote.of_below hb2 [w.heap.size + 1]).trans hw
    have hall := (hw3.more (L' := [w.heap.size, w.heap.size + 1]) fun x hx => by simp at hx; simp [hx]).trans (hw34.more (L' := [w.heap.size, w.heap.size + 1]) fun x hx => by simp at hx; simp [hx])
    exact ⟨hw.blk q0 (by simp), set4 q1 _ _ _ _, hk1.keep fun p _ hp => hw34.cell (by omega) (by simp; omega), hk2.keep fun p _ hp => hw.cell (by omega) (by simp; omega), ht1, ht2, HK1.out.wrote hall (by simp; omega) (by omega) (by simp; omega), hall⟩)
  have hs4 : w1.heap.size ≤ w4.heap.size := by have := hw3.size; have := hb2.size; omega
  have hs5 : w4.heap.size = ((((w4.setCell ⟨w.heap.size + 1, 0, none⟩ (.int .i64 m2.k)).setCell ⟨w.heap.size + 1, 1, none⟩ (.int .i64 m2.n)).setCell ⟨w.heap.size + 1, 2, none⟩ (.string m2.s)).setCell ⟨w.heap.size + 1, 3, none⟩ (.slice A2 m2.f.len c2)).heap.size := by simp [World.setCell]
  have HL2 : Hid (Wrote [g] w ((((w4.setCell ⟨w.heap.size + 1, 0, none⟩ (.int .i64 m2.k)).setCell ⟨w.heap.size + 1, 1, none⟩ (.int .i64 m2.n)).setCell ⟨w.heap.size + 1, 2, none⟩ (.string m2.s)).setCell ⟨w.heap.size + 1, 3, none⟩ (.slice A2 m2.f.len c2))) := Lib.hid
    ((Wrote.of_below HB0.out.1 [g]).more_new (HW.out _ rfl).wr fun x hx => by simp at hx; right; omega)
  have hun : unT (N + 1) σ a b = some r := hr
  rw [unT, hm1, hm2] at hun
  clear q0 q1 hk2 hb2 ht2 hw3 p0 p1 hk1 ht1
  by_cases h1 : m1.k = 1
  · have h2 : m2.k = 1 ∧ m1.n = m2.n := Classical.byContradiction fun h => hL ⟨h1, h⟩
    rw [if_pos h1, if_pos h2] at hun
    injection hun with hun
    have HR : Hid (r = some σ) := Lib.hid hun.symm
    have t1 : (m1.k == 1) = true := by rw [h1]; rfl
    have t2 : (m2.k == 1) = true := by rw [h2.1]; rfl
    have t3 : (m1.n == m2.n) = true := by rw [h2.2]; simp
    have HW2 := Lib.hid (HW.out _ rfl)
    clear hun h1 h2 hL henda hendb hr hm1 hm2 HFX
    go_wp2_with fail
    go_ret
    exact ⟨HL2.out, .inl ⟨σ, HR.out, rfl, HW2.out.kn, HOK.out, HSS.out⟩⟩
  · rw [if_neg h1] at hun
    have t1 : (m1.k == 1) = false := by rw [beq_eq_false_iff_ne]; exact h1
    by_cases h2 : m2.k = 1
    · have hl2 : lk σ m2.n = none := by
        rcases hendb with h | h
        · exact absurd h2 h
        · exact h
      have e2 : wk σ m2 = m2 := (wk_stop σ m2 (.inr hl2)).1
      have e1 : wk σ m1 = m1 := (wk_stop σ m1 (.inl h1)).1
      have hsw : Un σ m2 m1 r := by
        rw [if_pos h2] at hun
        by_cases ho : occN (suN (fin σ) m1) m2.n
        · rw [if_pos ho] at hun
          injection hun with hun
          subst hun
          have := Un.leftNo (σ := σ) (a := m2) (b := m1) (by rw [e2]; exact h2) (by rw [e1]; exact fun h => h1 h.1) (by rw [e1, e2]; exact ho)
          exact this
        · rw [if_neg ho] at hun
          injection hun with hun
          subst hun
          have := Un.left (σ := σ) (a := m2) (b := m1) (by rw [e2]; exact h2) (by rw [e1]; exact fun h => h1 h.1) (by rw [e1, e2]; exact ho)
          rwa [e1, e2] at this
      have CL := uuLeft σ m2 m1 (by rw [e2]; exact h2) (by rw [e1]; exact fun h => h1 h.1) r hsw
      have HCL := Lib.hid CL
      have t2 : (m2.k == 1) = true := by rw [h2]; rfl
      have HW2 := Lib.hid (HW.out _ rfl)
      clear hun h1 h2 hL henda hendb hr hm1 hm2 HFX CL hsw e1 e2 hl2
      go_wp2_with fail
      have hu := HW2.out
      refine (HCL.out A2 A1 c2 c1 lo hi g _ hu.k2 hu.k1 (by omega) hg hu.t2 hu.t1 HOK.out HSS.out hu.kn).mono ?_
      rintro e w6 ⟨hw6, hr6⟩
      have hw := HL2.out.trans hw6
      rcases hr6 with ⟨σ', rfl, rfl, k1, k2, k3⟩ | ⟨rfl, rfl⟩
      · have HP : Hid (UuRes w lo hi g (some σ') (.returned (.bool true)) w6) := Lib.hid ⟨hw, .inl ⟨σ', rfl, rfl, k1, k2, k3⟩⟩
        clear hu hw6 hw k1 k2 k3
        go_wp2_with fail
        go_ret
        exact HP.out
      · have HP : Hid (UuRes w lo hi g none (.returned (.bool false)) w6) := Lib.hid (.no hw rfl)
        clear hu hw6 hw
        go_wp2_with fail
        go_ret
        exact HP.out
    · have t2 : (m2.k == 1) = false := by rw [beq_eq_false_iff_ne]; exact h2
      rw [if_neg h2] at hun
      by_cases e1 : m1.k = m2.k
      · have s1 : (m1.k != m2.k) = false := by rw [e1]; simp
        by_cases e2 : m1.n = m2.n
        · have s2 : (m1.n != m2.n) = false := by rw [e2]; simp
          by_cases e3 : m1.s = m2.s
          · have s3 : (m1.s.toList != m2.s.toList) = false := by rw [e3]; simp
            have s4 : (!(m1.s.toList == m2.s.toList)) = false := s3
            by_cases e4 : m1.f.len = m2.f.len
            · rw [if_pos ⟨e1, e2, e3, e4⟩] at hun
              have s5 : ((m1.f.len : Int) != (m2.f.len : Int)) = false := by rw [e4]; simp
              have HIH := Lib.hid ih
              have HUN := Lib.hid hun
              have HW2 := Lib.hid (HW.out _ rfl)
              have HE4 := Lib.hid e4
              have hbnd1 := (HW2.out.k1).1
              have hbnd2 := (HW2.out.k1).2.1
              unfold maxLen at hbnd2
              clear hun h1 h2 hL henda hendb hr hm1 hm2 HFX HW ih e1 e2 e3 e4
              go_wp2_with fail
              have hu := HW2.out
              generalize ((((w4.setCell ⟨w.heap.size + 1, 0, none⟩ (.int .i64 m2.k)).setCell ⟨w.heap.size + 1, 1, none⟩ (.int .i64 m2.n)).setCell ⟨w.heap.size + 1, 2, none⟩ (.string m2.s)).setCell ⟨w.heap.size + 1, 3, none⟩ (.slice A2 m2.f.len c2)) = w5 at *
              clear f0 f1 f2 f3 x0 x1 x2 x3 y0 y1 y2 y3
              have HU := Lib.hid hu
              clear hu
              go_loopw [7] (fun i wr => ∃ (j : Nat) (σ' : Sub), j ≤ m1.f.len ∧ i = .int .i64 j ∧ unRow (unT N) σ' (m1.f.drop j) (m2.f.drop j) = some r ∧ TmF (m1.f.drop j) ∧ TmF (m2.f.drop j) ∧ KnS wr lo hi g σ' ∧ Ok2 σ' ∧ ShS σ' ∧ Wrote [g] w5 wr) (fun i _ => m1.f.len - (intOf i).toNat)
              case atStart => exact ⟨0, σ, Nat.zero_le _, rfl, HUN.out, HU.out.t1.kids, HU.out.t2.kids, HU.out.kn, HOK.out, HSS.out, .refl _ _⟩
              case round =>
                obtain ⟨j, σ', hj, rfl, hv, hsf, hsf', hK, hσ', hss', hb⟩ := hrel
                have x3 := (hb.blk HU.out.b1 (by simp; omega)).cell 3
                have y3 := (hb.blk HU.out.b2 (by simp; omega)).cell 3
                simp only [List.getElem?_toArray, List.getElem?_cons_zero, List.getElem?_cons_succ] at x3 y3
                by_cases hlt : j < m1.f.len
                · have hlt2 : j < m2.f.len := by rw [← HE4.out]; exact hlt
                  obtain ⟨kk, nn, sk, kids, hd⟩ := Fr.drop_cons j m1.f hlt
                  obtain ⟨kk', nn', sk', kids', hd'⟩ := Fr.drop_cons j m2.f hlt2
                  obtain ⟨b, o, rfl, hlb, hbb, hrow⟩ := HU.out.k1.2.2 (by omega)
                  obtain ⟨b', o', rfl, hlb', hbb', hrow'⟩ := HU.out.k2.2.2 (by omega)
                  obtain ⟨hfit, A', cp, c0, c1', c2', c3, hkid⟩ := hrow.elem hd
                  obtain ⟨hfit', B', cp', d0, d1, d2, d3, hkid'⟩ := hrow'.elem hd'
                  rw [hd, hd'] at hv
                  obtain ⟨oo, ho, hno, hyes⟩ := row_step hv
                  rw [hd] at hsf
                  rw [hd'] at hsf'
                  obtain ⟨hT1, hsf⟩ := hsf.cons
                  obtain ⟨hT2, hsf'⟩ := hsf'.cons
                  have hkeep : ∀ p : Addr, p.block < hi → wr.cell? p = w5.cell? p := fun p hp => hb.cell (by omega) (by simp; omega)
                  have k0 := (hkeep ⟨b, o + j * 4, none⟩ hbb).trans c0
                  have k1 := (hkeep ⟨b, o + j * 4 + 1, none⟩ hbb).trans c1'
                  have k2 := (hkeep ⟨b, o + j * 4 + 2, none⟩ hbb).trans c2'
                  have k3 := (hkeep ⟨b, o + j * 4 + 3, none⟩ hbb).trans c3
                  have j0 := (hkeep ⟨b', o' + j * 4, none⟩ hbb').trans d0
                  have j1 := (hkeep ⟨b', o' + j * 4 + 1, none⟩ hbb').trans d1
                  have j2 := (hkeep ⟨b', o' + j * 4 + 2, none⟩ hbb').trans d2
                  have j3 := (hkeep ⟨b', o' + j * 4 + 3, none⟩ hbb').trans d3
                  have hsr := hb.size
                  have C1 := fun w1 (hb1 : Below wr.heap.size wr w1) => HIH.out σ' _ _ oo ho A' B' cp cp' lo hi g w1 (hkid.keep fun p _ hp => (hb1.cell (by omega)).trans (hkeep p hp)) (hkid'.keep fun p _ hp => (hb1.cell (by omega)).trans (hkeep p hp)) (by have := hb1.size; omega) hg hT1 hT2 hσ' hss' (hK.below hb1 (by omega))
                  have H1 := Lib.hid C1
                  have HB := Lib.hid hb
                  have HNO := Lib.hid hno
                  have HYES := Lib.hid hyes
                  have HSA := Lib.hid (And.intro hsf hsf')
                  clear C1 hb hv ho hno hyes c0 c1' c2' c3 d0 d1 d2 d3 hkid hkid' hrow hrow' hfit hfit' hd hd' hsf hsf' hkeep hK hT1 hT2 hσ' hss'
                  go_wp2_with fail
                  go_still_tail 11, (by kernel_rfl)
                  change wpList _ _ _ _ _ wr.drew
                  have hbd : Below wr.heap.size wr wr.drew := (Below.refl _ _).drew
                  generalize wr.drew = wd at hbd ⊢
                  have HD := Lib.hid hbd
                  clear hbd k0 k1 k2 k3 j0 j1 j2 j3 x3 y3
                  go_wp2_with fail
                  refine (H1.out _ HD.out).mono ?_
                  rintro e w6 ⟨hw6, hr⟩
                  have HW6 : Hid (Wrote [g] w5 w6) := Lib.hid (HB.out.trans ((Wrote.of_below HD.out [g]).trans hw6))
                  rcases hr with ⟨σ2, rfl, rfl, hK6, ok6, ss6⟩ | ⟨rfl, rfl⟩
                  · have HKN6 := Lib.hid (And.intro hK6 (And.intro ok6 ss6))
                    clear hw6 hK6 ok6 ss6
                    go_wp2_with fail
                    go_roundw
                    case rel => exact ⟨j + 1, σ2, by omega, by go_num, HYES.out σ2 rfl, HSA.out.1, HSA.out.2, HKN6.out.1, HKN6.out.2.1, HKN6.out.2.2, HW6.out⟩
                    case measure => simp [intOf]; omega
                  · have HF : Hid (r = none) := Lib.hid (HNO.out rfl)
                    clear hw6
                    go_wp2_with fail
                    go_ret
                    exact .no (HL2.out.trans HW6.out) HF.out
                · obtain rfl : j = m1.f.len := by omega
                  have HE : Hid (r = some σ') := Lib.hid (by
                    have h1 := Fr.drop_len m1.f
                    have h2 := Fr.drop_len m2.f
                    rw [h1, HE4.out, h2] at hv
                    injection hv with hv
                    exact hv.symm)
                  have HKN6 := Lib.hid (And.intro hK (And.intro hσ' hss'))
                  have HB := Lib.hid hb
                  clear hb hv hsf hsf' hK hσ' hss'
                  go_wp2_with fail
                  go_ret
                  exact ⟨HL2.out.trans HB.out, .inl ⟨σ', HE.out, rfl, HKN6.out.1, HKN6.out.2.1, HKN6.out.2.2⟩⟩
            · have s5 : ((m1.f.len : Int) != (m2.f.len : Int)) = true := by
                rw [bne_iff_ne]
                exact fun e => e4 (Int.ofNat.inj e)
              have HR : Hid (r = none) := Lib.hid (by
                rw [if_neg (fun h => e4 h.2.2.2)] at hun
                injection hun with hun
                exact hun.symm)
              clear hun h1 h2 hL henda hendb hr hm1 hm2 HFX HW e1 e2 e3 e4
              go_wp2_with fail
              go_ret
              exact .no HL2.out HR.out
          · have s4 : (!(m1.s.toList == m2.s.toList)) = true := by
              rw [ByteArray.toList_eq, ByteArray.toList_eq]
              simpa using fun h => e3 (ba_eq h)
            have s3 : (m1.s.toList != m2.s.toList) = true := s4
            have HR : Hid (r = none) := Lib.hid (by
              rw [if_neg (fun h => e3 h.2.2.1)] at hun
              injection hun with hun
              exact hun.symm)
            clear hun h1 h2 hL henda hendb hr hm1 hm2 HFX HW e1 e2 e3
            go_wp2_with fail
            go_ret
            exact .no HL2.out HR.out
        · have s2 : (m1.n != m2.n) = true := by simpa using e2
          have HR : Hid (r = none) := Lib.hid (by
            rw [if_neg (fun h => e2 h.2.1)] at hun
            injection hun with hun
            exact hun.symm)
          clear hun h1 h2 hL henda hendb hr hm1 hm2 HFX HW e1 e2
          go_wp2_with fail
          go_ret
          exact .no HL2.out HR.out
      · have s1 : (m1.k != m2.k) = true := by simpa using e1
        have HR : Hid (r = none) := Lib.hid (by
          rw [if_neg (fun h => e1 h.1)] at hun
          injection hun with hun
          exact hun.symm)
        clear hun h1 h2 hL henda hendb hr hm1 hm2 HFX HW e1
        go_wp2_with fail
        go_ret
        exact .no HL2.out HR.out
/-- spec.l3Unify. -/
theorem uu_all (N : Nat) : ∀ (σ : Sub) (a b : Nd) (r : Option Sub), unT N σ a b = some r → UuP σ a b r := by
  induction N with
  | zero => intro σ a b r h; cases h
  | succ N ih => exact uu_of N ih
theorem uu_any {σ : Sub} {a b : Nd} {r : Option Sub} (h : Un σ a b r) : UuP σ a b r := by
  obtain ⟨N, h⟩ := h
  exact uu_all N σ a b r h
end Go.Proofs.YtkefpickpjjllaaDoor

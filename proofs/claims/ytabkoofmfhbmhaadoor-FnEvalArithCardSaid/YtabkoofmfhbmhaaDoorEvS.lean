/- Arithmetic: the model's l5Arith and EvalArith. Condition: the term lies in memory. -/
import Derived.Test.YtabkoofmfhbmhaaDoorProg
import Derived.Test.YtabkoofmfhbmhaaDoorEvO
namespace Go.Proofs.YtabkoofmfhbmhaaDoor
open Go.RowKit

/-- The two kids of a row of two, in memory. -/
theorem two_kids {w : World} {lo hi : Nat} {k1 n1 : Int} {s1 : ByteArray} {f1 : Fr} {k2 n2 : Int} {s2 : ByteArray} {f2 : Fr} {A : Option Addr} {cap : Nat} (h : KidsAt w lo hi (.cons k1 n1 s1 f1 (.cons k2 n2 s2 f2 .nil)) A cap) :
    ∃ b o A1 c1 A2 c2, A = some ⟨b, o, none⟩ ∧ b < hi ∧ (w.cell? ⟨b, o, none⟩ = some (.int .i64 k1) ∧ w.cell? ⟨b, o + 1, none⟩ = some (.int .i64 n1) ∧ w.cell? ⟨b, o + 2, none⟩ = some (.string s1) ∧ w.cell? ⟨b, o + 3, none⟩ = some (.slice A1 f1.len c1)) ∧ KidsAt w lo hi f1 A1 c1 ∧
      (w.cell? ⟨b, o + 4, none⟩ = some (.int .i64 k2) ∧ w.cell? ⟨b, o + 4 + 1, none⟩ = some (.int .i64 n2) ∧ w.cell? ⟨b, o + 4 + 2, none⟩ = some (.string s2) ∧ w.cell? ⟨b, o + 4 + 3, none⟩ = some (.slice A2 f2.len c2)) ∧ KidsAt w lo hi f2 A2 c2 := by
  obtain ⟨b, o, rfl, hlb, hbb, hrow⟩ := h.2.2 (by simp [Fr.len])
  obtain ⟨_, A1, c1, a0, a1, a2, a3, hk1⟩ := hrow.elem (i := 0) rfl
  obtain ⟨_, A2, c2, b0, b1, b2, b3, hk2⟩ := hrow.elem (i := 1) rfl
  exact ⟨b, o, A1, c1, A2, c2, rfl, hbb, ⟨by simpa using a0, by simpa using a1, by simpa using a2, by simpa using a3⟩, hk1, ⟨by simpa using b0, by simpa using b1, by simpa using b2, by simpa using b3⟩, hk2⟩
def EvR (r : Int × Int) : Value := .tuple #[.int .i64 r.1, .int .i64 r.2]
def EsT (s : ByteArray) (f : Fr) : Prop := ∀ (k n d : Int) (A : Option Addr) (cap lo hi : Nat) (w : World), shapeT k n s f d = true → KidsAt w lo hi f A cap → hi ≤ w.heap.size →
  Calls Tryd.prog 53 #[.agg #[.int .i64 k, .int .i64 n, .string s, .slice A f.len cap]] w fun e w' => e = .returned (EvR (evK k n (evF s f))) ∧ Below w.heap.size w w'
theorem evR_eq (r : Int × Int) (a b : Int) (h : r = (a, b)) : EvR r = .tuple #[.int .i64 a, .int .i64 b] := by rw [h]; rfl
theorem kinds {k n : Int} {s : ByteArray} {f : Fr} {d : Int} (h : shapeT k n s f d = true) : k = 1 ∨ k = 2 ∨ k = 3 := by
  unfold shapeT ownB at h
  simp only [Bool.and_eq_true, Bool.or_eq_true, beq_iff_eq] at h
  rcases h.2.1 with (h | h) | h
  · exact .inl h.1
  · exact .inr (.inl h.1)
  · exact .inr (.inr h.1)

set_option maxRecDepth 100000 in
set_option maxHeartbeats 4000000 in
theorem esT_of (s : ByteArray) (f : Fr) (h : ∀ i k n s kids rest, f.drop i = .cons k n s kids rest → EsT s kids) : EsT s f := by
  intro k n d A cap lo hi w hsh hk hh
  have hb0 : Below w.heap.size w (w.alloc (.cells #[.int .i64 k, .int .i64 n, .string s, .slice A f.len cap] 31)) := (Below.refl _ _).alloc (Nat.le_refl _) _
  have HB0 := Lib.hid hb0
  rcases kinds hsh with rfl | rfl | rfl
  · have HV : Hid (EvR (evK 1 n (evF s f)) = .tuple #[.int .i64 0, .int .i64 2]) := Lib.hid rfl
    clear hb0 hsh hk h
    go_enter Tryd.func53, Tryd.ntmps53
    go_wp2_with fail
    go_ret2
    rw [HV.out]; exact ⟨rfl, HB0.out⟩
  · have HV : Hid (EvR (evK 2 n (evF s f)) = .tuple #[.int .i64 n, .int .i64 0]) := Lib.hid rfl
    clear hb0 hsh hk h
    go_enter Tryd.func53, Tryd.ntmps53
    go_wp2_with fail
    go_ret2
    rw [HV.out]; exact ⟨rfl, HB0.out⟩
  · have hlv := level_ar s.data.toList
    have C1 := fun w1 => op.l2_any s w1
    have H1 := Lib.hid C1
    clear C1
    by_cases h0 : arOp s.data.toList = 0
    · have HV : Hid (EvR (evK 3 n (evF s f)) = .tuple #[.int .i64 0, .int .i64 3]) := Lib.hid (by rw [ev_none s f h0]; rfl)
      have HLV := Lib.hid hlv
      clear hb0 hsh hk h hlv
      generalize op.level s.data.toList = lv at *
      have l1 : (lv != 1) = true := by rw [bne_iff_ne]; exact fun e => HLV.out.1 (.inl e) h0
      have l2 : (lv != 2) = true := by rw [bne_iff_ne]; exact fun e => HLV.out.1 (.inr e) h0
      clear HLV
      generalize f.len = fl at *
      by_cases t2 : (fl : Int) = 2
      · go_enter Tryd.func53, Tryd.ntmps53
        go_wp2_with (go_at_call 67; refine (H1.out _).mono ?_; rintro e w' ⟨rfl, rfl⟩)
        go_ret2
        rw [HV.out]; exact ⟨rfl, HB0.out⟩
      · go_enter Tryd.func53, Tryd.ntmps53
        go_wp2_with (go_at_call 67; refine (H1.out _).mono ?_; rintro e w' ⟨rfl, rfl⟩)
        go_ret2
        rw [HV.out]; exact ⟨rfl, HB0.out⟩
    · by_cases h2 : f.len = 2
      · have hL := hlv.2 h0
        have HN := Lib.hid h2
        obtain ⟨k1, n1, s1, f1, k2, n2, s2, f2, rfl⟩ := two_of f h2
        have htw := ev_two s k1 n1 s1 f1 k2 n2 s2 f2
        rw [if_neg h0] at htw
        have HTW := Lib.hid htw
        have hsf := shapeT_kids hsh
        rw [shapeF_cons, shapeF_cons] at hsf
        simp only [Bool.and_eq_true] at hsf
        obtain ⟨ha, hb, _⟩ := hsf
        have sa := evK_small ha (ev_small _ s1 f1 (d - 1) (Nat.le_refl _) (by have := shapeT_kids ha; exact shapeF_mono _ _ _ (by omega) this))
        have sb := evK_small hb (ev_small _ s2 f2 (d - 1) (Nat.le_refl _) (by have := shapeT_kids hb; exact shapeF_mono _ _ _ (by omega) this))
        obtain ⟨b, o, A1, c1, A2, c2, rfl, hbb, ⟨x0, x1, x2, x3⟩, hk1, ⟨y0, y1, y2, y3⟩, hk2⟩ := two_kids hk
        have hbl : b < w.heap.size := by omega
        have C2 := fun w1 (hb : Below w.heap.size w w1) => h 0 k1 n1 s1 f1 _ rfl k1 n1 (d - 1) A1 c1 lo hi w1 ha (hk1.below hb hh) (Nat.le_trans hh hb.size)
        have C3 := fun w1 (hb' : Below w.heap.size w w1) => h 1 k2 n2 s2 f2 _ rfl k2 n2 (d - 1) A2 c2 lo hi w1 hb (hk2.below hb' hh) (Nat.le_trans hh hb'.size)
        have C4 := fun a b w1 (ha : Small a) (hb : Small b) => opS_any s a b w1 ha hb h0
        have HX : Hid (∀ w1, Below w.heap.size w w1 → w1.cell? ⟨b, o, none⟩ = some (.int .i64 k1) ∧ w1.cell? ⟨b, o + 1, none⟩ = some (.int .i64 n1) ∧ w1.cell? ⟨b, o + 2, none⟩ = some (.string s1) ∧ w1.cell? ⟨b, o + 3, none⟩ = some (.slice A1 f1.len c1) ∧
            w1.cell? ⟨b, o + 4, none⟩ = some (.int .i64 k2) ∧ w1.cell? ⟨b, o + 4 + 1, none⟩ = some (.int .i64 n2) ∧ w1.cell? ⟨b, o + 4 + 2, none⟩ = some (.string s2) ∧ w1.cell? ⟨b, o + 4 + 3, none⟩ = some (.slice A2 f2.len c2)) := Lib.hid fun w1 hb =>
          ⟨(hb.cell hbl).trans x0, (hb.cell hbl).trans x1, (hb.cell hbl).trans x2, (hb.cell hbl).trans x3, (hb.cell hbl).trans y0, (hb.cell hbl).trans y1, (hb.cell hbl).trans y2, (hb.cell hbl).trans y3⟩
        generalize evF s (.cons k1 n1 s1 f1 (.cons k2 n2 s2 f2 .nil)) = r at *
        generalize evK k1 n1 (evF s1 f1) = ra at *
        generalize evK k2 n2 (evF s2 f2) = rb at *
        obtain ⟨va, ca⟩ := ra
        obtain ⟨vb, cb⟩ := rb
        generalize arOp s.data.toList = ao at *
        generalize op.level s.data.toList = lv at *
        have H2 := Lib.hid fun w1 hb => (C2 w1 hb).mono fun e w' (h : e = .returned (.tuple #[.int .i64 va, .int .i64 ca]) ∧ Below w1.heap.size w1 w') => h
        have H3 := Lib.hid fun w1 hb => (C3 w1 hb).mono fun e w' (h : e = .returned (.tuple #[.int .i64 vb, .int .i64 cb]) ∧ Below w1.heap.size w1 w') => h
        have H4 := Lib.hid C4
        have SA := Lib.hid sa
        have SB := Lib.hid sb
        obtain ⟨z0, z1, z2, z3, z4, z5, z6, z7⟩ := HX.out _ HB0.out
        have hq0 := Blk.new w 31 #[.int .i64 3, .int .i64 n, .string s, .slice (some ⟨b, o, none⟩) (Fr.cons k1 n1 s1 f1 (.cons k2 n2 s2 f2 .nil)).len cap]
        have HQ0 := Lib.hid hq0
        clear C2 C3 C4 sa sb htw hb0 hsh hk h hlv h0 x0 x1 x2 x3 y0 y1 y2 y3 ha hb hk1 hk2 hq0 hbb hh
        rw [HN.out]
        rw [HN.out] at HB0 HQ0 z0 z1 z2 z3 z4 z5 z6 z7
        rcases hL with rfl | rfl
        all_goals
          by_cases ca0 : ca = 0
          · subst ca0
            by_cases cb0 : cb = 0
            · subst cb0
              have HV : Hid (EvR (evK 3 n r) = .tuple #[.int .i64 (opV ao va vb).1, .int .i64 (opV ao va vb).2]) := Lib.hid (by rw [HTW.out]; rfl)
              have H5 := Lib.hid fun w1 => H4.out va vb w1 SA.out SB.out
              clear HTW H4 SA SB
              go_enter Tryd.func53, Tryd.ntmps53
              go_wp2_with (go_at_call 67; refine (H1.out _).mono ?_; rintro e w' ⟨rfl, rfl⟩)
              refine (H2.out _ HB0.out).mono ?_
              rintro e w2 ⟨rfl, hb⟩
              have HB2 := Lib.hid (HB0.out.trans (hb.mono HB0.out.size))
              have hq := HQ0.out.below hb (by simp)
              obtain ⟨a0, a1, a2, a3⟩ := cells4 hq
              obtain ⟨z0, z1, z2, z3, z4, z5, z6, z7⟩ := HX.out _ HB2.out
              have HQ2 := Lib.hid hq
              clear hb hq
              go_wp2_with fail
              refine (H3.out _ HB2.out).mono ?_
              rintro e w3 ⟨rfl, hb⟩
              have HB3 := Lib.hid (HB2.out.trans (hb.mono HB2.out.size))
              have hq := HQ2.out.below hb (by have := HQ2.out.lt; omega)
              obtain ⟨a0, a1, a2, a3⟩ := cells4 hq
              clear hb hq
              go_wp2_with (go_at_call 68; refine (H5.out _).mono ?_; rintro e w' ⟨rfl, rfl⟩)
              go_ret2
              rw [HV.out]; exact ⟨rfl, HB3.out⟩
            · have HV : Hid (EvR (evK 3 n r) = .tuple #[.int .i64 0, .int .i64 cb]) := Lib.hid (by rw [HTW.out]; unfold evK; simp [cb0, EvR])
              have tc : (cb != 0) = true := by rw [bne_iff_ne]; exact cb0
              clear HTW H4 SA SB
              go_enter Tryd.func53, Tryd.ntmps53
              go_wp2_with (go_at_call 67; refine (H1.out _).mono ?_; rintro e w' ⟨rfl, rfl⟩)
              refine (H2.out _ HB0.out).mono ?_
              rintro e w2 ⟨rfl, hb⟩
              have HB2 := Lib.hid (HB0.out.trans (hb.mono HB0.out.size))
              have hq := HQ0.out.below hb (by simp)
              obtain ⟨a0, a1, a2, a3⟩ := cells4 hq
              obtain ⟨z0, z1, z2, z3, z4, z5, z6, z7⟩ := HX.out _ HB2.out
              have HQ2 := Lib.hid hq
              clear hb hq
              go_wp2_with fail
              refine (H3.out _ HB2.out).mono ?_
              rintro e w3 ⟨rfl, hb⟩
              have HB3 := Lib.hid (HB2.out.trans (hb.mono HB2.out.size))
              clear hb
              go_wp2_with fail
              go_ret2
              rw [HV.out]; exact ⟨rfl, HB3.out⟩
          · have HV : Hid (EvR (evK 3 n r) = .tuple #[.int .i64 0, .int .i64 ca]) := Lib.hid (by rw [HTW.out]; unfold evK; simp [ca0, EvR])
            have tc : (ca != 0) = true := by rw [bne_iff_ne]; exact ca0
            clear HTW H4 SA SB
            go_enter Tryd.func53, Tryd.ntmps53
            go_wp2_with (go_at_call 67; refine (H1.out _).mono ?_; rintro e w' ⟨rfl, rfl⟩)
            refine (H2.out _ HB0.out).mono ?_
            rintro e w2 ⟨rfl, hb⟩
            have HB2 := Lib.hid (HB0.out.trans (hb.mono HB0.out.size))
            clear hb
            go_wp2_with fail
            go_ret2
            rw [HV.out]; exact ⟨rfl, HB2.out⟩
      · have HV : Hid (EvR (evK 3 n (evF s f)) = .tuple #[.int .i64 0, .int .i64 3]) := Lib.hid (by rw [ev_len s f h2]; rfl)
        have t2 : ((f.len : Int) == 2) = false := by rw [beq_eq_false_iff_ne]; omega
        clear hb0 hsh hk h hlv
        generalize op.level s.data.toList = lv at *
        generalize f.len = fl at *
        go_enter Tryd.func53, Tryd.ntmps53
        go_wp2_with (go_at_call 67; refine (H1.out _).mono ?_; rintro e w' ⟨rfl, rfl⟩)
        go_ret2
        rw [HV.out]; exact ⟨rfl, HB0.out⟩
theorem es_all (N : Nat) : ∀ (s : ByteArray) (f : Fr), f.size ≤ N → EsT s f := by
  induction N with
  | zero =>
    intro s f hf
    refine esT_of s f fun i k n s kids rest hd => ?_
    have h1 := Fr.size_drop i f
    rw [hd] at h1
    simp only [Fr.size] at h1
    omega
  | succ N ih =>
    intro s f hf
    refine esT_of s f fun i k n s kids rest hd => ih s kids ?_
    have h1 := Fr.size_drop i f
    rw [hd] at h1
    simp only [Fr.size] at h1
    omega
/-- The value of a term, and its code: 6 where it is not valid. -/
def evT (k n : Int) (s : ByteArray) (f : Fr) : Int × Int := if validT k n s f = true then evK k n (evF s f) else (0, 6)

set_option maxRecDepth 100000 in
/-- spec.EvalArith. -/
theorem specEv_any (k n : Int) (s : ByteArray) (f : Fr) (A : Option Addr) (cap lo hi : Nat) (w : World) (hk : KidsAt w lo hi f A cap) (hh : hi ≤ w.heap.size) (hf : Fits k n s) (hnd : nodes f ≤ 1048576) :
    Calls Tryd.prog 24 #[.agg #[.int .i64 k, .int .i64 n, .string s, .slice A f.len cap]] w fun e w' => e = .returned (.tuple #[.int .i64 (evT k n s f).1, .int .i64 (evT k n s f).2]) ∧ Below w.heap.size w w' := by
  have HB0 : Hid (Below w.heap.size w (w.alloc (.cells #[.int .i64 k, .int .i64 n, .string s, .slice A f.len cap] 31))) := Lib.hid ((Below.refl _ _).alloc (Nat.le_refl _) _)
  have C1 := fun w1 (hb : Below w.heap.size w w1) => specValid_any k n s f A cap lo hi w1 (hk.below hb hh) (Nat.le_trans hh hb.size) hf hnd
  have C2 := fun w1 (hb : Below w.heap.size w w1) (hv : shapeT k n s f 30 = true) => es_all f.size s f (Nat.le_refl _) k n 30 A cap lo hi w1 hv (hk.below hb hh) (Nat.le_trans hh hb.size)
  have HE : Hid (evT k n s f = if validT k n s f = true then evK k n (evF s f) else (0, 6)) := Lib.hid rfl
  have hsh : validT k n s f = true → shapeT k n s f 30 = true := fun h => by
    unfold validT at h
    rw [Bool.and_eq_true] at h
    exact h.1
  have HSH := Lib.hid hsh
  generalize evK k n (evF s f) = r at *
  obtain ⟨va, ca⟩ := r
  generalize validT k n s f = v1 at *
  have H1 := Lib.hid C1
  have H2 := Lib.hid fun w1 hb hv => (C2 w1 hb hv).mono fun e w' (h : e = .returned (.tuple #[.int .i64 va, .int .i64 ca]) ∧ Below w1.heap.size w1 w') => h
  clear C1 C2 hk hf hnd hsh
  cases v1
  · have HV : Hid (evT k n s f = (0, 6)) := Lib.hid (by rw [HE.out]; rfl)
    go_enter Tryd.func24, Tryd.ntmps24
    go_wp2_with fail
    refine (H1.out _ HB0.out).mono ?_
    rintro e w2 ⟨rfl, hb⟩
    have HB := Lib.hid (HB0.out.trans (hb.mono HB0.out.size))
    clear hb
    go_wp2_with fail
    go_ret2
    rw [HV.out]; exact ⟨rfl, HB.out⟩
  · have HV : Hid (evT k n s f = (va, ca)) := Lib.hid (by rw [HE.out]; rfl)
    have hsh := HSH.out rfl
    have H3 := Lib.hid fun w1 hb => H2.out w1 hb hsh
    clear hsh H2
    go_enter Tryd.func24, Tryd.ntmps24
    go_wp2_with fail
    refine (H1.out _ HB0.out).mono ?_
    rintro e w2 ⟨rfl, hb⟩
    have hq := (Blk.new w 31 #[.int .i64 k, .int .i64 n, .string s, .slice A f.len cap]).below hb (by simp)
    obtain ⟨a0, a1, a2, a3⟩ := cells4 hq
    have HB := Lib.hid (HB0.out.trans (hb.mono HB0.out.size))
    clear hb hq
    go_wp2_with fail
    refine (H3.out _ HB.out).mono ?_
    rintro e w3 ⟨rfl, hb⟩
    have HB3 := Lib.hid (HB.out.trans (hb.mono HB.out.size))
    clear hb
    go_wp2_with fail
    go_ret2
    rw [HV.out]; exact ⟨rfl, HB3.out⟩
end Go.Proofs.YtabkoofmfhbmhaaDoor

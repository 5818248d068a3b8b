/- Arithmetic: the program's operationFor, evaluate, evaluateStructure, evaluateBoth. Condition: the nodes lie in memory and are well-formed. -/
import Derived.Test.YtabkoofmfhbmhaaDoorProg
import Derived.Test.YtabkoofmfhbmhaaDoorEvO
import Derived.KernelRfl
namespace Go.Proofs.YtabkoofmfhbmhaaDoor
open Go.RowKit

@[go_sem] theorem fn_eq_nil (kf : Nat) (w : World) : (binOp BinOp.eql 129 (.func (.func kf) #[] #[]) .nilFunc).run Tryd.prog w = .ok (.bool false) w := by kernel_rfl
@[go_sem] theorem nil_eq_nil (w : World) : (binOp BinOp.eql 129 .nilFunc .nilFunc).run Tryd.prog w = .ok (.bool true) w := by kernel_rfl
/-- What operationFor answers. -/
def OpVal (o : Nat) (v : Value) : Prop := (o = 0 ∧ v = .nilFunc) ∨ (o ≠ 0 ∧ ∃ kf, v = .func (.func kf) #[] #[] ∧ OpC kf o)
set_option maxHeartbeats 1000000 in
/-- impl.operationFor. -/
theorem opFor_any (s : ByteArray) : ∃ v, OpVal (arOp s.data.toList) v ∧ ∀ w,
    Calls Tryd.prog 77 #[.string s] w fun e w' => e = .returned v ∧ w = w' := by
  have hl := ByteArray.toList_eq s
  rcases ar_cases s.data.toList with ⟨hs, hv⟩ | ⟨hs, hv⟩ | ⟨hs, hv⟩ | ⟨hs, hv⟩ | ⟨hs, hv⟩ | ⟨⟨h1, h2, h3, h4, h5⟩, hv⟩
  case inr.inr.inr.inr.inr =>
    refine ⟨.nilFunc, .inl ⟨hv, rfl⟩, fun w => ?_⟩
    have t0 : (s.toList == [43]) = false := by rw [hl, beq_eq_false_iff_ne]; exact h1
    have t1 : (s.toList == [45]) = false := by rw [hl, beq_eq_false_iff_ne]; exact h2
    have t2 : (s.toList == [42]) = false := by rw [hl, beq_eq_false_iff_ne]; exact h3
    have t3 : (s.toList == [47, 47]) = false := by rw [hl, beq_eq_false_iff_ne]; exact h4
    have t4 : (s.toList == [109, 111, 100]) = false := by rw [hl, beq_eq_false_iff_ne]; exact h5
    clear hv hl h1 h2 h3 h4 h5
    go_enter Tryd.func77, Tryd.ntmps77
    go_wp2_with fail
    go_ret
    exact ⟨rfl, rfl⟩
  all_goals
    rw [hv]
    rw [hs] at hl
    have HL := Lib.hid hl
    clear hl hs hv
    have t0 : (s.toList == [43]) = _ := congrArg (fun l => l == ([43] : List UInt8)) HL.out
    have t1 : (s.toList == [45]) = _ := congrArg (fun l => l == ([45] : List UInt8)) HL.out
    have t2 : (s.toList == [42]) = _ := congrArg (fun l => l == ([42] : List UInt8)) HL.out
    have t3 : (s.toList == [47, 47]) = _ := congrArg (fun l => l == ([47, 47] : List UInt8)) HL.out
    have t4 : (s.toList == [109, 111, 100]) = _ := congrArg (fun l => l == ([109, 111, 100] : List UInt8)) HL.out
  · refine ⟨_, .inr ⟨by decide, _, rfl, sum_c⟩, fun w => ?_⟩
    go_enter Tryd.func77, Tryd.ntmps77
    go_wp2_with fail
    go_ret
    exact ⟨rfl, rfl⟩
  · refine ⟨_, .inr ⟨by decide, _, rfl, difference_c⟩, fun w => ?_⟩
    go_enter Tryd.func77, Tryd.ntmps77
    go_wp2_with fail
    go_ret
    exact ⟨rfl, rfl⟩
  · refine ⟨_, .inr ⟨by decide, _, rfl, product_c⟩, fun w => ?_⟩
    go_enter Tryd.func77, Tryd.ntmps77
    go_wp2_with fail
    go_ret
    exact ⟨rfl, rfl⟩
  · refine ⟨_, .inr ⟨by decide, _, rfl, quotient_c⟩, fun w => ?_⟩
    go_enter Tryd.func77, Tryd.ntmps77
    go_wp2_with fail
    go_ret
    exact ⟨rfl, rfl⟩
  · refine ⟨_, .inr ⟨by decide, _, rfl, remainder_c⟩, fun w => ?_⟩
    go_enter Tryd.func77, Tryd.ntmps77
    go_wp2_with fail
    go_ret
    exact ⟨rfl, rfl⟩

theorem errV_zero : errV 0 = .nilIface := rfl
theorem errV_pos {c : Int} (h : c ≠ 0) : errV c = .iface 115 (.int .i64 c) := by unfold errV; exact if_neg h
theorem two_nds {w : World} {lo hi : Nat} {k1 n1 : Int} {s1 : ByteArray} {f1 : Fr} {k2 n2 : Int} {s2 : ByteArray} {f2 : Fr} {A : Option Addr} {cap : Nat} (h : NdS w lo hi (.cons k1 n1 s1 f1 (.cons k2 n2 s2 f2 .nil)) A cap) :
    ∃ b u v, A = some ⟨b, 0, none⟩ ∧ b < hi ∧ w.cell? ⟨b, 0, none⟩ = some u ∧ NdV w lo hi k1 n1 s1 f1 u ∧ w.cell? ⟨b, 1, none⟩ = some v ∧ NdV w lo hi k2 n2 s2 f2 v := by
  obtain ⟨b, rfl, hl, hb, hrow⟩ := h.2.2 (by simp [Fr.len])
  obtain ⟨u, hu, hnu⟩ := hrow.elem (i := 0) rfl
  obtain ⟨v, hv, hnv⟩ := hrow.elem (i := 1) rfl
  exact ⟨b, u, v, rfl, hb, by simpa using hu, hnu, by simpa using hv, hnv⟩
def EiR (r : Int × Int) : Value := .tuple #[.int .i64 r.1, errV r.2]
def EiT (s : ByteArray) (f : Fr) : Prop := ∀ (k n d : Int) (v : Value) (lo hi : Nat) (w : World), shapeT k n s f d = true → NdV w lo hi k n s f v → hi ≤ w.heap.size →
  Calls Tryd.prog 51 #[v] w fun e w' => e = .returned (EiR (evK k n (evF s f))) ∧ Below w.heap.size w w'
/-- Both values, or the first error. -/
def bothR (a b : Int × Int) : Value := if a.2 ≠ 0 then .tuple #[.int .i64 0, .int .i64 0, errV a.2] else if b.2 ≠ 0 then .tuple #[.int .i64 0, .int .i64 0, errV b.2] else .tuple #[.int .i64 a.1, .int .i64 b.1, .nilIface]

set_option maxRecDepth 100000 in
set_option maxHeartbeats 4000000 in
/-- impl.evaluateBoth. -/
theorem both_of (k1 n1 : Int) (s1 : ByteArray) (f1 : Fr) (k2 n2 : Int) (s2 : ByteArray) (f2 : Fr) (h1 : EiT s1 f1) (h2 : EiT s2 f2) (d : Int) (A : Option Addr) (cap lo hi : Nat) (w : World) (ha : shapeT k1 n1 s1 f1 d = true) (hb : shapeT k2 n2 s2 f2 d = true)
    (hk : NdS w lo hi (.cons k1 n1 s1 f1 (.cons k2 n2 s2 f2 .nil)) A cap) (hh : hi ≤ w.heap.size) :
    Calls Tryd.prog 78 #[.slice A 2 cap] w fun e w' => e = .returned (bothR (evK k1 n1 (evF s1 f1)) (evK k2 n2 (evF s2 f2))) ∧ Below w.heap.size w w' := by
  obtain ⟨b, u, v, rfl, hbb, hu, hnu, hv, hnv⟩ := two_nds hk
  obtain ⟨Tu, xu, eu⟩ := hnu.iface
  obtain ⟨Tv, xv, ev⟩ := hnv.iface
  have C1 := h1 k1 n1 d u lo hi w ha hnu hh
  have C2 := fun w1 (hb' : Below w.heap.size w w1) => h2 k2 n2 d v lo hi w1 hb (hnv.keep (fun p _ hp => hb'.cell (by omega)) (Nat.le_refl _) (Nat.le_refl _)) (Nat.le_trans hh hb'.size)
  generalize evK k1 n1 (evF s1 f1) = ra at *
  generalize evK k2 n2 (evF s2 f2) = rb at *
  obtain ⟨va, ca⟩ := ra
  obtain ⟨vb, cb⟩ := rb
  have HE : Hid (bothR (va, ca) (vb, cb) = if ca ≠ 0 then .tuple #[.int .i64 0, .int .i64 0, errV ca] else if cb ≠ 0 then .tuple #[.int .i64 0, .int .i64 0, errV cb] else .tuple #[.int .i64 va, .int .i64 vb, .nilIface]) := Lib.hid rfl
  have H1 := Lib.hid (C1.mono fun e w' (h : e = .returned (.tuple #[.int .i64 va, errV ca]) ∧ Below w.heap.size w w') => h)
  have H2 := Lib.hid fun w1 hb' => (C2 w1 hb').mono fun e w' (h : e = .returned (.tuple #[.int .i64 vb, errV cb]) ∧ Below w1.heap.size w1 w') => h
  have hbl : b < w.heap.size := by omega
  have HVV := Lib.hid hv
  clear C1 C2 h1 h2 ha hb hk hnu hnv hbb hh
  subst eu ev
  by_cases ca0 : ca = 0
  · subst ca0
    rw [errV_zero] at H1
    by_cases cb0 : cb = 0
    · subst cb0
      rw [errV_zero] at H2
      have HV : Hid (bothR (va, 0) (vb, 0) = .tuple #[.int .i64 va, .int .i64 vb, .nilIface]) := Lib.hid (by rw [HE.out]; rfl)
      go_enter Tryd.func78, Tryd.ntmps78
      go_wp2_with fail
      refine H1.out.mono ?_
      rintro e w2 ⟨rfl, hb⟩
      have hv := (hb.cell (p := ⟨b, 1, none⟩) hbl).trans HVV.out
      have HB := Lib.hid hb
      clear hb
      go_wp2_with fail
      refine (H2.out _ HB.out).mono ?_
      rintro e w3 ⟨rfl, hb⟩
      have HB3 := Lib.hid (HB.out.trans (hb.mono HB.out.size))
      clear hb
      go_wp2_with fail
      go_ret3
      rw [HV.out]; exact ⟨rfl, HB3.out⟩
    · rw [errV_pos cb0] at H2
      have HV : Hid (bothR (va, 0) (vb, cb) = .tuple #[.int .i64 0, .int .i64 0, .iface 115 (.int .i64 cb)]) := Lib.hid (by rw [HE.out, if_neg (by simp), if_pos cb0, errV_pos cb0])
      clear cb0
      go_enter Tryd.func78, Tryd.ntmps78
      go_wp2_with fail
      refine H1.out.mono ?_
      rintro e w2 ⟨rfl, hb⟩
      have hv := (hb.cell (p := ⟨b, 1, none⟩) hbl).trans HVV.out
      have HB := Lib.hid hb
      clear hb
      go_wp2_with fail
      refine (H2.out _ HB.out).mono ?_
      rintro e w3 ⟨rfl, hb⟩
      have HB3 := Lib.hid (HB.out.trans (hb.mono HB.out.size))
      clear hb
      go_wp2_with fail
      go_ret3
      rw [HV.out]; exact ⟨rfl, HB3.out⟩
  · rw [errV_pos ca0] at H1
    have HV : Hid (bothR (va, ca) (vb, cb) = .tuple #[.int .i64 0, .int .i64 0, .iface 115 (.int .i64 ca)]) := Lib.hid (by rw [HE.out, if_pos ca0, errV_pos ca0])
    clear ca0
    go_enter Tryd.func78, Tryd.ntmps78
    go_wp2_with fail
    refine H1.out.mono ?_
    rintro e w2 ⟨rfl, hb⟩
    have HB := Lib.hid hb
    clear hb
    go_wp2_with fail
    go_ret3
    rw [HV.out]; exact ⟨rfl, HB.out⟩

set_option maxRecDepth 100000 in
set_option maxHeartbeats 4000000 in
/-- impl.evaluateStructure. -/
theorem struct_of (s : ByteArray) (f : Fr) (h : ∀ i k n s kids rest, f.drop i = .cons k n s kids rest → EiT s kids) (d : Int) (A : Option Addr) (cap lo hi : Nat) (w : World) (hsh : shapeF f d = true) (hk : NdS w lo hi f A cap) (hh : hi ≤ w.heap.size) :
    Calls Tryd.prog 65 #[.agg #[.string s, .slice A f.len cap]] w fun e w' => e = .returned (EiR (evF s f)) ∧ Below w.heap.size w w' := by
  have hb0 : Below w.heap.size w (w.alloc (.cells #[.string s, .slice A f.len cap] 102)) := (Below.refl _ _).alloc (Nat.le_refl _) _
  have HB0 := Lib.hid hb0
  obtain ⟨fv, hov, C1⟩ := opFor_any s
  have HO := Lib.hid C1
  clear C1
  rcases hov with ⟨h0, rfl⟩ | ⟨h0, kf, rfl, ef, hkf⟩
  · have HV : Hid (EiR (evF s f) = .tuple #[.int .i64 0, .iface 115 (.int .i64 3)]) := Lib.hid (by rw [ev_none s f h0]; rfl)
    clear hb0 h hsh hk hh h0
    generalize f.len = fl at *
    go_enter Tryd.func65, Tryd.ntmps65
    go_wp2_with (go_at_call 77; refine (HO.out _).mono ?_; rintro e w' ⟨rfl, rfl⟩)
    go_ret2
    rw [HV.out]; exact ⟨rfl, HB0.out⟩
  · by_cases h2 : f.len = 2
    · have HN := Lib.hid h2
      obtain ⟨k1, n1, s1, f1, k2, n2, s2, f2, rfl⟩ := two_of f h2
      have htw := ev_two s k1 n1 s1 f1 k2 n2 s2 f2
      rw [if_neg h0] at htw
      have HTW := Lib.hid htw
      rw [shapeF_cons, shapeF_cons] at hsh
      simp only [Bool.and_eq_true] at hsh
      obtain ⟨ha, hb, _⟩ := hsh
      have sa := evK_small ha (ev_small _ s1 f1 (d - 1) (Nat.le_refl _) (shapeT_kids ha))
      have sb := evK_small hb (ev_small _ s2 f2 (d - 1) (Nat.le_refl _) (shapeT_kids hb))
      have C2 := both_of k1 n1 s1 f1 k2 n2 s2 f2 (h 0 k1 n1 s1 f1 _ rfl) (h 1 k2 n2 s2 f2 _ rfl) d A cap lo hi (w.alloc (.cells #[.string s, .slice A 2 cap] 102)) ha hb (hk.keep (fun p _ hp => by rw [← h2]; exact hb0.cell (by omega)) (Nat.le_refl _) (Nat.le_refl _)) (by simp; omega)
      generalize evF s (.cons k1 n1 s1 f1 (.cons k2 n2 s2 f2 .nil)) = r at *
      generalize evK k1 n1 (evF s1 f1) = ra at *
      generalize evK k2 n2 (evF s2 f2) = rb at *
      obtain ⟨va, ca⟩ := ra
      obtain ⟨vb, cb⟩ := rb
      have HE : Hid (bothR (va, ca) (vb, cb) = if ca ≠ 0 then .tuple #[.int .i64 0, .int .i64 0, errV ca] else if cb ≠ 0 then .tuple #[.int .i64 0, .int .i64 0, errV cb] else .tuple #[.int .i64 va, .int .i64 vb, .nilIface]) := Lib.hid rfl
      generalize bothR (va, ca) (vb, cb) = bv at *
      generalize arOp s.data.toList = ao at *
      have H2 := Lib.hid C2
      have H4 := Lib.hid fun w1 => hkf va vb w1 sa sb
      clear C2 hb0 h hk hh h0 ha hb sa sb htw hkf h2
      rw [HN.out]
      rw [HN.out] at HB0
      by_cases ca0 : ca = 0
      · subst ca0
        by_cases cb0 : cb = 0
        · subst cb0
          obtain rfl : bv = .tuple #[.int .i64 va, .int .i64 vb, .nilIface] := HE.out
          have HV : Hid (EiR r = .tuple #[.int .i64 (opV ao va vb).1, errV (opV ao va vb).2]) := Lib.hid (by rw [HTW.out]; rfl)
          clear HTW HE
          go_enter Tryd.func65, Tryd.ntmps65
          go_wp2_with (go_at_call 77; refine (HO.out _).mono ?_; rintro e w' ⟨rfl, rfl⟩)
          refine H2.out.mono ?_
          rintro e w2 ⟨rfl, hb⟩
          have HB2 := Lib.hid (HB0.out.trans (hb.mono HB0.out.size))
          clear hb
          go_wp2_with fail
          refine (H4.out _).mono ?_
          rintro e w3 ⟨rfl, rfl⟩
          go_wp2_with fail
          go_ret2
          rw [HV.out]; exact ⟨rfl, HB2.out⟩
        · obtain rfl : bv = .tuple #[.int .i64 0, .int .i64 0, .iface 115 (.int .i64 cb)] := by rw [HE.out, if_neg (by simp), if_pos cb0, errV_pos cb0]
          have HV : Hid (EiR r = .tuple #[.int .i64 0, .iface 115 (.int .i64 cb)]) := Lib.hid (by rw [HTW.out, if_neg (by simp), if_pos cb0, ← errV_pos cb0]; rfl)
          clear HTW HE cb0
          go_enter Tryd.func65, Tryd.ntmps65
          go_wp2_with (go_at_call 77; refine (HO.out _).mono ?_; rintro e w' ⟨rfl, rfl⟩)
          refine H2.out.mono ?_
          rintro e w2 ⟨rfl, hb⟩
          have HB2 := Lib.hid (HB0.out.trans (hb.mono HB0.out.size))
          clear hb
          go_wp2_with fail
          go_ret2
          rw [HV.out]; exact ⟨rfl, HB2.out⟩
      · obtain rfl : bv = .tuple #[.int .i64 0, .int .i64 0, .iface 115 (.int .i64 ca)] := by rw [HE.out, if_pos ca0, errV_pos ca0]
        have HV : Hid (EiR r = .tuple #[.int .i64 0, .iface 115 (.int .i64 ca)]) := Lib.hid (by rw [HTW.out, if_pos ca0, ← errV_pos ca0]; rfl)
        clear HTW HE ca0
        go_enter Tryd.func65, Tryd.ntmps65
        go_wp2_with (go_at_call 77; refine (HO.out _).mono ?_; rintro e w' ⟨rfl, rfl⟩)
        refine H2.out.mono ?_
        rintro e w2 ⟨rfl, hb⟩
        have HB2 := Lib.hid (HB0.out.trans (hb.mono HB0.out.size))
        clear hb
        go_wp2_with fail
        go_ret2
        rw [HV.out]; exact ⟨rfl, HB2.out⟩
    · have HV : Hid (EiR (evF s f) = .tuple #[.int .i64 0, .iface 115 (.int .i64 3)]) := Lib.hid (by rw [ev_len s f h2]; rfl)
      have t2 : ((f.len : Int) != 2) = true := by rw [bne_iff_ne]; omega
      clear hb0 h hsh hk hh h0 h2 hkf
      generalize f.len = fl at *
      go_enter Tryd.func65, Tryd.ntmps65
      go_wp2_with (go_at_call 77; refine (HO.out _).mono ?_; rintro e w' ⟨rfl, rfl⟩)
      go_ret2
      rw [HV.out]; exact ⟨rfl, HB0.out⟩
set_option maxRecDepth 100000 in
set_option maxHeartbeats 4000000 in
theorem eiT_of (s : ByteArray) (f : Fr) (h : ∀ i k n s kids rest, f.drop i = .cons k n s kids rest → EiT s kids) : EiT s f := by
  intro k n d v lo hi w hsh hk hh
  rcases hk with ⟨rfl, rfl⟩ | ⟨rfl, rfl⟩ | ⟨rfl, A, cap, rfl, hk⟩
  · have HV : Hid (EiR (evK 1 n (evF s f)) = .tuple #[.int .i64 0, .iface 115 (.int .i64 2)]) := Lib.hid rfl
    have HB := Lib.hid (Below.refl w.heap.size w)
    clear hsh h
    go_enter Tryd.func51, Tryd.ntmps51
    go_wp2_with fail
    go_ret2
    rw [HV.out]; exact ⟨rfl, HB.out⟩
  · have HV : Hid (EiR (evK 2 n (evF s f)) = .tuple #[.int .i64 n, .nilIface]) := Lib.hid rfl
    have HB := Lib.hid (Below.refl w.heap.size w)
    clear hsh h
    go_enter Tryd.func51, Tryd.ntmps51
    go_wp2_with fail
    go_ret2
    rw [HV.out]; exact ⟨rfl, HB.out⟩
  · have hb0 : Below w.heap.size w (w.alloc (.cells #[.string s, .slice A f.len cap] 102)) := (Below.refl _ _).alloc (Nat.le_refl _) _
    have HS : Hid (∀ w1, Below w.heap.size w w1 → Calls Tryd.prog 65 #[.agg #[.string s, .slice A f.len cap]] w1 fun e w' => e = .returned (EiR (evF s f)) ∧ Below w1.heap.size w1 w') := Lib.hid (fun w1 hbw => by
      exact struct_of s f h (d - 1) A cap lo hi w1 (shapeT_kids hsh) (hk.keep (fun p _ hp => hbw.cell (by omega)) (Nat.le_refl _) (Nat.le_refl _)) (Nat.le_trans hh hbw.size))
    have HV : Hid (EiR (evK 3 n (evF s f)) = .tuple #[.int .i64 (evF s f).1, errV (evF s f).2]) := Lib.hid rfl
    have H2 := Lib.hid fun w1 hb => (HS.out w1 hb).mono fun e w' (h : e = .returned (.tuple #[.int .i64 (evF s f).1, errV (evF s f).2]) ∧ Below w1.heap.size w1 w') => h
    have HB0 := Lib.hid hb0
    generalize evF s f = r at *
    clear hb0 HS hsh hk h
    go_enter Tryd.func51, Tryd.ntmps51
    go_wp2_with fail
    refine (H2.out _ HB0.out).mono ?_
    rintro e w2 ⟨rfl, hb⟩
    have HB2 := Lib.hid (HB0.out.trans (hb.mono HB0.out.size))
    clear hb
    go_wp2_with fail
    go_ret2
    rw [HV.out]; exact ⟨rfl, HB2.out⟩
theorem ei_all (N : Nat) : ∀ (s : ByteArray) (f : Fr), f.size ≤ N → EiT s f := by
  induction N with
  | zero =>
    intro s f hf
    refine eiT_of s f fun i k n s kids rest hd => ?_
    have h1 := Fr.size_drop i f
    rw [hd] at h1
    simp only [Fr.size] at h1
    omega
  | succ N ih =>
    intro s f hf
    refine eiT_of s f fun i k n s kids rest hd => ih s kids ?_
    have h1 := Fr.size_drop i f
    rw [hd] at h1
    simp only [Fr.size] at h1
    omega
/-- impl.evaluate. -/
theorem ev_any (s : ByteArray) (f : Fr) : EiT s f := ei_all f.size s f (Nat.le_refl _)
end Go.Proofs.YtabkoofmfhbmhaaDoor

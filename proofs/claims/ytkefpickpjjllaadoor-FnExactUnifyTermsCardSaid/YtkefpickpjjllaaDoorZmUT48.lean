/- impl.unifier.unifyParts, walked from the contract of unifyKids. Condition: the nodes lie in memory and are well-formed. -/
import Derived.Test.YtkefpickpjjllaaDoorProg
import Derived.Test.YtkefpickpjjllaaDoorZmUT47
import Derived.Test.YtkefpickpjjllaaDoorAs
import Derived.Test.YtkefpickpjjllaaDoorZmUT34
import Derived.Deep.RegionHeld3
import Derived.BigQuiet
import Derived.ChangeMaps5
namespace Go.Proofs.YtkefpickpjjllaaDoor.Full
open Go.RowKit Go.Maps

theorem occ_row_in (f : Fr) : ∀ (d y : Int), shapeF f d = true → occF f y → InB 26 y := by
  induction f with
  | nil => intro d y _ h; exact h.elim
  | cons k n s kids rest ihk ihr =>
    intro d y h ho
    rw [shapeF_cons, Bool.and_eq_true] at h
    rcases (occF_cons k n s kids rest y).1 ho with ho | ho
    · unfold occN at ho
      by_cases hk : k = 1
      · subst hk
        rw [if_pos rfl] at ho
        obtain ⟨_, _, hn⟩ := shapeT_var h.1
        simp only at ho
        exact ⟨by omega, by omega⟩
      · rw [if_neg hk] at ho
        exact ihk (d - 1) y (shapeT_kids h.1) ho
    · exact ihr d y h.2 ho
theorem occ_in {m : Nd} (h : shapeT m.k m.n m.s m.f 30 = true) {y : Int} (ho : occN m y) : InB 26 y := by
  unfold occN at ho
  by_cases hk : m.k = 1
  · rw [if_pos hk] at ho
    rw [hk] at h
    obtain ⟨_, _, hn⟩ := shapeT_var h
    exact ⟨by omega, by omega⟩
  · rw [if_neg hk] at ho
    exact occ_row_in m.f 29 y (shapeT_kids h) ho
theorem wv_of_shape {m : Nd} (h : shapeT m.k m.n m.s m.f 30 = true) : wvN m := by
  unfold wvN
  split
  · rename_i hk
    obtain ⟨k, n, s, f⟩ := m
    simp only at hk h ⊢
    subst hk
    obtain ⟨rfl, rfl, _⟩ := shapeT_var h
    rfl
  · exact wv_shape m.f 29 (shapeT_kids h)

theorem UpRes.from_ {w w3 w4 : World} {lo hi ub mb db base : Nat} {σ : Sub} {tv : Value} {r : Option Sub} {e : Ending} (h : UpRes w3 lo hi ub mb db base σ tv r e w4) (hb : Below w.heap.size w w3) : UpRes w lo hi ub mb db base σ tv r e w4 := by
  obtain ⟨σ', P', tv', h1, h2, h3, h4, h5, h6⟩ := h
  exact ⟨σ', P', tv', h1, h2, h3, h4, (Wrote.of_below hb _).trans h5, fun x hx => (h6 x hx).imp id (Nat.le_trans hb.size)⟩
theorem bytes_of {s s' : ByteArray} (h : s.data.toList = s'.data.toList) : s = s' := by
  cases s; cases s'; congr 1; exact Array.toList_inj.1 h

set_option maxRecDepth 100000 in
set_option maxHeartbeats 8000000 in
/-- unifyParts. -/
theorem upT_of (N : Nat) (h : UkT N) : UpT (N + 1) := by
  intro lo hi ub mb db base σ P tv a b va vb r w ho hU hbs hva hvb hsa hsb hun
  have HUP := Lib.hid (fun w' (hb : Below w.heap.size w w') => hU.below hb ho hbs)
  have HDN := Lib.hid (fun w' (hb : Below w.heap.size w w') => hU.done hb ho hbs)
  have HFL := Lib.hid (fun w' (hb : Below w.heap.size w w') => hU.fails hb ho hbs)
  have HO := Lib.hid ho
  obtain ⟨o1, ⟨o2, o3, o4⟩, ⟨o5, o6, o7⟩, o8, o9, o10⟩ := ho
  have HTV : Hid (∀ x ∈ ownV tv, base ≤ x) := Lib.hid fun x hx => (hU.1.2.1.lt x (by unfold ownV at hx; simpa using hx)).1
  obtain ⟨⟨hq, htr, hmp⟩, hP, hD, h1, h2⟩ := hU
  have hql := hq.lt
  have C1 := meaning_any σ h1 a va lo hi mb ub w hva (by omega) hql (hq.cell 0) hmp hsa
  have C2 := fun w1 (hb : Below w.heap.size w w1) => meaning_any σ h1 b vb lo hi mb ub w1 (hvb.keep (fun p _ hp => hb.block p (by omega)) (Nat.le_refl _) (Nat.le_refl _)) (by have := hb.size; omega) (Nat.lt_of_lt_of_le hql hb.size) ((hq.below hb hql).cell 0) (hmp.below hb (by omega)) hsb
  have hlen : σ.length ≤ 26 := by
    have := nodup_len 26 (keysS σ) h1.nodup h2.keys
    simpa [keysS] using this
  have HEND1 := Lib.hid (wk_end σ a h1)
  have HEND2 := Lib.hid (wk_end σ b h1)
  have HUN : Hid (unT (N + 1) σ a b = some r) := Lib.hid hun
  rw [unT] at HUN
  generalize wk σ a = m1 at *
  generalize wk σ b = m2 at *
  have HBD := Lib.hid (fun (w' : World) (hb : Below w.heap.size w w') (v : Int) (hf : lk σ v = none) (hvr : 0 ≤ v ∧ v ≤ 25) (m : Nd) (val : Value) (hv : NdV w' lo hi m.k m.n m.s m.f val) (hs : shapeT m.k m.n m.s m.f 30 = true) (tv : Value) (hu : UnU w' lo hi ub mb db base σ (trl σ) tv) => bind_any h1 v hf m val lo hi ub mb db base (trl σ) tv w' hv hs o2 o3 o5 o8 o9 (by have := hb.size; omega) (by rw [trl_len]; omega) (by omega) hvr hu)
  have HOK := Lib.hid (And.intro h1 h2)
  have H1 := Lib.hid C1
  have H2 := Lib.hid C2
  have HB : Hid (base ≤ w.heap.size) := Lib.hid hbs
  have HI : Hid (hi ≤ w.heap.size) := Lib.hid (by omega)
  obtain ⟨T1, x1, rfl⟩ := hva.iface
  obtain ⟨T2, x2, rfl⟩ := hvb.iface
  clear C1 C2 hva hvb hsa hsb hun hq htr hmp hP hD h1 h2 hql hlen
  go_enter Tryd.func42, Tryd.ntmps42
  go_wp2_with fail
  refine H1.out.mono ?_
  rintro e w2 ⟨v1, rfl, hv1, hs1, hb1⟩
  have HV1 := Lib.hid hv1
  have HB1 := Lib.hid hb1
  have HS1 := Lib.hid hs1
  obtain ⟨T3, x3, rfl⟩ := hv1.iface
  clear hv1 hs1 hb1 H1
  go_wp2_with fail
  refine (H2.out w2 HB1.out).mono ?_
  rintro e w3 ⟨v2, rfl, hv2, hs2, hb2⟩
  have hb3 : Below w.heap.size w w3 := HB1.out.trans (hb2.mono HB1.out.size)
  have hv1 := HV1.out.keep (w' := w3) (fun p _ hp => hb2.block p (by have := HB1.out.size; have := HI.out; omega)) (Nat.le_refl _) (Nat.le_refl _)
  have HB3 := Lib.hid hb3
  have HW1 := Lib.hid hv1
  have HW2 := Lib.hid hv2
  have HS2 := Lib.hid hs2
  have hs1 := HS1.out
  obtain ⟨k1, n1, s1, f1⟩ := m1
  obtain ⟨k2, n2, s2, f2⟩ := m2
  simp only at hv1 hv2 hs1 hs2
  clear hb2 hb3 HV1 HB1 H2
  rcases hv1 with ⟨rfl, e1⟩ | ⟨rfl, e1⟩ | ⟨rfl, A1, c1, e1, hn1⟩ <;> rcases hv2 with ⟨rfl, rfl⟩ | ⟨rfl, rfl⟩ | ⟨rfl, A2, c2, rfl, hn2⟩
  all_goals
    injection e1 with e1 e1'
    subst e1 e1'
  · -- two variables
    have hun := HUN.out
    rw [if_pos rfl] at hun
    by_cases hnn : n1 = n2
    · subst hnn
      rw [if_pos ⟨rfl, rfl⟩] at hun
      have hr : r = some σ := by injection hun with hun; exact hun.symm
      subst hr
      have HF := Lib.hid (HDN.out w3 HB3.out)
      have t0 : (n1 == n1) = true := by simp
      clear hun hs1
      go_wp2_with fail
      go_ret
      exact HF.out
    · rw [if_neg (fun h => hnn h.2)] at hun
      have t0 : (n1 == n2) = false := by rw [beq_eq_false_iff_ne]; exact hnn
      have hfree : lk σ n1 = none := (HEND1.out).resolve_left (fun h => h rfl)
      obtain ⟨rfl, rfl, hnr⟩ := shapeT_var HS1.out
      obtain ⟨hu3, hP3, hD3, hk3, hb3⟩ := HUP.out w3 HB3.out
      have C3 := HBD.out w3 HB3.out n1 hfree hnr ⟨1, n2, s2, f2⟩ _ HW2.out HS2.out tv hu3
      have H3 := Lib.hid C3
      have HR := Lib.hid (fun e w4 hbn => (up_of_bind (w' := w4) (e := e) (r := r) hP3 hD3 hk3 hb3 HO.out hfree hnr (m := ⟨1, n2, s2, f2⟩) (fun hk => (HEND2.out).resolve_left (fun h => h hk)) (wv_of_shape HS2.out) (fun y hy => occ_in HS2.out hy) (fun ho => by rw [if_pos ho] at hun; injection hun with hun; exact hun.symm) (fun ho => by rw [if_neg ho] at hun; injection hun with hun; exact hun.symm) HTV.out (Nat.le_trans HB.out HB3.out.size) hbn).from_ HB3.out)
      clear C3 hu3 hP3 hD3 hk3 hb3 hun hfree hs1
      go_wp2_with fail
      refine H3.out.mono ?_
      rintro e w4 hbn
      have HRR := Lib.hid (HR.out e w4 hbn)
      obtain ⟨bb, tv4, rfl, _⟩ := hbn
      go_wp2_with fail
      go_ret
      exact HRR.out
  · have hun := HUN.out
    rw [if_pos rfl, if_neg (fun h => absurd h.1 (by simp))] at hun
    have hfree : lk σ n1 = none := (HEND1.out).resolve_left (fun h => h rfl)
    obtain ⟨rfl, rfl, hnr⟩ := shapeT_var HS1.out
    obtain ⟨hu3, hP3, hD3, hk3, hb3⟩ := HUP.out w3 HB3.out
    have C3 := HBD.out w3 HB3.out n1 hfree hnr ⟨2, n2, s2, f2⟩ _ HW2.out HS2.out tv hu3
    have H3 := Lib.hid C3
    have HR := Lib.hid (fun e w4 hbn => (up_of_bind (w' := w4) (e := e) (r := r) hP3 hD3 hk3 hb3 HO.out hfree hnr (m := ⟨2, n2, s2, f2⟩) (fun hk => (HEND2.out).resolve_left (fun h => h hk)) (wv_of_shape HS2.out) (fun y hy => occ_in HS2.out hy) (fun ho => by rw [if_pos ho] at hun; injection hun with hun; exact hun.symm) (fun ho => by rw [if_neg ho] at hun; injection hun with hun; exact hun.symm) HTV.out (Nat.le_trans HB.out HB3.out.size) hbn).from_ HB3.out)
    clear C3 hu3 hP3 hD3 hk3 hb3 hun hfree hs1
    go_wp2_with fail
    refine H3.out.mono ?_
    rintro e w4 hbn
    have HRR := Lib.hid (HR.out e w4 hbn)
    obtain ⟨bb, tv4, rfl, _⟩ := hbn
    go_wp2_with fail
    go_ret
    exact HRR.out
  · have hun := HUN.out
    rw [if_pos rfl, if_neg (fun h => absurd h.1 (by simp))] at hun
    have hfree : lk σ n1 = none := (HEND1.out).resolve_left (fun h => h rfl)
    obtain ⟨rfl, rfl, hnr⟩ := shapeT_var HS1.out
    obtain ⟨hu3, hP3, hD3, hk3, hb3⟩ := HUP.out w3 HB3.out
    have C3 := HBD.out w3 HB3.out n1 hfree hnr ⟨3, n2, s2, f2⟩ _ HW2.out HS2.out tv hu3
    have H3 := Lib.hid C3
    have HR := Lib.hid (fun e w4 hbn => (up_of_bind (w' := w4) (e := e) (r := r) hP3 hD3 hk3 hb3 HO.out hfree hnr (m := ⟨3, n2, s2, f2⟩) (fun hk => (HEND2.out).resolve_left (fun h => h hk)) (wv_of_shape HS2.out) (fun y hy => occ_in HS2.out hy) (fun ho => by rw [if_pos ho] at hun; injection hun with hun; exact hun.symm) (fun ho => by rw [if_neg ho] at hun; injection hun with hun; exact hun.symm) HTV.out (Nat.le_trans HB.out HB3.out.size) hbn).from_ HB3.out)
    clear C3 hu3 hP3 hD3 hk3 hb3 hun hfree hs1
    go_wp2_with fail
    refine H3.out.mono ?_
    rintro e w4 hbn
    have HRR := Lib.hid (HR.out e w4 hbn)
    obtain ⟨bb, tv4, rfl, _⟩ := hbn
    go_wp2_with fail
    go_ret
    exact HRR.out
  · have hun := HUN.out
    rw [if_neg (by simp), if_pos rfl] at hun
    have hfree : lk σ n2 = none := (HEND2.out).resolve_left (fun h => h rfl)
    obtain ⟨rfl, rfl, hnr⟩ := shapeT_var HS2.out
    obtain ⟨hu3, hP3, hD3, hk3, hb3⟩ := HUP.out w3 HB3.out
    have C3 := HBD.out w3 HB3.out n2 hfree hnr ⟨2, n1, s1, f1⟩ _ HW1.out HS1.out tv hu3
    have H3 := Lib.hid C3
    have HR := Lib.hid (fun e w4 hbn => (up_of_bind (w' := w4) (e := e) (r := r) hP3 hD3 hk3 hb3 HO.out hfree hnr (m := ⟨2, n1, s1, f1⟩) (fun hk => (HEND1.out).resolve_left (fun h => h hk)) (wv_of_shape HS1.out) (fun y hy => occ_in HS1.out hy) (fun ho => by rw [if_pos ho] at hun; injection hun with hun; exact hun.symm) (fun ho => by rw [if_neg ho] at hun; injection hun with hun; exact hun.symm) HTV.out (Nat.le_trans HB.out HB3.out.size) hbn).from_ HB3.out)
    clear C3 hu3 hP3 hD3 hk3 hb3 hun hfree hs1
    go_wp2_with fail
    refine H3.out.mono ?_
    rintro e w4 hbn
    have HRR := Lib.hid (HR.out e w4 hbn)
    obtain ⟨bb, tv4, rfl, _⟩ := hbn
    go_wp2_with fail
    go_ret
    exact HRR.out
  · have hun := HUN.out
    obtain ⟨rfl, rfl, _⟩ := shapeT_leaf HS1.out (by simp)
    obtain ⟨rfl, rfl, _⟩ := shapeT_leaf HS2.out (by simp)
    rw [if_neg (by simp), if_neg (by simp)] at hun
    by_cases hnn : n1 = n2
    · subst hnn
      rw [if_pos ⟨rfl, rfl, rfl, rfl⟩] at hun
      have hr : r = some σ := by injection hun with hun; exact hun.symm
      subst hr
      have HF := Lib.hid (HDN.out w3 HB3.out)
      have t0 : (n1 == n1) = true := by simp
      clear hun hs1
      go_wp2_with fail
      go_ret
      exact HF.out
    · rw [if_neg (fun h => hnn h.2.1)] at hun
      have t0 : (n1 == n2) = false := by rw [beq_eq_false_iff_ne]; exact hnn
      have hr : r = none := by injection hun with hun; exact hun.symm
      subst hr
      have HF := Lib.hid (HFL.out w3 HB3.out)
      clear hun hs1
      go_wp2_with fail
      go_ret
      exact HF.out
  · have hun := HUN.out
    rw [if_neg (by simp), if_neg (by simp), if_neg (fun h => absurd h.1 (by simp))] at hun
    have hr : r = none := by injection hun with hun; exact hun.symm
    subst hr
    have HF := Lib.hid (HFL.out w3 HB3.out)
    clear hun hs1
    go_wp2_with fail
    go_ret
    exact HF.out
  · have hun := HUN.out
    rw [if_neg (by simp), if_pos rfl] at hun
    have hfree : lk σ n2 = none := (HEND2.out).resolve_left (fun h => h rfl)
    obtain ⟨rfl, rfl, hnr⟩ := shapeT_var HS2.out
    obtain ⟨hu3, hP3, hD3, hk3, hb3⟩ := HUP.out w3 HB3.out
    have C3 := HBD.out w3 HB3.out n2 hfree hnr ⟨3, n1, s1, f1⟩ _ HW1.out HS1.out tv hu3
    have H3 := Lib.hid C3
    have HR := Lib.hid (fun e w4 hbn => (up_of_bind (w' := w4) (e := e) (r := r) hP3 hD3 hk3 hb3 HO.out hfree hnr (m := ⟨3, n1, s1, f1⟩) (fun hk => (HEND1.out).resolve_left (fun h => h hk)) (wv_of_shape HS1.out) (fun y hy => occ_in HS1.out hy) (fun ho => by rw [if_pos ho] at hun; injection hun with hun; exact hun.symm) (fun ho => by rw [if_neg ho] at hun; injection hun with hun; exact hun.symm) HTV.out (Nat.le_trans HB.out HB3.out.size) hbn).from_ HB3.out)
    clear C3 hu3 hP3 hD3 hk3 hb3 hun hfree hs1
    go_wp2_with fail
    refine H3.out.mono ?_
    rintro e w4 hbn
    have HRR := Lib.hid (HR.out e w4 hbn)
    obtain ⟨bb, tv4, rfl, _⟩ := hbn
    go_wp2_with fail
    go_ret
    exact HRR.out
  · have hun := HUN.out
    rw [if_neg (by simp), if_neg (by simp), if_neg (fun h => absurd h.1 (by simp))] at hun
    have hr : r = none := by injection hun with hun; exact hun.symm
    subst hr
    have HF := Lib.hid (fun o o' => HFL.out _ (HB3.out.trans ((two_alloc w3 o o').mono HB3.out.size)))
    clear hun hs1
    go_wp2_with fail
    go_ret
    exact HF.out _ _
  · have hun := HUN.out
    rw [if_neg (by simp), if_neg (by simp)] at hun
    obtain ⟨rfl, _, _⟩ := shapeT_struct HS1.out
    obtain ⟨rfl, _, _⟩ := shapeT_struct HS2.out
    have hb5 := two_alloc w3 (.cells #[.string s1, .slice A1 f1.len c1] 105) (.cells #[.string s2, .slice A2 f2.len c2] 105)
    have hw5 := HB3.out.trans (hb5.mono HB3.out.size)
    have q0 := (Blk.new w3 105 #[.string s1, .slice A1 f1.len c1]).alloc (.cells #[.string s2, .slice A2 f2.len c2] 105)
    have q1 := Blk.new (w3.alloc (.cells #[.string s1, .slice A1 f1.len c1] 105)) 105 #[.string s2, .slice A2 f2.len c2]
    rw [show (w3.alloc (.cells #[.string s1, .slice A1 f1.len c1] 105)).heap.size = w3.heap.size + 1 by simp] at q1
    have c0 := q0.cell 0
    have c1' := q0.cell 1
    have d0 := q1.cell 0
    have d1 := q1.cell 1
    simp only [List.getElem?_toArray, List.getElem?_cons_zero, List.getElem?_cons_succ] at c0 c1' d0 d1
    have hkp : ∀ p, p < hi → ((w3.alloc (.cells #[.string s1, .slice A1 f1.len c1] 105)).alloc (.cells #[.string s2, .slice A2 f2.len c2] 105)).heap[p]? = w3.heap[p]? := fun p hp => hb5.block p (by have := HB3.out.size; have := HI.out; omega)
    have C5 := h lo hi ub mb db base σ P tv s1 s2 f1 f2 A1 A2 c1 c2 r _ HO.out (HUP.out _ hw5) (Nat.le_trans HB.out hw5.size) (hn1.keep (fun p _ hp => hkp p hp) (Nat.le_refl _) (Nat.le_refl _)) (hn2.keep (fun p _ hp => hkp p hp) (Nat.le_refl _) (Nat.le_refl _)) (shapeT_kids HS1.out) (shapeT_kids HS2.out) (fun hc => by
        simp only [Bool.and_eq_true, beq_iff_eq] at hc
        rw [if_pos ⟨rfl, rfl, bytes_of hc.1, hc.2⟩] at hun
        exact hun) (fun hc => by
        rw [if_neg (fun hd => by
          obtain ⟨_, _, e3, e4⟩ := hd
          simp only at e3 e4
          rw [e3, e4] at hc
          simp at hc)] at hun
        injection hun with hun
        exact hun.symm)
    have H5 := Lib.hid C5
    have HW5 := Lib.hid hw5
    clear C5 hb5 hw5 q0 q1 hkp hun hs1 hn1 hn2
    generalize f1.len = l1 at *
    generalize f2.len = l2 at *
    go_wp2_with fail
    refine H5.out.mono ?_
    rintro e w6 hres
    have HR := Lib.hid (hres.from_ HW5.out)
    obtain ⟨σ6, P6, tv6, rfl, _⟩ := hres
    go_wp2_with fail
    go_ret
    exact HR.out
end Go.Proofs.YtkefpickpjjllaaDoor.Full

/- unifyKids: what the model says where no bindings are wanted. No condition. -/
namespace Go.Proofs.YtkefpickpjjllaaDoor.Full
open Go.RowKit

theorem unF_det {σ : Sub} {f g : Fr} {r r' : Option Sub} (h : UnF σ f g r) (h' : UnF σ f g r') : r = r' := by
  obtain ⟨N, h⟩ := h
  obtain ⟨M, h'⟩ := h'
  have e1 := UnF.up (Nat.le_max_left N M) h
  have e2 := UnF.up (Nat.le_max_right N M) h'
  rw [e1] at e2
  injection e2
/-- Rows that stand for the same are unified without bindings. -/
theorem row_same {N : Nat} {σ : Sub} {f g : Fr} {r : Option Sub} (hσ : Ok2 σ) (hf : shapeF f 29 = true) (hg : shapeF g 29 = true) (hr : unRow (unT N) σ f g = some r) (e : suF (fin σ) f = suF (fin σ) g) : r = some σ :=
  unF_det ⟨N, hr⟩ (un_same hσ (wv_shape f 29 hf) (wv_shape g 29 hg) e)
/-- The place of a row of nodes as a place of cells. -/
theorem lies_row {w : World} {b : Nat} {f : Fr} (h : ∃ t cur, Blk w b t cur ∧ cur.size = f.len) : Lies w ⟨b, 0, none⟩ := by
  obtain ⟨t, cur, h, _⟩ := h
  exact ⟨t, cur, h⟩
theorem none_behind {w : World} {b : Nat} {f : Fr} (h : ∃ t cur, Blk w b t cur ∧ cur.size = f.len) : w.cell? ⟨b, f.len, none⟩ = none := by
  obtain ⟨t, cur, h, hs⟩ := h
  rw [h.cell]
  exact Array.getElem?_eq_none (by omega)
/-- The model's rows, one by one. -/
theorem unRow_drop {N : Nat} {σ' : Sub} {f g : Fr} {j : Nat} {k n : Int} {s : ByteArray} {kids rest : Fr} {k' n' : Int} {s' : ByteArray} {kids' rest' : Fr} {r : Option Sub} (hd : f.drop j = .cons k n s kids rest) (hd' : g.drop j = .cons k' n' s' kids' rest') (hr : unRow (unT N) σ' (f.drop j) (g.drop j) = some r) :
    ∃ o, unT N σ' ⟨k, n, s, kids⟩ ⟨k', n', s', kids'⟩ = some o ∧ (o = none → r = none) ∧ (∀ σ2, o = some σ2 → unRow (unT N) σ2 rest rest' = some r) := by
  rw [hd, hd'] at hr
  rw [unRow] at hr
  cases hu : unT N σ' ⟨k, n, s, kids⟩ ⟨k', n', s', kids'⟩ with
  | none => rw [hu] at hr; cases hr
  | some o =>
    rw [hu] at hr
    refine ⟨o, rfl, fun h => ?_, fun σ2 h => ?_⟩
    · subst h; injection hr with hr; exact hr.symm
    · subst h; exact hr
end Go.Proofs.YtkefpickpjjllaaDoor.Full

/- impl.unifier.unifyKids, walked from the contract of unifyParts. Condition: the nodes lie in memory and are well-formed. -/
namespace Go.Proofs.YtkefpickpjjllaaDoor.Full
open Go.RowKit Go.Maps

theorem len_zero {f : Fr} (h : f.len = 0) : f = .nil := by
  cases f with
  | nil => rfl
  | cons _ _ _ _ _ => simp [Fr.len] at h
set_option maxRecDepth 100000 in
set_option maxHeartbeats 8000000 in
/-- unifyKids of structures that are not alike, or that have no arguments. -/
theorem ukT_short (N : Nat) (lo hi ub mb db base : Nat) (σ : Sub) (P : List (Addr × Addr)) (tv : Value) (s s' : ByteArray) (f g : Fr) (A B : Option Addr) (ca cb : Nat) (r : Option Sub) (w : World) (ho : UpO lo hi ub mb db base) (hU : UpS w lo hi ub mb db base σ P tv) (hbs : base ≤ w.heap.size)
    (hrun : (s.data.toList == s'.data.toList && f.len == g.len) = true → unRow (unT N) σ f g = some r) (hno : (s.data.toList == s'.data.toList && f.len == g.len) = false → r = none) (hz : (s.data.toList == s'.data.toList && f.len == g.len) = true → f.len = 0) :
    Calls Tryd.prog 61 #[.pointer (some ⟨ub, 0, none⟩), .agg #[.string s, .slice A f.len ca], .agg #[.string s', .slice B g.len cb]] w fun e w' => UpRes w lo hi ub mb db base σ tv r e w' := by
  have HDN := Lib.hid (fun w' (hb : Below w.heap.size w w') => hU.done hb ho hbs)
  have HFL := Lib.hid (fun w' (hb : Below w.heap.size w w') => hU.fails hb ho hbs)
  have hb0 := two_alloc w (.cells #[.string s, .slice A f.len ca] 105) (.cells #[.string s', .slice B g.len cb] 105)
  have q0 := (Blk.new w 105 #[.string s, .slice A f.len ca]).alloc (.cells #[.string s', .slice B g.len cb] 105)
  have C1 := alike_any s s' A B f.len g.len ca cb ((w.alloc (.cells #[.string s, .slice A f.len ca] 105)).alloc (.cells #[.string s', .slice B g.len cb] 105))
  have H1 := Lib.hid C1
  have HB0 := Lib.hid hb0
  have HQ0 := Lib.hid q0
  clear C1 hb0 q0 hU
  cases hal : (s.data.toList == s'.data.toList && f.len == g.len) with
  | false =>
    obtain rfl := hno hal
    rw [hal] at H1
    clear hrun hno hz hal
    generalize f.len = l1 at *
    generalize g.len = l2 at *
    go_enter Tryd.func61, Tryd.ntmps61
    go_wp2_with fail
    refine H1.out.mono ?_
    rintro e w3 ⟨rfl, hb⟩
    have HF := Lib.hid (HFL.out w3 (HB0.out.trans (hb.mono HB0.out.size)))
    clear hb
    go_wp2_with fail
    go_ret
    exact HF.out
  | true =>
    have hz1 := hz hal
    have hl : f.len = g.len := by
      simp only [Bool.and_eq_true, beq_iff_eq] at hal
      exact hal.2
    have hr := hrun hal
    rw [len_zero hz1, len_zero (hl.symm.trans hz1)] at hr
    have hr2 : r = some σ := by injection hr with hr; exact hr.symm
    subst hr2
    rw [hal] at H1
    rw [← hl, hz1] at H1 HB0 HQ0 ⊢
    clear hrun hno hz hal hr hz1 hl
    go_enter Tryd.func61, Tryd.ntmps61
    go_wp2_with fail
    refine H1.out.mono ?_
    rintro e w3 ⟨rfl, hb⟩
    have HF := Lib.hid (HDN.out w3 (HB0.out.trans (hb.mono HB0.out.size)))
    have c1 := (HQ0.out.below hb HQ0.out.lt).cell 1
    simp only [List.getElem?_toArray, List.getElem?_cons_zero, List.getElem?_cons_succ] at c1
    clear hb
    go_wp2_with fail
    go_ret
    exact HF.out
end Go.Proofs.YtkefpickpjjllaaDoor.Full

/- unifyKids: what its loop leaves, and what is done behind it. No condition. -/
namespace Go.Proofs.YtkefpickpjjllaaDoor.Full
open Go.RowKit Go.Maps
open Go.ChangeMaps (setBlock heap_setBlock_same heap_setBlock_other)

/-- Rows that were unified stand for the same. -/
theorem row_good {N : Nat} {σ σ' : Sub} {f g : Fr} (hσ : Ok2 σ) (hf : shapeF f 29 = true) (hg : shapeF g 29 = true) (hl : f.len = g.len) (h : unRow (unT N) σ f g = some (some σ')) : suF (fin σ') f = suF (fin σ') g := by
  have e1 : wk σ ⟨3, 0, ⟨#[]⟩, f⟩ = ⟨3, 0, ⟨#[]⟩, f⟩ := (wk_stop σ _ (.inl (by simp))).1
  have e2 : wk σ ⟨3, 0, ⟨#[]⟩, g⟩ = ⟨3, 0, ⟨#[]⟩, g⟩ := (wk_stop σ _ (.inl (by simp))).1
  have h1 : unT (N + 1) σ ⟨3, 0, ⟨#[]⟩, f⟩ ⟨3, 0, ⟨#[]⟩, g⟩ = some (some σ') := by
    rw [unT, e1, e2, if_neg (by simp), if_neg (by simp), if_pos ⟨rfl, rfl, rfl, hl⟩]
    exact h
  have h2 := (good_all (N + 1) σ _ _ σ' h1 hσ (by unfold wvN; rw [if_neg (by simp)]; exact wv_shape f 29 hf) (by unfold wvN; rw [if_neg (by simp)]; exact wv_shape g 29 hg)).2
  unfold suN at h2
  simp only [if_neg (show ¬ ((3 : Int) = 1) by decide)] at h2
  injection h2
/-- The pair's rows, written into what is done. -/
theorem up_done {w w7 : World} {lo hi ub mb db base : Nat} {σ : Sub} {P P' : List (Addr × Addr)} {tv : Value} {o : Obj} (ho : UpO lo hi ub mb db base) (h : UpS w lo hi ub mb db base σ P tv) (hw : w7 = setBlock w db o) (hm : ∃ es clock, o = .map es clock ∧ PdE w es.toList P') (hd : DnP w lo hi σ P') (htv : ∀ x ∈ ownV tv, base ≤ x) :
    UpS w7 lo hi ub mb db base σ P' tv ∧ Wrote [db] w w7 := by
  obtain ⟨o1, ⟨o2, o3, o4⟩, ⟨o5, o6, o7⟩, o8, o9, o10⟩ := ho
  obtain ⟨⟨hq, htr, hmp⟩, hP, hD, h1, h2⟩ := h
  obtain ⟨es0, clock0, he0, _⟩ := hP
  obtain ⟨es, clock, rfl, hr⟩ := hm
  have far : ∀ x, x ≠ db → w7.heap[x]? = w.heap[x]? := fun x hx => by rw [hw]; exact heap_setBlock_other he0 _ hx
  have hsz : w7.heap.size = w.heap.size := by rw [hw]; simp [setBlock]
  have hW : Wrote [db] w w7 := ⟨by rw [hw]; rfl, by rw [hw]; rfl, by rw [hw]; rfl, by omega, fun x _ hn => far x fun e => hn (by simp [e])⟩
  have hgb : w.grownBy w7 (some db) := ⟨hW.os, hW.tape, hW.output, hW.size, fun x _ hn => far x fun e => hn (by rw [e])⟩
  refine ⟨⟨⟨hq.keep (far ub (by omega)), htr.kept hgb ?_, hmp.wrote hW (by simp; omega) (by have := hq.lt; omega) (by simp; omega)⟩, ⟨es, clock, by rw [hw]; exact heap_setBlock_same he0 _, pdE_keep _ _ (fun x hx => ?_) hr⟩, hd.keep fun p _ hp => World.cell?_of_block (far p.block (by omega)), h1, h2⟩, hW⟩
  · cases e : tv.ownBlock with
    | none => exact .inl rfl
    | some g =>
      refine .inr fun e2 => ?_
      injection e2 with e2
      have := htv g (by unfold ownV; rw [e]; simp)
      omega
  · obtain ⟨f, g, b, b', e, k1, k2, _⟩ := hd x hx
    subst e
    exact ⟨fun ⟨t, cs, h⟩ => ⟨t, cs, (far b (by omega)).trans h⟩, fun ⟨t, cs, h⟩ => ⟨t, cs, (far b' (by omega)).trans h⟩⟩
end Go.Proofs.YtkefpickpjjllaaDoor.Full

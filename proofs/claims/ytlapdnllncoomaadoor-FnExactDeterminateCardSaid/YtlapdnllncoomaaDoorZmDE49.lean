/- impl.ClausesFor. Condition: the clauses and the goal lie in memory, both tables in their variables. -/
import Derived.Test.YtlapdnllncoomaaDoorProg
import Derived.Test.YtlapdnllncoomaaDoorZmDE48
import Derived.Deep.RegionHeld3
namespace Go.Proofs.YtlapdnllncoomaaDoor
open Go.RowKit Go.WideMaps Go.Maps Go.ChangeShapes

theorem nilI {w x : World} (hb : Below w.heap.size w x) : OwnI x w.heap.size (.slice none 0 0) [] ∧ Below w.heap.size w x := ⟨OwnI.nil _ _, hb⟩

set_option maxRecDepth 100000 in
set_option maxHeartbeats 4000000 in
/-- impl.ClausesFor. -/
theorem implCF_any (cs : List Cl) (A : Option Addr) (cap lo hi : Nat) (k n : Int) (s : ByteArray) (f : Fr) (B : Option Addr) (capB lo' hi' : Nat) (w : World) (hk : ClS w lo hi cs A cap) (hh : hi ≤ w.heap.size) (hnd : cs.length + wtCs cs ≤ 1048576)
    (hkb : KidsAt w lo' hi' f B capB) (hh' : hi' ≤ w.heap.size) (hf : Fits k n s) (hndb : nodes f ≤ 1048576) (ht : nv.Tab w) (ho : op.OpTab w) :
    Calls Tryd.prog 26 #[.slice A cs.length cap, .agg #[.int .i64 k, .int .i64 n, .string s, .slice B f.len capB]] w fun e w' => ∃ v, e = .returned v ∧ OwnI w' w.heap.size v (clF cs k n s f) ∧ Below w.heap.size w w' := by
  have hb0 : Below w.heap.size w (w.alloc (.cells #[.int .i64 k, .int .i64 n, .string s, .slice B f.len capB] 29)) := (Below.refl _ _).alloc (Nat.le_refl _) _
  have C1 := progWith_any cs A cap lo hi k n s f B capB lo' hi' _ (hk.below hb0 hh) (Nat.le_trans hh hb0.size) hnd (hkb.below hb0 hh') (Nat.le_trans hh' hb0.size) hf hndb (ht.below hb0) (ho.below hb0)
  have HE : Hid (clF cs k n s f = if (progV cs && plainV k n s f) = true then forF cs 0 s f.len else []) := Lib.hid rfl
  have hfl : f.len ≤ maxLen := Nat.le_trans hkb.1 hkb.2.1
  have C2 := fun R M lo2 A2 cap2 w1 (h : PgAt w1 cs R M lo2) => cfor_any cs R M lo2 s A2 f.len cap2 w1 h hk.wf (by omega) hf.2.2 hfl
  have H1 := Lib.hid C1
  have H2 := Lib.hid C2
  have HB0 := Lib.hid hb0
  clear C1 C2 hk hh hnd hkb hh' hf hndb hb0 ht ho hfl
  go_enter Tryd.func26, Tryd.ntmps26
  go_wp2_with fail
  refine H1.out.mono ?_
  rintro e w2 ⟨hb, hr⟩
  have hbw := HB0.out.trans (hb.mono HB0.out.size)
  rcases hr with ⟨hok, R, l, c, m, s', A', len, cap', rfl⟩ | ⟨hok, R, M, A', cap', rfl, _, hpg⟩
  · have HV : Hid (clF cs k n s f = []) := Lib.hid (by rw [HE.out, hok]; rfl)
    have HBW := Lib.hid ((hbw.alloc hbw.size (.cells #[.slice R l c, .map m] 73)).alloc (hbw.alloc hbw.size _).size (.cells #[.string s', .slice A' len cap'] 74))
    clear hb hbw hok
    go_wp2_with fail
    go_ret
    rw [HV.out]
    exact ⟨_, rfl, nilI HBW.out⟩
  · have HV : Hid (clF cs k n s f = forF cs 0 s f.len) := Lib.hid (by rw [HE.out, hok]; rfl)
    have hb3 : Below w2.heap.size w2 ((w2.alloc (.cells #[.slice R cs.length cs.length, .map (some M)] 73)).alloc (.cells #[.string s, .slice A' f.len cap'] 74)) := two_alloc w2 _ _
    have C3 := H2.out R M _ A' cap' _ (hpg.below hb3)
    have hM : w.heap.size + 1 ≤ M := by
      have := hpg.1
      simpa using this
    have HB3 := Lib.hid (hbw.trans (hb3.mono hbw.size))
    have H3 := Lib.hid C3
    clear hb hbw hok C3 hpg hb3
    go_wp2_with fail
    refine H3.out.mono ?_
    rintro e w4 ⟨v, rfl, hoi, hb⟩
    have HDONE : Hid (OwnI w4 w.heap.size v (forF cs 0 s f.len) ∧ Below w.heap.size w w4) := Lib.hid ⟨OwnI.mono (base := M + 1) hoi.1 (by omega), HB3.out.trans (hb.mono HB3.out.size)⟩
    clear hoi hb
    go_wp2_with fail
    go_ret
    rw [HV.out]
    exact ⟨v, rfl, HDONE.out⟩
end Go.Proofs.YtlapdnllncoomaaDoor

/- impl.Candidates. Condition: the clauses and the goal lie in memory, both tables and that of powers of ten in their variables. -/
namespace Go.Proofs.YtlapdnllncoomaaDoor
open Go.RowKit Go.WideMaps Go.Maps Go.ChangeShapes

/-- What Candidates answers. -/
noncomputable def cdA (cs : List Cl) (k n : Int) (s : ByteArray) (f : Fr) : List Int := if (progV cs && plainV k n s f) = true then cdF cs s f.len (keyF f) else []
theorem cdA_len (cs : List Cl) (k n : Int) (s : ByteArray) (f : Fr) : (cdA cs k n s f).length ≤ cs.length := by
  unfold cdA
  split
  · exact cdF_len _ _ _ _
  · exact Nat.zero_le _
theorem plain_shape {k n : Int} {s : ByteArray} {f : Fr} (h : plainV k n s f = true) : shapeF f 29 = true := by
  unfold plainV validT shapeT at h
  simp only [Bool.and_eq_true] at h
  exact h.1.1.2.2
theorem allC_wf : ∀ (cs : List Cl), allC cs = true → ∀ c ∈ cs, shapeF c.kids 29 = true
  | [], _, c, hc => by simp at hc
  | c0 :: cs, h, c, hc => by
    have h2 : (clauseV c0 && allC cs) = true := h
    rw [Bool.and_eq_true] at h2
    rcases List.mem_cons.1 hc with rfl | hc
    · have h3 := h2.1
      unfold clauseV at h3
      rw [Bool.and_eq_true] at h3
      exact plain_shape h3.1
    · exact allC_wf cs h2.2 c hc
theorem prog_wf {cs : List Cl} (h : progV cs = true) (hw : ∀ c ∈ cs, WfC c) : cs.length ≤ 20 ∧ ∀ c ∈ cs, WfK c := by
  unfold progV at h
  rw [Bool.and_eq_true, decide_eq_true_iff] at h
  exact ⟨h.1, fun c hc => ⟨hw c hc, allC_wf cs h.2 c hc⟩⟩

set_option maxRecDepth 100000 in
set_option maxHeartbeats 4000000 in
/-- impl.Candidates. -/
theorem implCd_any (cs : List Cl) (A : Option Addr) (cap lo hi : Nat) (k n : Int) (s : ByteArray) (f : Fr) (B : Option Addr) (capB lo' hi' : Nat) (w : World) (hk : ClS w lo hi cs A cap) (hh : hi ≤ w.heap.size) (hnd : cs.length + wtCs cs ≤ 1048576)
    (hkb : KidsAt w lo' hi' f B capB) (hh' : hi' ≤ w.heap.size) (hf : Fits k n s) (hndb : nodes f ≤ 1048576) (ht : nv.Tab w) (ho : op.OpTab w) (hp : Lib.TabIs Tryd.prog w "internal/strconv.uint64pow10" .u64 Lib.pow10Tab) :
    Calls Tryd.prog 16 #[.slice A cs.length cap, .agg #[.int .i64 k, .int .i64 n, .string s, .slice B f.len capB]] w fun e w' => ∃ v, e = .returned v ∧ OwnI w' w.heap.size v (cdA cs k n s f) ∧ Below w.heap.size w w' := by
  have hb0 : Below w.heap.size w (w.alloc (.cells #[.int .i64 k, .int .i64 n, .string s, .slice B f.len capB] 29)) := (Below.refl _ _).alloc (Nat.le_refl _) _
  have C1 := progWith_any cs A cap lo hi k n s f B capB lo' hi' _ (hk.below hb0 hh) (Nat.le_trans hh hb0.size) hnd (hkb.below hb0 hh') (Nat.le_trans hh' hb0.size) hf hndb (ht.below hb0) (ho.below hb0)
  have HE : Hid (cdA cs k n s f = if (progV cs && plainV k n s f) = true then cdF cs s f.len (keyF f) else []) := Lib.hid rfl
  have HWC := Lib.hid hk.wf
  have HSZ := Lib.hid hf.2.2
  have HP := Lib.hid (Lib.tabBelow_of_tabIs hp)
  have H1 := Lib.hid C1
  have HB0 := Lib.hid hb0
  clear C1 hk hh hnd hkb hh' hf hndb hb0 ht ho hp
  go_enter Tryd.func16, Tryd.ntmps16
  go_wp2_with fail
  refine H1.out.mono ?_
  rintro e w2 ⟨hb, hr⟩
  have hbw := HB0.out.trans (hb.mono HB0.out.size)
  rcases hr with ⟨hok, R, l, c, m, s', A', len, cap', rfl⟩ | ⟨hok, R, M, A', cap', rfl, hnds, hpg⟩
  · have HV : Hid (cdA cs k n s f = []) := Lib.hid (by rw [HE.out, hok]; rfl)
    have HBW := Lib.hid ((hbw.alloc hbw.size (.cells #[.slice R l c, .map m] 73)).alloc (hbw.alloc hbw.size _).size (.cells #[.string s', .slice A' len cap'] 74))
    clear hb hbw hok
    go_wp2_with fail
    go_ret
    rw [HV.out]
    exact ⟨_, rfl, nilI HBW.out⟩
  · have HV : Hid (cdA cs k n s f = cdF cs s f.len (keyF f)) := Lib.hid (by rw [HE.out, hok]; rfl)
    rw [Bool.and_eq_true] at hok
    obtain ⟨hc20, hwk⟩ := prog_wf hok.1 HWC.out
    have hsf := plain_shape hok.2
    have hb3 : Below w2.heap.size w2 ((w2.alloc (.cells #[.slice R cs.length cs.length, .map (some M)] 73)).alloc (.cells #[.string s, .slice A' f.len cap'] 74)) := two_alloc w2 _ _
    have hq1 : Blk ((w2.alloc (.cells #[.slice R cs.length cs.length, .map (some M)] 73)).alloc (.cells #[.string s, .slice A' f.len cap'] 74)) w2.heap.size 73 #[.slice R cs.length cs.length, .map (some M)] := (Blk.new w2 _ _).alloc _
    have hq2 : Blk ((w2.alloc (.cells #[.slice R cs.length cs.length, .map (some M)] 73)).alloc (.cells #[.string s, .slice A' f.len cap'] 74)) (w2.heap.size + 1) 74 #[.string s, .slice A' f.len cap'] := by
      have h := Blk.new (w2.alloc (.cells #[.slice R cs.length cs.length, .map (some M)] 73)) 74 #[.string s, .slice A' f.len cap']
      simpa using h
    have hM : w.heap.size ≤ M + 1 := by
      have h0 := hpg.1
      have h1 := HB0.out.size
      omega
    have HPG := Lib.hid (hpg.below hb3)
    have HND := Lib.hid (hnds.keep (fun p _ hp => hb3.cell hp) (Nat.le_refl _) (Nat.le_refl _))
    have HB3 := Lib.hid (hbw.trans (hb3.mono hbw.size))
    have HS3 := Lib.hid hb3.size
    have HQ1 := Lib.hid hq1
    have HQ2 := Lib.hid hq2
    have HWK := Lib.hid hwk
    have HC20 := Lib.hid hc20
    have HSF := Lib.hid hsf
    have HM := Lib.hid hM
    clear hb hbw hok hb3 hq1 hq2 hwk hc20 hsf hpg hnds hM H1
    go_wp2_with fail
    generalize ((w2.alloc (.cells #[.slice R cs.length cs.length, .map (some M)] 73)).alloc (.cells #[.string s, .slice A' f.len cap'] 74)) = W3 at *
    have x0 := HQ1.out.cell 0
    have x1 := HQ1.out.cell 1
    have x2 := HQ2.out.cell 0
    have x3 := HQ2.out.cell 1
    simp only [List.getElem?_toArray, List.getElem?_cons_zero, List.getElem?_cons_succ] at x0 x1 x2 x3
    go_region_held3 (fun x => x.cell? ⟨w2.heap.size, 0, none⟩ = some (.slice R cs.length cs.length) ∧ x.cell? ⟨w2.heap.size, 1, none⟩ = some (.map (some M)) ∧ x.cell? ⟨w2.heap.size + 1, 0, none⟩ = some (.string s) ∧ x.cell? ⟨w2.heap.size + 1, 1, none⟩ = some (.slice A' f.len cap'))
      (first | exact ⟨z0, z1, z2, z3⟩ | exact ⟨y0, y1, y2, y3⟩ | exact ⟨x0, x1, x2, x3⟩)
      (first
        | (go_at_call 44
           refine (newKey_any cs R M _ _ (HPG.out.below (Below.refl _ W3).drew) HWK.out HC20.out (fun w1 hb => HP.out w1 (HB3.out.trans (((Below.refl _ W3).drew.trans hb).mono HB3.out.size)))).mono ?_
           rintro e w6 ⟨MF, nn, D, rfl, hm1, hm2, hn, hG, hIM, hK, hb6⟩
           have hd6 : Below W3.heap.size W3 w6 := (Below.refl W3.heap.size W3).drew.trans hb6
           have y0 := (HQ1.out.below hd6 HQ1.out.lt).cell 0
           have y1 := (HQ1.out.below hd6 HQ1.out.lt).cell 1
           have y2 := (HQ2.out.below hd6 HQ2.out.lt).cell 0
           have y3 := (HQ2.out.below hd6 HQ2.out.lt).cell 1
           simp only [List.getElem?_toArray, List.getElem?_cons_zero, List.getElem?_cons_succ] at y0 y1 y2 y3
           have hm3 : w.heap.size ≤ MF + 1 := by
             have h1 : W3.heap.size ≤ MF := hm1
             have h2 := HB3.out.size
             omega
           have C7 := cand_any cs R M _ w.heap.size MF nn D s f A' cap' _ _ w6 (HPG.out.below hd6) hG hK HWK.out HC20.out HM.out hm3 hn (HND.out.keep (fun p _ hp => hd6.cell (Nat.lt_of_lt_of_le hp HS3.out)) (Nat.le_refl _) (Nat.le_refl _)) (Nat.le_trans HS3.out hd6.size) HSZ.out HSF.out (fun w1 hb => HP.out w1 (HB3.out.trans ((hd6.trans (hb.mono hd6.size)).mono HB3.out.size)))
           have HC7 := Lib.hid C7
           have HD6 := Lib.hid (HB3.out.trans (hd6.mono HB3.out.size))
           have HQ6 := Lib.hid (HQ1.out.below hd6 HQ1.out.lt)
           have HQ7 := Lib.hid (HQ2.out.below hd6 HQ2.out.lt)
           clear hm1 hm2 hn hG hIM hK hb6 hd6 C7 hm3)
        | (go_at_call 45
           refine HC7.out.mono ?_
           rintro e w8 ⟨v, rfl, hoi, hb⟩
           have z0 := (HQ6.out.below hb HQ6.out.lt).cell 0
           have z1 := (HQ6.out.below hb HQ6.out.lt).cell 1
           have z2 := (HQ7.out.below hb HQ7.out.lt).cell 0
           have z3 := (HQ7.out.below hb HQ7.out.lt).cell 1
           simp only [List.getElem?_toArray, List.getElem?_cons_zero, List.getElem?_cons_succ] at z0 z1 z2 z3
           have HDONE := Lib.hid (And.intro hoi (HD6.out.trans (hb.mono HD6.out.size)))
           clear hoi hb))
    go_wp2_with fail
    go_ret
    rw [HV.out]
    exact ⟨v, rfl, HDONE.out⟩
end Go.Proofs.YtlapdnllncoomaaDoor

/- No two clauses with one head have keys that fit. Plain; no condition. -/
namespace Go.Proofs.YtlapdnllncoomaaDoor
open Go.RowKit

theorem kfL_comm (a b : List UInt8) : kfL a b = kfL b a := by
  unfold kfL
  rw [Bool.or_comm a.isEmpty b.isEmpty]
  congr 1
  rw [Bool.eq_iff_iff, beq_iff_eq, beq_iff_eq]
  exact ⟨fun h => h.symm, fun h => h.symm⟩
theorem kfL_self (a : List UInt8) : kfL a a = true := by
  unfold kfL
  simp
def kz (cs : List Cl) (z : Int) : List UInt8 := keyF (kdAt cs z)
/-- No two of them fit. -/
def Det (cs : List Cl) (zs : List Int) : Prop := ∀ i k : Nat, k < i → i < zs.length → kfL (kz cs (zs.getD i 0)) (kz cs (zs.getD k 0)) = false
/-- Each fits itself alone. -/
def DetL (cs : List Cl) (zs : List Int) (m : Nat) : Prop := ∀ j : Nat, j < m → (zs.filter (fitB cs (kz cs (zs.getD j 0)))).length ≤ 1
theorem two_pos {l : List Int} {p : Int → Bool} {i k : Nat} (h : k < i) (hi : i < l.length) (h1 : p (l.getD k 0) = true) (h2 : p (l.getD i 0) = true) : 2 ≤ (l.filter p).length := by
  have e : l = l.take i ++ l.drop i := (List.take_append_drop i l).symm
  rw [e, List.filter_append, List.length_append]
  have m1 : l.getD k 0 ∈ (l.take i).filter p := by
    rw [List.mem_filter]
    refine ⟨?_, h1⟩
    have : (l.take i)[k]? = some (l.getD k 0) := by
      rw [List.getElem?_take_of_lt h, List.getElem?_eq_getElem (by omega)]
      simp [List.getD, List.getElem?_eq_getElem (show k < l.length by omega)]
    exact List.mem_of_getElem? this
  have m2 : l.getD i 0 ∈ (l.drop i).filter p := by
    rw [List.mem_filter]
    refine ⟨?_, h2⟩
    have : (l.drop i)[0]? = some (l.getD i 0) := by
      rw [List.getElem?_drop, Nat.add_zero, List.getElem?_eq_getElem hi]
      simp [List.getD, List.getElem?_eq_getElem hi]
    exact List.mem_of_getElem? this
  have := List.length_pos_of_mem m1
  have := List.length_pos_of_mem m2
  omega
theorem pos_of_mem {l : List Int} {z : Int} (h : z ∈ l) : ∃ i, i < l.length ∧ l.getD i 0 = z := by
  obtain ⟨i, hi, he⟩ := List.getElem_of_mem h
  exact ⟨i, hi, by simp [List.getD, List.getElem?_eq_getElem hi, he]⟩
theorem two_of_len {p : Int → Bool} : ∀ (l : List Int), 2 ≤ (l.filter p).length → ∃ k i, k < i ∧ i < l.length ∧ p (l.getD k 0) = true ∧ p (l.getD i 0) = true
  | [], h => by simp at h
  | x :: l, h => by
    by_cases hx : p x = true
    · rw [List.filter_cons_of_pos hx] at h
      simp only [List.length_cons] at h
      obtain ⟨z, hz⟩ := List.exists_mem_of_length_pos (show 0 < (l.filter p).length by omega)
      rw [List.mem_filter] at hz
      obtain ⟨i, hi, he⟩ := pos_of_mem hz.1
      exact ⟨0, i + 1, by omega, by simp only [List.length_cons]; omega, by simpa using hx, by simp only [List.getD_cons_succ]; rw [he]; exact hz.2⟩
    · rw [List.filter_cons_of_neg hx] at h
      obtain ⟨k, i, h1, h2, h3, h4⟩ := two_of_len l h
      exact ⟨k + 1, i + 1, by omega, by simp only [List.length_cons]; omega, by simpa using h3, by simpa using h4⟩
theorem det_iff (cs : List Cl) (zs : List Int) : Det cs zs ↔ DetL cs zs zs.length := by
  constructor
  · intro h j hj
    refine Nat.le_of_not_lt fun hc => ?_
    obtain ⟨k, i, h1, h2, h3, h4⟩ := two_of_len zs hc
    have f3 : kfL (kz cs (zs.getD k 0)) (kz cs (zs.getD j 0)) = true := h3
    have f4 : kfL (kz cs (zs.getD i 0)) (kz cs (zs.getD j 0)) = true := h4
    have key : ∀ q, q ≠ j → q < zs.length → kfL (kz cs (zs.getD q 0)) (kz cs (zs.getD j 0)) = true → False := fun q hq hl hf => by
      rcases Nat.lt_or_gt_of_ne hq with hlt | hgt
      · have := h j q hlt hj
        rw [kfL_comm, hf] at this
        cases this
      · have := h q j hgt hl
        rw [hf] at this
        cases this
    by_cases hk : k = j
    · exact key i (by omega) h2 f4
    · exact key k hk (by omega) f3
  · intro h i k hki hi
    cases hf : kfL (kz cs (zs.getD i 0)) (kz cs (zs.getD k 0))
    · rfl
    · have := h k (by omega)
      have h2 := two_pos (l := zs) (p := fitB cs (kz cs (zs.getD k 0))) hki hi (kfL_self _) hf
      omega
open Classical in
/-- What Determinate answers. -/
noncomputable def deA (cs : List Cl) (s : ByteArray) (a : Int) : Bool := (progV cs && (decide (0 ≤ a) && decide (a ≤ 4))) && decide (Det cs (forF cs 0 s a.toNat))
end Go.Proofs.YtlapdnllncoomaaDoor

/- impl.Determinate. Condition: the clauses lie in memory, both tables and that of powers of ten in their variables. -/
namespace Go.Proofs.YtlapdnllncoomaaDoor
open Go.RowKit Go.WideMaps Go.Maps Go.ChangeShapes

set_option maxRecDepth 100000 in
set_option maxHeartbeats 8000000 in
/-- impl.Determinate. -/
theorem implDe_any (cs : List Cl) (A : Option Addr) (cap lo hi : Nat) (s : ByteArray) (a : Int) (w : World) (hk : ClS w lo hi cs A cap) (hh : hi ≤ w.heap.size) (hnd : cs.length + wtCs cs ≤ 1048576) (hs : s.size ≤ maxLen)
    (ht : nv.Tab w) (ho : op.OpTab w) (hp : Lib.TabIs Tryd.prog w "internal/strconv.uint64pow10" .u64 Lib.pow10Tab) :
    Calls Tryd.prog 24 #[.slice A cs.length cap, .string s, .int .i64 a] w fun e w' => e = .returned (.bool (deA cs s a)) ∧ Below w.heap.size w w' := by
  have C1 := progOf_any cs A cap lo hi w hk hh hnd ht ho
  have HE : Hid (deA cs s a = ((progV cs && (decide (0 ≤ a) && decide (a ≤ 4))) && @decide (Det cs (forF cs 0 s a.toNat)) (Classical.propDecidable _))) := Lib.hid rfl
  have HWC := Lib.hid hk.wf
  have HSS := Lib.hid hs
  have HP := Lib.hid (Lib.tabBelow_of_tabIs hp)
  have H1 := Lib.hid C1
  clear C1 hk hh hnd ht ho hp hs
  go_enter Tryd.func24, Tryd.ntmps24
  go_wp2_with fail
  refine H1.out.mono ?_
  rintro e w2 ⟨hb, hr⟩
  have HB2 := Lib.hid hb
  clear H1
  rcases hr with ⟨hok, rfl⟩ | ⟨hok, R, M, rfl, hM1, hM2, D, hD, hH, r, rfl, hr1, hr2, hct⟩
  · have HV : Hid (deA cs s a = false) := Lib.hid (by rw [HE.out, hok]; simp)
    clear hok hb
    go_wp2_with fail
    go_ret
    rw [HV.out]; exact ⟨rfl, HB2.out.alloc HB2.out.size _⟩
  · by_cases ha : 0 ≤ a ∧ a ≤ 4
    · obtain ⟨an, rfl⟩ : ∃ an : Nat, a = (an : Int) := ⟨a.toNat, by omega⟩
      have han : an ≤ 4 := by omega
      have HV : Hid (deA cs s (an : Int) = @decide (Det cs (forF cs 0 s an)) (Classical.propDecidable _)) := Lib.hid (by
        rw [HE.out, hok, decide_eq_true ha.1, decide_eq_true ha.2]
        simp)
      obtain ⟨hc20, hwk⟩ := prog_wf hok HWC.out
      have hpg : PgAt w2 cs (some ⟨r, 0, none⟩) M w.heap.size := ⟨hM1, hM2, D, hD, hH, r, rfl, hr1, hr2, hct⟩
      have hb3 : Below w2.heap.size w2 (w2.alloc (.cells #[.slice (some ⟨r, 0, none⟩) cs.length cs.length, .map (some M)] 73)) := (Below.refl _ _).alloc (Nat.le_refl _) _
      have hbw3 := hb.trans (hb3.mono hb.size)
      have C2 := newKey_any cs (some ⟨r, 0, none⟩) M w.heap.size (w2.alloc (.cells #[.slice (some ⟨r, 0, none⟩) cs.length cs.length, .map (some M)] 73)) (hpg.below hb3) hwk hc20 (fun w1 hb => HP.out w1 (hbw3.trans (hb.mono hbw3.size)))
      have HG := Lib.hid (groups_below hD hb3)
      have HH := Lib.hid hH
      have HPG := Lib.hid (hpg.below hb3)
      have HCT := Lib.hid (Cts.keep (fun p hp => hb3.cell hp.2) (fun g hg => hg) cs 0 (fun j _ => hb3.cell (p := ⟨r, j, none⟩) hr2) hct)
      have HB3 := Lib.hid hbw3
      have HWK := Lib.hid hwk
      have H2 := Lib.hid C2
      have HIX := Lib.hid (forF_idx s an HSS.out (by unfold maxLen; omega) cs 0 HWC.out)
      have HPK := Lib.hid (pk_key s an HSS.out (by unfold maxLen; omega))
      have HR2 : Hid (r < w2.heap.size) := Lib.hid hr2
      have HM2 : Hid (w.heap.size ≤ M) := Lib.hid hM1
      have hs3 : w2.heap.size < (w2.alloc (.cells #[.slice (some ⟨r, 0, none⟩) cs.length cs.length, .map (some M)] 73)).heap.size := by simp
      have HS3 := Lib.hid hs3
      have HC20 := Lib.hid hc20
      have t1 : ¬ (an : Int) < 0 := by omega
      have t2 : ¬ (an : Int) > 4 := by omega
      clear hok hb hM1 hM2 hD hH hr1 hr2 hct hpg hb3 hbw3 hwk hc20 C2 HE ha hs3
      generalize hn : cs.length = len at *
      have HN := Lib.hid hn
      clear hn
      go_wp2_with fail
      generalize (w2.alloc (.cells #[.slice (some ⟨r, 0, none⟩) len len, .map (some M)] 73)) = W3 at *
      refine H2.out.mono ?_
      rintro e w4 ⟨MF, nn, D2, rfl, hm1, hm2, hn4, hG2, hIM, hK, hb4⟩
      have hb5 : Below w4.heap.size w4 (w4.alloc (.cells #[.slice (some ⟨r, 0, none⟩) len len, .map (some M), .map (some MF)] 79)) := (Below.refl _ _).alloc (Nat.le_refl _) _
      have hq5 := Blk.new w4 79 #[.slice (some ⟨r, 0, none⟩) len len, .map (some M), .map (some MF)]
      have hb35 := hb4.trans (hb5.mono hb4.size)
      have hG5 := groups_below HG.out hb35
      obtain ⟨v, zs, hrun, hat, hoi, _, _⟩ := hG5.at lawK Tryd.underlying71 (zeroIx _) (by unfold maxLen; have := HC20.out; omega) HPK.out
      obtain rfl : zs = forF cs 0 s an := by
        rw [← HIX.out]
        exact (HH.out _).eq hat hoi
      obtain ⟨Av, cz, rfl, hzc, hzm, _⟩ := OwnI.read (base := M + 1) hoi.1
      clear hzm
      have HOI := Lib.hid hoi
      have HQ5 := Lib.hid hq5
      have HB5 := Lib.hid hb35
      have HG2 := Lib.hid (groups3_below hG2 hb5)
      have HK := Lib.hid hK
      have HNN := Lib.hid hn4
      have HMF : Hid (w.heap.size ≤ MF) := Lib.hid (by have := HB3.out.size; omega)
      clear hm1 hm2 hn4 hG2 hIM hK hb4 hb5 hq5 hb35 hG5 hat hoi H2
      go_wp2_with (first | (at_lookup; refine wpList_lookup_run _ rfl _ _ _ false rfl _ _ _ rfl rfl hrun ?_))
      have hzl : (forF cs 0 s an).length ≤ 20 := Nat.le_trans (forF_len _ _ _ _) (by rw [HN.out]; exact HC20.out)
      have HST : Hid (Below W3.heap.size W3 (w4.alloc (.cells #[.slice (some ⟨r, 0, none⟩) len len, .map (some M), .map (some MF)] 79))) := HB5
      have HB35 := Lib.hid (HB3.out.trans (HB5.out.mono HB3.out.size))
      have HSW5 : Hid (w4.heap.size < (w4.alloc (.cells #[.slice (some ⟨r, 0, none⟩) len len, .map (some M), .map (some MF)] 79)).heap.size) := Lib.hid (by simp)
      clear hrun
      generalize (w4.alloc (.cells #[.slice (some ⟨r, 0, none⟩) len len, .map (some M), .map (some MF)] 79)) = W5 at *
      generalize hzs : forF cs 0 s an = zs at *
      have HZS := Lib.hid hzs
      clear hzs
      generalize hzll : zs.length = zl at *
      have HZL := Lib.hid hzll
      clear hzll
      go_loopw [37] (fun i wr => ∃ (m : Nat), m ≤ zl ∧ i = .int .i64 m ∧ DetL cs zs m ∧ Below W5.heap.size W5 wr) (fun i _ => zl - (intOf i).toNat)
      case atStart => exact ⟨0, Nat.zero_le _, rfl, fun j hj => absurd hj (Nat.not_lt_zero j), Below.refl _ _⟩
      case round =>
        obtain ⟨m, hm, rfl, hdl, hbw⟩ := hrel
        by_cases hml : m < zl
        · obtain ⟨z, hz⟩ : ∃ z, zs[m]? = some z := ⟨zs[m]'(by rw [HZL.out]; exact hml), List.getElem?_eq_getElem _⟩
          obtain ⟨jz, czl, hzj, hjl, hcz, hcs1, hcs2⟩ := forF_mem s an z cs 0 (by rw [HZS.out]; exact List.mem_of_getElem? hz)
          obtain rfl : z = (jz : Int) := by omega
          rw [HN.out] at hjl
          obtain ⟨rest, hdz⟩ := drop_get hcz
          obtain ⟨Az, cpz, Gz, gcz, lo4, hi4, ez0, ez1, _, hnoz, hndz, _⟩ := Cts.get cs 0 jz hdz HCT.out
          rw [Nat.zero_add] at ez0 ez1
          rw [hcs1] at ez0
          obtain ⟨lo5, hi5, hh5, hnd5⟩ := nds_hi hndz (B := w2.heap.size) (fun b h1 h2 => (hnoz b h1 h2).2)
          have hbw3 := HB5.out.trans (hbw.mono HB5.out.size)
          have hsw3 : w2.heap.size < W3.heap.size := HS3.out
          have hbww := HB3.out.trans (hbw3.mono HB3.out.size)
          obtain ⟨A2, c2', he, _, _, hrd⟩ := OwnI.read (base := M + 1) HOI.out.1
          obtain ⟨gv, hA2, _, hcell⟩ := hrd (by rw [HZL.out]; omega)
          have hgl : gv < W5.heap.size := by
            injection he with h1 h2 h3
            exact (HOI.out.1.lt gv (by rw [h1, hA2]; rfl)).2
          have hkv7 : Av = some ⟨gv, 0, none⟩ ∧ wr.cell? ⟨gv, m, none⟩ = some (.int .i64 (jz : Int)) := by
            injection he with h1 h2 h3
            refine ⟨h1.trans hA2, (hbw.cell (p := ⟨gv, m, none⟩) hgl).trans ?_⟩
            have := (hcell m (by rw [HZL.out]; exact hml)).1
            rw [this]
            simp [List.getD, hz]
          obtain ⟨hAv, kv7⟩ := hkv7
          have C7 := fun w1 (hb : Below wr.heap.size wr w1) => cand_any cs (some ⟨r, 0, none⟩) M w.heap.size 0 MF nn D2 s czl.kids Az cpz lo5 hi5 w1 (HPG.out.below (hbw3.trans (hb.mono hbw3.size))) (groups3_below HG2.out (hbw.trans (hb.mono hbw.size))) HK.out HWK.out (by rw [HN.out]; exact HC20.out) (Nat.zero_le _) (Nat.zero_le _) HNN.out
            (hnd5.keep (fun p _ hp => (hbw3.trans (hb.mono hbw3.size)).cell (by omega)) (Nat.le_refl _) (Nat.le_refl _)) (Nat.le_trans hh5 (Nat.le_trans (Nat.le_of_lt hsw3) (hbw3.trans (hb.mono hbw3.size)).size)) HSS.out (HWK.out czl (List.mem_of_getElem? hcz)).2 (fun w9 hb9 => HP.out w9 ((hbww.trans (hb.mono hbww.size)).trans (hb9.mono (hbww.trans (hb.mono hbww.size)).size)))
          rw [HN.out] at C7
          have hcd : cdF cs s czl.kids.len (keyF czl.kids) = zs.filter (fitB cs (kz cs (zs.getD m 0))) := by
            unfold cdF kz
            rw [hcs2, HZS.out, show zs.getD m 0 = (jz : Int) by simp [List.getD, hz], kdAt_of hcz]
          rw [hcd] at C7
          rw [hcs2] at C7 ez1
          have hq5 := HQ5.out.below hbw HQ5.out.lt
          have HSTA : Hid (∀ x, Below wr.heap.size wr x → x.cell? ⟨w4.heap.size, 0, none⟩ = some (.slice (some ⟨r, 0, none⟩) len len) ∧ x.cell? ⟨w4.heap.size, 1, none⟩ = some (.map (some M)) ∧ x.cell? ⟨w4.heap.size, 2, none⟩ = some (.map (some MF)) ∧ x.cell? ⟨r, jz * 3, none⟩ = some (.string s) ∧ x.cell? ⟨r, jz * 3 + 1, none⟩ = some (.slice Az an cpz)) := Lib.hid fun x hb => by
            have hqx := hq5.below hb hq5.lt
            have hbx := hbw3.trans (hb.mono hbw3.size)
            have hrl : r < W3.heap.size := by have := HR2.out; omega
            exact ⟨hqx.cell 0, hqx.cell 1, hqx.cell 2, (hbx.cell (p := ⟨r, _, none⟩) hrl).trans ez0, (hbx.cell (p := ⟨r, _, none⟩) hrl).trans ez1⟩
          have H7 := Lib.hid C7
          have HDL := Lib.hid hdl
          have HBW := Lib.hid hbw
          have hf20 : (zs.filter (fitB cs (kz cs (zs.getD m 0)))).length ≤ 20 := Nat.le_trans (List.length_filter_le _ _) (by rw [HZL.out]; exact hzl)
          obtain ⟨k0, k1, k2, k3, k4⟩ := HSTA.out wr (Below.refl _ _)
          have hgw : gv < wr.heap.size := by have := hbw.size; omega
          clear hzj hcz hcs1 hcs2 hdz ez0 ez1 hnoz hndz hnd5 hbw3 hbww he hrd hA2 hcell C7 hcd hq5 hz hdl hbw hh5 hsw3
          subst hAv
          go_wp2_with fail
          by_cases h1 : (zs.filter (fitB cs (kz cs (zs.getD m 0)))).length ≤ 1
          · have HDM : Hid (DetL cs zs (m + 1)) := Lib.hid fun j hj => by
              rcases Nat.lt_succ_iff_lt_or_eq.1 hj with h | rfl
              · exact HDL.out j h
              · exact h1
            generalize (zs.filter (fitB cs (kz cs (zs.getD m 0)))) = fz at *
            have t5 : ¬ (fz.length : Int) > 1 := by omega
            go_region_held3 (fun x => x.cell? ⟨w4.heap.size, 0, none⟩ = some (.slice (some ⟨r, 0, none⟩) len len) ∧ x.cell? ⟨w4.heap.size, 1, none⟩ = some (.map (some M)) ∧ x.cell? ⟨w4.heap.size, 2, none⟩ = some (.map (some MF)) ∧ x.cell? ⟨r, jz * 3, none⟩ = some (.string s) ∧ x.cell? ⟨r, jz * 3 + 1, none⟩ = some (.slice Az an cpz))
              (first | exact HST8.out | exact HSTA.out wr (Below.refl _ _))
              (first
                | (go_at_call 45
                   refine (H7.out _ (Below.refl _ wr).drew).mono ?_
                   rintro e w8 ⟨v8, rfl, hoi8, hb⟩
                   obtain ⟨A8, c8, rfl, _, _, _⟩ := hoi8.read
                   have hd8 : Below wr.heap.size wr w8 := (Below.refl wr.heap.size wr).drew.trans hb
                   have HST8 := Lib.hid (HSTA.out w8 hd8)
                   have HB8 := Lib.hid (HBW.out.trans (hd8.mono HBW.out.size))
                   clear hoi8 hb hd8))
            go_wp2_with fail
            go_roundw
            case rel => exact ⟨m + 1, by omega, by go_num, HDM.out, HB8.out⟩
            case measure => simp [intOf]; omega
          · have HVF : Hid (deA cs s (an : Int) = false) := Lib.hid (by
              rw [HV.out]
              refine @decide_eq_false _ (Classical.propDecidable _) fun hdt => ?_
              rw [det_iff] at hdt
              exact h1 (hdt m (by rw [HZL.out]; exact hml)))
            generalize (zs.filter (fitB cs (kz cs (zs.getD m 0)))) = fz at *
            have t5 : (fz.length : Int) > 1 := by omega
            go_region_held3 (fun x => x.cell? ⟨w4.heap.size, 0, none⟩ = some (.slice (some ⟨r, 0, none⟩) len len) ∧ x.cell? ⟨w4.heap.size, 1, none⟩ = some (.map (some M)) ∧ x.cell? ⟨w4.heap.size, 2, none⟩ = some (.map (some MF)) ∧ x.cell? ⟨r, jz * 3, none⟩ = some (.string s) ∧ x.cell? ⟨r, jz * 3 + 1, none⟩ = some (.slice Az an cpz))
              (first | exact HST8.out | exact HSTA.out wr (Below.refl _ _))
              (first
                | (go_at_call 45
                   refine (H7.out _ (Below.refl _ wr).drew).mono ?_
                   rintro e w8 ⟨v8, rfl, hoi8, hb⟩
                   obtain ⟨A8, c8, rfl, _, _, _⟩ := hoi8.read
                   have hd8 : Below wr.heap.size wr w8 := (Below.refl wr.heap.size wr).drew.trans hb
                   have HST8 := Lib.hid (HSTA.out w8 hd8)
                   have HB8 := Lib.hid (HBW.out.trans (hd8.mono HBW.out.size))
                   clear hoi8 hb hd8))
            go_wp2_with fail
            go_ret
            rw [HVF.out]; exact ⟨rfl, HB35.out.trans (HB8.out.mono HB35.out.size)⟩
        · obtain rfl : m = zl := by omega
          have HVT : Hid (deA cs s (an : Int) = true) := Lib.hid (by
            rw [HV.out]
            refine @decide_eq_true _ (Classical.propDecidable _) ?_
            rw [det_iff, HZL.out]
            exact hdl)
          have HBW := Lib.hid hbw
          clear hdl hbw
          go_wp2_with fail
          go_ret
          rw [HVT.out]; exact ⟨rfl, HB35.out.trans (HBW.out.mono HB35.out.size)⟩
    · have HV : Hid (deA cs s a = false) := Lib.hid (by
        rw [HE.out, hok]
        by_cases h0 : 0 ≤ a
        · rw [decide_eq_true h0, decide_eq_false (show ¬ a ≤ 4 from fun h => ha ⟨h0, h⟩)]; simp
        · rw [decide_eq_false h0]; simp)
      have hway : a < 0 ∨ (¬ a < 0 ∧ a > 4) := by omega
      clear hok hb hM1 hM2 hD hH hr1 hr2 hct ha
      rcases hway with t1 | ⟨t1, t2⟩
      all_goals
        go_wp2_with fail
        go_ret
        rw [HV.out]; exact ⟨rfl, HB2.out.alloc HB2.out.size _⟩
end Go.Proofs.YtlapdnllncoomaaDoor

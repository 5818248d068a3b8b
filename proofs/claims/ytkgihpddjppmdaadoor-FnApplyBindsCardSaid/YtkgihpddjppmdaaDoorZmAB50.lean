/- impl.alike, matcher.match, matchKids, impl.InstanceOf. Condition: the nodes lie in memory and are well-formed. -/
import Derived.Test.YtkgihpddjppmdaaDoorProg
import Derived.Test.YtkgihpddjppmdaaDoorZmAB44
import Derived.Test.YtkgihpddjppmdaaDoorZmAB49
import Derived.Maps.Own
import Derived.Maps.OwnOps
import Derived.Maps.OwnSet
namespace Go.Proofs.YtkgihpddjppmdaaDoor
open Go.RowKit Go.Maps

theorem mtV_len {st st' : St} {n : Int} {m : Nd} (h : mtV st n m = some st') : st'.length ≤ st.length + 1 := by
  unfold mtV at h
  split at h
  · split at h
    · injection h with h; subst h; omega
    · cases h
  · injection h with h; subst h; simp
theorem mtF_len (f : Fr) : ∀ (st st' : St) (g : Fr), mtF st f g = some st' → st'.length ≤ st.length + nodes f := by
  induction f with
  | nil =>
    intro st st' g h
    rw [mtF_nil] at h
    injection h with h; subst h; omega
  | cons k n s kids rest ihk ihr =>
    intro st st' g h
    cases g with
    | nil =>
      have h' : some st = some st' := h
      injection h' with h'; subst h'; omega
    | cons k' n' s' kids' rest' =>
      rw [mtF_cons] at h
      simp only [nodes]
      cases hm : mtT st k n s kids k' n' s' kids' with
      | none => rw [hm] at h; cases h
      | some st1 =>
        rw [hm] at h
        have h2 := ihr st1 st' rest' h
        have h1 : st1.length ≤ st.length + nodes kids + 1 := by
          unfold mtT at hm
          split at hm
          · have := mtV_len hm; omega
          · split at hm
            · have := ihk st st1 kids' hm; omega
            · cases hm
        omega
theorem mtT_len {st st' : St} {k n : Int} {s : ByteArray} {f : Fr} {k' n' : Int} {s' : ByteArray} {f' : Fr} (hm : mtT st k n s f k' n' s' f' = some st') : st'.length ≤ st.length + nodes f + 1 := by
  unfold mtT at hm
  split at hm
  · have := mtV_len hm; omega
  · split at hm
    · have := mtF_len f st st' f' hm; omega
    · cases hm

/-- What match leaves. -/
def MiRes (w : World) (lo hi mb : Nat) (r : Option St) (e : Ending) (w' : World) : Prop :=
  Wrote [mb] w w' ∧ ((∃ st', r = some st' ∧ e = .returned (.bool true) ∧ MpS w' lo hi mb st') ∨ (r = none ∧ e = .returned (.bool false)))
theorem MiRes.no {w w' : World} {lo hi mb : Nat} {r : Option St} (hw : Wrote [mb] w w') (hr : r = none) : MiRes w lo hi mb r (.returned (.bool false)) w' := ⟨hw, .inr ⟨hr, rfl⟩⟩
def MiT (s : ByteArray) (f : Fr) : Prop := ∀ (st : St) (s' : ByteArray) (f' : Fr) (k n k' n' : Int) (v v' : Value) (lo hi mb : Nat) (w : World), NdV w lo hi k n s f v → NdV w lo hi k' n' s' f' v' → hi ≤ w.heap.size → hi ≤ mb → shapeT k n s f 30 = true → shapeT k' n' s' f' 30 = true → MpS w lo hi mb st → st.length + nodes f ≤ 2097152 →
  Calls Tryd.prog 22 #[.map (some mb), v', v] w fun e w' => MiRes w lo hi mb (mtT st k n s f k' n' s' f') e w'
def MiS (s : ByteArray) (f : Fr) : Prop := ∀ (st : St) (s' : ByteArray) (f' : Fr) (A B : Option Addr) (cap cap' lo hi mb : Nat) (w : World), NdS w lo hi f A cap → NdS w lo hi f' B cap' → hi ≤ w.heap.size → hi ≤ mb → shapeF f 30 = true → shapeF f' 30 = true → MpS w lo hi mb st → st.length + nodes f ≤ 2097152 →
  Calls Tryd.prog 38 #[.map (some mb), .agg #[.string s', .slice B f'.len cap'], .agg #[.string s, .slice A f.len cap]] w fun e w' => MiRes w lo hi mb (if (s'.data.toList == s.data.toList && f'.len == f.len) = true then mtF st f f' else none) e w'

set_option maxRecDepth 100000 in
set_option maxHeartbeats 4000000 in
theorem miS_of (s : ByteArray) (f : Fr) (h : ∀ i k n s kids rest, f.drop i = .cons k n s kids rest → MiT s kids) : MiS s f := by
  intro st s' f' A B cap cap' lo hi mb w hk hk' hh hm hsf hsf' hK hlen
  have hAL := alike_any s' s B A f'.len f.len cap' cap ((w.alloc (.cells #[.string s', .slice B f'.len cap'] 84)).alloc (.cells #[.string s, .slice A f.len cap] 84))
  have HT : Hid (Below w.heap.size w ((w.alloc (.cells #[.string s', .slice B f'.len cap'] 84)).alloc (.cells #[.string s, .slice A f.len cap] 84))) := Lib.hid (two_alloc w _ _)
  have b0 : Blk ((w.alloc (.cells #[.string s', .slice B f'.len cap'] 84)).alloc (.cells #[.string s, .slice A f.len cap] 84)) w.heap.size 84 #[.string s', .slice B f'.len cap'] := (Blk.new w _ _).alloc _
  have b1 : Blk ((w.alloc (.cells #[.string s', .slice B f'.len cap'] 84)).alloc (.cells #[.string s, .slice A f.len cap] 84)) (w.heap.size + 1) 84 #[.string s, .slice A f.len cap] := by
    have h := Blk.new (w.alloc (.cells #[.string s', .slice B f'.len cap'] 84)) 84 #[.string s, .slice A f.len cap]
    simpa using h
  have HB := Lib.hid (And.intro b0 b1)
  have HAL := Lib.hid hAL
  have hmlt := hK.lt
  have HK := Lib.hid hk
  have HK' := Lib.hid hk'
  have HH := Lib.hid h
  have HS := Lib.hid hsf
  have HS' := Lib.hid hsf'
  have HKN := Lib.hid hK
  have HLN := Lib.hid hlen
  have hl := hk.1
  have hl' := hk'.1
  have hmx := hk.2.1
  have hmx' := hk'.2.1
  unfold maxLen at hmx hmx'
  have hq : (s'.data.toList == s.data.toList && f'.len == f.len) = true → f'.len = f.len := fun h => by
    rw [Bool.and_eq_true, beq_iff_eq, beq_iff_eq] at h
    exact h.2
  have HQ := Lib.hid hq
  generalize (s'.data.toList == s.data.toList && f'.len == f.len) = q at *
  generalize hr0 : (if q = true then mtF st f f' else none) = r
  have HR0 : Hid (q = false → r = none) := Lib.hid fun h => by rw [← hr0, h]; rfl
  have HV0 : Hid (q = true → mtF st f f' = r) := Lib.hid fun h => by rw [← hr0, if_pos h]
  clear hr0
  clear hk hk' h hsf hsf' hK hlen hAL b0 b1 hq
  generalize hn : f.len = len at *
  generalize hn' : f'.len = len' at *
  have HN := Lib.hid hn
  have HN' := Lib.hid hn'
  clear hn hn'
  go_enter Tryd.func38, Tryd.ntmps38
  go_wp2_with fail
  generalize ((w.alloc (.cells #[.string s', .slice B len' cap'] 84)).alloc (.cells #[.string s, .slice A len cap] 84)) = w1 at *
  refine HAL.out.mono ?_
  rintro e w2 ⟨rfl, hb⟩
  have hb2 := HT.out.trans (hb.mono HT.out.size)
  have q0 := HB.out.1.below hb HB.out.1.lt
  have q1 := HB.out.2.below hb HB.out.2.lt
  cases q
  · have HB2 := Lib.hid hb2
    clear hb hb2 q0 q1
    go_wp2_with fail
    go_ret
    exact .no (.of_below HB2.out _) (HR0.out (by first | rfl | trivial))
  · have hq2 := HQ.out (by first | rfl | trivial)
    have HB2 := Lib.hid hb2
    have x1 := q1.cell 1
    have y1 := q0.cell 1
    simp only [List.getElem?_toArray, List.getElem?_cons_zero, List.getElem?_cons_succ] at x1 y1
    have HQ0 := Lib.hid (And.intro q0 q1)
    have HKN2 := Lib.hid (HKN.out.below hb2 hh)
    have hs2 := hb2.size
    clear hb hb2 q0 q1
    have HV := Lib.hid (HV0.out (by first | rfl | trivial))
    subst hq2
    go_wp2_with fail
    go_loopw [15] (fun i wr => ∃ (j : Nat) (st' : St), j ≤ len' ∧ i = .int .i64 j ∧ mtF st' (f.drop j) (f'.drop j) = r ∧ shapeF (f.drop j) 30 = true ∧ shapeF (f'.drop j) 30 = true ∧ MpS wr lo hi mb st' ∧ st'.length + nodes (f.drop j) ≤ st.length + nodes f ∧ Wrote [mb] w2 wr) (fun i _ => len' - (intOf i).toNat)
    case atStart => exact ⟨0, st, Nat.zero_le _, rfl, HV.out, HS.out, HS'.out, HKN2.out, Nat.le_refl _, .refl _ _⟩
    case round =>
      obtain ⟨j, st', hj, rfl, hv, hsf, hsf', hK, hln, hb⟩ := hrel
      have x3 := (hb.blk HQ0.out.1 (by simp; omega)).cell 1
      have y3 := (hb.blk HQ0.out.2 (by simp; omega)).cell 1
      simp only [List.getElem?_toArray, List.getElem?_cons_zero, List.getElem?_cons_succ] at x3 y3
      by_cases hlt : j < len'
      · obtain ⟨kk, nn, sk, kids, hd⟩ := Fr.drop_cons j f (by rw [HN.out]; exact hlt)
        obtain ⟨kk', nn', sk', kids', hd'⟩ := Fr.drop_cons j f' (by rw [HN'.out]; exact hlt)
        obtain ⟨b, rfl, hlb, hbb, hrow⟩ := HK.out.2.2 (by rw [HN.out]; omega)
        obtain ⟨b', rfl, hlb', hbb', hrow'⟩ := HK'.out.2.2 (by rw [HN'.out]; omega)
        obtain ⟨vv, hcell, hnv⟩ := hrow.elem hd
        obtain ⟨vv', hcell', hnv'⟩ := hrow'.elem hd'
        rw [Nat.zero_add] at hcell hcell'
        rw [hd, hd', mtF_cons] at hv
        rw [hd, shapeF_cons, Bool.and_eq_true] at hsf
        rw [hd', shapeF_cons, Bool.and_eq_true] at hsf'
        have e1 : nodes (f.drop j) = 1 + nodes kids + nodes (f.drop (j + 1)) := by rw [hd]; rfl
        have hkeep : ∀ p : Addr, p.block < hi → wr.cell? p = w.cell? p := fun p hp => (hb.cell (by omega) (by simp; omega)).trans (HB2.out.cell (by omega))
        have k0 := (hkeep ⟨b, j, none⟩ hbb).trans hcell
        have j0 := (hkeep ⟨b', j, none⟩ hbb').trans hcell'
        have hsr := hb.size
        have C1 := fun w1 (hb1 : Below wr.heap.size wr w1) =>
          HH.out _ _ _ _ _ _ hd st' sk' kids' kk nn kk' nn' vv vv' lo hi mb w1 (hnv.keep (fun p _ hp => (hb1.cell (by omega)).trans (hkeep p hp)) (Nat.le_refl _) (Nat.le_refl _)) (hnv'.keep (fun p _ hp => (hb1.cell (by omega)).trans (hkeep p hp)) (Nat.le_refl _) (Nat.le_refl _)) (by have := hb1.size; omega) hm hsf.1 hsf'.1 (hK.below hb1 (by omega)) (by have := HLN.out; omega)
        have HL2 : Hid (∀ st2, mtT st' kk nn sk kids kk' nn' sk' kids' = some st2 → st2.length + nodes (f.drop (j + 1)) ≤ st.length + nodes f) := Lib.hid fun st2 h => by have := mtT_len h; omega
        generalize mtT st' kk nn sk kids kk' nn' sk' kids' = t at *
        obtain ⟨T1, z1, rfl⟩ := hnv.iface
        obtain ⟨T2, z2, rfl⟩ := hnv'.iface
        have H1 := Lib.hid C1
        have HB3 := Lib.hid hb
        have HE := Lib.hid hv
        have HSA := Lib.hid (And.intro hsf.2 hsf'.2)
        clear C1 hb hv hcell hcell' hnv hnv' hrow hrow' hd hd' hsf hsf' hkeep hK hln e1 x1 y1
        go_wp2_with fail
        go_still_tail 11, (by kernel_rfl)
        change wpList _ _ _ _ _ wr.drew
        have hbd : Below wr.heap.size wr wr.drew := (Below.refl _ _).drew
        generalize wr.drew = wd at hbd ⊢
        have HD := Lib.hid hbd
        clear hbd k0 j0 x3 y3
        go_wp2_with fail
        refine (H1.out _ HD.out).mono ?_
        rintro e w3 ⟨hw3, hr⟩
        have HW3 : Hid (Wrote [mb] w2 w3) := Lib.hid (HB3.out.trans ((Wrote.of_below HD.out [mb]).trans hw3))
        rcases hr with ⟨st2, rfl, rfl, hK3⟩ | ⟨rfl, rfl⟩
        · have HKN3 := Lib.hid hK3
          clear hw3 hK3
          go_wp2_with fail
          go_roundw
          case rel => exact ⟨j + 1, st2, by omega, by go_num, HE.out, HSA.out.1, HSA.out.2, HKN3.out, HL2.out st2 rfl, HW3.out⟩
          case measure => simp [intOf]; omega
        · have HF : Hid (r = none) := Lib.hid HE.out.symm
          clear hw3
          go_wp2_with fail
          go_ret
          exact .no ((Wrote.of_below HB2.out [mb]).trans HW3.out) HF.out
      · obtain rfl : j = len' := by omega
        have HE : Hid (r = some st') := Lib.hid (by
          have h1 := Fr.drop_len f
          rw [HN.out] at h1
          rw [← hv, h1, mtF_nil])
        have HB3 := Lib.hid hb
        have HKN3 := Lib.hid hK
        clear hb hv hsf hsf' hK x1 y1
        go_wp2_with fail
        go_ret
        exact ⟨(Wrote.of_below HB2.out [mb]).trans HB3.out, .inl ⟨st', HE.out, rfl, HKN3.out⟩⟩

set_option maxRecDepth 100000 in
set_option maxHeartbeats 4000000 in
theorem miT_of (s : ByteArray) (f : Fr) (h : MiS s f) : MiT s f := by
  intro st s' f' k n k' n' v v' lo hi mb w hv hv' hh hm hs hs' hK hlen
  have hmlt := hK.lt
  rcases hv with ⟨rfl, rfl⟩ | ⟨rfl, rfl⟩ | ⟨rfl, A, cap, rfl, hk⟩
  · obtain ⟨rfl, rfl, hn⟩ := shapeT_leaf hs (by omega)
    have hmt : mtT st 1 n ⟨#[]⟩ .nil k' n' s' f' = mtV st n ⟨k', n', s', f'⟩ := by unfold mtT; rw [if_pos rfl]
    rw [hmt]
    clear hmt
    have HKN := Lib.hid hK
    obtain ⟨D, hD, hI, hH, hX⟩ := hK
    have hkey : keyOf Tryd.prog 48 (.int .i64 n) = some (.int .i64 n) := keyOf_int_mk Tryd.underlying48 (WalkArith.wf_i64 (by omega))
    have hhn := hH n
    have HD := Lib.hid hD
    cases hlk : lkS st n with
    | none =>
      have HV : Hid (mtV st n ⟨k', n', s', f'⟩ = some ((n, ⟨k', n', s', f'⟩) :: st)) := Lib.hid (by unfold mtV; rw [hlk])
      rw [hlk] at hhn
      have HHN : Hid (has D (.int .i64 n) = false) := Lib.hid hhn
      obtain ⟨T2, z2, rfl⟩ := hv'.iface
      have PUT := fun w1 h4 h5 => MpS.put (w := w) (w1 := w1) (lo := lo) (hi := hi) (mb := mb) (st := st) (D := D) (n := n) (m := ⟨k', n', s', f'⟩) (v := .iface T2 z2) hI hH hX hm hh h4 h5 hs' hv'
      have HP := Lib.hid PUT
      have hlen2 : st.length ≤ 2097152 := by omega
      clear hv' hD hI hH hX hhn hlk PUT h hs hs'
      go_enter Tryd.func22, Tryd.ntmps22
      go_wp2_with (first
        | (at_lookup; refine wpList_lookup_own_ok _ rfl _ _ 62 rfl 48 44 lawN Tryd.underlying62 heldR (zeroN _) (.held .nilIface) [] rfl mb st.length D rfl HD.out _ _ rfl hkey ?_; intro v ps hv; rw [HHN.out]; clear hv)
        | (at_mapUpdate; refine wpList_mapUpdate_own _ rfl _ _ _ 62 rfl 48 44 lawN Tryd.underlying62 heldR mb st.length D rfl HD.out (by unfold maxLen; omega) _ _ _ rfl rfl hkey (.held (.iface T2 z2)) [] rfl ?_; intro w1 hown1 hgrow1; have HO1 := Lib.hid hown1; have HG1 := Lib.hid hgrow1; clear hown1 hgrow1))
      go_ret
      rw [HV.out]
      exact ⟨⟨HG1.out.os, HG1.out.tape, HG1.out.output, HG1.out.size, fun x hx hn => HG1.out.block x hx fun e => hn (by simpa using e)⟩, .inl ⟨_, rfl, rfl, HP.out w1 HO1.out HG1.out⟩⟩
    | some o =>
      have HV : Hid (mtV st n ⟨k', n', s', f'⟩ = if eqT o.k o.n o.s o.f k' n' s' f' = true then some st else none) := Lib.hid (by unfold mtV; rw [hlk])
      rw [hlk] at hhn
      have HHN : Hid (has D (.int .i64 n) = true) := Lib.hid hhn
      obtain ⟨hso, u, hat, hu⟩ := hX n o hlk
      have HAT := Lib.hid hat
      have C1 := sameNode_any o.k o.n o.s o.f k' n' s' f' 30 u v' lo hi lo hi w hso hs' hu hv' hh hh
      obtain ⟨T2, z2, rfl⟩ := hv'.iface
      obtain ⟨T3, z3, rfl⟩ := hu.iface
      generalize eqT o.k o.n o.s o.f k' n' s' f' = t at *
      have H1 := Lib.hid C1
      clear hv' hD hI hH hX hhn hlk hat hu C1 h hs hs' hso
      go_enter Tryd.func22, Tryd.ntmps22
      go_wp2_with (at_lookup; refine wpList_lookup_own_ok _ rfl _ _ 62 rfl 48 44 lawN Tryd.underlying62 heldR (zeroN _) (.held .nilIface) [] rfl mb st.length D rfl HD.out _ _ rfl hkey ?_; intro v ps hv; rw [HHN.out]; have hv2 := heldR_inv hv HAT.out; subst hv2; clear hv)
      go_wp2_with fail
      refine H1.out.mono ?_
      rintro e w2 ⟨rfl, hb⟩
      have HB := Lib.hid hb
      clear hb
      go_wp2_with fail
      go_ret
      rw [HV.out]
      cases t
      · exact .no (.of_below HB.out _) rfl
      · exact ⟨.of_below HB.out _, .inl ⟨st, rfl, rfl, HKN.out.below HB.out hh⟩⟩
  · obtain ⟨rfl, rfl, hn⟩ := shapeT_leaf hs (by omega)
    have hmt : mtT st 2 n ⟨#[]⟩ .nil k' n' s' f' = if eqT k' n' s' f' 2 n ⟨#[]⟩ .nil = true then some st else none := by
      have e : hdB 2 n ⟨#[]⟩ Fr.nil.len k' n' s' f'.len = eqT k' n' s' f' 2 n ⟨#[]⟩ .nil := by
        rw [Bool.eq_iff_iff]
        unfold hdB eqT
        simp only [Bool.and_eq_true, beq_iff_eq]
        constructor
        · rintro ⟨a, b, c, d⟩
          refine ⟨a.symm, b.symm, c.symm, ?_⟩
          cases f' with
          | nil => rfl
          | cons _ _ _ _ _ => simp [Fr.len] at d
        · rintro ⟨a, b, c, d⟩
          exact ⟨a.symm, b.symm, c.symm, (eqF_len _ _ d).symm⟩
      unfold mtT
      rw [if_neg (by omega), e, mtF_nil]
    have C1 := sameNode_any k' n' s' f' 2 n ⟨#[]⟩ .nil 30 v' _ lo hi lo hi w hs' hs hv' (.inr (.inl ⟨rfl, rfl⟩)) hh hh
    have HKN := Lib.hid hK
    have HV := Lib.hid hmt
    generalize eqT k' n' s' f' 2 n ⟨#[]⟩ .nil = t at *
    obtain ⟨T2, z2, rfl⟩ := hv'.iface
    have H1 := Lib.hid C1
    clear hv' C1 h hs hs' hK hmt
    go_enter Tryd.func22, Tryd.ntmps22
    go_wp2_with fail
    refine H1.out.mono ?_
    rintro e w2 ⟨rfl, hb⟩
    have HB := Lib.hid hb
    clear hb
    go_wp2_with fail
    go_ret
    rw [HV.out]
    cases t
    · exact .no (.of_below HB.out _) rfl
    · exact ⟨.of_below HB.out _, .inl ⟨st, rfl, rfl, HKN.out.below HB.out hh⟩⟩
  · obtain ⟨rfl, hname, hlenf, hsf⟩ := shapeT_struct hs
    have hmt : k' ≠ 3 → mtT st 3 0 s f k' n' s' f' = none := fun hk3 => by
      unfold mtT
      rw [if_neg (by omega), if_neg]
      intro e
      simp only [hdB, Bool.and_eq_true, beq_iff_eq] at e
      exact hk3 e.1.symm
    have HMT := Lib.hid hmt
    clear hmt
    rcases hv' with ⟨rfl, rfl⟩ | ⟨rfl, rfl⟩ | ⟨rfl, B, cap', rfl, hk'⟩
    · have HT := Lib.hid (two_alloc w (.cells #[.string s, .slice A f.len cap] 84) (.cells #[.string ⟨#[]⟩, .slice none 0 0] 84))
      clear h hs hs' hK hk hsf hname
      go_enter Tryd.func22, Tryd.ntmps22
      go_wp2_with fail
      go_ret
      exact .no (.of_below HT.out _) (HMT.out (by omega))
    · have HT := Lib.hid (two_alloc w (.cells #[.string s, .slice A f.len cap] 84) (.cells #[.string ⟨#[]⟩, .slice none 0 0] 84))
      clear h hs hs' hK hk hsf hname
      go_enter Tryd.func22, Tryd.ntmps22
      go_wp2_with fail
      go_ret
      exact .no (.of_below HT.out _) (HMT.out (by omega))
    · obtain ⟨rfl, hname', hlenf', hsf'⟩ := shapeT_struct hs'
      have HV : Hid (mtT st 3 0 s f 3 0 s' f' = if (s'.data.toList == s.data.toList && f'.len == f.len) = true then mtF st f f' else none) := Lib.hid (by
        unfold mtT
        rw [if_neg (by omega)]
        have e : hdB 3 0 s f.len 3 0 s' f'.len = (s'.data.toList == s.data.toList && f'.len == f.len) := by
          rw [Bool.eq_iff_iff]
          simp only [hdB, Bool.and_eq_true, beq_iff_eq]
          exact ⟨fun ⟨_, _, a, b⟩ => ⟨a.symm, b.symm⟩, fun ⟨a, b⟩ => ⟨trivial, trivial, a.symm, b.symm⟩⟩
        rw [e])
      have HT := Lib.hid (two_alloc w (.cells #[.string s, .slice A f.len cap] 84) (.cells #[.string s', .slice B f'.len cap'] 84))
      have C1 := fun w1 (hb : Below w.heap.size w w1) => h st s' f' A B cap cap' lo hi mb w1 (hk.keep (fun p _ hp => hb.cell (by omega)) (Nat.le_refl _) (Nat.le_refl _)) (hk'.keep (fun p _ hp => hb.cell (by omega)) (Nat.le_refl _) (Nat.le_refl _)) (Nat.le_trans hh hb.size) hm (shapeF_mono f 29 30 (by omega) hsf) (shapeF_mono f' 29 30 (by omega) hsf') (hK.below hb hh) hlen
      have H1 := Lib.hid C1
      clear h hs hs' hK hk hk' hsf hsf' hname hname' C1
      rw [HV.out]
      generalize (if (s'.data.toList == s.data.toList && f'.len == f.len) = true then mtF st f f' else none) = r at *
      go_enter Tryd.func22, Tryd.ntmps22
      go_wp2_with fail
      refine (H1.out _ HT.out).mono ?_
      rintro e w2 ⟨hw, hr⟩
      have HW := Lib.hid ((Wrote.of_below HT.out [mb]).trans hw)
      rcases hr with ⟨st', rfl, rfl, hK2⟩ | ⟨rfl, rfl⟩
      · have HK2 := Lib.hid hK2
        clear hw hK2
        go_wp2_with fail
        go_ret
        exact ⟨HW.out, .inl ⟨st', rfl, rfl, HK2.out⟩⟩
      · clear hw
        go_wp2_with fail
        go_ret
        exact .no HW.out rfl
theorem mi_all (N : Nat) : ∀ (s : ByteArray) (f : Fr), f.size ≤ N → MiT s f := by
  induction N with
  | zero =>
    intro s f hf
    refine miT_of s f (miS_of s f fun i k n s kids rest hd => ?_)
    have h1 := Fr.size_drop i f
    rw [hd] at h1
    simp only [Fr.size] at h1
    omega
  | succ N ih =>
    intro s f hf
    refine miT_of s f (miS_of s f fun i k n s kids rest hd => ih s kids ?_)
    have h1 := Fr.size_drop i f
    rw [hd] at h1
    simp only [Fr.size] at h1
    omega

set_option maxRecDepth 100000 in
set_option maxHeartbeats 4000000 in
/-- impl.InstanceOf. -/
theorem implIns_any (k n : Int) (s : ByteArray) (f : Fr) (k' n' : Int) (s' : ByteArray) (g : Fr) (A B : Option Addr) (cap cap' lo hi lo' hi' : Nat) (w : World)
    (hk : KidsAt w lo hi f A cap) (hk' : KidsAt w lo' hi' g B cap') (hh : hi ≤ w.heap.size) (hh' : hi' ≤ w.heap.size) (hf : Fits k n s) (hf' : Fits k' n' s') (hnd : nodes f ≤ 1048576) (hnd' : nodes g ≤ 1048576) (ht : nv.Tab w) :
    Calls Tryd.prog 8 #[.agg #[.int .i64 k, .int .i64 n, .string s, .slice A f.len cap], .agg #[.int .i64 k', .int .i64 n', .string s', .slice B g.len cap']] w fun e w' => e = .returned (.bool (inB k n s f k' n' s' g)) ∧ Below w.heap.size w w' := by
  have hlt := tab_lt ht
  have C1 := fun w1 (hb : Below w.heap.size w w1) => both_any k n s f k' n' s' g A B cap cap' lo hi lo' hi' w1 (hk.below hb hh) (hk'.below hb hh') (Nat.le_trans hh hb.size) (Nat.le_trans hh' hb.size) hf hf' hnd hnd' (tab_below ht hb hlt)
  have HV : Hid (inB k n s f k' n' s' g = (validT k n s f && (validT k' n' s' g && (mtT [] k' n' s' g k n s f).isSome))) := Lib.hid rfl
  have HT := Lib.hid (two_alloc w (.cells #[.int .i64 k, .int .i64 n, .string s, .slice A f.len cap] 25) (.cells #[.int .i64 k', .int .i64 n', .string s', .slice B g.len cap'] 25))
  generalize inB k n s f k' n' s' g = r at *
  have HND' := Lib.hid hnd'
  have H1 := Lib.hid C1
  clear C1 hk hk' hh hh' hf hf' hnd hnd' ht
  have hmm := @run_makeMap Tryd.prog
  go_enter Tryd.func8, Tryd.ntmps8
  go_wp2_with fail
  refine (H1.out _ HT.out).mono ?_
  rintro e w3 ⟨hb, hr⟩
  have hbw : Below w.heap.size w w3 := HT.out.trans (hb.mono HT.out.size)
  rcases hr with ⟨⟨hok, hok'⟩, v, v', rfl, hv, hv'⟩ | ⟨hok, rfl⟩
  · have HE : Hid (r = (mtT [] k' n' s' g k n s f).isSome) := Lib.hid (by rw [HV.out, hok, hok']; rfl)
    have hba : Below w3.heap.size w3 (w3.alloc (.map #[] 0)) := (Below.refl _ _).alloc (Nat.le_refl _) _
    have hMp : MpS (w3.alloc (.map #[] 0)) 0 w3.heap.size w3.heap.size [] := ⟨.map [], World.ownsMap_made w3 _ _ _, isMap_empty, fun _ => rfl, fun n m hm => by cases hm⟩
    have C2 := mi_all _ s' g (Nat.le_refl _) [] s f k' n' k n v' v 0 w3.heap.size w3.heap.size (w3.alloc (.map #[] 0)) (hv'.keep (fun p _ hp => hba.cell hp) (Nat.zero_le _) (Nat.le_refl _)) (hv.keep (fun p _ hp => hba.cell hp) (Nat.zero_le _) (Nat.le_refl _)) hba.size (Nat.le_refl _) (validT_shape hok') (validT_shape hok) hMp (by have := HND'.out; simp; omega)
    obtain ⟨T1, x1, rfl⟩ := hv.iface
    obtain ⟨T2, x2, rfl⟩ := hv'.iface
    generalize mtT [] k' n' s' g k n s f = t at *
    have H2 := Lib.hid C2
    have HB3 := Lib.hid (hbw.trans (hba.mono hbw.size))
    have hs3 := hbw.size
    clear hb hbw hok hok' hv hv' C2 hba hMp
    go_wp2_with fail
    refine H2.out.mono ?_
    rintro e w4 ⟨hw, hr⟩
    have HB4 := Lib.hid (HB3.out.trans (hw.below HB3.out.size fun x hx => by simp at hx; omega))
    rcases hr with ⟨st', rfl, rfl, _⟩ | ⟨rfl, rfl⟩
    · clear hw
      go_wp2_with fail
      go_ret
      rw [HE.out]; exact ⟨rfl, HB4.out⟩
    · clear hw
      go_wp2_with fail
      go_ret
      rw [HE.out]; exact ⟨rfl, HB4.out⟩
  · have HE : Hid (r = false) := Lib.hid (by
      rw [HV.out]
      cases h1 : validT k n s f
      · rfl
      · cases h2 : validT k' n' s' g
        · rfl
        · exact absurd ⟨h1, h2⟩ hok)
    have HB := Lib.hid hbw
    clear hb hbw hok
    go_wp2_with fail
    go_ret
    rw [HE.out]; exact ⟨rfl, HB.out⟩
end Go.Proofs.YtkgihpddjppmdaaDoor
